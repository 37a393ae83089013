/-
  A slice of deeds among the arguments of a law: how they lie in memory, what their reading says.
-/
import Derived.Test.YtihbcgdbennegaaIdOpen
import Derived.Test.YtihbcgdbennegaaDeedOpen
import Derived.Deep.Slices
namespace Go.Proofs.Ytihbcgdbennegaa
open Go.ChangeShapes Go.WideShapes Go.ChangeAt Go.RowKit Go.Joins Go.Deep

/-- A slice of deeds. -/
structure DeedH where
  ia : Option Addr
  ic : Nat
  d : DeedD
instance : Inhabited DeedH := ⟨⟨none, 0, ⟨[], 0, 0, 0⟩⟩⟩
def DeedHCells (w : World) (b o : Nat) (q : DeedH) : Prop :=
  w.cell? ⟨b, o, none⟩ = some (.slice q.ia q.d.ins.length q.ic) ∧ w.cell? ⟨b, o + 1, none⟩ = some (.int .i64 q.d.outs) ∧ w.cell? ⟨b, o + 2, none⟩ = some (.int .i64 q.d.weight) ∧ w.cell? ⟨b, o + 3, none⟩ = some (.int .i64 q.d.fee)
def DeedsAt (w : World) (a : Option Addr) (l : List DeedH) : Prop := ∀ i (h : i < l.length), (∃ b o, a = some ⟨b, o, none⟩ ∧ b < w.heap.size ∧ DeedHCells w b (o + i * 4) l[i]) ∧ InsAt w l[i].ia l[i].d.ins ∧ l[i].d.ins.length ≤ l[i].ic
set_option maxRecDepth 100000 in
/-- A slice of deeds. -/
theorem open_deeds_sized {H : Type} {enc : TypeId × Value → H} {w : World} {r : Reach} {b0 : Nat} {v : Value} {d : DataW H} {p : List MemPlace} (hv : Value.okWide Try.prog w r b0 22 v) (h : DataW.Trod enc Try.prog w 0 (fun _ => true) true 22 v d p) :
    ∃ (a : Option Addr) (cap : Nat) (l : List DeedH), v = .slice a l.length cap ∧ l.length ≤ cap ∧ l.length ≤ maxLen ∧ DeedsAt w a l ∧ (l = [] ∨ ∃ elems spare, d = .slice elems spare ∧ elems.length = l.length) := by
  obtain ⟨xa, xl, xc, rfl⟩ := okWide_slice Try.underlying22 hv
  obtain ⟨n, hf⟩ := h
  rcases open_slice Try.underlying22 hf with ⟨hc, _⟩ | ⟨a, len, cap, m, k, D, Pl, hcs, hb, hl, hm, hmm, hy, hx⟩
  · simp only [Value.cells, List.cons.injEq, and_true] at hc
    exact ⟨none, 0, [], hc, Nat.le_refl _, Nat.zero_le _, fun i hi => absurd hi (by simp), .inl rfl⟩
  · simp only [Value.cells, List.cons.injEq, and_true] at hcs
    simp only [if_true] at hmm
    subst hmm
    have ce : Try.prog.cellsOf 30 = 4 := by kernel_rfl
    have each : ∀ i, i < m → ∃ q : DeedH, (InsAt w q.ia q.d.ins ∧ q.d.ins.length ≤ q.ic) ∧ w.cell? (a.add (i * 4)) = some (.slice q.ia q.d.ins.length q.ic) ∧ w.cell? (a.add (i * 4 + 1)) = some (.int .i64 q.d.outs) ∧ w.cell? (a.add (i * 4 + 2)) = some (.int .i64 q.d.weight) ∧ w.cell? (a.add (i * 4 + 3)) = some (.int .i64 q.d.fee) := by
      intro i hi
      obtain ⟨cs', h1, h2⟩ := hx i hi
      rw [ce] at h1
      obtain ⟨_, hlen, hcell⟩ := World.cells?_some h1
      obtain ⟨ys, k5, _, _, _, hyl, hy⟩ := DataW.trod_struct Try.underlying30 h2
      have ci : Try.prog.cellsOf 3 = 1 := by kernel_rfl
      have cs : Try.prog.cellsOf 28 = 1 := by kernel_rfl
      match cs', hlen with
      | [v5, v6, v7, v8], _ =>
        have p0 : DataW.trod enc Try.prog w 0 (fun _ => true) true k5 28 ([v5, v6, v7, v8].take (Try.prog.cellsOf 28)) = ys[0]? := hy 0 _ rfl
        have p1 : DataW.trod enc Try.prog w 0 (fun _ => true) true k5 3 ([v6, v7, v8].take (Try.prog.cellsOf 3)) = ys[1]? := hy 1 _ rfl
        have p2 : DataW.trod enc Try.prog w 0 (fun _ => true) true k5 3 ([v7, v8].take (Try.prog.cellsOf 3)) = ys[2]? := hy 2 _ rfl
        have p3 : DataW.trod enc Try.prog w 0 (fun _ => true) true k5 3 ([v8].take (Try.prog.cellsOf 3)) = ys[3]? := hy 3 _ rfl
        rw [cs, List.take_succ_cons, List.take_zero, List.getElem?_eq_getElem (by rw [hyl]; decide)] at p0
        rw [ci, List.take_succ_cons, List.take_zero, List.getElem?_eq_getElem (by rw [hyl]; decide)] at p1 p2 p3
        obtain ⟨sa, sc, sl, e5, hcap, _, hins⟩ := open_ins p0
        obtain ⟨u6, e6, _, _⟩ := DataW.trod_int Try.underlying3 p1
        obtain ⟨u7, e7, _, _⟩ := DataW.trod_int Try.underlying3 p2
        obtain ⟨u8, e8, _, _⟩ := DataW.trod_int Try.underlying3 p3
        simp only [List.cons.injEq, and_true] at e6 e7 e8
        subst e5 e6 e7 e8
        have hc : ∀ j, j < 4 → w.cell? (a.add (i * 4 + j)) = [Value.slice sa sl.length sc, Value.int .i64 u6, Value.int .i64 u7, Value.int .i64 u8][j]? := fun j hj => by
          have := hcell j hj
          rw [add_add] at this
          exact this
        exact ⟨⟨sa, sc, ⟨sl, u6, u7, u8⟩⟩, ⟨hins, hcap⟩, hc 0 (by omega), hc 1 (by omega), hc 2 (by omega), hc 3 (by omega)⟩
    obtain ⟨f, hf⟩ := choose_lt each
    refine ⟨some a, m, (List.range len).map f, by simp [hcs], by simpa using hl, by simp; omega, fun i hi => ?_, .inr ⟨_, _, (Prod.mk.inj hy).1, by simp⟩⟩
    have hi' : i < len := by simpa using hi
    have g := hf i (by omega)
    obtain ⟨hs, hb⟩ := cell_spot (hf 0 (by omega)).2.1
    have hs : a.spot = none := by simpa [Addr.add] using hs
    have hb : a.block < w.heap.size := by simpa [Addr.add] using hb
    obtain ⟨b, o, sp⟩ := a
    simp only at hs hb
    subst hs
    have e : ∀ k, (⟨b, o, none⟩ : Addr).add k = ⟨b, o + k, none⟩ := fun k => by unfold Addr.add; split <;> simp_all
    simp only [e, ← Nat.add_assoc] at g
    refine ⟨⟨b, o, rfl, hb, ?_⟩, ?_⟩
    · unfold DeedHCells
      simp only [List.getElem_map, List.getElem_range]
      exact g.2
    · simp only [List.getElem_map, List.getElem_range]
      exact g.1
/-- A slice of deeds. -/
theorem open_deeds_arg {H : Type} {enc : TypeId × Value → H} {w : World} {r : Reach} {b0 : Nat} {v : Value} {d : DataW H} {p : List MemPlace} (hv : Value.okWide Try.prog w r b0 22 v) (h : DataW.Trod enc Try.prog w 0 (fun _ => true) true 22 v d p) :
    ∃ (a : Option Addr) (cap : Nat) (l : List DeedH), v = .slice a l.length cap ∧ l.length ≤ cap ∧ l.length ≤ maxLen ∧ DeedsAt w a l := by
  obtain ⟨a, cap, l, h1, h2, h3, h4, _⟩ := open_deeds_sized hv h
  exact ⟨a, cap, l, h1, h2, h3, h4⟩
/-- A slice of deeds as the first argument: its length, by the form's own reach. -/
theorem open_deeds_room {H : Type} {enc : TypeId × Value → H} {w : World} {r : Reach} {b0 : Nat} {v : Value} {d : DataW H} {p : List MemPlace} {ts : List TypeId} {ds : List (DataW H)} (hv : Value.okWide Try.prog w r b0 22 v) (h : DataW.Trod enc Try.prog w 0 (fun _ => true) true 22 v d p)
    (hsz : (DataW.weightsEach Try.prog (22 :: ts) (d :: ds)).all (· ≤ reachBytes) = true) :
    ∃ (a : Option Addr) (cap : Nat) (l : List DeedH), v = .slice a l.length cap ∧ l.length ≤ cap ∧ l.length ≤ 2932031007402 ∧ DeedsAt w a l := by
  obtain ⟨a, cap, l, h1, h2, h3, h4, h5⟩ := open_deeds_sized hv h
  refine ⟨a, cap, l, h1, h2, ?_, h4⟩
  rcases h5 with rfl | ⟨elems, spare, rfl, he⟩
  · simp
  · have hb : Try.prog.bytesOf 30 = 48 := by kernel_rfl
    have hw : (elems.length + spare.length) * 48 ≤ reachBytes := of_decide_eq_true (List.all_eq_true.1 hsz _ (by
      unfold DataW.weightsEach DataW.weights
      rw [Try.underlying22]
      simp only [hb]
      simp))
    unfold reachBytes at hw
    omega
end Go.Proofs.Ytihbcgdbennegaa
