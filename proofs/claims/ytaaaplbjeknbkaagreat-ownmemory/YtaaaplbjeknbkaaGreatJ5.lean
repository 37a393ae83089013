/-
  A slice of deeds among the arguments of a law: how they lie in memory, what their reading says.
  The contract of the reference's Eq of IDs.
-/
import Derived.Test.YtaaaplbjeknbkaaGreatJ4
import Derived.Deep.Slices
import Derived.Test.YtaaaplbjeknbkaaGreatJ2
set_option maxRecDepth 20000
namespace Go.Proofs.YtaaaplbjeknbkaaGreat
open Go.ChangeShapes Go.WideShapes Go.ChangeAt Go.RowKit Go.Joins Go.Deep

/-- A slice of deeds. -/
structure DeedH where
  ia : Option Addr
  ic : Nat
  d : DeedD
instance : Inhabited DeedH := ⟨⟨none, 0, ⟨[], 0, 0, 0⟩⟩⟩
def DeedHCells (w : World) (b o : Nat) (q : DeedH) : Prop :=
  w.cell? ⟨b, o, none⟩ = some (.slice q.ia q.d.ins.length q.ic) ∧ w.cell? ⟨b, o + 1, none⟩ = some (.int .i64 q.d.outs) ∧ w.cell? ⟨b, o + 2, none⟩ = some (.int .i64 q.d.weight) ∧ w.cell? ⟨b, o + 3, none⟩ = some (.int .i64 q.d.fee)
def DeedsAt (w : World) (a : Option Addr) (l : List DeedH) : Prop := ∀ i (h : i < l.length), (∃ b o, a = some ⟨b, o, none⟩ ∧ b < w.heap.size ∧ DeedHCells w b (o + i * 4) l[i]) ∧ InsAt w l[i].ia l[i].d.ins ∧ l[i].d.ins.length ≤ l[i].ic
set_option maxRecDepth 100000 in
/-- A slice of deeds. -/
theorem open_deeds_sized {H : Type} {enc : TypeId × Value → H} {w : World} {r : Reach} {b0 : Nat} {v : Value} {d : DataW H} {p : List MemPlace} (hv : Value.okWide Tryz.prog w r b0 80 v) (h : DataW.Trod enc Tryz.prog w 0 (fun _ => true) true 80 v d p) :
    ∃ (a : Option Addr) (cap : Nat) (l : List DeedH), v = .slice a l.length cap ∧ l.length ≤ cap ∧ l.length ≤ maxLen ∧ DeedsAt w a l ∧ (l = [] ∨ ∃ elems spare, d = .slice elems spare ∧ elems.length = l.length) := by
  obtain ⟨xa, xl, xc, rfl⟩ := okWide_slice Tryz.underlying80 hv
  obtain ⟨n, hf⟩ := h
  rcases open_slice Tryz.underlying80 hf with ⟨hc, _⟩ | ⟨a, len, cap, m, k, D, Pl, hcs, hb, hl, hm, hmm, hy, hx⟩
  · simp only [Value.cells, List.cons.injEq, and_true] at hc
    exact ⟨none, 0, [], hc, Nat.le_refl _, Nat.zero_le _, fun i hi => absurd hi (by simp), .inl rfl⟩
  · simp only [Value.cells, List.cons.injEq, and_true] at hcs
    simp only [if_true] at hmm
    subst hmm
    have ce : Tryz.prog.cellsOf 50 = 4 := by kernel_rfl
    have each : ∀ i, i < m → ∃ q : DeedH, (InsAt w q.ia q.d.ins ∧ q.d.ins.length ≤ q.ic) ∧ w.cell? (a.add (i * 4)) = some (.slice q.ia q.d.ins.length q.ic) ∧ w.cell? (a.add (i * 4 + 1)) = some (.int .i64 q.d.outs) ∧ w.cell? (a.add (i * 4 + 2)) = some (.int .i64 q.d.weight) ∧ w.cell? (a.add (i * 4 + 3)) = some (.int .i64 q.d.fee) := by
      intro i hi
      obtain ⟨cs', h1, h2⟩ := hx i hi
      rw [ce] at h1
      obtain ⟨_, hlen, hcell⟩ := World.cells?_some h1
      obtain ⟨ys, k5, _, _, _, hyl, hy⟩ := DataW.trod_struct Tryz.underlying50 h2
      have ci : Tryz.prog.cellsOf 3 = 1 := by kernel_rfl
      have cs : Tryz.prog.cellsOf 48 = 1 := by kernel_rfl
      match cs', hlen with
      | [v5, v6, v7, v8], _ =>
        have p0 : DataW.trod enc Tryz.prog w 0 (fun _ => true) true k5 48 ([v5, v6, v7, v8].take (Tryz.prog.cellsOf 48)) = ys[0]? := hy 0 _ rfl
        have p1 : DataW.trod enc Tryz.prog w 0 (fun _ => true) true k5 3 ([v6, v7, v8].take (Tryz.prog.cellsOf 3)) = ys[1]? := hy 1 _ rfl
        have p2 : DataW.trod enc Tryz.prog w 0 (fun _ => true) true k5 3 ([v7, v8].take (Tryz.prog.cellsOf 3)) = ys[2]? := hy 2 _ rfl
        have p3 : DataW.trod enc Tryz.prog w 0 (fun _ => true) true k5 3 ([v8].take (Tryz.prog.cellsOf 3)) = ys[3]? := hy 3 _ rfl
        rw [cs, List.take_succ_cons, List.take_zero, List.getElem?_eq_getElem (by rw [hyl]; decide)] at p0
        rw [ci, List.take_succ_cons, List.take_zero, List.getElem?_eq_getElem (by rw [hyl]; decide)] at p1 p2 p3
        obtain ⟨sa, sc, sl, e5, hcap, _, hins⟩ := open_ins p0
        obtain ⟨u6, e6, _, _⟩ := DataW.trod_int Tryz.underlying3 p1
        obtain ⟨u7, e7, _, _⟩ := DataW.trod_int Tryz.underlying3 p2
        obtain ⟨u8, e8, _, _⟩ := DataW.trod_int Tryz.underlying3 p3
        simp only [List.cons.injEq, and_true] at e6 e7 e8
        subst e5 e6 e7 e8
        have hc : ∀ j, j < 4 → w.cell? (a.add (i * 4 + j)) = [Value.slice sa sl.length sc, Value.int .i64 u6, Value.int .i64 u7, Value.int .i64 u8][j]? := fun j hj => by
          have := hcell j hj
          rw [add_add] at this
          exact this
        exact ⟨⟨sa, sc, ⟨sl, u6, u7, u8⟩⟩, ⟨hins, hcap⟩, hc 0 (by omega), hc 1 (by omega), hc 2 (by omega), hc 3 (by omega)⟩
    obtain ⟨f, hf⟩ := choose_lt each
    refine ⟨some a, m, (List.range len).map f, by simp [hcs], by simpa using hl, by simp; omega, fun i hi => ?_, .inr ⟨_, _, (Prod.mk.inj hy).1, by simp⟩⟩
    have hi' : i < len := by simpa using hi
    have g := hf i (by omega)
    obtain ⟨hs, hb⟩ := cell_spot (hf 0 (by omega)).2.1
    have hs : a.spot = none := by simpa [Addr.add] using hs
    have hb : a.block < w.heap.size := by simpa [Addr.add] using hb
    obtain ⟨b, o, sp⟩ := a
    simp only at hs hb
    subst hs
    have e : ∀ k, (⟨b, o, none⟩ : Addr).add k = ⟨b, o + k, none⟩ := fun k => by unfold Addr.add; split <;> simp_all
    simp only [e, ← Nat.add_assoc] at g
    refine ⟨⟨b, o, rfl, hb, ?_⟩, ?_⟩
    · unfold DeedHCells
      simp only [List.getElem_map, List.getElem_range]
      exact g.2
    · simp only [List.getElem_map, List.getElem_range]
      exact g.1
set_option maxRecDepth 100000 in
/-- A slice of deeds. -/
theorem open_deeds_arg {H : Type} {enc : TypeId × Value → H} {w : World} {r : Reach} {b0 : Nat} {v : Value} {d : DataW H} {p : List MemPlace} (hv : Value.okWide Tryz.prog w r b0 80 v) (h : DataW.Trod enc Tryz.prog w 0 (fun _ => true) true 80 v d p) :
    ∃ (a : Option Addr) (cap : Nat) (l : List DeedH), v = .slice a l.length cap ∧ l.length ≤ cap ∧ l.length ≤ maxLen ∧ DeedsAt w a l := by
  obtain ⟨a, cap, l, h1, h2, h3, h4, _⟩ := open_deeds_sized hv h
  exact ⟨a, cap, l, h1, h2, h3, h4⟩
set_option maxRecDepth 100000 in
/-- A slice of deeds as the first argument: its length, by the form's own reach. -/
theorem open_deeds_room {H : Type} {enc : TypeId × Value → H} {w : World} {r : Reach} {b0 : Nat} {v : Value} {d : DataW H} {p : List MemPlace} {ts : List TypeId} {ds : List (DataW H)} (hv : Value.okWide Tryz.prog w r b0 80 v) (h : DataW.Trod enc Tryz.prog w 0 (fun _ => true) true 80 v d p)
    (hsz : (DataW.weightsEach Tryz.prog (80 :: ts) (d :: ds)).all (· ≤ reachBytes) = true) :
    ∃ (a : Option Addr) (cap : Nat) (l : List DeedH), v = .slice a l.length cap ∧ l.length ≤ cap ∧ l.length ≤ 2932031007402 ∧ DeedsAt w a l := by
  obtain ⟨a, cap, l, h1, h2, h3, h4, h5⟩ := open_deeds_sized hv h
  refine ⟨a, cap, l, h1, h2, ?_, h4⟩
  rcases h5 with rfl | ⟨elems, spare, rfl, he⟩
  · simp
  · have hb : Tryz.prog.bytesOf 50 = 48 := by kernel_rfl
    have hw : (elems.length + spare.length) * 48 ≤ reachBytes := of_decide_eq_true (List.all_eq_true.1 hsz _ (by
      unfold DataW.weightsEach DataW.weights
      rw [Tryz.underlying80]
      simp only [hb]
      simp))
    unfold reachBytes at hw
    omega
end Go.Proofs.YtaaaplbjeknbkaaGreat
namespace Go.Proofs.YtaaaplbjeknbkaaGreat
open Go.RowKit

theorem eqID_any (l m : List UInt64) (a b : Option Addr) (ca cb : Nat) (w : World) (hl : l.length ≤ maxLen) (ha : IdsAt w a l) (hb : IdsAt w b m) :
    Calls Tryz.prog 33 #[.slice a l.length ca, .slice b m.length cb] w fun e w' => e = .returned (.bool (l == m)) ∧ w = w' := by
  unfold maxLen at hl
  by_cases hlen : l.length = m.length
  · have hln : ((l.length : Int) != (m.length : Int)) = false := by simp [hlen]
    have HL := Lib.hid hlen
    clear hlen
    go_enter Tryz.func33, Tryz.ntmps33
    go_wp2
    go_loop [14] (fun i => ∃ k : Nat, k ≤ l.length ∧ i = .int .i64 k ∧ Hid (l.take k = m.take k)) (fun i => l.length - (intOf i).toNat)
    case atStart => exact ⟨0, Nat.zero_le _, rfl, Lib.hid (by simp)⟩
    case round =>
      obtain ⟨k, hk, rfl, NO⟩ := hrel
      by_cases hlt : k < l.length
      · have hlm : k < m.length := by have := HL.out; omega
        obtain ⟨b1, o1, rfl, hb1, hd0⟩ := ha k hlt
        obtain ⟨b2, o2, rfl, hb2, hf0⟩ := hb k hlm
        by_cases hx : l[k] = m[k]
        · have hxb : ((l[k].toNat : Int) != (m[k].toNat : Int)) = false := by rw [bne, u64_beq, beq_iff_eq.2 hx]; rfl
          have HX := Lib.hid hx
          clear hx
          go_wp2
          go_round
          case rel => exact ⟨k + 1, by omega, by go_num, Lib.hid (take_eq_step hlt hlm NO.out HX.out)⟩
          case measure => simp [intOf]; omega
        · have hxb : ((l[k].toNat : Int) != (m[k].toNat : Int)) = true := by rw [bne, u64_beq, beq_eq_false_iff_ne.2 hx]; rfl
          have HX := Lib.hid hx
          clear hx
          go_wp2
          go_ret
          exact ⟨ret_bool (beq_eq_false_iff_ne.2 (ne_of_at hlt hlm HX.out)).symm, rfl⟩
      · go_wp2
        go_ret
        refine ⟨ret_bool ?_, rfl⟩
        have h1 := NO.out
        rw [List.take_of_length_le (by omega), List.take_of_length_le (by have := HL.out; omega)] at h1
        exact (beq_iff_eq.2 h1).symm
  · have hln : ((l.length : Int) != (m.length : Int)) = true := by simp; omega
    have HL := Lib.hid hlen
    clear hlen
    go_enter Tryz.func33, Tryz.ntmps33
    go_wp2
    go_ret
    exact ⟨ret_bool (beq_eq_false_iff_ne.2 fun h => HL.out (by rw [h])).symm, rfl⟩
theorem eqID_is (l m : List UInt64) (a b : Option Addr) (ca cb : Nat) (w : World) (r : Bool) (hl : l.length ≤ maxLen) (ha : IdsAt w a l) (hb : IdsAt w b m) (h : (l == m) = r) :
    Calls Tryz.prog 33 #[.slice a l.length ca, .slice b m.length cb] w fun e w' => e = .returned (.bool r) ∧ w = w' := h ▸ eqID_any l m a b ca cb w hl ha hb

end Go.Proofs.YtaaaplbjeknbkaaGreat
