/-
  Acts appended to acts, in a law's own memory.
-/
import Derived.Test.YtaaaplbjeknbkabGreatJ32
import Derived.Test.YtaaaplbjeknbkabGreatJ31
set_option maxRecDepth 20000
namespace Go.Proofs.YtaaaplbjeknbkabGreat
open Go.ChangeShapes Go.WideShapes Go.ChangeAt Go.RowKit Go.Joins Go.Deep Go.Maps

variable {w w' : World} {B b o : Nat} {v : Value} {l m : List ActD}

def actC (a : ActD) : List Value := [.int .i64 a.kind, .int .i64 a.peer, .int .i64 a.n, .bool a.flag, .string a.bytes]
def actsC (l : List ActD) : List Value := l.flatMap actC
theorem actsC_length (l : List ActD) : (actsC l).length = l.length * 5 := by
  induction l with
  | nil => rfl
  | cons o r ih => simp only [actsC, List.flatMap_cons, List.length_append, List.length_cons] at ih ⊢; rw [ih]; simp [actC]; omega
theorem actsC_append (l m : List ActD) : actsC (l ++ m) = actsC l ++ actsC m := by simp [actsC]
theorem actsC_one (l : List ActD) : ∀ u ∈ actsC l, u.oneCell' = true := fun u hu => by
  obtain ⟨a, _, h⟩ := List.mem_flatMap.1 hu
  simp only [actC, List.mem_cons, List.not_mem_nil, or_false] at h
  rcases h with rfl | rfl | rfl | rfl | rfl <;> rfl
theorem actsC_at : ∀ (l : List ActD) (i : Nat) (h : i < l.length), (actsC l)[i * 5]? = some (.int .i64 l[i].kind) ∧ (actsC l)[i * 5 + 1]? = some (.int .i64 l[i].peer) ∧ (actsC l)[i * 5 + 2]? = some (.int .i64 l[i].n) ∧ (actsC l)[i * 5 + 3]? = some (.bool l[i].flag) ∧ (actsC l)[i * 5 + 4]? = some (.string l[i].bytes)
  | o :: r, 0, _ => ⟨rfl, rfl, rfl, rfl, rfl⟩
  | o :: r, i + 1, h => by
    have := actsC_at r i (by simpa using h)
    have e1 : (i + 1) * 5 = i * 5 + 1 + 1 + 1 + 1 + 1 := by omega
    rw [e1]
    exact this
/-- The slice v holds these acts, in a block of its own from block B on. -/
abbrev OwnActs (w : World) (B : Nat) (v : Value) (l : List ActD) : Prop := w.ownsRow B 109 5 v l.length (actsC l)
theorem info_actr : (Tryz.prog.info? 109).map (fun i => (i.zero, i.size, i.bytes)) = some (some (.agg #[.int .i64 0, .int .i64 0, .int .i64 0, .bool false, .string ByteArray.empty]), 5, 48) := by kernel_rfl
theorem acts_nil (w : World) (B : Nat) : OwnActs w B (.slice none 0 0) [] := World.ownsRow_nil w B _ 5
theorem acts_form {B : Nat} {v : Value} {l : List ActD} (h : OwnActs w B v l) : ∃ a cap, v = .slice a l.length cap ∧ l.length ≤ cap := by
  rcases h.2 with ⟨hv, hn⟩ | ⟨g, cap, cur, hv, _, _, hc, _⟩
  · exact ⟨none, 0, by rw [hn]; exact hv, by omega⟩
  · exact ⟨_, cap, hv, hc⟩
theorem at_actsC (h : ∀ i (h : i < m.length), ActCells w b (o + i * 5) m[i]) (j : Nat) (u : Value) (hj : (actsC m)[j]? = some u) : w.cell? ⟨b, o + j, none⟩ = some u := by
  have hjl : j < m.length * 5 := by
    have := (List.getElem?_eq_some_iff.1 hj).1
    rw [actsC_length] at this
    exact this
  have hi : j / 5 < m.length := by omega
  obtain ⟨c0, c1, c2, c3, c4⟩ := h (j / 5) hi
  obtain ⟨d0, d1, d2, d3, d4⟩ := actsC_at m (j / 5) hi
  have hr : j % 5 = 0 ∨ j % 5 = 1 ∨ j % 5 = 2 ∨ j % 5 = 3 ∨ j % 5 = 4 := by omega
  rcases hr with e | e | e | e | e
  · have ej : j = j / 5 * 5 := by omega
    rw [ej] at hj
    rw [d0] at hj
    rw [ej, ← hj]; exact c0
  · have ej : j = j / 5 * 5 + 1 := by omega
    rw [ej] at hj
    rw [d1] at hj
    rw [ej, ← hj, ← Nat.add_assoc]; exact c1
  · have ej : j = j / 5 * 5 + 2 := by omega
    rw [ej] at hj
    rw [d2] at hj
    rw [ej, ← hj, ← Nat.add_assoc]; exact c2
  · have ej : j = j / 5 * 5 + 3 := by omega
    rw [ej] at hj
    rw [d3] at hj
    rw [ej, ← hj, ← Nat.add_assoc]; exact c3
  · have ej : j = j / 5 * 5 + 4 := by omega
    rw [ej] at hj
    rw [d4] at hj
    rw [ej, ← hj, ← Nat.add_assoc]; exact c4
theorem owns_actsAt {B : Nat} {v : Value} {l : List ActD} (h : OwnActs w B v l) (hs : ∀ d ∈ l, d.bytes.size ≤ maxLen) : ∃ a cap, v = .slice a l.length cap ∧ l.length ≤ cap ∧ ActsAt w a l := by
  rcases h.2 with ⟨hv, hn⟩ | ⟨g, cap, cur, hv, hB, hg, hc, _, _, _⟩
  · exact ⟨none, 0, by rw [hn]; exact hv, by omega, fun i hi => absurd hi (by omega)⟩
  · refine ⟨some ⟨g, 0, none⟩, cap, hv, hc, fun i hi => ⟨⟨g, 0, rfl, (Array.getElem?_eq_some_iff.1 hg).1, ?_⟩, hs _ (List.getElem_mem hi)⟩⟩
    obtain ⟨d0, d1, d2, d3, d4⟩ := actsC_at l i hi
    have hc : ∀ j u, (actsC l)[j]? = some u → w.cell? ⟨g, 0 + j, none⟩ = some u := fun j u hj => by
      have a0 := h.cells (g := g) (by rw [hv]; rfl) j u hj
      have f0 : (⟨g, 0, none⟩ : Addr).add j = ⟨g, 0 + j, none⟩ := by unfold Addr.add; split <;> simp_all
      rw [f0] at a0
      exact a0
    exact ⟨hc _ _ d0, by have := hc _ _ d1; rwa [← Nat.add_assoc] at this, by have := hc _ _ d2; rwa [← Nat.add_assoc] at this, by have := hc _ _ d3; rwa [← Nat.add_assoc] at this, by have := hc _ _ d4; rwa [← Nat.add_assoc] at this⟩
/-- append(l, m...), m in memory. -/
theorem run_append_acts (ty : TypeId) {v : Value} {a : Option Addr} {c : Nat} (h : OwnActs w B v l) (hu : ActsAt w a m) (hl : l.length + m.length ≤ 1000000000) (hB : B ≤ w.heap.size) :
    ∃ v' w', (Builtin.append_ #[53, 53] ty #[v, .slice a m.length c]).run Tryz.prog w = .ok v' w' ∧ OwnActs w' B v' (l ++ m) ∧ w.grownBy w' v.ownBlock ∧ (∀ k, v'.ownBlock = some k → v.ownBlock = some k ∨ w.heap.size ≤ k) := by
  obtain ⟨i0, hi0, hz0, hz1, hz2⟩ := info_parts info_actr
  have hml : maxLen = 9223372036854775807 := rfl
  by_cases hm : m = []
  · subst hm
    rw [List.append_nil]
    have hfc : (Builtin.firstCells 5 0 (.slice a 0 c)).run Tryz.prog w = .ok #[] w := by
      cases a with
      | none => exact run_firstCells_none (P := Tryz.prog) w 5 0 0 c
      | some b => exact run_firstCells_some (P := Tryz.prog) w 5 0 b 0 c [] rfl (fun j u hj => by simp at hj)
    have hg : w.grownBy w v.ownBlock := ⟨rfl, rfl, rfl, Nat.le_refl _, fun _ _ _ => rfl⟩
    refine ⟨v, w, ?_, h, hg, fun k hk => .inl hk⟩
    obtain ⟨b, d, rfl, hd⟩ := acts_form h
    cases b with
    | none =>
      rcases h.2 with ⟨hv, hn⟩ | ⟨g, cap, cur, hv, _⟩
      · simp only [Value.slice.injEq, true_and] at hv
        obtain ⟨h1, rfl⟩ := hv
        simp [Builtin.append_, run_underlying Tryz.underlying53, sizeOf, typeInfo, hi0, Builtin.lenOf, hz1, hfc, h1]
      · cases hv
    | some b => simp [Builtin.append_, run_underlying Tryz.underlying53, sizeOf, typeInfo, hi0, Builtin.lenOf, hz1, hfc, hd, storeCells]
  · have hpos : 0 < m.length := List.length_pos_iff.2 hm
    obtain ⟨⟨g, o, rfl, hg, _⟩, _⟩ := hu 0 hpos
    have hcells : ∀ i (h : i < m.length), ActCells w g (o + i * 5) m[i] := fun i hi => by
      obtain ⟨⟨g', o', e, _, hc⟩, _⟩ := hu i hi
      simp only [Option.some.injEq, Addr.mk.injEq, and_true] at e
      obtain ⟨rfl, rfl⟩ := e
      exact hc
    have hadd : ∀ j, (⟨g, o, none⟩ : Addr).add j = ⟨g, o + j, none⟩ := fun j => by unfold Addr.add; split <;> simp_all
    obtain ⟨v', w', hr, h1, h2, _, h5⟩ := run_append_own_at (P := Tryz.prog) w B 53 ty 109 i0 _ 5 48 Tryz.underlying53 hi0 hz0 hz1 hz2 rfl (by decide) v l.length (actsC l) h ⟨g, o, none⟩ m.length c (actsC m) (actsC_length m) (fun j x hj => by rw [hadd]; exact at_actsC hcells j x hj) (actsC_one m) (by omega) (by omega) hB
    rw [← actsC_append, ← List.length_append] at h1
    refine ⟨v', w', hr, h1, h2, fun k hk => ?_⟩
    rcases h5 with h5 | h5
    · exact .inl (by rw [← h5]; exact hk)
    · rw [h5] at hk
      cases hk
      exact .inr (Nat.le_refl _)
theorem append_acts {ops : Array Oper} {rest : List Oper} {o : Oper} {a : Act} {Q : Exit → Act → World → Prop} (hgd : o.guard = none) (s x : Operand) (ho : o.op = .call { callee := .builtin .append, args := #[s, x], argTypes := #[53, 53] })
    {v : Value} {aa : Option Addr} {c n : Nat} (hs : a.eval s = v) (hx : a.eval x = .slice aa n c) (hn : m.length = n) (h : OwnActs w B v l) (hu : ActsAt w aa m) (hl : l.length + m.length ≤ 1000000000) (hB : B ≤ w.heap.size)
    (hK : ∀ v' w', OwnActs w' B v' (l ++ m) → w.grownBy w' v.ownBlock → (∀ k, v'.ownBlock = some k → v.ownBlock = some k ∨ w.heap.size ≤ k) → wpList Tryz.prog ops Q rest (a.put o.dst v') w') : wpList Tryz.prog ops Q (o :: rest) a w := by
  subst hn
  refine wpList_plain hgd fun K hK' => ?_
  obtain ⟨v', w', hr, h1, h2, h3⟩ := run_append_acts (w := w) (c := c) o.type h hu hl hB
  unfold Oper.wp execOp
  simp only [ho, resolve, invoke, builtin, Sem.run_bind, Sem.run_pure, Result.andThen_ok, List.map_toArray, List.map_cons, List.map_nil, hs, hx, hr]
  exact hK' _ _ (hK v' w' h1 h2 h3)
set_option maxRecDepth 100000 in
/-- A slice of acts among the arguments: its length, by its reading; the kinds' bounds. -/
theorem open_acts_kinds {H : Type} {enc : TypeId × Value → H} {w : World} {r : Reach} {b0 : Nat} {v : Value} {d : DataW H} {p : List MemPlace} (hv : Value.okWide Tryz.prog w r b0 53 v) (h : DataW.Trod enc Tryz.prog w 0 (fun _ => true) true 53 v d p) :
    ∃ (a : Option Addr) (cap : Nat) (l : List ActD), v = .slice a l.length cap ∧ l.length ≤ cap ∧ (l = [] ∨ ∃ elems spare, d = .slice elems spare ∧ elems.length = l.length) ∧ ActsAt w a l ∧ ∀ i (h : i < l.length), (Lit.int .i64 l[i].kind).wf = true := by
  obtain ⟨xa, xl, xc, rfl⟩ := okWide_slice Tryz.underlying53 hv
  obtain ⟨n, hf⟩ := h
  rcases open_slice Tryz.underlying53 hf with ⟨hc, _⟩ | ⟨a, len, cap, m, k, D, Pl, hcs, hb, hl, hm, hmm, hy, hx⟩
  · simp only [Value.cells, List.cons.injEq, and_true] at hc
    exact ⟨none, 0, [], hc, Nat.le_refl _, .inl rfl, fun i hi => absurd hi (by simp), fun i hi => absurd hi (by simp)⟩
  · simp only [Value.cells, List.cons.injEq, and_true] at hcs
    simp only [if_true] at hmm
    subst hmm
    have ce : Tryz.prog.cellsOf 109 = 5 := by kernel_rfl
    have each : ∀ i, i < m → ∃ q : ActD, (w.cell? (a.add (i * 5)) = some (.int .i64 q.kind) ∧ w.cell? (a.add (i * 5 + 1)) = some (.int .i64 q.peer) ∧ w.cell? (a.add (i * 5 + 2)) = some (.int .i64 q.n) ∧ w.cell? (a.add (i * 5 + 3)) = some (.bool q.flag) ∧ w.cell? (a.add (i * 5 + 4)) = some (.string q.bytes)) ∧ q.bytes.size ≤ maxLen ∧ (Lit.int .i64 q.kind).wf = true := by
      intro i hi
      obtain ⟨cs', h1, h2⟩ := hx i hi
      rw [ce] at h1
      obtain ⟨_, hlen, hcell⟩ := World.cells?_some h1
      obtain ⟨xs, k', hk, hxy, _, hxl, hf⟩ := DataW.trod_struct Tryz.underlying109 h2
      have ci : Tryz.prog.cellsOf 3 = 1 := by kernel_rfl
      have c4 : Tryz.prog.cellsOf 4 = 1 := by kernel_rfl
      have c5 : Tryz.prog.cellsOf 9 = 1 := by kernel_rfl
      match cs', hlen with
      | [v0, v1, v2, v3, v4], _ =>
        have g0 : DataW.trod enc Tryz.prog w 0 (fun _ => true) true k' 3 ([v0, v1, v2, v3, v4].take (Tryz.prog.cellsOf 3)) = xs[0]? := hf 0 _ rfl
        have g1 : DataW.trod enc Tryz.prog w 0 (fun _ => true) true k' 3 ([v1, v2, v3, v4].take (Tryz.prog.cellsOf 3)) = xs[1]? := hf 1 _ rfl
        have g2 : DataW.trod enc Tryz.prog w 0 (fun _ => true) true k' 3 ([v2, v3, v4].take (Tryz.prog.cellsOf 3)) = xs[2]? := hf 2 _ rfl
        have g3 : DataW.trod enc Tryz.prog w 0 (fun _ => true) true k' 4 ([v3, v4].take (Tryz.prog.cellsOf 4)) = xs[3]? := hf 3 _ rfl
        have g4 : DataW.trod enc Tryz.prog w 0 (fun _ => true) true k' 9 ([v4].take (Tryz.prog.cellsOf 9)) = xs[4]? := hf 4 _ rfl
        rw [ci, List.take_succ_cons, List.take_zero, List.getElem?_eq_getElem (by rw [hxl]; decide)] at g0 g1 g2
        rw [c4, List.take_succ_cons, List.take_zero, List.getElem?_eq_getElem (by rw [hxl]; decide)] at g3
        rw [c5, List.take_succ_cons, List.take_zero, List.getElem?_eq_getElem (by rw [hxl]; decide)] at g4
        obtain ⟨u0, e0, _, hw0⟩ := DataW.trod_int Tryz.underlying3 g0
        obtain ⟨u1, e1, _, _⟩ := DataW.trod_int Tryz.underlying3 g1
        obtain ⟨u2, e2, _, _⟩ := DataW.trod_int Tryz.underlying3 g2
        obtain ⟨u3, e3, _⟩ := DataW.trod_bool Tryz.underlying4 g3
        obtain ⟨u4, e4, _, hs4⟩ := DataW.trod_string Tryz.underlying9 g4
        simp only [List.cons.injEq, and_true] at e0 e1 e2 e3 e4
        subst e0 e1 e2 e3 e4
        have hc : ∀ j, j < 5 → w.cell? (a.add (i * 5 + j)) = [Value.int .i64 u0, Value.int .i64 u1, Value.int .i64 u2, Value.bool u3, Value.string u4][j]? := fun j hj => by
          have := hcell j hj
          rw [add_add] at this
          exact this
        exact ⟨⟨u0, u1, u2, u3, u4⟩, ⟨hc 0 (by omega), hc 1 (by omega), hc 2 (by omega), hc 3 (by omega), hc 4 (by omega)⟩, hs4, hw0⟩
    obtain ⟨f, hf⟩ := choose_lt each
    refine ⟨some a, m, (List.range len).map f, by simp [hcs], by simpa using hl, .inr ⟨_, _, (Prod.mk.inj hy).1, by simp⟩, fun i hi => ?_, fun i hi => ?_⟩
    · have hi' : i < len := by simpa using hi
      have g := hf i (by omega)
      obtain ⟨hs, hb⟩ := cell_spot (hf 0 (by omega)).1.1
      have hs : a.spot = none := by simpa [Addr.add] using hs
      have hb : a.block < w.heap.size := by simpa [Addr.add] using hb
      obtain ⟨b, o, sp⟩ := a
      simp only at hs hb
      subst hs
      have e : ∀ k, (⟨b, o, none⟩ : Addr).add k = ⟨b, o + k, none⟩ := fun k => by unfold Addr.add; split <;> simp_all
      simp only [e, ← Nat.add_assoc] at g
      refine ⟨⟨b, o, rfl, hb, ?_⟩, ?_⟩
      · unfold ActCells
        simp only [List.getElem_map, List.getElem_range]
        exact g.1
      · simp only [List.getElem_map, List.getElem_range]
        exact g.2.1
    · have hi' : i < len := by simpa using hi
      simp only [List.getElem_map, List.getElem_range]
      exact (hf i (by omega)).2.2
end Go.Proofs.YtaaaplbjeknbkabGreat
