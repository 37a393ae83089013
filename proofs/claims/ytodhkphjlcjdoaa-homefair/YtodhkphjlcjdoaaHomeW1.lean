/-
  Contracts of package orphan that only look at a pool, or at a deed: New, isPeer, Has, clone, Deed.
-/
import Derived.Test.YtodhkphjlcjdoaaHome
import Derived.Deep.AppendLies
namespace Go.Proofs.Ytodhkphjlcjdoaa
open Go.RowKit Go.Maps

theorem isPeer_any (p : Int) (w : World) : Calls Try.prog 39 #[.int .i64 p] w fun e w' => e = .returned (.bool (decide (0 ≤ p ∧ p < 8))) ∧ w = w' := by
  by_cases h1 : 0 ≤ p
  · by_cases h2 : p < 8
    · have h3 : decide (0 ≤ p ∧ p < 8) = true := by simp [h1, h2]
      rw [h3]
      go_enter Try.func39, Try.ntmps39
      go_wp2
      go_ret
      exact ⟨rfl, rfl⟩
    · have h3 : decide (0 ≤ p ∧ p < 8) = false := by simp [h2]
      rw [h3]
      go_enter Try.func39, Try.ntmps39
      go_wp2
      go_ret
      exact ⟨rfl, rfl⟩
  · have h3 : decide (0 ≤ p ∧ p < 8) = false := by simp [h1]
    rw [h3]
    go_enter Try.func39, Try.ntmps39
    go_wp2
    go_ret
    exact ⟨rfl, rfl⟩
def goodP (p : Int) : Prop := 0 ≤ p ∧ p < 8
instance (p : Int) : Decidable (goodP p) := by unfold goodP; infer_instance
theorem peer_nat {p : Int} (h : goodP p) : ∃ n : Nat, p = n ∧ n < 8 ∧ p.toNat = n := by
  obtain ⟨h1, h2⟩ := h
  exact ⟨p.toNat, by omega, by omega, rfl⟩
theorem isPeer_yes (p : Int) (n : Nat) (h : p = n) (hn : n < 8) (w : World) : Calls Try.prog 39 #[.int .i64 p] w fun e w' => e = .returned (.bool true) ∧ w = w' := by
  refine (isPeer_any p w).mono fun e w' ⟨h1, h2⟩ => ⟨?_, h2⟩
  rw [h1, decide_eq_true ⟨by omega, by omega⟩]
theorem isPeer_no (p : Int) (h : ¬ goodP p) (w : World) : Calls Try.prog 39 #[.int .i64 p] w fun e w' => e = .returned (.bool false) ∧ w = w' := by
  refine (isPeer_any p w).mono fun e w' ⟨h1, h2⟩ => ⟨?_, h2⟩
  rw [h1, show decide (0 ≤ p ∧ p < 8) = false from decide_eq_false h]

variable {w w' : World} {F : Nat → Prop} {R : Nat} {it : Option It} {ls : List LD} {M : UInt64 → Option DeedD} {b : Nat} {ev : UInt64 → Option Value} {v : Value}

/-- An empty pool. -/
theorem home_new (w : World) : Calls Try.prog 11 #[] w fun e w' => ∃ R F, e = .returned (.pointer (some ⟨R, 0, none⟩)) ∧ w.heap.size ≤ R ∧ (∀ k, F k → w.heap.size ≤ k) ∧ HomeAt w' F R none [] (fun _ => none) w.heap.size (fun _ => none) (.slice none 0 0) ∧ Below w.heap.size w w' := by
  have hmm := @run_makeMap Try.prog
  go_enter Try.func11, Try.ntmps11
  go_wp2
  go_ret
  refine ⟨w.heap.size + 1, fun k => k = w.heap.size ∨ k = w.heap.size + 1, by simp, by omega, fun k hk => by omega, ?_, kept_alloc (kept_new _ _) _⟩
  refine ⟨?_, tmap_same (tmap_new w) ?_ (fun i hi => by cases hi), fun x => .inl ⟨rfl, rfl⟩, (fun x d h => by cases h), World.ownsRow_nil _ _ _ _, .inr rfl, .inl rfl, (fun g hg => by cases hg), (fun k hk => ?_), (fun i hi => by cases hi)⟩
  · exact heap_alloc2_new _ _ _
  · exact heap_alloc_old _ _ (by simp)
  · simp
    omega
set_option maxRecDepth 20000 in
theorem has_home (x : UInt64) (w : World) (h : HomeAt w F R it ls M b ev v) :
    Calls Try.prog 16 #[.pointer (some ⟨R, 0, none⟩), .int .u64 x.toNat] w fun e w' => e = .returned (.bool (M x).isSome) ∧ Below w.heap.size w w' := by
  have hmc := h.mapc
  have hlk := h.look_ok x
  have hlt := h.lt
  obtain ⟨a, c, hv, _, _, _⟩ := h.deed x
  rw [hv, h.there_is x] at hlk
  unfold deedV at hlk
  clear h hv
  obtain ⟨d, hd⟩ : ∃ d, (M x).getD nod = d := ⟨_, rfl⟩
  rw [hd] at hlk
  clear hd
  go_enter Try.func16, Try.ntmps16
  go_wp2
  go_ret
  exact ⟨rfl, kept_new _ _⟩
theorem has_home_is (x : UInt64) (w : World) (h : HomeAt w F R it ls M b ev v) (r : Bool) (hr : (M x).isSome = r) :
    Calls Try.prog 16 #[.pointer (some ⟨R, 0, none⟩), .int .u64 x.toNat] w fun e w' => e = .returned (.bool r) ∧ Below w.heap.size w w' := hr ▸ has_home x w h
theorem info_in : (Try.prog.info? 50).map (fun i => (i.zero, i.size, i.bytes)) = some (some (.agg #[.int .u64 0, .int .i64 0]), 2, 16) := by kernel_rfl
theorem insC_one (l : List InD) : ∀ u ∈ insC l, u.oneCell' = true := fun u hu => by
  unfold insC at hu
  obtain ⟨x, _, hx⟩ := List.mem_flatMap.1 hu
  simp only [inC, List.mem_cons, List.not_mem_nil, or_false] at hx
  rcases hx with rfl | rfl <;> rfl
theorem ins_cells {w : World} {bb o : Nat} {l : List InD} (h : InsAt w (some ⟨bb, o, none⟩) l) : ∀ j u, (insC l)[j]? = some u → w.cell? ((⟨bb, o, none⟩ : Addr).add j) = some u := fun j u hj => by
  have hl : j < (insC l).length := (List.getElem?_eq_some_iff.1 hj).1
  rw [insC_length] at hl
  have hi : j / 2 < l.length := by omega
  have e2 := insC_at l (j / 2) hi (j % 2) (by omega)
  rw [show j / 2 * 2 + j % 2 = j by omega, hj] at e2
  obtain ⟨b', o', e, _, c0, c1, _⟩ := h (j / 2) hi
  simp only [Option.some.injEq, Addr.mk.injEq, and_true] at e
  obtain ⟨rfl, rfl⟩ := e
  have e3 : (⟨bb, o, none⟩ : Addr).add j = ⟨bb, o + j, none⟩ := by unfold Addr.add; split <;> simp_all
  rw [e3]
  have hm : j % 2 = 0 ∨ j % 2 = 1 := by omega
  rcases hm with hm | hm
  · rw [hm] at e2
    rw [show o + j = o + j / 2 * 2 by omega, c0, e2]
    rfl
  · rw [hm] at e2
    rw [show o + j = o + j / 2 * 2 + 1 by omega, c1, e2]
    rfl
theorem append_none (a : Option Addr) (cap : Nat) (ty : TypeId) (w : World) : (Builtin.append_ #[30, 30] ty #[.slice none 0 0, .slice a 0 cap]).run Try.prog w = .ok (.slice none 0 0) w := by
  obtain ⟨iE, hiE, _, hz1, _⟩ := info_parts info_in
  cases a with
  | none => simp [Builtin.append_, run_underlying Try.underlying30, Builtin.lenOf, Builtin.firstCells, sizeOf, typeInfo, hiE]
  | some ad => simp [Builtin.append_, run_underlying Try.underlying30, Builtin.lenOf, Builtin.firstCells, sizeOf, typeInfo, hiE, loadCells, loadCellsFrom]
theorem step_append_none {ops : Array Oper} {rest : List Oper} {o : Oper} {a : Act} {Q : Exit → Act → World → Prop} {w : World} (hgd : o.guard = none) (s x : Operand) (ho : o.op = .call { callee := .builtin .append, args := #[s, x], argTypes := #[30, 30] })
    (ad : Option Addr) (cap : Nat) (hs : a.eval s = .slice none 0 0) (hx : a.eval x = .slice ad 0 cap) (h : wpList Try.prog ops Q rest (a.put o.dst (.slice none 0 0)) w) : wpList Try.prog ops Q (o :: rest) a w := by
  refine wpList_plain hgd fun K' hK' => ?_
  unfold Oper.wp
  simp [execOp, ho, resolve, invoke, builtin, hs, hx, append_none, Result.andThen]
  exact hK' _ _ h
/-- The answer is this deed, its Ins in a block of their own that is new. -/
def Cloned (w : World) (d : DeedD) (v : Value) (w' : World) : Prop := ∃ a c, v = .agg #[.slice a d.ins.length c, .int .i64 d.outs, .int .i64 d.weight, .int .i64 d.fee] ∧ w'.ownsRow w.heap.size 50 2 (.slice a d.ins.length c) d.ins.length (insC d.ins) ∧ Below w.heap.size w w'
set_option maxRecDepth 20000 in
theorem clone_any (d : DeedD) (a : Option Addr) (cap : Nat) (w : World) (hl : d.ins.length ≤ 8) (hi : InsAt w a d.ins) :
    Calls Try.prog 44 #[.agg #[.slice a d.ins.length cap, .int .i64 d.outs, .int .i64 d.weight, .int .i64 d.fee]] w fun e w' => ∃ v, e = .returned v ∧ Cloned w d v w' := by
  obtain ⟨l, o, g, f⟩ := d
  simp only at hl hi ⊢
  by_cases hnil : l = []
  · subst hnil
    have HE : ∀ w2, Below w.heap.size w w2 → Cloned w ⟨[], o, g, f⟩ (.agg #[.slice none 0 0, .int .i64 o, .int .i64 g, .int .i64 f]) w2 := fun w2 hb => ⟨none, 0, rfl, World.ownsRow_nil _ _ _ _, hb⟩
    have HE := Lib.hid HE
    clear hl hi
    simp only [List.length_nil]
    go_enter Try.func44, Try.ntmps44
    go_wp2_with (at_builtin; refine step_append_none rfl _ _ rfl a cap rfl rfl ?_)
    refine bodyPost_ret (v := .agg #[.slice none 0 0, .int .i64 o, .int .i64 g, .int .i64 f]) (by simp [results, Try.results44, go_sem]) rfl ?_
    exact ⟨_, rfl, HE.out _ (kept_alloc (kept_new _ _) _)⟩
  · have hpos : 0 < l.length := List.length_pos_iff.2 hnil
    obtain ⟨bb, oo, rfl, hbl, _, _, _⟩ := hi 0 hpos
    obtain ⟨iE, hiE, hz0, hz1, hz2⟩ := info_parts info_in
    have hk : Below w.heap.size w ((w.alloc (.cells #[.slice (some ⟨bb, oo, none⟩) l.length cap, .int .i64 o, .int .i64 g, .int .i64 f] 32)).alloc (.cells #[.slice none 0 0, .int .i64 0, .int .i64 0, .int .i64 0] 32)) := kept_alloc (kept_new _ _) _
    have HN := Lib.hid (ins_cells (insAt_kept hk hi))
    have HL := Lib.hid hl
    clear hnil hi
    go_enter Try.func44, Try.ntmps44
    go_wp2_with (at_builtin; refine wpList_append_lies _ rfl _ _ 30 rfl w.heap.size 50 iE _ 2 16 Try.underlying30 hiE hz0 hz1 hz2 rfl (by decide) (.slice none 0 0) 0 [] rfl (World.ownsRow_nil _ _ _ _) ⟨bb, oo, none⟩ l.length cap (insC l) rfl (insC_length l) HN.out (insC_one l) hpos (by have := HL.out; unfold maxLen; omega) (by have := HL.out; omega) (by simp; omega) _ rfl ?_; intro g2 cap2 w2 hown2 hgrow2 hat2 hlt2; refine Hid.out ?_)
    refine Lib.hid ?_
    have hb2 := grown_below hgrow2
    have hB1 : w2.heap[w.heap.size]? = some (.cells #[.slice (some ⟨bb, oo, none⟩) l.length cap, .int .i64 o, .int .i64 g, .int .i64 f] 32 (0, 0)) := (hb2.block _ (by simp; omega)).trans (heap_alloc2_old _ _ _)
    have hB2 : w2.heap[w.heap.size + 1]? = some (.cells #[.slice none 0 0, .int .i64 0, .int .i64 0, .int .i64 0] 32 (0, 0)) := (hb2.block _ (by simp)).trans (heap_alloc2_new _ _ _)
    have c0 : w2.cell? ⟨w.heap.size, 0, none⟩ = some (.slice (some ⟨bb, oo, none⟩) l.length cap) := head_cell hB1 0
    have c1 : w2.cell? ⟨w.heap.size, 1, none⟩ = some (.int .i64 o) := head_cell hB1 1
    have c2 : w2.cell? ⟨w.heap.size, 2, none⟩ = some (.int .i64 g) := head_cell hB1 2
    have c3 : w2.cell? ⟨w.heap.size, 3, none⟩ = some (.int .i64 f) := head_cell hB1 3
    have d0 : w2.cell? ⟨w.heap.size + 1, 0, none⟩ = some (.slice none 0 0) := head_cell hB2 0
    have d1 : w2.cell? ⟨w.heap.size + 1, 1, none⟩ = some (.int .i64 0) := head_cell hB2 1
    have d2 : w2.cell? ⟨w.heap.size + 1, 2, none⟩ = some (.int .i64 0) := head_cell hB2 2
    have d3 : w2.cell? ⟨w.heap.size + 1, 3, none⟩ = some (.int .i64 0) := head_cell hB2 3
    have e0 := frozen_of_row w2 _ 0 _ _ hB1
    have f0 := frozen_of_row w2 _ 0 _ _ hB2
    have f1 := frozen_of_row w2 _ 1 _ _ hB2
    have f2 := frozen_of_row w2 _ 2 _ _ hB2
    have f3 := frozen_of_row w2 _ 3 _ _ hB2
    have hs2 : w.heap.size + 1 < w2.heap.size := by have := hb2.size; simp at this; omega
    have hg2 : g2 = w.heap.size + 2 := by
      rcases hat2 with h | h
      · cases h
      · rw [h]; simp
    have HO : Hid (w2.ownsRow w.heap.size 50 2 (.slice (some ⟨g2, 0, none⟩) l.length cap2) l.length (insC l)) := Lib.hid (by rw [Nat.zero_add] at hown2; exact hown2)
    have HB := Lib.hid (kept_trans hk hb2)
    have HG := Lib.hid hg2
    clear hown2 hgrow2 hat2 hlt2 hB1 hB2 hb2 hg2
    go_wp2
    refine bodyPost_ret (v := .agg #[.slice (some ⟨g2, 0, none⟩) l.length cap2, .int .i64 o, .int .i64 g, .int .i64 f]) (by simp [results, Try.results44, go_sem, d0, d1, d2, d3]) rfl ?_
    have ht : Turn (fun k => k = w.heap.size ∨ k = w.heap.size + 1) (fun k => k = w.heap.size ∨ k = w.heap.size + 1) w2 _ := ((((Turn.set w2 ⟨w.heap.size, 0, none⟩ (.slice (some ⟨g2, 0, none⟩) l.length cap2) (.inl rfl)).trans (Turn.set _ ⟨w.heap.size + 1, 0, none⟩ (.slice (some ⟨g2, 0, none⟩) l.length cap2) (.inr rfl))).trans (Turn.set _ ⟨w.heap.size + 1, 1, none⟩ (.int .i64 o) (.inr rfl))).trans (Turn.set _ ⟨w.heap.size + 1, 2, none⟩ (.int .i64 g) (.inr rfl))).trans (Turn.set _ ⟨w.heap.size + 1, 3, none⟩ (.int .i64 f) (.inr rfl))
    refine ⟨_, rfl, _, _, rfl, own_turn HO.out ht (fun k hk => ?_), HB.out.trans (ht.below (fun k hk => by omega) HB.out.size)⟩
    have hk : g2 = k := by simpa [Value.ownBlock] using hk
    have := HG.out
    omega
end Go.Proofs.Ytodhkphjlcjdoaa
