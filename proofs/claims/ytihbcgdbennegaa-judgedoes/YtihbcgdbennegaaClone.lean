/-
  The contract of deed.Clone: a deed whose Ins lie in a new block.
-/
import Derived.Test.YtihbcgdbennegaaOwns
import Derived.Deep.AppendLies
import Derived.Shelf.SlMaps.Clone
namespace Go.Proofs.Ytihbcgdbennegaa
open Go.RowKit

theorem info_in : (Try.prog.info? 52).map (fun i => (i.zero, i.size, i.bytes)) = some (some (.agg #[.int .u64 0, .int .i64 0]), 2, 16) := by kernel_rfl
theorem insC_one (l : List InD) : ∀ u ∈ insC l, u.oneCell' = true := fun u hu => by
  unfold insC at hu
  obtain ⟨x, _, hx⟩ := List.mem_flatMap.1 hu
  simp only [inC, List.mem_cons, List.not_mem_nil, or_false] at hx
  rcases hx with rfl | rfl <;> rfl
theorem ins_cells {w : World} {bb o : Nat} {l : List InD} (h : InsAt w (some ⟨bb, o, none⟩) l) : ∀ j u, (insC l)[j]? = some u → w.cell? ((⟨bb, o, none⟩ : Addr).add j) = some u := fun j u hj => by
  have hl : j < (insC l).length := (List.getElem?_eq_some_iff.1 hj).1
  rw [insC_length] at hl
  have hi : j / 2 < l.length := by omega
  have e2 := insC_at l (j / 2) hi (j % 2) (by omega)
  rw [show j / 2 * 2 + j % 2 = j by omega, hj] at e2
  obtain ⟨b', o', e, _, c0, c1, _⟩ := h (j / 2) hi
  simp only [Option.some.injEq, Addr.mk.injEq, and_true] at e
  obtain ⟨rfl, rfl⟩ := e
  have e3 : (⟨bb, o, none⟩ : Addr).add j = ⟨bb, o + j, none⟩ := by unfold Addr.add; split <;> simp_all
  rw [e3]
  have hm : j % 2 = 0 ∨ j % 2 = 1 := by omega
  rcases hm with hm | hm
  · rw [hm] at e2
    rw [show o + j = o + j / 2 * 2 by omega, c0, e2]
    rfl
  · rw [hm] at e2
    rw [show o + j = o + j / 2 * 2 + 1 by omega, c1, e2]
    rfl
theorem append_none (a : Option Addr) (cap : Nat) (ty : TypeId) (w : World) : (Builtin.append_ #[28, 28] ty #[.slice none 0 0, .slice a 0 cap]).run Try.prog w = .ok (.slice none 0 0) w := by
  obtain ⟨iE, hiE, _, hz1, _⟩ := info_parts info_in
  cases a with
  | none => simp [Builtin.append_, run_underlying Try.underlying28, Builtin.lenOf, Builtin.firstCells, sizeOf, typeInfo, hiE]
  | some ad => simp [Builtin.append_, run_underlying Try.underlying28, Builtin.lenOf, Builtin.firstCells, sizeOf, typeInfo, hiE, loadCells, loadCellsFrom]
theorem step_append_none {ops : Array Oper} {rest : List Oper} {o : Oper} {a : Act} {Q : Exit → Act → World → Prop} {w : World} (hgd : o.guard = none) (s x : Operand) (ho : o.op = .call { callee := .builtin .append, args := #[s, x], argTypes := #[28, 28] })
    (ad : Option Addr) (cap : Nat) (hs : a.eval s = .slice none 0 0) (hx : a.eval x = .slice ad 0 cap) (h : wpList Try.prog ops Q rest (a.put o.dst (.slice none 0 0)) w) : wpList Try.prog ops Q (o :: rest) a w := by
  refine wpList_plain hgd fun K' hK' => ?_
  unfold Oper.wp
  simp [execOp, ho, resolve, invoke, builtin, hs, hx, append_none, Result.andThen]
  exact hK' _ _ h
/-- The answer is this deed, its Ins in a block of their own that is new. -/
def Cloned (w : World) (d : DeedD) (v : Value) (w' : World) : Prop := ∃ a c, v = .agg #[.slice a d.ins.length c, .int .i64 d.outs, .int .i64 d.weight, .int .i64 d.fee] ∧ w'.ownsRow w.heap.size 52 2 (.slice a d.ins.length c) d.ins.length (insC d.ins) ∧ Below w.heap.size w w'
set_option maxRecDepth 20000 in
theorem clone_any (d : DeedD) (a : Option Addr) (cap : Nat) (w : World) (hl : d.ins.length ≤ 8) (hi : InsAt w a d.ins) :
    Calls Try.prog 42 #[.agg #[.slice a d.ins.length cap, .int .i64 d.outs, .int .i64 d.weight, .int .i64 d.fee]] w fun e w' => ∃ v, e = .returned v ∧ Cloned w d v w' := by
  obtain ⟨l, o, g, f⟩ := d
  simp only at hl hi ⊢
  by_cases hnil : l = []
  · subst hnil
    have HE : ∀ w2, Below w.heap.size w w2 → Cloned w ⟨[], o, g, f⟩ (.agg #[.slice none 0 0, .int .i64 o, .int .i64 g, .int .i64 f]) w2 := fun w2 hb => ⟨none, 0, rfl, World.ownsRow_nil _ _ _ _, hb⟩
    have HE := Lib.hid HE
    clear hl hi
    simp only [List.length_nil]
    go_enter Try.func42, Try.ntmps42
    go_wp2_with (at_builtin; refine step_append_none rfl _ _ rfl a cap rfl rfl ?_)
    refine bodyPost_ret (v := .agg #[.slice none 0 0, .int .i64 o, .int .i64 g, .int .i64 f]) (by simp [results, Try.results42, go_sem]) rfl ?_
    exact ⟨_, rfl, HE.out _ (kept_alloc (kept_new _ _) _)⟩
  · have hpos : 0 < l.length := List.length_pos_iff.2 hnil
    obtain ⟨bb, oo, rfl, hbl, _, _, _⟩ := hi 0 hpos
    obtain ⟨iE, hiE, hz0, hz1, hz2⟩ := info_parts info_in
    have hk : Below w.heap.size w ((w.alloc (.cells #[.slice (some ⟨bb, oo, none⟩) l.length cap, .int .i64 o, .int .i64 g, .int .i64 f] 30)).alloc (.cells #[.slice none 0 0, .int .i64 0, .int .i64 0, .int .i64 0] 30)) := kept_alloc (kept_new _ _) _
    have HN := Lib.hid (ins_cells (insAt_kept hk hi))
    have HL := Lib.hid hl
    clear hnil hi
    go_enter Try.func42, Try.ntmps42
    go_wp2_with (at_builtin; refine wpList_append_lies _ rfl _ _ 28 rfl w.heap.size 52 iE _ 2 16 Try.underlying28 hiE hz0 hz1 hz2 rfl (by decide) (.slice none 0 0) 0 [] rfl (World.ownsRow_nil _ _ _ _) ⟨bb, oo, none⟩ l.length cap (insC l) rfl (insC_length l) HN.out (insC_one l) hpos (by have := HL.out; unfold maxLen; omega) (by have := HL.out; omega) (by simp; omega) _ rfl ?_; intro g2 cap2 w2 hown2 hgrow2 hat2 hlt2; refine Hid.out ?_)
    refine Lib.hid ?_
    have hb2 := grown_below hgrow2
    have hB1 : w2.heap[w.heap.size]? = some (.cells #[.slice (some ⟨bb, oo, none⟩) l.length cap, .int .i64 o, .int .i64 g, .int .i64 f] 30 (0, 0)) := (hb2.block _ (by simp; omega)).trans (heap_alloc2_old _ _ _)
    have hB2 : w2.heap[w.heap.size + 1]? = some (.cells #[.slice none 0 0, .int .i64 0, .int .i64 0, .int .i64 0] 30 (0, 0)) := (hb2.block _ (by simp)).trans (heap_alloc2_new _ _ _)
    have c0 : w2.cell? ⟨w.heap.size, 0, none⟩ = some (.slice (some ⟨bb, oo, none⟩) l.length cap) := head_cell hB1 0
    have c1 : w2.cell? ⟨w.heap.size, 1, none⟩ = some (.int .i64 o) := head_cell hB1 1
    have c2 : w2.cell? ⟨w.heap.size, 2, none⟩ = some (.int .i64 g) := head_cell hB1 2
    have c3 : w2.cell? ⟨w.heap.size, 3, none⟩ = some (.int .i64 f) := head_cell hB1 3
    have d0 : w2.cell? ⟨w.heap.size + 1, 0, none⟩ = some (.slice none 0 0) := head_cell hB2 0
    have d1 : w2.cell? ⟨w.heap.size + 1, 1, none⟩ = some (.int .i64 0) := head_cell hB2 1
    have d2 : w2.cell? ⟨w.heap.size + 1, 2, none⟩ = some (.int .i64 0) := head_cell hB2 2
    have d3 : w2.cell? ⟨w.heap.size + 1, 3, none⟩ = some (.int .i64 0) := head_cell hB2 3
    have e0 := frozen_of_row w2 _ 0 _ _ hB1
    have f0 := frozen_of_row w2 _ 0 _ _ hB2
    have f1 := frozen_of_row w2 _ 1 _ _ hB2
    have f2 := frozen_of_row w2 _ 2 _ _ hB2
    have f3 := frozen_of_row w2 _ 3 _ _ hB2
    have hs2 : w.heap.size + 1 < w2.heap.size := by have := hb2.size; simp at this; omega
    have hg2 : g2 = w.heap.size + 2 := by
      rcases hat2 with h | h
      · cases h
      · rw [h]; simp
    have HO : Hid (w2.ownsRow w.heap.size 52 2 (.slice (some ⟨g2, 0, none⟩) l.length cap2) l.length (insC l)) := Lib.hid (by rw [Nat.zero_add] at hown2; exact hown2)
    have HB := Lib.hid (kept_trans hk hb2)
    have HG := Lib.hid hg2
    clear hown2 hgrow2 hat2 hlt2 hB1 hB2 hb2 hg2
    go_wp2
    refine bodyPost_ret (v := .agg #[.slice (some ⟨g2, 0, none⟩) l.length cap2, .int .i64 o, .int .i64 g, .int .i64 f]) (by simp [results, Try.results42, go_sem, d0, d1, d2, d3]) rfl ?_
    have ht : Turn (fun k => k = w.heap.size ∨ k = w.heap.size + 1) (fun k => k = w.heap.size ∨ k = w.heap.size + 1) w2 _ := ((((Turn.set w2 ⟨w.heap.size, 0, none⟩ (.slice (some ⟨g2, 0, none⟩) l.length cap2) (.inl rfl)).trans (Turn.set _ ⟨w.heap.size + 1, 0, none⟩ (.slice (some ⟨g2, 0, none⟩) l.length cap2) (.inr rfl))).trans (Turn.set _ ⟨w.heap.size + 1, 1, none⟩ (.int .i64 o) (.inr rfl))).trans (Turn.set _ ⟨w.heap.size + 1, 2, none⟩ (.int .i64 g) (.inr rfl))).trans (Turn.set _ ⟨w.heap.size + 1, 3, none⟩ (.int .i64 f) (.inr rfl))
    refine ⟨_, rfl, _, _, rfl, own_turn HO.out ht (fun k hk => ?_), HB.out.trans (ht.below (fun k hk => by omega) HB.out.size)⟩
    have hk : g2 = k := by simpa [Value.ownBlock] using hk
    have := HG.out
    omega
theorem map_not_nil (w : World) (b : Nat) : (binOp .eql 58 (.map (some b)) (.map none)).run Try.prog w = .ok (.bool false) w := run_eql_map_nil_sl (P := Try.prog) w 58 _ _ (some b) Try.underlying58
end Go.Proofs.Ytihbcgdbennegaa
