/-
  The reference's Copy of Ins and of IDs, however many they are.
-/
import Derived.Test.YtaaaplbjeknbkaaGreatCopyIns
import Derived.Test.YtaaaplbjeknbkaaGreatJ2
set_option maxRecDepth 20000
namespace Go.Proofs.YtaaaplbjeknbkaaGreat
open Go.RowKit

theorem copyIns_big (l : List InD) (a : Option Addr) (cap : Nat) (w : World) (hl : l.length ≤ 8796093022208) (hi : InsAt w a l) :
    Calls Tryz.prog 29 #[.slice a l.length cap] w (CopyI w l) := by
  by_cases hnil : l = []
  · subst hnil
    have HE : Hid (CopyI w [] (.returned (.slice none 0 0)) w) := Lib.hid ⟨none, 0, rfl, World.ownsRow_nil _ _ _ _, Below.refl _ _⟩
    clear hl hi
    simp only [List.length_nil]
    go_enter Tryz.func29, Tryz.ntmps29
    go_wp2_with (at_builtin; refine step_append_none rfl _ _ rfl a cap rfl rfl ?_)
    go_ret
    exact HE.out
  · have hpos : 0 < l.length := List.length_pos_iff.2 hnil
    obtain ⟨bb, oo, rfl, hbl, _⟩ := hi 0 hpos
    obtain ⟨iE, hiE, hz0, hz1, hz2⟩ := info_parts info_in
    have HN := Lib.hid (ins_cells hi)
    have HL := Lib.hid hl
    clear hnil hi
    go_enter Tryz.func29, Tryz.ntmps29
    go_wp2_with (at_builtin; refine wpList_append_lies _ rfl _ _ 48 rfl w.heap.size 62 iE _ 2 16 Tryz.underlying48 hiE hz0 hz1 hz2 rfl (by decide) (.slice none 0 0) 0 [] rfl (World.ownsRow_nil _ _ _ _) ⟨bb, oo, none⟩ l.length cap (insC l) rfl (insC_length l) HN.out (insC_one l) hpos (by have := HL.out; unfold maxLen; omega) (by have := HL.out; omega) (Nat.le_refl _) _ rfl ?_; intro g2 cap2 w2 hown2 hgrow2 hat2 hlt2)
    have HE : Hid (CopyI w l (.returned (.slice (some ⟨g2, 0, none⟩) l.length cap2)) w2) := Lib.hid (by
      rw [Nat.zero_add] at hown2
      exact ⟨_, _, rfl, hown2, (Below.refl _ _).grown hgrow2 (Nat.le_refl _) (fun j hj => by cases hj)⟩)
    clear hown2 hgrow2 hat2
    go_wp2
    go_ret
    exact HE.out
theorem info_uid : (Tryz.prog.info? 22).map (fun i => (i.zero, i.size, i.bytes)) = some (some (.int .u64 0), 1, 8) := by kernel_rfl
theorem append_noid (a : Option Addr) (cap : Nat) (ty : TypeId) (w : World) : (Builtin.append_ #[36, 36] ty #[.slice none 0 0, .slice a 0 cap]).run Tryz.prog w = .ok (.slice none 0 0) w := by
  obtain ⟨iE, hiE, _, hz1, _⟩ := info_parts info_uid
  cases a with
  | none => simp [Builtin.append_, run_underlying Tryz.underlying36, Builtin.lenOf, Builtin.firstCells, sizeOf, typeInfo, hiE]
  | some ad => simp [Builtin.append_, run_underlying Tryz.underlying36, Builtin.lenOf, Builtin.firstCells, sizeOf, typeInfo, hiE, loadCells, loadCellsFrom]
theorem step_append_noid {ops : Array Oper} {rest : List Oper} {o : Oper} {a : Act} {Q : Exit → Act → World → Prop} {w : World} (hgd : o.guard = none) (s x : Operand) (ho : o.op = .call { callee := .builtin .append, args := #[s, x], argTypes := #[36, 36] })
    (ad : Option Addr) (cap : Nat) (hs : a.eval s = .slice none 0 0) (hx : a.eval x = .slice ad 0 cap) (h : wpList Tryz.prog ops Q rest (a.put o.dst (.slice none 0 0)) w) : wpList Tryz.prog ops Q (o :: rest) a w := by
  refine wpList_plain hgd fun K' hK' => ?_
  unfold Oper.wp
  simp [execOp, ho, resolve, invoke, builtin, hs, hx, append_noid, Result.andThen]
  exact hK' _ _ h
theorem copyIds_big (l : List UInt64) (n : Nat) (hn : l.length = n) (a : Option Addr) (cap : Nat) (w : World) (hl : n ≤ 10000000000000) (hi : IdsAt w a l) :
    Calls Tryz.prog 30 #[.slice a n cap] w fun e w' => ∃ g c, e = .returned (.slice g n c) ∧ IdsAt w' g l ∧ Fresh w.heap.size g ∧ Below w.heap.size w w' := by
  subst hn
  by_cases hnil : l = []
  · subst hnil
    have HE : Hid (∃ g c, Ending.returned (.slice none 0 0) = .returned (.slice g ([] : List UInt64).length c) ∧ IdsAt w g [] ∧ Fresh w.heap.size g ∧ Below w.heap.size w w) := Lib.hid ⟨none, 0, rfl, fun i hi => absurd hi (by simp), (fun _ _ _ e => by cases e), Below.refl _ _⟩
    obtain ⟨i0, hi0, hz0, hz1, hz2⟩ := info_parts info_uid
    clear hl hi
    simp only [List.length_nil] at HE ⊢
    go_enter Tryz.func30, Tryz.ntmps30
    go_wp2_with (at_builtin; refine step_append_noid rfl _ _ rfl a cap rfl rfl ?_)
    go_ret
    exact HE.out
  · have hpos : 0 < l.length := List.length_pos_iff.2 hnil
    obtain ⟨bb, oo, rfl, hbl, _⟩ := hi 0 hpos
    obtain ⟨i0, hi0, hz0, hz1, hz2⟩ := info_parts info_uid
    have hnews : ∀ j u, (l.map idV)[j]? = some u → w.cell? ((⟨bb, oo, none⟩ : Addr).add j) = some u := fun j u hu => by
      have hj : j < l.length := by
        rcases Nat.lt_or_ge j l.length with h | h
        · exact h
        · rw [List.getElem?_eq_none (by simpa using h)] at hu; cases hu
      obtain ⟨b', o', e, _, hc⟩ := hi j hj
      cases e
      have f0 : (⟨bb, oo, none⟩ : Addr).add j = ⟨bb, oo + j, none⟩ := by unfold Addr.add; split <;> simp_all
      rw [f0, hc]
      rw [List.getElem?_map, List.getElem?_eq_getElem hj] at hu
      exact hu
    have hone : ∀ u ∈ l.map idV, u.oneCell' = true := fun u hu => by
      obtain ⟨z, _, rfl⟩ := List.mem_map.1 hu
      rfl
    have hnil' := World.ownsRow_nil w w.heap.size 22 1
    have HN := Lib.hid hnews
    have HL := Lib.hid hl
    clear hi hnil hnews
    go_enter Tryz.func30, Tryz.ntmps30
    go_wp2_with (at_builtin; refine wpList_append_lies _ rfl _ _ 36 rfl w.heap.size 22 i0 (.int .u64 0) 1 8 Tryz.underlying36 hi0 hz0 hz1 hz2 rfl (by decide) _ 0 [] rfl hnil' ⟨bb, oo, none⟩ l.length cap (l.map idV) rfl (by simp) HN.out hone hpos (by have := HL.out; unfold maxLen; omega) (by have := HL.out; omega) (Nat.le_refl _) _ rfl ?_; intro g c w1 hown hgrow hat hlt)
    have HE : Hid (∃ g' c', Ending.returned (.slice (some ⟨g, 0, none⟩) l.length c) = .returned (.slice g' l.length c') ∧ IdsAt w1 g' l ∧ Fresh w.heap.size g' ∧ Below w.heap.size w w1) := Lib.hid (by
      have ho : OwnIds w1 w.heap.size (.slice (some ⟨g, 0, none⟩) l.length c) l := by simpa using hown
      obtain ⟨a', c', e', _, hat', hfr'⟩ := owns_idsAt ho
      simp only [Value.slice.injEq] at e'
      obtain ⟨rfl, _, rfl⟩ := e'
      exact ⟨_, _, rfl, hat', hfr', (Below.refl _ _).grown hgrow (Nat.le_refl _) (fun k hk => by cases hk)⟩)
    clear hown hgrow hat
    go_wp2
    go_ret
    exact HE.out
end Go.Proofs.YtaaaplbjeknbkaaGreat
