/-
  The contract of the reference's Copy of Ins; Ins where blocks are as they were.
-/
import Derived.Test.YtaaaplbjeknbkaaGreatJ3
set_option maxRecDepth 20000
namespace Go.Proofs.YtaaaplbjeknbkaaGreat
open Go.RowKit

theorem insAt_same {w w' : World} {a : Option Addr} {l : List InD} (h : InsAt w a l) (e : ∀ bb o, l ≠ [] → a = some ⟨bb, o, none⟩ → w'.heap[bb]? = w.heap[bb]?) (hs : w.heap.size ≤ w'.heap.size) : InsAt w' a l := fun i hi => by
  obtain ⟨bb, o, ea, hb, c0, c1, c2⟩ := h i hi
  have hs' := e bb o (fun e => by rw [e] at hi; simp at hi) ea
  exact ⟨bb, o, ea, Nat.lt_of_lt_of_le hb hs, (World.cell?_of_block (a := ⟨bb, o + i * 2, none⟩) hs').trans c0, (World.cell?_of_block (a := ⟨bb, o + i * 2 + 1, none⟩) hs').trans c1, c2⟩
/-- A copy of Ins. -/
def CopyI (w : World) (l : List InD) (e : Ending) (w' : World) : Prop := ∃ a cap, e = .returned (.slice a l.length cap) ∧ w'.ownsRow w.heap.size 62 2 (.slice a l.length cap) l.length (insC l) ∧ Below w.heap.size w w'
theorem copyIns_any (l : List InD) (a : Option Addr) (cap : Nat) (w : World) (hl : l.length ≤ 1000) (hi : InsAt w a l) :
    Calls Tryz.prog 29 #[.slice a l.length cap] w (CopyI w l) := by
  by_cases hnil : l = []
  · subst hnil
    have HE : Hid (CopyI w [] (.returned (.slice none 0 0)) w) := Lib.hid ⟨none, 0, rfl, World.ownsRow_nil _ _ _ _, Below.refl _ _⟩
    clear hl hi
    simp only [List.length_nil]
    go_enter Tryz.func29, Tryz.ntmps29
    go_wp2_with (at_builtin; refine step_append_none rfl _ _ rfl a cap rfl rfl ?_)
    go_ret
    exact HE.out
  · have hpos : 0 < l.length := List.length_pos_iff.2 hnil
    obtain ⟨bb, oo, rfl, hbl, _⟩ := hi 0 hpos
    obtain ⟨iE, hiE, hz0, hz1, hz2⟩ := info_parts info_in
    have HN := Lib.hid (ins_cells hi)
    have HL := Lib.hid hl
    clear hnil hi
    go_enter Tryz.func29, Tryz.ntmps29
    go_wp2_with (at_builtin; refine wpList_append_lies _ rfl _ _ 48 rfl w.heap.size 62 iE _ 2 16 Tryz.underlying48 hiE hz0 hz1 hz2 rfl (by decide) (.slice none 0 0) 0 [] rfl (World.ownsRow_nil _ _ _ _) ⟨bb, oo, none⟩ l.length cap (insC l) rfl (insC_length l) HN.out (insC_one l) hpos (by have := HL.out; unfold maxLen; omega) (by have := HL.out; omega) (Nat.le_refl _) _ rfl ?_; intro g2 cap2 w2 hown2 hgrow2 hat2 hlt2)
    have HE : Hid (CopyI w l (.returned (.slice (some ⟨g2, 0, none⟩) l.length cap2)) w2) := Lib.hid (by
      rw [Nat.zero_add] at hown2
      exact ⟨_, _, rfl, hown2, (Below.refl _ _).grown hgrow2 (Nat.le_refl _) (fun j hj => by cases hj)⟩)
    clear hown2 hgrow2 hat2
    go_wp2
    go_ret
    exact HE.out
end Go.Proofs.YtaaaplbjeknbkaaGreat
