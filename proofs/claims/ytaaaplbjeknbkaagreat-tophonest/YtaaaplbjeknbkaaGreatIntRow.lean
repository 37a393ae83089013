/-
  Ints in a row of a law's own.
-/
import Derived.Test.YtaaaplbjeknbkaaGreatJ12
import Derived.Test.YtaaaplbjeknbkaaGreatJ2
set_option maxRecDepth 20000
namespace Go.Proofs.YtaaaplbjeknbkaaGreat
open Go.RowKit Go.Maps

variable {w w' : World} {B : Nat} {v : Value} {l : List Int}

def itV (x : Int) : Value := .int .i64 x
/-- The slice v holds these ints, in a block of its own from block B on. -/
abbrev OwnInt (w : World) (B : Nat) (v : Value) (l : List Int) : Prop := w.ownsRow B 3 1 v l.length (l.map itV)
theorem ownInt_nil (w : World) (B : Nat) : OwnInt w B (.slice none 0 0) [] := World.ownsRow_nil w B _ 1
theorem info_int : (Tryz.prog.info? 3).map (fun i => (i.zero, i.size, i.bytes)) = some (some (.int .i64 0), 1, 8) := by kernel_rfl
theorem append_int {ops : Array Oper} {rest : List Oper} {o : Oper} {a : Act} {Q : Exit → Act → World → Prop} (hgd : o.guard = none) (s x : Operand) (ho : o.op = .call { callee := .builtin .append, args := #[s, x], argTypes := #[76, 76] })
    (y : Int) (hs : a.eval s = v) (hx : a.eval x = .slice (some ⟨w.heap.size, 0, none⟩) 1 1) (hown : OwnInt w B v l) (hlen : l.length ≤ 1000000000000) (hB : B ≤ w.heap.size)
    (h : ∀ g cap w', OwnInt w' B (.slice (some ⟨g, 0, none⟩) (l.length + 1) cap) (l ++ [y]) → w.grownBy w' v.ownBlock → (v.ownBlock = some g ∨ w.heap.size ≤ g) → wpList Tryz.prog ops Q rest (a.put o.dst (.slice (some ⟨g, 0, none⟩) (l.length + 1) cap)) w') :
    wpList Tryz.prog ops Q (o :: rest) a (w.alloc (.cells #[.int .i64 y] 3)) := by
  obtain ⟨i0, hi0, hz0, hz1, hz2⟩ := info_parts info_int
  refine wpList_append_lies _ hgd s x 76 ho B 3 i0 (.int .i64 0) 1 8 Tryz.underlying76 hi0 hz0 hz1 hz2 rfl (by decide) v l.length (l.map itV) hs (hown.alloc _) ⟨w.heap.size, 0, none⟩ 1 1 [.int .i64 y] hx rfl (cells_new w _ _) (by simp [Value.oneCell']) (by decide) (by unfold maxLen; omega) (by omega) (by simp; omega) _ rfl ?_
  intro g cap w1 hown' hgrow hat _
  refine h g cap w1 ?_ ((World.grownBy_alloc w _ _).trans hgrow) (hat.imp id fun e => by rw [e]; simp)
  unfold OwnInt
  rw [List.length_append, List.map_append]
  exact hown'
theorem owns_intsAt (h : OwnInt w B v l) : ∃ a cap, v = .slice a l.length cap ∧ l.length ≤ cap ∧ Tr.IntsAt w a l ∧ Fresh B a := by
  rcases h.2 with ⟨hv, hn⟩ | ⟨g, cap, cur, hv, hB, hg, hc, _, _, _⟩
  · exact ⟨none, 0, by rw [hn]; exact hv, by omega, fun i hi => absurd hi (by omega), fun _ _ _ e => by cases e⟩
  · refine ⟨some ⟨g, 0, none⟩, cap, hv, hc, fun i hi => ⟨g, 0, rfl, (Array.getElem?_eq_some_iff.1 hg).1, ?_⟩, fun _ _ _ e => by cases e; exact hB⟩
    have hh := h
    rw [hv] at hh
    rw [Nat.zero_add, hh.cellAt i (by omega), List.getElem?_map, List.getElem?_eq_getElem hi]
    rfl
theorem intsAt_grown {a : Option Addr} {row : Option Nat} (h : Tr.IntsAt w a l) (hg : w.grownBy w' row) (hn : ∀ bb o, a = some ⟨bb, o, none⟩ → row ≠ some bb) : Tr.IntsAt w' a l := fun i hi => by
  obtain ⟨b, o, e, hlt, c⟩ := h i hi
  exact ⟨b, o, e, Nat.lt_of_lt_of_le hlt hg.size, (World.cell?_of_block (w := w) (a := ⟨b, o + i, none⟩) (hg.block b hlt (fun x => hn b o e x.symm))).trans c⟩
theorem intsAt_kept {a : Option Addr} (hb : Below w.heap.size w w') (h : Tr.IntsAt w a l) : Tr.IntsAt w' a l := fun i hi => by
  obtain ⟨b, o, e, hlt, c⟩ := h i hi
  exact ⟨b, o, e, Nat.lt_of_lt_of_le hlt hb.size, kept_cell hb c⟩
end Go.Proofs.YtaaaplbjeknbkaaGreat
