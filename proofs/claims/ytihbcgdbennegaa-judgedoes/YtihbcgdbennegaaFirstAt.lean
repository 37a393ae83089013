/-
  The place of the first one in a list that is chosen. No program is named here.
-/
import Derived.Test.YtihbcgdbennegaaBase
namespace Go.Proofs.Ytihbcgdbennegaa
open Go.RowKit

/-- Where the first one is that is chosen, or -1. -/
def firstAt {α : Type} (q : α → Bool) (l : List α) : Int := match l.findIdx? q with | some k => (k : Int) | none => -1

theorem firstAt_hit {α : Type} {q : α → Bool} {l : List α} {k : Nat} (h : k < l.length) (n : (l.take k).findIdx? q = none) (e : q l[k] = true) : firstAt q l = (k : Int) := by
  unfold firstAt
  have : l.findIdx? q = some k := by
    rw [List.findIdx?_eq_some_iff_getElem]
    refine ⟨h, e, fun j hj => ?_⟩
    have h2 := List.findIdx?_eq_none_iff.1 n l[j] (List.mem_take_iff_getElem.2 ⟨j, by omega, rfl⟩)
    simpa using h2
  rw [this]
theorem firstAt_miss {α : Type} {q : α → Bool} {l : List α} {k : Nat} (h : k < l.length) (n : (l.take k).findIdx? q = none) (e : q l[k] = false) : (l.take (k + 1)).findIdx? q = none := by
  rw [List.findIdx?_eq_none_iff] at n ⊢
  rw [List.take_succ_eq_append_getElem h]
  intro x hx
  rcases List.mem_append.1 hx with hx | hx
  · exact n x hx
  · rw [List.mem_singleton.1 hx]; exact e
/-- A captured cell. -/
def CellIs (c : Nat) (v : Value) (w : World) : Prop := w.cell? ⟨c, 0, none⟩ = some v
theorem cellIs_kept (c : Nat) (v : Value) (a b : World) (h : CellIs c v a) (hb : Below a.heap.size a b) : CellIs c v b := kept_cell hb h
theorem cellIs_set {c g : Nat} (v : Value) (hc : c ≠ g) (a : World) (j : Nat) (u : Value) (h : CellIs c v a) : CellIs c v (a.setCell ⟨g, j, none⟩ u) := (World.cell?_of_block (a := ⟨c, 0, none⟩) (Below.heap_setCell a ⟨g, j, none⟩ u c hc)).trans h
theorem cellIs_new (w : World) (v : Value) (t : TypeId) : CellIs w.heap.size v (w.alloc (.cells #[v] t)) := by simp [CellIs, go_sem]
theorem beq_nat (a b : Nat) : ((a : Int) == (b : Int)) = (a == b) := by
  rw [Bool.eq_iff_iff, beq_iff_eq, beq_iff_eq]
  omega
theorem firstAt_neg {α : Type} (q : α → Bool) (l : List α) : decide (firstAt q l ≥ 0) = l.any q := by
  unfold firstAt
  cases h : l.findIdx? q with
  | none =>
    have := List.findIdx?_eq_none_iff.1 h
    rw [show l.any q = false by rw [List.any_eq_false]; intro x hx; rw [this x hx]; simp]
    simp
  | some k =>
    obtain ⟨hk, h1, _⟩ := List.findIdx?_eq_some_iff_getElem.1 h
    rw [show l.any q = true from List.any_eq_true.2 ⟨_, List.getElem_mem hk, h1⟩]
    simp
end Go.Proofs.Ytihbcgdbennegaa
