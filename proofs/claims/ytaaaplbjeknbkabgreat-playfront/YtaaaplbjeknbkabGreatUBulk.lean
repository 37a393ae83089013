/-
  What the bound on the arguments' bulk says of their lengths.
-/
import Derived.Test.YtaaaplbjeknbkabGreatRows
import Derived.Test.YtaaaplbjeknbkabGreatUFrame
set_option maxRecDepth 20000
namespace Go.Proofs.YtaaaplbjeknbkabGreat

theorem bulk_one {H : Type} (d : DataW H) : 1 ≤ Rows.uptoBulk d := by
  cases d with
  | lit l => cases l <;> simp [Rows.uptoBulk]
  | nil => simp [Rows.uptoBulk]
  | ptr d => simp [Rows.uptoBulk]
  | slice elems spare => simp [Rows.uptoBulk]
  | agg parts => simp [Rows.uptoBulk]
  | iface t d => simp [Rows.uptoBulk]
  | map entries => simp [Rows.uptoBulk]
  | held h => simp [Rows.uptoBulk]
theorem bulk_part {H : Type} : ∀ (l : List (DataW H)) (i : Nat) (d : DataW H), l[i]? = some d → Rows.uptoBulk d ≤ Rows.uptoBulkAll l
  | x :: r, 0, d, h => by
    cases h
    simp only [Rows.uptoBulkAll]
    omega
  | x :: r, i + 1, d, h => by
    have := bulk_part r i d h
    simp only [Rows.uptoBulkAll]
    omega
theorem bulk_elems {H : Type} : ∀ (l : List (DataW H)), l.length ≤ Rows.uptoBulkAll l
  | [] => by simp [Rows.uptoBulkAll]
  | x :: r => by
    have h1 := bulk_one x
    have h2 := bulk_elems r
    simp only [Rows.uptoBulkAll, List.length_cons]
    omega
theorem bulk_all {H : Type} {l : List (DataW H)} (hk : Rows.uptoSmall H l = true) (i : Nat) (d : DataW H) (h : l[i]? = some d) : Rows.uptoBulk d ≤ 1048576 := by
  have h1 : Rows.uptoBulkAll l ≤ 1048576 := of_decide_eq_true hk
  exact Nat.le_trans (bulk_part l i d h) h1
theorem bulk_len {H α : Type} {d : DataW H} {l : List α} (h : l = [] ∨ ∃ elems spare, d = .slice elems spare ∧ elems.length = l.length) (hd : Rows.uptoBulk d ≤ 1048576) : l.length ≤ 1048576 := by
  rcases h with rfl | ⟨elems, spare, rfl, e⟩
  · simp
  · have := bulk_elems elems
    simp only [Rows.uptoBulk] at hd
    omega
end Go.Proofs.YtaaaplbjeknbkabGreat
