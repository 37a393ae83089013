/-
  Rows in blocks of their own, whatever their elements: stores, and clear of what lies behind. No function of a program is named here.
-/
import Derived.Test.YtihbcgdbennegaaBase
import Derived.Test.YtihbcgdbennegaaTurn
import Derived.Lib.SliceRun
import Derived.Deep.AppendLies
import Derived.Laws.OwnMore
namespace Go.Proofs.Ytihbcgdbennegaa
open Go.RowKit

theorem setCells_row (g : Nat) (e : TypeId) : ∀ (vs : List Value) (o : Nat) (w : World) (cur : Array Value), w.heap[g]? = some (.cells cur e (0, 0)) →
    ∃ cur', (w.setCells g o vs).heap[g]? = some (.cells cur' e (0, 0)) ∧ cur'.size = cur.size ∧ cur'.toList.take o = cur.toList.take o
  | [], o, w, cur, h => ⟨cur, h, rfl, rfl⟩
  | v :: r, o, w, cur, h => by
    obtain ⟨cur', h1, h2, h3⟩ := setCells_row g e r (o + 1) (w.setCell ⟨g, o, none⟩ v) (cur.setIfInBounds o v) (heap_setCell_same w g o cur e v h)
    refine ⟨cur', h1, by simpa using h2, ?_⟩
    have h4 := congrArg (List.take o) h3
    rw [List.take_take, List.take_take, Nat.min_eq_left (by omega), Array.toList_setIfInBounds, List.take_set_of_le (Nat.le_refl o)] at h4
    exact h4
theorem setCells_turn (g : Nat) {F : Nat → Prop} (hg : F g) : ∀ (vs : List Value) (o : Nat) (w : World), Turn F F w (w.setCells g o vs)
  | [], _, _ => Turn.refl _ _
  | v :: r, o, w => (Turn.set w ⟨g, o, none⟩ v hg).trans (setCells_turn g hg r (o + 1) (w.setCell ⟨g, o, none⟩ v))
theorem row_cell {w : World} {e : TypeId} {size : Nat} {g cap n : Nat} {xs : List Value} (h : w.ownsRow 0 e size (.slice (some ⟨g, 0, none⟩) n cap) n xs) (j : Nat) (hj : j < n * size) : (w.cell? ⟨g, j, none⟩).isSome = true := by
  rw [h.cellAt j hj, List.getElem?_eq_getElem (by rw [h.1]; exact hj)]
  rfl
theorem row_cut {w : World} {e : TypeId} {size : Nat} {g cap n : Nat} {xs : List Value} (h : w.ownsRow 0 e size (.slice (some ⟨g, 0, none⟩) n cap) n xs) (i : Nat) (hi : i ≤ n) : w.ownsRow 0 e size (.slice (some ⟨g, 0, none⟩) i cap) i (xs.take (i * size)) := by
  have hle : i * size ≤ n * size := Nat.mul_le_mul_right _ hi
  rcases h.2 with ⟨h', _⟩ | ⟨g', cap', cur, h', hb, hg, hnc, hcm, hcs, htake⟩
  · simp at h'
  · simp only [Value.slice.injEq, Option.some.injEq, Addr.mk.injEq, and_true, true_and] at h'
    obtain ⟨rfl, rfl⟩ := h'
    refine ⟨by rw [List.length_take, h.1]; omega, .inr ⟨g, cap, cur, rfl, hb, hg, by omega, hcm, hcs, ?_⟩⟩
    rw [← htake, List.take_take, Nat.min_eq_left hle]
theorem clear_row {t e : TypeId} {size : Nat} (z : Value) (ht : Try.prog.underlying t = some (.slice e)) (hv : ∀ w, (zeroValue e).run Try.prog w = .ok z w) (hzs : z.cells.size = size) (hsz : 0 < size) (h1 : ∀ v ∈ z.cells.toList, v.oneCell' = true) {w : World} {g cap i n : Nat} {xs : List Value} (hi : i < n)
    (ho : w.ownsRow 0 e size (.slice (some ⟨g, 0, none⟩) n cap) n xs) : ∃ w', (∀ ty, (Builtin.clear_ #[t] ty #[.slice (some ⟨g, i * size, none⟩) (n - i) (cap - i)]).run Try.prog w = .ok (.tuple #[]) w') ∧
      w'.ownsRow 0 e size (.slice (some ⟨g, 0, none⟩) i cap) i (xs.take (i * size)) ∧ Turn (fun k => k = g) (fun k => k = g) w w' := by
  have hzl : (Builtin.zeroCells z.cells (n - i)).toList.length = (n - i) * size := by simp [Builtin.zeroCells, hzs]
  have hz1 : ∀ v ∈ (Builtin.zeroCells z.cells (n - i)).toList, v.oneCell' = true := by
    intro v hv
    simp only [Builtin.zeroCells, Array.toList_map, List.mem_map] at hv
    obtain ⟨j, _, rfl⟩ := hv
    have hj : j % z.cells.size < z.cells.size := Nat.mod_lt _ (by omega)
    rw [getElem!_pos z.cells _ hj]
    exact h1 _ (by simp)
  have hmul : i * size + (n - i) * size = n * size := by rw [← Nat.add_mul, Nat.add_sub_cancel' (Nat.le_of_lt hi)]
  have hst := run_storeCells_cells (P := Try.prog) g (i * size) (Builtin.zeroCells z.cells (n - i)).toList 0 w (fun j hj => row_cell ho _ (by omega)) (fun j hj => ho.frozenAt _) hz1
  simp only [Nat.add_zero] at hst
  refine ⟨w.setCells g (i * size) (Builtin.zeroCells z.cells (n - i)).toList, fun ty => ?_, ?_, setCells_turn g (F := fun k => k = g) rfl _ _ _⟩
  · obtain ⟨m, hm⟩ : ∃ m, n - i = m + 1 := ⟨n - i - 1, by omega⟩
    rw [hm] at hst ⊢
    simp [Builtin.clear_, run_underlying ht, hv, hst]
  · have hc := row_cut ho i (by omega)
    rcases hc.2 with ⟨h', _⟩ | ⟨g', cap', cur, h', hb, hg, hnc, hcm, hcs, htake⟩
    · simp at h'
    · simp only [Value.slice.injEq, Option.some.injEq, Addr.mk.injEq, and_true, true_and] at h'
      obtain ⟨rfl, rfl⟩ := h'
      obtain ⟨cur', q1, q2, q3⟩ := setCells_row g e (Builtin.zeroCells z.cells (n - i)).toList (i * size) w cur hg
      exact ⟨hc.1, .inr ⟨g, cap, cur', rfl, hb, q1, hnc, hcm, by rw [q2]; exact hcs, by rw [q3]; exact htake⟩⟩
/-- How a list is filtered in place: one step. -/
theorem drop_at {α : Type} {m l : List α} {j : Nat} (h : m.drop j = l.drop j) (hm : j < m.length) (hl : j < l.length) : m[j] = l[j] ∧ m.drop (j + 1) = l.drop (j + 1) := by
  rw [List.drop_eq_getElem_cons hm, List.drop_eq_getElem_cons hl] at h
  exact List.cons.inj h
theorem take_filter_out {α : Type} {q : α → Bool} {m l : List α} {i j : Nat} (hl : j < l.length) (h : m.take i = (l.take j).filter q) (hq : q l[j] = false) : m.take i = (l.take (j + 1)).filter q := by
  rw [List.take_succ_eq_append_getElem hl, List.filter_append, List.filter_cons_of_neg (by rw [hq]; simp), List.filter_nil, List.append_nil]
  exact h
theorem take_filter_in {α : Type} {q : α → Bool} {m l : List α} {i j : Nat} (hi : i < m.length) (hl : j < l.length) (h : m.take i = (l.take j).filter q) (hq : q l[j] = true) : (m.set i l[j]).take (i + 1) = (l.take (j + 1)).filter q := by
  rw [List.take_succ_eq_append_getElem hl, List.filter_append, List.filter_cons_of_pos hq, List.filter_nil, List.take_succ_eq_append_getElem (by simpa using hi), List.take_set_of_le (Nat.le_refl i), h]
  simp
theorem drop_set {α : Type} {m : List α} {i j : Nat} (x : α) (h : i < j) : (m.set i x).drop j = m.drop j := by rw [List.drop_set_of_lt h]
theorem take_filter_start {α : Type} {q : α → Bool} {l : List α} {i : Nat} (h : l.findIdx? q = some i) : l.take i = (l.take (i + 1)).filter (fun e => !q e) := by
  obtain ⟨hi, h1, h2⟩ := List.findIdx?_eq_some_iff_getElem.1 h
  refine take_filter_out hi ?_ (by rw [h1]; rfl)
  rw [List.filter_eq_self.2]
  intro x hx
  obtain ⟨j, hj, rfl⟩ := List.mem_take_iff_getElem.1 hx
  have := h2 j (by omega)
  simpa using this
theorem filter_none {α : Type} {q : α → Bool} {l : List α} (h : l.findIdx? q = none) : l.filter (fun e => !q e) = l := by
  rw [List.filter_eq_self]
  intro x hx
  rw [List.findIdx?_eq_none_iff.1 h x hx]
  rfl
end Go.Proofs.Ytihbcgdbennegaa
