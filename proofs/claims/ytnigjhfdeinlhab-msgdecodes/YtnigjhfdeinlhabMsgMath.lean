/-
  Messages as plain data: what Check answers, what Encode and Decode answer, the ways back. No program is named here.
-/
import Derived.Test.YtnigjhfdeinlhabDecMath
namespace Go.Proofs.Ytnigjhfdeinlhab

structure MsgD where
  kind : Int
  ids : List UInt64
  body : ByteArray

/-- P6: the first error. -/
def checkM (m : MsgD) : Int :=
  if within m.kind 1 4 = false then 1 else if (m.kind = 3 ∧ 0 < m.ids.length) ∨ (m.kind ≠ 3 ∧ 0 < m.body.size) then 4
  else if 20 < m.ids.length ∨ 100 < m.body.size then 2 else if m.ids.length = 0 ∧ m.body.size = 0 then 4 else if m.ids.Nodup then 0 else 6
def zeroM : MsgD := ⟨0, [], ⟨#[]⟩⟩

theorem within_known {k : Int} (h : within k 1 4 = true) : k = 1 ∨ k = 2 ∨ k = 3 ∨ k = 4 := by
  have := of_decide_eq_true (p := 1 ≤ k ∧ k ≤ 4) h
  omega
theorem checkM_kind {m : MsgD} (h : within m.kind 1 4 = false) : checkM m = 1 := by unfold checkM; rw [if_pos h]
theorem checkM_form {m : MsgD} (h : within m.kind 1 4 = true) (h1 : (m.kind = 3 ∧ 0 < m.ids.length) ∨ (m.kind ≠ 3 ∧ 0 < m.body.size)) : checkM m = 4 := by
  unfold checkM; rw [if_neg (by rw [h]; decide), if_pos h1]
theorem checkM_large {m : MsgD} (h : within m.kind 1 4 = true) (h1 : ¬ ((m.kind = 3 ∧ 0 < m.ids.length) ∨ (m.kind ≠ 3 ∧ 0 < m.body.size))) (h2 : 20 < m.ids.length ∨ 100 < m.body.size) : checkM m = 2 := by
  unfold checkM; rw [if_neg (by rw [h]; decide), if_neg h1, if_pos h2]
theorem checkM_none {m : MsgD} (h : within m.kind 1 4 = true) (h1 : ¬ ((m.kind = 3 ∧ 0 < m.ids.length) ∨ (m.kind ≠ 3 ∧ 0 < m.body.size))) (h2 : ¬ (20 < m.ids.length ∨ 100 < m.body.size)) (h3 : m.ids.length = 0 ∧ m.body.size = 0) : checkM m = 4 := by
  unfold checkM; rw [if_neg (by rw [h]; decide), if_neg h1, if_neg h2, if_pos h3]
theorem checkM_rest {m : MsgD} (h : within m.kind 1 4 = true) (h1 : ¬ ((m.kind = 3 ∧ 0 < m.ids.length) ∨ (m.kind ≠ 3 ∧ 0 < m.body.size))) (h2 : ¬ (20 < m.ids.length ∨ 100 < m.body.size)) (h3 : ¬ (m.ids.length = 0 ∧ m.body.size = 0)) : checkM m = if m.ids.Nodup then 0 else 6 := by
  unfold checkM; rw [if_neg (by rw [h]; decide), if_neg h1, if_neg h2, if_neg h3]
/-- A message that has no error: Bring with a body, or another kind with IDs. -/
theorem checkM_ok {m : MsgD} (h : checkM m = 0) : within m.kind 1 4 = true ∧ ((m.kind = 3 ∧ m.ids = [] ∧ 0 < m.body.size ∧ m.body.size ≤ 100) ∨ (m.kind ≠ 3 ∧ m.body.size = 0 ∧ 0 < m.ids.length ∧ m.ids.length ≤ 20 ∧ m.ids.Nodup)) := by
  unfold checkM at h
  split at h
  · cases h
  · rename_i h0
    split at h
    · cases h
    · rename_i h1
      split at h
      · cases h
      · rename_i h2
        split at h
        · cases h
        · rename_i h3
          split at h
          · rename_i h4
            refine ⟨by simpa using h0, ?_⟩
            by_cases hk : m.kind = 3
            · have hl : m.ids.length = 0 := by omega
              exact .inl ⟨hk, List.eq_nil_of_length_eq_zero hl, by omega, by omega⟩
            · exact .inr ⟨hk, by omega, by omega, by omega, h4⟩
          · cases h

theorem nodup_snoc {l : List UInt64} {k : Nat} (h : k < l.length) : (l.take (k + 1)).Nodup ↔ (l.take k).Nodup ∧ (l.take k).contains l[k] = false := by
  rw [List.take_succ_eq_append_getElem h, List.nodup_append]
  constructor
  · rintro ⟨h1, _, h3⟩
    refine ⟨h1, ?_⟩
    rw [← Bool.not_eq_true, List.contains_iff_mem]
    intro hm
    exact h3 _ hm _ (by simp) rfl
  · rintro ⟨h1, h2⟩
    refine ⟨h1, by simp, fun a ha b hb => ?_⟩
    simp only [List.mem_singleton] at hb
    subst hb
    intro e
    subst e
    rw [List.contains_iff_mem.2 ha] at h2
    cases h2
theorem nodup_of_take {l : List UInt64} (k : Nat) (h : l.Nodup) : (l.take k).Nodup := h.sublist (List.take_sublist _ _)
theorem not_nodup {l : List UInt64} {k : Nat} (h : k < l.length) (h1 : (l.take k).contains l[k] = true) : ¬ l.Nodup := fun hn => by
  have := (nodup_snoc h).1 (nodup_of_take (k + 1) hn)
  rw [h1] at this
  cases this.2

/-- IDs as bytes. -/
def encI (l : List UInt64) : List UInt8 := l.flatMap fun x => be 8 x.toNat
theorem encI_length : ∀ l, (encI l).length = 8 * l.length
  | [] => rfl
  | x :: r => by
    have := encI_length r
    unfold encI at *
    simp [be_length, this]
    omega
theorem encI_take {l : List UInt64} {k : Nat} (h : k < l.length) : encI (l.take (k + 1)) = encI (l.take k) ++ be 8 l[k].toNat := by
  unfold encI
  rw [List.take_succ_eq_append_getElem h, List.flatMap_append]
  simp
/-- P6: the encoding of a message that has no error. -/
def encM (m : MsgD) : List UInt8 :=
  if m.kind = 3 then UInt8.ofNat m.kind.toNat :: m.body.data.toList else UInt8.ofNat m.kind.toNat :: UInt8.ofNat m.ids.length :: encI m.ids
theorem encM_bring {m : MsgD} (h : m.kind = 3) : encM m = [UInt8.ofNat m.kind.toNat] ++ m.body.data.toList := by unfold encM; rw [if_pos h]; rfl
theorem encM_ids {m : MsgD} (h : m.kind ≠ 3) : encM m = [UInt8.ofNat m.kind.toNat] ++ [UInt8.ofNat m.ids.length] ++ encI m.ids := by unfold encM; rw [if_neg h]; rfl
theorem encM_ne (m : MsgD) : encM m ≠ [] := by unfold encM; split <;> simp
end Go.Proofs.Ytnigjhfdeinlhab
