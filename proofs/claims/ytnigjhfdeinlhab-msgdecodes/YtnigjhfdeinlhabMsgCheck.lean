/-
  Contracts of the program's msg.Check and of the reference's MsgCheck: both answer 'checkM'.
-/
import Derived.Test.YtnigjhfdeinlhabIds
namespace Go.Proofs.Ytnigjhfdeinlhab
open Go.RowKit

/-- A message as a value: its IDs lie behind address a. -/
def msgV (a : Option Addr) (cap : Nat) (m : MsgD) : Value := .agg #[.int .i64 m.kind, .slice a m.ids.length cap, .string m.body]
/-- The box of a message. -/
abbrev msgBox (a : Option Addr) (cap : Nat) (m : MsgD) : Obj := .cells #[.int .i64 m.kind, .slice a m.ids.length cap, .string m.body] 24
/-- The three cells of a box, in whatever later world. -/
theorem box_three {w wr : World} {u v x : Value} {t : TypeId} (h : Below (w.alloc (.cells #[u, v, x] t)).heap.size (w.alloc (.cells #[u, v, x] t)) wr) :
    wr.cell? ⟨w.heap.size, 0, none⟩ = some u ∧ wr.cell? ⟨w.heap.size, 1, none⟩ = some v ∧ wr.cell? ⟨w.heap.size, 2, none⟩ = some x ∧ w.heap.size < wr.heap.size :=
  ⟨kept_cell h (by simp [go_sem]), kept_cell h (by simp [go_sem]), kept_cell h (by simp [go_sem]), by have := h.size; simp at this; omega⟩

theorem mcheck_kind (k : Int) (n : Nat) (s : ByteArray) (a : Option Addr) (cap : Nat) (w : World) (h : within k 1 4 = false) :
    Calls Try.prog 10 #[.agg #[.int .i64 k, .slice a n cap, .string s]] w fun e w' => e = .returned (.int .i64 1) ∧ Below w.heap.size w w' := by
  have HW := Lib.hid h
  clear h
  go_enter Try.func10, Try.ntmps10
  go_wp2_with fail
  with_reducible refine (known_no _ _ HW.out).mono ?_
  rintro e w' ⟨rfl, rfl⟩
  go_wp2_with fail
  go_ret
  exact ⟨rfl, kept_new _ _⟩
/-- Bring with IDs. -/
theorem mcheck_ids (n : Nat) (s : ByteArray) (a : Option Addr) (cap : Nat) (w : World) (hn : 0 < n) :
    Calls Try.prog 10 #[.agg #[.int .i64 3, .slice a n cap, .string s]] w fun e w' => e = .returned (.int .i64 4) ∧ Below w.heap.size w w' := by
  go_enter Try.func10, Try.ntmps10
  go_wp2_with fail
  with_reducible refine (known_yes _ _ (by decide)).mono ?_
  rintro e w' ⟨rfl, rfl⟩
  go_wp2_with fail
  go_ret
  exact ⟨rfl, kept_new _ _⟩
theorem mcheck_body (k : Int) (n : Nat) (s : ByteArray) (a : Option Addr) (cap : Nat) (w : World) (h : within k 1 4 = true) (hk : k ≠ 3) (hs : s.size ≠ 0) :
    Calls Try.prog 10 #[.agg #[.int .i64 k, .slice a n cap, .string s]] w fun e w' => e = .returned (.int .i64 4) ∧ Below w.heap.size w w' := by
  have HW := Lib.hid h
  clear h
  have hk3 : (k == 3) = false := beq_eq_false_iff_ne.2 hk
  have he := empty_no hs
  go_enter Try.func10, Try.ntmps10
  go_wp2_with fail
  with_reducible refine (known_yes _ _ HW.out).mono ?_
  rintro e w' ⟨rfl, rfl⟩
  go_wp2_with fail
  go_ret
  exact ⟨rfl, kept_new _ _⟩
theorem mcheck_bring_large (s : ByteArray) (a : Option Addr) (cap : Nat) (w : World) (hs : 100 < s.size) :
    Calls Try.prog 10 #[.agg #[.int .i64 3, .slice a 0 cap, .string s]] w fun e w' => e = .returned (.int .i64 2) ∧ Below w.heap.size w w' := by
  go_enter Try.func10, Try.ntmps10
  go_wp2_with fail
  with_reducible refine (known_yes _ _ (by decide)).mono ?_
  rintro e w' ⟨rfl, rfl⟩
  go_wp2_with fail
  go_ret
  exact ⟨rfl, kept_new _ _⟩
theorem mcheck_bring_none (s : ByteArray) (a : Option Addr) (cap : Nat) (w : World) (hs : s.size = 0) :
    Calls Try.prog 10 #[.agg #[.int .i64 3, .slice a 0 cap, .string s]] w fun e w' => e = .returned (.int .i64 4) ∧ Below w.heap.size w w' := by
  have he := empty_yes hs
  go_enter Try.func10, Try.ntmps10
  go_wp2_with fail
  with_reducible refine (known_yes _ _ (by decide)).mono ?_
  rintro e w' ⟨rfl, rfl⟩
  go_wp2_with fail
  go_ret
  exact ⟨rfl, kept_new _ _⟩
theorem repeatsID_none (a : Option Addr) (cap : Nat) (w : World) : Calls Try.prog 20 #[.slice a 0 cap] w fun e w' => e = .returned (.bool false) ∧ Below w.heap.size w w' :=
  repeatsID_is [] a cap w false (by simp) (idsAt_nil _ _) (by simp)
theorem mcheck_bring_ok (s : ByteArray) (a : Option Addr) (cap : Nat) (w : World) (hs0 : s.size ≠ 0) (hs : s.size ≤ 100) :
    Calls Try.prog 10 #[.agg #[.int .i64 3, .slice a 0 cap, .string s]] w fun e w' => e = .returned (.int .i64 0) ∧ Below w.heap.size w w' := by
  have he := empty_no hs0
  go_enter Try.func10, Try.ntmps10
  go_wp2_with fail
  with_reducible refine (known_yes _ _ (by decide)).mono ?_
  rintro e w' ⟨rfl, rfl⟩
  go_wp2_with fail
  with_reducible refine (repeatsID_none _ _ _).mono ?_
  rintro e w1 ⟨rfl, hb1⟩
  go_wp2_with fail
  go_ret
  exact ⟨rfl, kept_trans (kept_new _ _) hb1⟩
theorem mcheck_large (k : Int) (n : Nat) (s : ByteArray) (a : Option Addr) (cap : Nat) (w : World) (h : within k 1 4 = true) (hk : k ≠ 3) (hs : s.size = 0) (hn : 20 < n) :
    Calls Try.prog 10 #[.agg #[.int .i64 k, .slice a n cap, .string s]] w fun e w' => e = .returned (.int .i64 2) ∧ Below w.heap.size w w' := by
  have HW := Lib.hid h
  clear h
  have hk3 : (k == 3) = false := beq_eq_false_iff_ne.2 hk
  have he := empty_yes hs
  go_enter Try.func10, Try.ntmps10
  go_wp2_with fail
  with_reducible refine (known_yes _ _ HW.out).mono ?_
  rintro e w' ⟨rfl, rfl⟩
  go_wp2_with fail
  go_ret
  exact ⟨rfl, kept_new _ _⟩
theorem mcheck_none (k : Int) (s : ByteArray) (a : Option Addr) (cap : Nat) (w : World) (h : within k 1 4 = true) (hk : k ≠ 3) (hs : s.size = 0) :
    Calls Try.prog 10 #[.agg #[.int .i64 k, .slice a 0 cap, .string s]] w fun e w' => e = .returned (.int .i64 4) ∧ Below w.heap.size w w' := by
  have HW := Lib.hid h
  clear h
  have hk3 : (k == 3) = false := beq_eq_false_iff_ne.2 hk
  have he := empty_yes hs
  go_enter Try.func10, Try.ntmps10
  go_wp2_with fail
  with_reducible refine (known_yes _ _ HW.out).mono ?_
  rintro e w' ⟨rfl, rfl⟩
  go_wp2_with fail
  go_ret
  exact ⟨rfl, kept_new _ _⟩
theorem mcheck_ids_rest (k : Int) (l : List UInt64) (s : ByteArray) (a : Option Addr) (cap : Nat) (w : World) (h : within k 1 4 = true) (hk : k ≠ 3) (hs : s.size = 0) (h0 : l.length ≠ 0) (hl : l.length ≤ 20) (hi : IdsAt w a l) :
    Calls Try.prog 10 #[.agg #[.int .i64 k, .slice a l.length cap, .string s]] w fun e w' => e = .returned (.int .i64 (if l.Nodup then 0 else 6)) ∧ Below w.heap.size w w' := by
  have HW := Lib.hid h
  clear h
  have hk3 : (k == 3) = false := beq_eq_false_iff_ne.2 hk
  have he := empty_yes hs
  have hl0 : ((l.length : Int) == 0) = false := beq_eq_false_iff_ne.2 (by omega)
  have hi0 := idsAt_kept (kept_new w (.cells #[.int .i64 k, .slice a l.length cap, .string s] 24)) hi
  by_cases hd : l.Nodup
  · have HD : Hid (decide (¬ l.Nodup) = false) := Lib.hid (by simpa using hd)
    rw [if_pos hd]
    clear hd
    go_enter Try.func10, Try.ntmps10
    go_wp2_with fail
    with_reducible refine (known_yes _ _ HW.out).mono ?_
    rintro e w' ⟨rfl, rfl⟩
    go_wp2_with fail
    with_reducible refine (repeatsID_is l _ _ _ false hl hi0 HD.out).mono ?_
    rintro e w1 ⟨rfl, hb1⟩
    go_wp2_with fail
    go_ret
    exact ⟨rfl, kept_trans (kept_new _ _) hb1⟩
  · have HD : Hid (decide (¬ l.Nodup) = true) := Lib.hid (by simpa using hd)
    rw [if_neg hd]
    clear hd
    go_enter Try.func10, Try.ntmps10
    go_wp2_with fail
    with_reducible refine (known_yes _ _ HW.out).mono ?_
    rintro e w' ⟨rfl, rfl⟩
    go_wp2_with fail
    with_reducible refine (repeatsID_is l _ _ _ true hl hi0 HD.out).mono ?_
    rintro e w1 ⟨rfl, hb1⟩
    go_wp2_with fail
    go_ret
    exact ⟨rfl, kept_trans (kept_new _ _) hb1⟩

/-- msg.Check, whatever the message. -/
theorem mcheck_is (m : MsgD) (a : Option Addr) (cap : Nat) (w : World) (r : Int) (hi : IdsAt w a m.ids) (h : checkM m = r) :
    Calls Try.prog 10 #[.agg #[.int .i64 m.kind, .slice a m.ids.length cap, .string m.body]] w fun e w' => e = .returned (.int .i64 r) ∧ Below w.heap.size w w' := by
  subst h
  obtain ⟨k, l, s⟩ := m
  by_cases hw : within k 1 4 = true
  · by_cases hk : k = 3
    · subst hk
      by_cases hl : 0 < l.length
      · rw [checkM_form hw (.inl ⟨rfl, hl⟩)]
        exact mcheck_ids l.length s a cap w hl
      · obtain rfl : l = [] := List.eq_nil_of_length_eq_zero (by omega)
        have h1 : ¬ (((3 : Int) = 3 ∧ 0 < ([] : List UInt64).length) ∨ ((3 : Int) ≠ 3 ∧ 0 < s.size)) := by simp
        by_cases hs : 100 < s.size
        · rw [checkM_large hw h1 (.inr hs)]
          exact mcheck_bring_large s a cap w hs
        · have h2 : ¬ (20 < ([] : List UInt64).length ∨ 100 < s.size) := by simp; omega
          by_cases hs0 : s.size = 0
          · rw [checkM_none hw h1 h2 ⟨rfl, hs0⟩]
            exact mcheck_bring_none s a cap w hs0
          · rw [checkM_rest hw h1 h2 (fun h => hs0 h.2), if_pos (by simp)]
            exact mcheck_bring_ok s a cap w hs0 (by omega)
    · by_cases hs : 0 < s.size
      · rw [checkM_form hw (.inr ⟨hk, hs⟩)]
        exact mcheck_body k l.length s a cap w hw hk (by omega)
      · have hs0 : s.size = 0 := by omega
        have h1 : ¬ ((k = 3 ∧ 0 < l.length) ∨ (k ≠ 3 ∧ 0 < s.size)) := by omega
        by_cases hl : 20 < l.length
        · rw [checkM_large hw h1 (.inl hl)]
          exact mcheck_large k l.length s a cap w hw hk hs0 hl
        · have h2 : ¬ (20 < l.length ∨ 100 < s.size) := by omega
          by_cases hl0 : l.length = 0
          · rw [checkM_none hw h1 h2 ⟨hl0, hs0⟩]
            obtain rfl : l = [] := List.eq_nil_of_length_eq_zero hl0
            exact mcheck_none k s a cap w hw hk hs0
          · rw [checkM_rest hw h1 h2 (fun h => hl0 h.1)]
            exact mcheck_ids_rest k l s a cap w hw hk hs0 hl0 (by omega) hi
  · rw [checkM_kind (by simpa using hw)]
    exact mcheck_kind k l.length s a cap w (by simpa using hw)
end Go.Proofs.Ytnigjhfdeinlhab
