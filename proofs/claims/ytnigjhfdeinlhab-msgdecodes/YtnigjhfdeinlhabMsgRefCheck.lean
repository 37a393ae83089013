/-
  The contract of the reference's MsgCheck.
-/
import Derived.Test.YtnigjhfdeinlhabMsgCheck
namespace Go.Proofs.Ytnigjhfdeinlhab
open Go.RowKit

theorem rcheck_kind (k : Int) (n : Nat) (s : ByteArray) (a : Option Addr) (cap : Nat) (w : World) (h : within k 1 4 = false) :
    Calls Try.prog 11 #[.agg #[.int .i64 k, .slice a n cap, .string s]] w fun e w' => e = .returned (.int .i64 1) ∧ Below w.heap.size w w' := by
  have HW := Lib.hid h
  clear h
  go_enter Try.func11, Try.ntmps11
  go_wp2_with fail
  with_reducible refine (outside_yes _ _ _ _ HW.out).mono ?_
  rintro e w' ⟨rfl, rfl⟩
  go_wp2_with fail
  go_ret
  exact ⟨rfl, kept_new _ _⟩
theorem rcheck_ids (n : Nat) (s : ByteArray) (a : Option Addr) (cap : Nat) (w : World) (hn : 0 < n) :
    Calls Try.prog 11 #[.agg #[.int .i64 3, .slice a n cap, .string s]] w fun e w' => e = .returned (.int .i64 4) ∧ Below w.heap.size w w' := by
  go_enter Try.func11, Try.ntmps11
  go_wp2_with fail
  with_reducible refine (outside_no _ _ _ _ (by decide)).mono ?_
  rintro e w' ⟨rfl, rfl⟩
  go_wp2_with fail
  go_ret
  exact ⟨rfl, kept_new _ _⟩
theorem rcheck_body (k : Int) (n : Nat) (s : ByteArray) (a : Option Addr) (cap : Nat) (w : World) (h : within k 1 4 = true) (hk : k ≠ 3) (hs : 0 < s.size) :
    Calls Try.prog 11 #[.agg #[.int .i64 k, .slice a n cap, .string s]] w fun e w' => e = .returned (.int .i64 4) ∧ Below w.heap.size w w' := by
  have HW := Lib.hid h
  clear h
  have hk3 : (k == 3) = false := beq_eq_false_iff_ne.2 hk
  have hk4 : (k != 3) = true := by rw [bne, hk3]; rfl
  go_enter Try.func11, Try.ntmps11
  go_wp2_with fail
  with_reducible refine (outside_no _ _ _ _ HW.out).mono ?_
  rintro e w' ⟨rfl, rfl⟩
  go_wp2_with fail
  go_ret
  exact ⟨rfl, kept_new _ _⟩
theorem rcheck_bring_large (s : ByteArray) (a : Option Addr) (cap : Nat) (w : World) (hs : 100 < s.size) :
    Calls Try.prog 11 #[.agg #[.int .i64 3, .slice a 0 cap, .string s]] w fun e w' => e = .returned (.int .i64 2) ∧ Below w.heap.size w w' := by
  go_enter Try.func11, Try.ntmps11
  go_wp2_with fail
  with_reducible refine (outside_no _ _ _ _ (by decide)).mono ?_
  rintro e w' ⟨rfl, rfl⟩
  go_wp2_with fail
  go_ret
  exact ⟨rfl, kept_new _ _⟩
theorem rcheck_bring_none (s : ByteArray) (a : Option Addr) (cap : Nat) (w : World) (hs : s.size = 0) :
    Calls Try.prog 11 #[.agg #[.int .i64 3, .slice a 0 cap, .string s]] w fun e w' => e = .returned (.int .i64 4) ∧ Below w.heap.size w w' := by
  have he : ((s.size : Int) == 0) = true := beq_iff_eq.2 (by omega)
  go_enter Try.func11, Try.ntmps11
  go_wp2_with fail
  with_reducible refine (outside_no _ _ _ _ (by decide)).mono ?_
  rintro e w' ⟨rfl, rfl⟩
  go_wp2_with fail
  go_ret
  exact ⟨rfl, kept_new _ _⟩
theorem rcheck_large (k : Int) (n : Nat) (s : ByteArray) (a : Option Addr) (cap : Nat) (w : World) (h : within k 1 4 = true) (hk : k ≠ 3) (hs : s.size = 0) (hn : 20 < n) :
    Calls Try.prog 11 #[.agg #[.int .i64 k, .slice a n cap, .string s]] w fun e w' => e = .returned (.int .i64 2) ∧ Below w.heap.size w w' := by
  have HW := Lib.hid h
  clear h
  have hk3 : (k == 3) = false := beq_eq_false_iff_ne.2 hk
  have hk4 : (k != 3) = true := by rw [bne, hk3]; rfl
  go_enter Try.func11, Try.ntmps11
  go_wp2_with fail
  with_reducible refine (outside_no _ _ _ _ HW.out).mono ?_
  rintro e w' ⟨rfl, rfl⟩
  go_wp2_with fail
  go_ret
  exact ⟨rfl, kept_new _ _⟩
theorem rcheck_none (k : Int) (s : ByteArray) (a : Option Addr) (cap : Nat) (w : World) (h : within k 1 4 = true) (hk : k ≠ 3) (hs : s.size = 0) :
    Calls Try.prog 11 #[.agg #[.int .i64 k, .slice a 0 cap, .string s]] w fun e w' => e = .returned (.int .i64 4) ∧ Below w.heap.size w w' := by
  have HW := Lib.hid h
  clear h
  have hk3 : (k == 3) = false := beq_eq_false_iff_ne.2 hk
  have hk4 : (k != 3) = true := by rw [bne, hk3]; rfl
  have he : ((s.size : Int) == 0) = true := beq_iff_eq.2 (by omega)
  go_enter Try.func11, Try.ntmps11
  go_wp2_with fail
  with_reducible refine (outside_no _ _ _ _ HW.out).mono ?_
  rintro e w' ⟨rfl, rfl⟩
  go_wp2_with fail
  go_ret
  exact ⟨rfl, kept_new _ _⟩
theorem rcheck_bring_ok (s : ByteArray) (a : Option Addr) (cap : Nat) (w : World) (hs0 : s.size ≠ 0) (hs : s.size ≤ 100) :
    Calls Try.prog 11 #[.agg #[.int .i64 3, .slice a 0 cap, .string s]] w fun e w' => e = .returned (.int .i64 0) ∧ Below w.heap.size w w' := by
  have he : ((s.size : Int) == 0) = false := beq_eq_false_iff_ne.2 (by omega)
  go_enter Try.func11, Try.ntmps11
  go_wp2_with fail
  with_reducible refine (outside_no _ _ _ _ (by decide)).mono ?_
  rintro e w' ⟨rfl, rfl⟩
  go_wp2_with fail
  go_loop [51] (fun i => i = .int .i64 0) (fun _ => 0)
  case atStart => rfl
  case round =>
    subst hrel
    go_wp2
    go_ret
    exact ⟨rfl, kept_new _ _⟩
theorem rcheck_ids_rest (k : Int) (l : List UInt64) (s : ByteArray) (a : Option Addr) (cap : Nat) (w : World) (h : within k 1 4 = true) (hk : k ≠ 3) (hs : s.size = 0) (h0 : l.length ≠ 0) (hl : l.length ≤ 20) (hc : l.length ≤ cap) (hi : IdsAt w a l) (r : Int) (HR : Hid ((if l.Nodup then 0 else 6) = r)) :
    Calls Try.prog 11 #[.agg #[.int .i64 k, .slice a l.length cap, .string s]] w fun e w' => e = .returned (.int .i64 r) ∧ Below w.heap.size w w' := by
  have HW := Lib.hid h
  clear h
  have hk3 : (k == 3) = false := beq_eq_false_iff_ne.2 hk
  have hk4 : (k != 3) = true := by rw [bne, hk3]; rfl
  have he : ((s.size : Int) == 0) = true := beq_iff_eq.2 (by omega)
  have hl0 : ((l.length : Int) == 0) = false := beq_eq_false_iff_ne.2 (by omega)
  have hi0 := idsAt_kept (kept_new w (.cells #[.int .i64 k, .slice a l.length cap, .string s] 24)) hi
  go_enter Try.func11, Try.ntmps11
  go_wp2_with fail
  with_reducible refine (outside_no _ _ _ _ HW.out).mono ?_
  rintro e w' ⟨rfl, rfl⟩
  go_wp2_with fail
  go_loop [51] (fun i => ∃ j : Nat, j ≤ l.length ∧ i = .int .i64 j ∧ Hid ((l.take j).Nodup)) (fun i => l.length - (intOf i).toNat)
  case atStart => exact ⟨0, Nat.zero_le _, rfl, Lib.hid (by simp)⟩
  case round =>
    obtain ⟨j, hj, rfl, NO⟩ := hrel
    by_cases hlt : j < l.length
    · have hi1 := hi0
      obtain ⟨b, o, rfl, hb, hd⟩ := hi0 j hlt
      have hjc : j ≤ cap := by omega
      by_cases hx : (l.take j).contains l[j] = true
      · have HX := Lib.hid hx
        clear hx
        go_wp2_with fail
        with_reducible refine (hasID_take l j true l[j] _ _ _ (by omega) (by unfold maxLen; omega) hi1 HX.out).mono ?_
        rintro e w' ⟨rfl, rfl⟩
        go_wp2_with fail
        go_ret
        exact ⟨ret_i64 (by rw [← HR.out, if_neg (not_nodup hlt HX.out)]), kept_new _ _⟩
      · rw [Bool.not_eq_true] at hx
        have HX := Lib.hid hx
        clear hx
        go_wp2_with fail
        with_reducible refine (hasID_take l j false l[j] _ _ _ (by omega) (by unfold maxLen; omega) hi1 HX.out).mono ?_
        rintro e w' ⟨rfl, rfl⟩
        go_wp2_with fail
        go_round
        case rel => exact ⟨j + 1, by omega, by go_num, Lib.hid ((nodup_snoc hlt).2 ⟨NO.out, HX.out⟩)⟩
        case measure => simp [intOf]; omega
    · have hn := NO.out
      rw [List.take_of_length_le (by omega)] at hn
      have HN := Lib.hid hn
      clear hn
      go_wp2
      go_ret
      exact ⟨ret_i64 (by rw [← HR.out, if_pos HN.out]), kept_new _ _⟩

/-- The reference's MsgCheck, whatever the message. -/
theorem rcheck_is (m : MsgD) (a : Option Addr) (cap : Nat) (w : World) (r : Int) (hc : m.ids.length ≤ cap) (hi : IdsAt w a m.ids) (h : checkM m = r) :
    Calls Try.prog 11 #[.agg #[.int .i64 m.kind, .slice a m.ids.length cap, .string m.body]] w fun e w' => e = .returned (.int .i64 r) ∧ Below w.heap.size w w' := by
  subst h
  obtain ⟨k, l, s⟩ := m
  by_cases hw : within k 1 4 = true
  · by_cases hk : k = 3
    · subst hk
      by_cases hl : 0 < l.length
      · rw [checkM_form hw (.inl ⟨rfl, hl⟩)]
        exact rcheck_ids l.length s a cap w hl
      · obtain rfl : l = [] := List.eq_nil_of_length_eq_zero (by omega)
        have h1 : ¬ (((3 : Int) = 3 ∧ 0 < ([] : List UInt64).length) ∨ ((3 : Int) ≠ 3 ∧ 0 < s.size)) := by simp
        by_cases hs : 100 < s.size
        · rw [checkM_large hw h1 (.inr hs)]
          exact rcheck_bring_large s a cap w hs
        · have h2 : ¬ (20 < ([] : List UInt64).length ∨ 100 < s.size) := by simp; omega
          by_cases hs0 : s.size = 0
          · rw [checkM_none hw h1 h2 ⟨rfl, hs0⟩]
            exact rcheck_bring_none s a cap w hs0
          · rw [checkM_rest hw h1 h2 (fun h => hs0 h.2), if_pos (by simp)]
            exact rcheck_bring_ok s a cap w hs0 (by omega)
    · by_cases hs : 0 < s.size
      · rw [checkM_form hw (.inr ⟨hk, hs⟩)]
        exact rcheck_body k l.length s a cap w hw hk hs
      · have hs0 : s.size = 0 := by omega
        have h1 : ¬ ((k = 3 ∧ 0 < l.length) ∨ (k ≠ 3 ∧ 0 < s.size)) := by omega
        by_cases hl : 20 < l.length
        · rw [checkM_large hw h1 (.inl hl)]
          exact rcheck_large k l.length s a cap w hw hk hs0 hl
        · have h2 : ¬ (20 < l.length ∨ 100 < s.size) := by omega
          by_cases hl0 : l.length = 0
          · rw [checkM_none hw h1 h2 ⟨hl0, hs0⟩]
            obtain rfl : l = [] := List.eq_nil_of_length_eq_zero hl0
            exact rcheck_none k s a cap w hw hk hs0
          · rw [checkM_rest hw h1 h2 (fun h => hl0 h.1)]
            exact rcheck_ids_rest k l s a cap w hw hk hs0 hl0 (by omega) hc hi _ (Lib.hid rfl)
  · rw [checkM_kind (by simpa using hw)]
    exact rcheck_kind k l.length s a cap w (by simpa using hw)
end Go.Proofs.Ytnigjhfdeinlhab
