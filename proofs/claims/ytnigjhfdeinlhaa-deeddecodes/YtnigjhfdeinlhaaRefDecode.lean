/-
  The contracts of the reference's number and DeedDecode.
-/
import Derived.Test.YtnigjhfdeinlhaaDecAll
import Derived.Test.YtnigjhfdeinlhaaOfWalks
import Derived.Deep.AppendLies
import Derived.Deep.RegionLaw
namespace Go.Proofs.Ytnigjhfdeinlhaa
open Go.RowKit

theorem refDecode_form (s : ByteArray) (r : Int) (w : World) (hs : s.size ≤ maxLen) (h : formD s.data.toList = r) (hr : r ≠ 0) : Calls Try.prog 16 #[.string s] w (GaveBoth w zeroD r) := by
  unfold maxLen at hs
  have hlen : s.data.toList.length = s.size := by simp
  by_cases h0 : s.size = 0
  · have e : formD s.data.toList = 3 := by unfold formD; rw [hlen, if_pos h0]
    rw [e] at h
    subst h
    clear hlen e
    have hb : ((s.size : Int) == 0) = true := by rw [beq_iff_eq]; omega
    go_enter Try.func16, Try.ntmps16
    go_wp2_with fail
    exact bodyPost_ret (v := .tuple #[.agg #[.slice none 0 0, .int .i64 0, .int .i64 0, .int .i64 0], .int .i64 3]) (by simp [results, Try.results16, go_sem]) rfl (gave_zero rfl (kept_new _ _))
  · have g0 := getD_at s 0 (by omega)
    have hp : 0 < s.size := by omega
    have hb0 : ((s.size : Int) == 0) = false := by rw [beq_eq_false_iff_ne]; omega
    by_cases h1 : s[0] = 68
    · by_cases h2 : s.size < 2
      · have e : formD s.data.toList = 3 := by unfold formD; rw [hlen, if_neg h0, g0, if_neg (by simp [h1]), if_pos h2]
        rw [e] at h
        subst h
        have hb1 : ((s.size : Int) == 1) = true := by rw [beq_iff_eq]; omega
        clear hlen g0 e
        go_enter Try.func16, Try.ntmps16
        go_wp2_with fail
        exact bodyPost_ret (v := .tuple #[.agg #[.slice none 0 0, .int .i64 0, .int .i64 0, .int .i64 0], .int .i64 3]) (by simp [results, Try.results16, go_sem]) rfl (gave_zero rfl (kept_new _ _))
      · have g1 := getD_at s 1 (by omega)
        have hp1 : 1 < s.size := by omega
        have hb := s[1].toNat_lt
        have hb1 : ((s.size : Int) == 1) = false := by rw [beq_eq_false_iff_ne]; omega
        have base : formD s.data.toList = if s.size < 7 + 9 * s[1].toNat then 3 else if 7 + 9 * s[1].toNat < s.size then 4 else 0 := by
          unfold formD; rw [hlen, if_neg h0, g0, if_neg (by simp [h1]), if_neg h2, g1]
        by_cases h3 : s.size < 7 + 9 * s[1].toNat
        · have e := base.trans (if_pos h3)
          rw [e] at h
          subst h
          have h3i : (s.size : Int) < 7 + 9 * (s[1].toNat : Int) := by omega
          clear hlen g0 g1 base e
          go_enter Try.func16, Try.ntmps16
          go_wp2_with fail
          exact bodyPost_ret (v := .tuple #[.agg #[.slice none 0 0, .int .i64 0, .int .i64 0, .int .i64 0], .int .i64 3]) (by simp [results, Try.results16, go_sem]) rfl (gave_zero rfl (kept_new _ _))
        · by_cases h4 : 7 + 9 * s[1].toNat < s.size
          · have e := base.trans ((if_neg h3).trans (if_pos h4))
            rw [e] at h
            subst h
            have h3i : ¬ (s.size : Int) < 7 + 9 * (s[1].toNat : Int) := by omega
            have h4i : 7 + 9 * (s[1].toNat : Int) < (s.size : Int) := by omega
            clear hlen g0 g1 base e
            go_enter Try.func16, Try.ntmps16
            go_wp2_with fail
            exact bodyPost_ret (v := .tuple #[.agg #[.slice none 0 0, .int .i64 0, .int .i64 0, .int .i64 0], .int .i64 4]) (by simp [results, Try.results16, go_sem]) rfl (gave_zero rfl (kept_new _ _))
          · exact absurd ((base.trans ((if_neg h3).trans (if_neg h4))).symm.trans h).symm hr
    · have hb : ((s[0].toNat : Int) != 68) = true := by
        rw [bne_iff_ne]
        intro e
        exact h1 (UInt8.toNat_inj.1 (by simp; omega))
      have e : formD s.data.toList = 4 := by unfold formD; rw [hlen, if_neg h0, g0, if_pos h1]
      rw [e] at h
      subst h
      clear hlen g0 e
      go_enter Try.func16, Try.ntmps16
      go_wp2_with fail
      exact bodyPost_ret (v := .tuple #[.agg #[.slice none 0 0, .int .i64 0, .int .i64 0, .int .i64 0], .int .i64 4]) (by simp [results, Try.results16, go_sem]) rfl (gave_zero rfl (kept_new _ _))
end Go.Proofs.Ytnigjhfdeinlhaa
