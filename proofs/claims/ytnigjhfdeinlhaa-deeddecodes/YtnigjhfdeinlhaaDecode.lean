/-
  The contracts of the program's number, checkSize, read and Decode.
-/
import Derived.Test.YtnigjhfdeinlhaaDecMath
import Derived.Test.YtnigjhfdeinlhaaEncode
namespace Go.Proofs.Ytnigjhfdeinlhaa
open Go.RowKit

theorem checkSize_any (s : ByteArray) (w : World) (hs : s.size ≤ maxLen) :
    Calls Try.prog 32 #[.string s] w fun e w' => e = .returned (.int .i64 (formD s.data.toList)) ∧ w = w' := by
  unfold maxLen at hs
  have hlen : s.data.toList.length = s.size := by simp
  by_cases h0 : s.size = 0
  · have HF : Hid (formD s.data.toList = 3) := Lib.hid (by unfold formD; rw [hlen, if_pos h0])
    have he := empty_yes h0
    clear hlen
    go_enter Try.func32, Try.ntmps32
    go_wp2
    go_ret
    exact ⟨ret_i64 HF.out.symm, rfl⟩
  · have he := empty_no h0
    have g0 := getD_at s 0 (by omega)
    have hp : 0 < s.size := by omega
    by_cases h1 : s[0] = 68
    · by_cases h2 : s.size < 2
      · have HF : Hid (formD s.data.toList = 3) := Lib.hid (by unfold formD; rw [hlen, if_neg h0, g0, if_neg (by simp [h1]), if_pos h2])
        clear hlen g0
        go_enter Try.func32, Try.ntmps32
        go_wp2
        go_ret
        exact ⟨ret_i64 HF.out.symm, rfl⟩
      · have g1 := getD_at s 1 (by omega)
        have hp1 : 1 < s.size := by omega
        have hb := s[1].toNat_lt
        have base : formD s.data.toList = if s.size < 7 + 9 * s[1].toNat then 3 else if 7 + 9 * s[1].toNat < s.size then 4 else 0 := by
          unfold formD; rw [hlen, if_neg h0, g0, if_neg (by simp [h1]), if_neg h2, g1]
        by_cases h3 : s.size < 7 + 9 * s[1].toNat
        · have HF := Lib.hid (base.trans (if_pos h3))
          clear hlen g0 g1 base
          go_enter Try.func32, Try.ntmps32
          go_wp2_with fail
          with_reducible refine (size_any _ _ (by omega)).mono ?_
          rintro e w' ⟨rfl, rfl⟩
          go_wp2_with fail
          go_ret
          exact ⟨ret_i64 HF.out.symm, rfl⟩
        · by_cases h4 : 7 + 9 * s[1].toNat < s.size
          · have HF := Lib.hid (base.trans ((if_neg h3).trans (if_pos h4)))
            clear hlen g0 g1 base
            go_enter Try.func32, Try.ntmps32
            go_wp2_with fail
            with_reducible refine (size_any _ _ (by omega)).mono ?_
            rintro e w' ⟨rfl, rfl⟩
            go_wp2_with fail
            go_ret
            exact ⟨ret_i64 HF.out.symm, rfl⟩
          · have HF := Lib.hid (base.trans ((if_neg h3).trans (if_neg h4)))
            clear hlen g0 g1 base
            go_enter Try.func32, Try.ntmps32
            go_wp2_with fail
            with_reducible refine (size_any _ _ (by omega)).mono ?_
            rintro e w' ⟨rfl, rfl⟩
            go_wp2_with fail
            go_ret
            exact ⟨ret_i64 HF.out.symm, rfl⟩
    · have hb : ((s[0].toNat : Int) != 68) = true := by
        rw [bne_iff_ne]
        intro e
        exact h1 (UInt8.toNat_inj.1 (by simp; omega))
      have HF : Hid (formD s.data.toList = 4) := Lib.hid (by unfold formD; rw [hlen, if_neg h0, g0, if_pos h1])
      clear hlen g0
      go_enter Try.func32, Try.ntmps32
      go_wp2
      go_ret
      exact ⟨ret_i64 HF.out.symm, rfl⟩
end Go.Proofs.Ytnigjhfdeinlhaa
