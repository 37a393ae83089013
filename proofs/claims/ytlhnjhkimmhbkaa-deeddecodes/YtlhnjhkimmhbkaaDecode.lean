/-
  The contracts of the program's number, checkSize, read and Decode.
-/
import Derived.Test.YtlhnjhkimmhbkaaDecMath
import Derived.Test.YtlhnjhkimmhbkaaRefDigits
import Derived.Laws.Bits64b
namespace Go.Proofs.Ytlhnjhkimmhbkaa
open Go.RowKit

theorem numU_take (s : ByteArray) (k : Nat) (h : k < s.size) : numU (s.data.toList.take (k + 1)) = 256 * numU (s.data.toList.take k) + s[k].toUInt64 := by
  rw [List.take_succ_eq_append_getElem (by simpa using h), numU_snoc]; rfl
theorem num_step (x : UInt64) (c : UInt8) : bits .or .u64 (IntKind.u64.wrap ((x.toNat : Int) * 256)) (IntKind.u64.wrap (c.toNat : Int)) = ((256 * x + c.toUInt64).toNat : Int) := by
  have h1 : IntKind.u64.wrap ((x.toNat : Int) * 256) = ((x * 256).toNat : Int) := wrap_mul_u64 x 256
  have hc : c.toUInt64.toNat = c.toNat := UInt8.toNat_toUInt64 c
  have hcl := c.toNat_lt
  rw [h1, wrap_byte_u64, bits_or_u64_nat _ _ (u64_lt _) (u64_lt _)]
  have e : (x * 256).toNat = (x.toNat % 72057594037927936) <<< 8 := by
    rw [UInt64.toNat_mul, Nat.shiftLeft_eq]
    show x.toNat * 256 % 18446744073709551616 = _
    omega
  rw [e, ← Nat.shiftLeft_add_eq_or_of_lt (by rw [hc]; omega), ← e, UInt64.toNat_add, UInt64.toNat_mul, UInt64.toNat_mul, hc]
  show ((x.toNat * 256 % 18446744073709551616 + c.toNat : Nat) : Int) = ((256 * x.toNat % 18446744073709551616 + c.toNat) % 18446744073709551616 : Nat)
  omega
theorem number_any (s : ByteArray) (w : World) (hs : s.size ≤ maxLen) :
    Calls Try.prog 38 #[.string s] w fun e w' => e = .returned (.int .u64 (numU s.data.toList).toNat) ∧ w = w' := by
  unfold maxLen at hs
  go_enter Try.func38, Try.ntmps38
  go_wp2
  go_loop [3, 7] (fun x i => ∃ k : Nat, k ≤ s.size ∧ i = .int .i64 k ∧ x = .int .u64 (numU (s.data.toList.take k)).toNat) (fun _ i => s.size - (intOf i).toNat)
  case atStart => exact ⟨0, Nat.zero_le _, rfl, rfl⟩
  case round =>
    obtain ⟨k, hk, rfl, rfl⟩ := hrel
    by_cases hlt : k < s.size
    · have HS := Lib.hid (numU_take s k hlt)
      go_wp2
      go_round
      case rel =>
        refine ⟨k + 1, by omega, by go_num, ?_⟩
        rw [HS.out, num_step]
      case measure => simp [intOf]; omega
    · go_wp2
      go_ret
      exact ⟨by rw [List.take_of_length_le (by simp; omega)]; rfl, rfl⟩

theorem number_is (s : ByteArray) (x : UInt64) (w : World) (hs : s.size ≤ maxLen) (h : numU s.data.toList = x) :
    Calls Try.prog 38 #[.string s] w fun e w' => e = .returned (.int .u64 x.toNat) ∧ w = w' := h ▸ number_any s w hs
theorem getD_at (s : ByteArray) (k : Nat) (h : k < s.size) : s.data.toList.getD k 0 = s[k] := by
  rw [List.getD_eq_getElem?_getD, List.getElem?_eq_getElem (by simpa using h)]
  rfl
theorem empty_yes {s : ByteArray} (h : s.size = 0) : s.toList.isEmpty = true := by
  have hl : s.data.toList.length = s.size := by simp
  rw [ByteArray.toList_eq]
  cases hx : s.data.toList with
  | nil => rfl
  | cons a r => rw [hx] at hl; simp at hl; omega
theorem empty_no {s : ByteArray} (h : s.size ≠ 0) : s.toList.isEmpty = false := by
  have hl : s.data.toList.length = s.size := by simp
  rw [ByteArray.toList_eq]
  cases hx : s.data.toList with
  | nil => rw [hx] at hl; simp at hl; omega
  | cons a r => rfl
theorem checkSize_any (s : ByteArray) (w : World) (hs : s.size ≤ maxLen) :
    Calls Try.prog 31 #[.string s] w fun e w' => e = .returned (.int .i64 (formD s.data.toList)) ∧ w = w' := by
  unfold maxLen at hs
  have hlen : s.data.toList.length = s.size := by simp
  by_cases h0 : s.size = 0
  · have HF : Hid (formD s.data.toList = 3) := Lib.hid (by unfold formD; rw [hlen, if_pos h0])
    have he := empty_yes h0
    clear hlen
    go_enter Try.func31, Try.ntmps31
    go_wp2
    go_ret
    exact ⟨ret_i64 HF.out.symm, rfl⟩
  · have he := empty_no h0
    have g0 := getD_at s 0 (by omega)
    have hp : 0 < s.size := by omega
    by_cases h1 : s[0] = 68
    · by_cases h2 : s.size < 2
      · have HF : Hid (formD s.data.toList = 3) := Lib.hid (by unfold formD; rw [hlen, if_neg h0, g0, if_neg (by simp [h1]), if_pos h2])
        clear hlen g0
        go_enter Try.func31, Try.ntmps31
        go_wp2
        go_ret
        exact ⟨ret_i64 HF.out.symm, rfl⟩
      · have g1 := getD_at s 1 (by omega)
        have hp1 : 1 < s.size := by omega
        have hb := s[1].toNat_lt
        have base : formD s.data.toList = if s.size < 7 + 9 * s[1].toNat then 3 else if 7 + 9 * s[1].toNat < s.size then 4 else 0 := by
          unfold formD; rw [hlen, if_neg h0, g0, if_neg (by simp [h1]), if_neg h2, g1]
        by_cases h3 : s.size < 7 + 9 * s[1].toNat
        · have HF := Lib.hid (base.trans (if_pos h3))
          clear hlen g0 g1 base
          go_enter Try.func31, Try.ntmps31
          go_wp2_with fail
          with_reducible refine (size_any _ _ (by omega)).mono ?_
          rintro e w' ⟨rfl, rfl⟩
          go_wp2_with fail
          go_ret
          exact ⟨ret_i64 HF.out.symm, rfl⟩
        · by_cases h4 : 7 + 9 * s[1].toNat < s.size
          · have HF := Lib.hid (base.trans ((if_neg h3).trans (if_pos h4)))
            clear hlen g0 g1 base
            go_enter Try.func31, Try.ntmps31
            go_wp2_with fail
            with_reducible refine (size_any _ _ (by omega)).mono ?_
            rintro e w' ⟨rfl, rfl⟩
            go_wp2_with fail
            go_ret
            exact ⟨ret_i64 HF.out.symm, rfl⟩
          · have HF := Lib.hid (base.trans ((if_neg h3).trans (if_neg h4)))
            clear hlen g0 g1 base
            go_enter Try.func31, Try.ntmps31
            go_wp2_with fail
            with_reducible refine (size_any _ _ (by omega)).mono ?_
            rintro e w' ⟨rfl, rfl⟩
            go_wp2_with fail
            go_ret
            exact ⟨ret_i64 HF.out.symm, rfl⟩
    · have hb : ((s[0].toNat : Int) != 68) = true := by
        rw [bne_iff_ne]
        intro e
        exact h1 (UInt8.toNat_inj.1 (by simp; omega))
      have HF : Hid (formD s.data.toList = 4) := Lib.hid (by unfold formD; rw [hlen, if_neg h0, g0, if_pos h1])
      clear hlen g0
      go_enter Try.func31, Try.ntmps31
      go_wp2
      go_ret
      exact ⟨ret_i64 HF.out.symm, rfl⟩
end Go.Proofs.Ytlhnjhkimmhbkaa
