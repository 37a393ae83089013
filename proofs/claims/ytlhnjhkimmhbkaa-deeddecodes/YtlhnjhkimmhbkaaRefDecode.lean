/-
  The contracts of the reference's number and DeedDecode.
-/
import Derived.Test.YtlhnjhkimmhbkaaDecAll
import Derived.Test.YtlhnjhkimmhbkaaOfWalks
import Derived.Deep.AppendLies
import Derived.Deep.RegionLaw
namespace Go.Proofs.Ytlhnjhkimmhbkaa
open Go.RowKit

theorem num_ref (x : UInt64) (c : UInt8) : IntKind.u64.wrap (IntKind.u64.wrap (256 * (x.toNat : Int)) + IntKind.u64.wrap (c.toNat : Int)) = ((256 * x + c.toUInt64).toNat : Int) := by
  have h1 : IntKind.u64.wrap (256 * (x.toNat : Int)) = ((256 * x).toNat : Int) := wrap_mul_u64 256 x
  rw [h1, wrap_byte_u64, wrap_add_u64]
theorem refNumber_any (s : ByteArray) (w : World) (hs : s.size ≤ maxLen) :
    Calls Try.prog 33 #[.string s] w fun e w' => e = .returned (.int .u64 (numU s.data.toList).toNat) ∧ Below w.heap.size w w' := by
  unfold maxLen at hs
  have hcv := fun w => Lib.run_convert_string_bytes (P := Try.prog) w 9 47 5 s Try.underlying9 Try.underlying47 Try.underlying5
  go_enter Try.func33, Try.ntmps33
  go_wp2
  have hcell := Lib.bytesWorld_cell w 5 s
  go_loop [3, 9] (fun x i => ∃ k : Nat, k ≤ s.size ∧ i = .int .i64 k ∧ x = .int .u64 (numU (s.data.toList.take k)).toNat) (fun _ i => s.size - (intOf i).toNat)
  case atStart => exact ⟨0, Nat.zero_le _, rfl, rfl⟩
  case round =>
    obtain ⟨k, hk, rfl, rfl⟩ := hrel
    by_cases hlt : k < s.size
    · have HS := Lib.hid (numU_take s k hlt)
      have hc := hcell k hlt
      go_wp2
      go_round
      case rel =>
        refine ⟨k + 1, by omega, by go_num, ?_⟩
        rw [HS.out]
        rw [num_ref]
        rfl
      case measure => simp [intOf]; omega
    · go_wp2
      go_ret
      exact ⟨ret_u64 (by rw [List.take_of_length_le (by simp; omega)]), bytesWorld_below w _ s⟩
theorem refNumber_is (s : ByteArray) (x : UInt64) (w : World) (hs : s.size ≤ maxLen) (h : numU s.data.toList = x) :
    Calls Try.prog 33 #[.string s] w fun e w' => e = .returned (.int .u64 x.toNat) ∧ Below w.heap.size w w' := h ▸ refNumber_any s w hs

theorem refDecode_form (s : ByteArray) (r : Int) (w : World) (hs : s.size ≤ maxLen) (h : formD s.data.toList = r) (hr : r ≠ 0) : Calls Try.prog 16 #[.string s] w (GaveBoth w zeroD r) := by
  unfold maxLen at hs
  have hlen : s.data.toList.length = s.size := by simp
  by_cases h0 : s.size = 0
  · have e : formD s.data.toList = 3 := by unfold formD; rw [hlen, if_pos h0]
    rw [e] at h
    subst h
    clear hlen e
    have hb : ((s.size : Int) == 0) = true := by rw [beq_iff_eq]; omega
    go_enter Try.func16, Try.ntmps16
    go_wp2_with fail
    exact bodyPost_ret (v := .tuple #[.agg #[.slice none 0 0, .int .i64 0, .int .i64 0, .int .i64 0], .int .i64 3]) (by simp [results, Try.results16, go_sem]) rfl (gave_zero rfl (kept_new _ _))
  · have g0 := getD_at s 0 (by omega)
    have hp : 0 < s.size := by omega
    have hb0 : ((s.size : Int) == 0) = false := by rw [beq_eq_false_iff_ne]; omega
    by_cases h1 : s[0] = 68
    · by_cases h2 : s.size < 2
      · have e : formD s.data.toList = 3 := by unfold formD; rw [hlen, if_neg h0, g0, if_neg (by simp [h1]), if_pos h2]
        rw [e] at h
        subst h
        have hb1 : ((s.size : Int) == 1) = true := by rw [beq_iff_eq]; omega
        clear hlen g0 e
        go_enter Try.func16, Try.ntmps16
        go_wp2_with fail
        exact bodyPost_ret (v := .tuple #[.agg #[.slice none 0 0, .int .i64 0, .int .i64 0, .int .i64 0], .int .i64 3]) (by simp [results, Try.results16, go_sem]) rfl (gave_zero rfl (kept_new _ _))
      · have g1 := getD_at s 1 (by omega)
        have hp1 : 1 < s.size := by omega
        have hb := s[1].toNat_lt
        have hb1 : ((s.size : Int) == 1) = false := by rw [beq_eq_false_iff_ne]; omega
        have base : formD s.data.toList = if s.size < 7 + 9 * s[1].toNat then 3 else if 7 + 9 * s[1].toNat < s.size then 4 else 0 := by
          unfold formD; rw [hlen, if_neg h0, g0, if_neg (by simp [h1]), if_neg h2, g1]
        by_cases h3 : s.size < 7 + 9 * s[1].toNat
        · have e := base.trans (if_pos h3)
          rw [e] at h
          subst h
          have h3i : (s.size : Int) < 7 + 9 * (s[1].toNat : Int) := by omega
          clear hlen g0 g1 base e
          go_enter Try.func16, Try.ntmps16
          go_wp2_with fail
          exact bodyPost_ret (v := .tuple #[.agg #[.slice none 0 0, .int .i64 0, .int .i64 0, .int .i64 0], .int .i64 3]) (by simp [results, Try.results16, go_sem]) rfl (gave_zero rfl (kept_new _ _))
        · by_cases h4 : 7 + 9 * s[1].toNat < s.size
          · have e := base.trans ((if_neg h3).trans (if_pos h4))
            rw [e] at h
            subst h
            have h3i : ¬ (s.size : Int) < 7 + 9 * (s[1].toNat : Int) := by omega
            have h4i : 7 + 9 * (s[1].toNat : Int) < (s.size : Int) := by omega
            clear hlen g0 g1 base e
            go_enter Try.func16, Try.ntmps16
            go_wp2_with fail
            exact bodyPost_ret (v := .tuple #[.agg #[.slice none 0 0, .int .i64 0, .int .i64 0, .int .i64 0], .int .i64 4]) (by simp [results, Try.results16, go_sem]) rfl (gave_zero rfl (kept_new _ _))
          · exact absurd ((base.trans ((if_neg h3).trans (if_neg h4))).symm.trans h).symm hr
    · have hb : ((s[0].toNat : Int) != 68) = true := by
        rw [bne_iff_ne]
        intro e
        exact h1 (UInt8.toNat_inj.1 (by simp; omega))
      have e : formD s.data.toList = 4 := by unfold formD; rw [hlen, if_neg h0, g0, if_pos h1]
      rw [e] at h
      subst h
      clear hlen g0 e
      go_enter Try.func16, Try.ntmps16
      go_wp2_with fail
      exact bodyPost_ret (v := .tuple #[.agg #[.slice none 0 0, .int .i64 0, .int .i64 0, .int .i64 0], .int .i64 4]) (by simp [results, Try.results16, go_sem]) rfl (gave_zero rfl (kept_new _ _))
end Go.Proofs.Ytlhnjhkimmhbkaa
