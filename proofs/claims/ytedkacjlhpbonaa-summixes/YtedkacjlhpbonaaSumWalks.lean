/-
  Contracts of package sum and of the reference's hash functions, over one translation.
-/
import Derived.Test.YtedkacjlhpbonaaChecked
import Derived.Test.YtedkacjlhpbonaaSumMath
import Derived.WalkKit
import Derived.Outline
import Derived.WalkLawsBesides
import Derived.Lib.ConvBytes
import Derived.Lib.Hide
namespace Go.Proofs.Ytedkacjlhpbonaa
open Go.RowKit

theorem ret_u64 {a b : Int} (h : a = b) : Ending.returned (.int .u64 a) = .returned (.int .u64 b) := by rw [h]
theorem k1_u64 (a : UInt64) : IntKind.u64.wrap ((a.toNat : Int) * 11400714819323198485) = ((a * 11400714819323198485).toNat : Int) := wrap_mul_u64 a 11400714819323198485
theorem k2_u64 (a : UInt64) : IntKind.u64.wrap ((a.toNat : Int) * 13787848793156543929) = ((a * 13787848793156543929).toNat : Int) := wrap_mul_u64 a 13787848793156543929
theorem k3_u64 (a : UInt64) : IntKind.u64.wrap ((a.toNat : Int) * 10723151780598845931) = ((a * 10723151780598845931).toNat : Int) := wrap_mul_u64 a 10723151780598845931
theorem k4_u64 (a : UInt64) : IntKind.u64.wrap ((a.toNat : Int) * 1099511628211) = ((a * 1099511628211).toNat : Int) := wrap_mul_u64 a 1099511628211
theorem s30_u64 (a : UInt64) : IntKind.u64.wrap ((a.toNat : Int).tdiv 1073741824) = ((a >>> 30).toNat : Int) := by
  rw [show (1073741824 : Int) = 2 ^ 30 from by decide, tdiv_u64 a 30 (by decide), wrap_self_u64]; rfl
theorem s27_u64 (a : UInt64) : IntKind.u64.wrap ((a.toNat : Int).tdiv 134217728) = ((a >>> 27).toNat : Int) := by
  rw [show (134217728 : Int) = 2 ^ 27 from by decide, tdiv_u64 a 27 (by decide), wrap_self_u64]; rfl
theorem s31_u64 (a : UInt64) : IntKind.u64.wrap ((a.toNat : Int).tdiv 2147483648) = ((a >>> 31).toNat : Int) := by
  rw [show (2147483648 : Int) = 2 ^ 31 from by decide, tdiv_u64 a 31 (by decide), wrap_self_u64]; rfl

theorem fold_any (x : UInt64) (n : Int) (w : World) (h0 : 0 ≤ n) (h1 : n < 64) :
    Calls Try.prog 14 #[.int .u64 x.toNat, .int .u64 n] w fun e w' => e = .returned (.int .u64 (foldU x (UInt64.ofNat n.toNat)).toNat) ∧ w = w' := by
  have hx := u64_bd x
  go_enter Try.func14, Try.ntmps14
  go_wp2
  go_ret
  refine ⟨ret_u64 ?_, rfl⟩
  rw [shr_u64 x n.toNat (by omega), xor_u64]
  rfl

theorem mix_any (a b c : UInt64) (w : World) :
    Calls Try.prog 10 #[.int .u64 a.toNat, .int .u64 b.toNat, .int .u64 c.toNat] w fun e w' => e = .returned (.int .u64 (mixU a b c).toNat) ∧ w = w' := by
  go_enter Try.func10, Try.ntmps10
  go_wp2_with fail
  rw [k1_u64, wrap_add_u64]
  with_reducible refine (fold_any _ _ _ (by decide) (by decide)).mono ?_
  rintro e w' ⟨rfl, rfl⟩
  go_wp2_with fail
  rw [k2_u64, wrap_add_u64]
  with_reducible refine (fold_any _ _ _ (by decide) (by decide)).mono ?_
  rintro e w' ⟨rfl, rfl⟩
  go_wp2_with fail
  rw [k3_u64]
  with_reducible refine (fold_any _ _ _ (by decide) (by decide)).mono ?_
  rintro e w' ⟨rfl, rfl⟩
  go_wp2_with fail
  go_ret
  exact ⟨rfl, rfl⟩

theorem refMix_any (a b c : UInt64) (w : World) :
    Calls Try.prog 11 #[.int .u64 a.toNat, .int .u64 b.toNat, .int .u64 c.toNat] w fun e w' => e = .returned (.int .u64 (mixU a b c).toNat) ∧ w = w' := by
  go_enter Try.func11, Try.ntmps11
  go_wp2
  go_ret
  refine ⟨ret_u64 ?_, rfl⟩
  simp only [k1_u64, k2_u64, k3_u64, wrap_add_u64, s30_u64, s27_u64, s31_u64, xor_u64]
  rfl

theorem bytesWorld_below (w : World) (e : TypeId) (s : ByteArray) : Below w.heap.size w (Lib.bytesWorld w e s) :=
  ⟨rfl, rfl, rfl, by rw [Lib.bytesWorld_size]; omega, fun k hk => Lib.bytesWorld_at_old w e s k hk⟩

theorem of_take (s : ByteArray) (k : Nat) (h : k < s.size) : ofU (s.data.toList.take (k + 1)) = ofStep (ofU (s.data.toList.take k)) s[k] := by
  rw [List.take_succ_eq_append_getElem (by simpa using h), of_snoc]; rfl

theorem of_any (s : ByteArray) (w : World) (hs : s.size ≤ maxLen) :
    Calls Try.prog 8 #[.string s] w fun e w' => e = .returned (.int .u64 (ofU s.data.toList).toNat) ∧ w = w' := by
  unfold maxLen at hs
  go_enter Try.func8, Try.ntmps8
  go_wp2
  go_loop [3, 7] (fun x i => ∃ k : Nat, k ≤ s.size ∧ i = .int .i64 k ∧ x = .int .u64 (ofU (s.data.toList.take k)).toNat) (fun _ i => s.size - (intOf i).toNat)
  case atStart => exact ⟨0, Nat.zero_le _, rfl, rfl⟩
  case round =>
    obtain ⟨k, hk, rfl, rfl⟩ := hrel
    by_cases hlt : k < s.size
    · have HS := Lib.hid (of_take s k hlt)
      go_wp2
      go_round
      case rel =>
        refine ⟨k + 1, by omega, by go_num, ?_⟩
        rw [HS.out, wrap_byte_u64, xor_u64, k4_u64]
        rfl
      case measure => simp [intOf]; omega
    · go_wp2
      go_ret
      exact ⟨ret_u64 (by rw [List.take_of_length_le (by simp; omega)]), rfl⟩

theorem refSum_any (s : ByteArray) (w : World) (hs : s.size ≤ maxLen) :
    Calls Try.prog 9 #[.string s] w fun e w' => e = .returned (.int .u64 (ofU s.data.toList).toNat) ∧ Below w.heap.size w w' := by
  unfold maxLen at hs
  have hcv := fun w => Lib.run_convert_string_bytes (P := Try.prog) w 9 29 5 s Try.underlying9 Try.underlying29 Try.underlying5
  go_enter Try.func9, Try.ntmps9
  go_wp2
  have hcell := Lib.bytesWorld_cell w 5 s
  go_loop [3, 9] (fun x i => ∃ k : Nat, k ≤ s.size ∧ i = .int .i64 k ∧ x = .int .u64 (ofU (s.data.toList.take k)).toNat) (fun _ i => s.size - (intOf i).toNat)
  case atStart => exact ⟨0, Nat.zero_le _, rfl, rfl⟩
  case round =>
    obtain ⟨k, hk, rfl, rfl⟩ := hrel
    by_cases hlt : k < s.size
    · have HS := Lib.hid (of_take s k hlt)
      have hc := hcell k hlt
      go_wp2
      go_round
      case rel =>
        refine ⟨k + 1, by omega, by go_num, ?_⟩
        rw [HS.out, wrap_byte_u64, xor_u64, k4_u64]
        rfl
      case measure => simp [intOf]; omega
    · go_wp2
      go_ret
      exact ⟨ret_u64 (by rw [List.take_of_length_le (by simp; omega)]), bytesWorld_below w _ s⟩

theorem of_a_int : ((ofU [97]).toNat : Int) = 12638187200555641996 := by rw [of_a]; rfl
theorem of_empty_int : ((ofU []).toNat : Int) = 14695981039346656037 := by rw [of_empty]; rfl
/-- At the text of one letter, in the walk's own spelling. -/
theorem of_one (w : World) : Calls Try.prog 8 #[.string ⟨#[97]⟩] w fun e w' => e = .returned (.int .u64 12638187200555641996) ∧ w = w' :=
  (of_any ⟨#[97]⟩ w (by decide)).mono fun e w' h => by
    refine ⟨h.1.trans (ret_u64 ?_), h.2⟩
    exact of_a_int
theorem of_none (w : World) : Calls Try.prog 8 #[.string ⟨#[]⟩] w fun e w' => e = .returned (.int .u64 14695981039346656037) ∧ w = w' :=
  (of_any ⟨#[]⟩ w (by decide)).mono fun e w' h => by
    refine ⟨h.1.trans (ret_u64 ?_), h.2⟩
    exact of_empty_int
end Go.Proofs.Ytedkacjlhpbonaa
