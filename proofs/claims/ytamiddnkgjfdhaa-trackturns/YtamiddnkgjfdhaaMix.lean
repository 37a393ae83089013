/-
  Contracts of Mix: the program's and the reference's.
-/
import Derived.Test.YtamiddnkgjfdhaaBase
import Derived.Test.YtamiddnkgjfdhaaSumMath
namespace Go.Proofs.Ytamiddnkgjfdhaa
open Go.RowKit

theorem k1_u64 (a : UInt64) : IntKind.u64.wrap ((a.toNat : Int) * 11400714819323198485) = ((a * 11400714819323198485).toNat : Int) := wrap_mul_u64 a 11400714819323198485
theorem k2_u64 (a : UInt64) : IntKind.u64.wrap ((a.toNat : Int) * 13787848793156543929) = ((a * 13787848793156543929).toNat : Int) := wrap_mul_u64 a 13787848793156543929
theorem k3_u64 (a : UInt64) : IntKind.u64.wrap ((a.toNat : Int) * 10723151780598845931) = ((a * 10723151780598845931).toNat : Int) := wrap_mul_u64 a 10723151780598845931
theorem k4_u64 (a : UInt64) : IntKind.u64.wrap ((a.toNat : Int) * 1099511628211) = ((a * 1099511628211).toNat : Int) := wrap_mul_u64 a 1099511628211
theorem s30_u64 (a : UInt64) : IntKind.u64.wrap ((a.toNat : Int).tdiv 1073741824) = ((a >>> 30).toNat : Int) := by
  rw [show (1073741824 : Int) = 2 ^ 30 from by decide, tdiv_u64 a 30 (by decide), wrap_self_u64]; rfl
theorem s27_u64 (a : UInt64) : IntKind.u64.wrap ((a.toNat : Int).tdiv 134217728) = ((a >>> 27).toNat : Int) := by
  rw [show (134217728 : Int) = 2 ^ 27 from by decide, tdiv_u64 a 27 (by decide), wrap_self_u64]; rfl
theorem s31_u64 (a : UInt64) : IntKind.u64.wrap ((a.toNat : Int).tdiv 2147483648) = ((a >>> 31).toNat : Int) := by
  rw [show (2147483648 : Int) = 2 ^ 31 from by decide, tdiv_u64 a 31 (by decide), wrap_self_u64]; rfl

theorem fold_any (x : UInt64) (n : Int) (w : World) (h0 : 0 ≤ n) (h1 : n < 64) :
    Calls Try.prog 101 #[.int .u64 x.toNat, .int .u64 n] w fun e w' => e = .returned (.int .u64 (foldU x (UInt64.ofNat n.toNat)).toNat) ∧ w = w' := by
  have hx := u64_bd x
  go_enter Try.func101, Try.ntmps101
  go_wp2
  go_ret
  refine ⟨ret_u64 ?_, rfl⟩
  rw [shr_u64 x n.toNat (by omega), xor_u64]
  rfl

theorem mix_any (a b c : UInt64) (w : World) :
    Calls Try.prog 99 #[.int .u64 a.toNat, .int .u64 b.toNat, .int .u64 c.toNat] w fun e w' => e = .returned (.int .u64 (mixU a b c).toNat) ∧ w = w' := by
  go_enter Try.func99, Try.ntmps99
  go_wp2_with fail
  rw [k1_u64, wrap_add_u64]
  with_reducible refine (fold_any _ _ _ (by decide) (by decide)).mono ?_
  rintro e w' ⟨rfl, rfl⟩
  go_wp2_with fail
  rw [k2_u64, wrap_add_u64]
  with_reducible refine (fold_any _ _ _ (by decide) (by decide)).mono ?_
  rintro e w' ⟨rfl, rfl⟩
  go_wp2_with fail
  rw [k3_u64]
  with_reducible refine (fold_any _ _ _ (by decide) (by decide)).mono ?_
  rintro e w' ⟨rfl, rfl⟩
  go_wp2_with fail
  go_ret
  exact ⟨rfl, rfl⟩

theorem refMix_any (a b c : UInt64) (w : World) :
    Calls Try.prog 71 #[.int .u64 a.toNat, .int .u64 b.toNat, .int .u64 c.toNat] w fun e w' => e = .returned (.int .u64 (mixU a b c).toNat) ∧ w = w' := by
  go_enter Try.func71, Try.ntmps71
  go_wp2
  go_ret
  refine ⟨ret_u64 ?_, rfl⟩
  simp only [k1_u64, k2_u64, k3_u64, wrap_add_u64, s30_u64, s27_u64, s31_u64, xor_u64]
  rfl

end Go.Proofs.Ytamiddnkgjfdhaa
