/-
  The contract of the reference's Rest: the rest of a division, never negative.
-/
import Derived.Test.YtihbcgdbennegaaBase
import Derived.Test.YtihbcgdbennegaaDecMath
namespace Go.Proofs.Ytihbcgdbennegaa
open Go.RowKit

theorem rest_any (n m : Int) (w : World) (hm : 0 < m) (hm2 : m ≤ 9223372036854775807) :
    Calls Try.prog 27 #[.int .i64 n, .int .i64 m] w fun e w' => e = .returned (.int .i64 (n % m)) ∧ w = w' := by
  obtain ⟨hlo, hhi, hneg, hpos⟩ := tmod_cases n m hm
  by_cases h0 : n.tmod m < 0
  · have H := Lib.hid (hneg h0)
    clear hneg hpos
    have h1 : (0 : Int) ≤ n.tmod m + m := by omega
    go_enter Try.func27, Try.ntmps27
    go_wp2
    go_ret
    exact ⟨ret_i64 H.out, rfl⟩
  · have H := Lib.hid (hpos (by omega))
    clear hneg hpos
    go_enter Try.func27, Try.ntmps27
    go_wp2
    go_ret
    exact ⟨ret_i64 H.out, rfl⟩
theorem rest_is (n m k : Int) (w : World) (hm : 0 < m) (hm2 : m ≤ 9223372036854775807) (h : n % m = k) :
    Calls Try.prog 27 #[.int .i64 n, .int .i64 m] w fun e w' => e = .returned (.int .i64 k) ∧ w = w' := h ▸ rest_any n m w hm hm2
end Go.Proofs.Ytihbcgdbennegaa
