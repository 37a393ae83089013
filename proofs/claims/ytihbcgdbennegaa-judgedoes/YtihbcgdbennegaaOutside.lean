/-
  Contract of the reference's outside.
-/
import Derived.Test.YtihbcgdbennegaaBase
import Derived.Test.YtihbcgdbennegaaRest
import Derived.Test.YtihbcgdbennegaaDecMath
import Derived.Deep.RegionHeld3
import Derived.RegionTactic
import Derived.BigRegion
import Derived.Deep.RegionWith
import Derived.Laws.Bits64b
import Derived.Lib.AppendStr
namespace Go.Proofs.Ytihbcgdbennegaa
open Go.RowKit

theorem outside_yes (n lo hi : Int) (w : World) (h : within n lo hi = false) : Calls Try.prog 54 #[.int .i64 n, .int .i64 lo, .int .i64 hi] w fun e w' => e = .returned (.bool true) ∧ w = w' := by
  unfold within at h
  have h := of_decide_eq_false h
  by_cases h1 : n < lo
  · clear h
    go_enter Try.func54, Try.ntmps54
    go_wp2
    go_ret
    exact ⟨rfl, rfl⟩
  · have h2 : hi < n := by omega
    clear h
    go_enter Try.func54, Try.ntmps54
    go_wp2
    go_ret
    exact ⟨rfl, rfl⟩
theorem outside_no (n lo hi : Int) (w : World) (h : within n lo hi = true) : Calls Try.prog 54 #[.int .i64 n, .int .i64 lo, .int .i64 hi] w fun e w' => e = .returned (.bool false) ∧ w = w' := by
  unfold within at h
  have h := of_decide_eq_true h
  have h1 : ¬ n < lo := by omega
  have h2 : ¬ hi < n := by omega
  clear h
  go_enter Try.func54, Try.ntmps54
  go_wp2
  go_ret
  exact ⟨rfl, rfl⟩
end Go.Proofs.Ytihbcgdbennegaa
