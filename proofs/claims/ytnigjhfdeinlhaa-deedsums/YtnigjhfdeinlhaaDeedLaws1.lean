/-
  The walks of the laws on Check.
-/
import Derived.Test.YtnigjhfdeinlhaaEncode
import Derived.Deep.RegionHeld3
namespace Go.Proofs.Ytnigjhfdeinlhaa
open Go.RowKit

theorem insAt_nil (w : World) (a : Option Addr) : InsAt w a [] := fun i hi => absurd hi (by simp)
theorem check_zero (w : World) : Calls Try.prog 11 #[.agg #[.slice none 0 0, .int .i64 0, .int .i64 0, .int .i64 0]] w fun e w' => e = .returned (.int .i64 1) ∧ Below w.heap.size w w' :=
  check_is ⟨[], 0, 0, 0⟩ none 0 w 1 (insAt_nil _ _) (by decide)

theorem deedChecks_walk (d : DeedD) (a : Option Addr) (cap : Nat) (hc : d.ins.length ≤ cap) (w : World) (hi : InsAt w a d.ins) :
    Calls Try.prog 3 #[deedV a cap d] w fun e w' => e = .returned (.bool true) ∧ Below w.heap.size w w' := by
  obtain ⟨r, hr⟩ : ∃ r, checkD d = r := ⟨_, rfl⟩
  have HR := Lib.hid hr
  clear hr
  unfold deedV
  have hi0 := insAt_kept (kept_new w (.cells #[.slice a d.ins.length cap, .int .i64 d.outs, .int .i64 d.weight, .int .i64 d.fee] 24)) hi
  have hk := kept_new w (.cells #[.slice a d.ins.length cap, .int .i64 d.outs, .int .i64 d.weight, .int .i64 d.fee] 24)
  obtain ⟨c0, c1, c2, c3, hws⟩ := box_four (Below.refl _ (w.alloc (.cells #[.slice a d.ins.length cap, .int .i64 d.outs, .int .i64 d.weight, .int .i64 d.fee] 24)))
  generalize hw0 : w.alloc (.cells #[.slice a d.ins.length cap, .int .i64 d.outs, .int .i64 d.weight, .int .i64 d.fee] 24) = w0 at *
  have HW := Lib.hid hw0
  clear hw0
  go_enter Try.func3, Try.ntmps3
  go_wp2_with fail
  rw [HW.out]
  go_region_held3 (fun w' => w'.cell? ⟨w.heap.size, 0, none⟩ = some (.slice a d.ins.length cap) ∧ w'.cell? ⟨w.heap.size, 1, none⟩ = some (.int .i64 d.outs) ∧ w'.cell? ⟨w.heap.size, 2, none⟩ = some (.int .i64 d.weight) ∧ w'.cell? ⟨w.heap.size, 3, none⟩ = some (.int .i64 d.fee) ∧ Below w0.heap.size w0 w')
    (first | exact ⟨c0, c1, c2, c3, (Below.refl _ _).drew⟩ | (go_split_ands; exact ⟨kept_cell hb1 (by assumption), kept_cell hb1 (by assumption), kept_cell hb1 (by assumption), kept_cell hb1 (by assumption), kept_trans (by assumption) hb1⟩))
    (first
      | (go_at_call 11; ((with_reducible refine (check_is d _ _ _ r (insAt_kept ?_ hi0) HR.out).mono ?_); (go_split_ands; assumption); rintro e w1 ⟨rfl, hb1⟩))
      | (go_at_call 12; ((with_reducible refine (refCheck_is d _ _ _ r hc (insAt_kept ?_ hi0) HR.out).mono ?_); (go_split_ands; assumption); rintro e w1 ⟨rfl, hb1⟩))
      | (go_at_call 11; ((with_reducible refine (check_zero _).mono ?_); rintro e w1 ⟨rfl, hb1⟩)))
  go_wp2_with fail
  go_ret
  go_split_ands
  exact ⟨rfl, kept_trans hk (by assumption)⟩

end Go.Proofs.Ytnigjhfdeinlhaa
