/-
  The walk of MsgChecks.
-/
import Derived.Test.YtnigjhfdeinlhabMsgRefCheck
import Derived.Deep.RegionHeld3
namespace Go.Proofs.Ytnigjhfdeinlhab
open Go.RowKit

theorem mcheck_zero (w : World) : Calls Try.prog 10 #[.agg #[.int .i64 0, .slice none 0 0, .string ⟨#[]⟩]] w fun e w' => e = .returned (.int .i64 1) ∧ Below w.heap.size w w' :=
  mcheck_is zeroM none 0 w 1 (idsAt_nil _ _) (by decide)

theorem msgChecks_walk (m : MsgD) (a : Option Addr) (cap : Nat) (hc : m.ids.length ≤ cap) (w : World) (hi : IdsAt w a m.ids) :
    Calls Try.prog 3 #[msgV a cap m] w fun e w' => e = .returned (.bool true) ∧ Below w.heap.size w w' := by
  obtain ⟨r, hr⟩ : ∃ r, checkM m = r := ⟨_, rfl⟩
  have HR := Lib.hid hr
  clear hr
  unfold msgV
  have hi0 := idsAt_kept (kept_new w (msgBox a cap m)) hi
  have hk := kept_new w (msgBox a cap m)
  obtain ⟨c0, c1, c2, hws⟩ := box_three (Below.refl _ (w.alloc (msgBox a cap m)))
  generalize hw0 : w.alloc (msgBox a cap m) = w0 at *
  have HW := Lib.hid hw0
  clear hw0
  go_enter Try.func3, Try.ntmps3
  go_wp2_with fail
  rw [HW.out]
  go_region_held3 (fun w' => w'.cell? ⟨w.heap.size, 0, none⟩ = some (.int .i64 m.kind) ∧ w'.cell? ⟨w.heap.size, 1, none⟩ = some (.slice a m.ids.length cap) ∧ w'.cell? ⟨w.heap.size, 2, none⟩ = some (.string m.body) ∧ Below w0.heap.size w0 w')
    (first | exact ⟨c0, c1, c2, (Below.refl _ _).drew⟩ | (go_split_ands; exact ⟨kept_cell hb1 (by assumption), kept_cell hb1 (by assumption), kept_cell hb1 (by assumption), kept_trans (by assumption) hb1⟩))
    (first
      | (go_at_call 10; ((with_reducible refine (mcheck_is m _ _ _ r (idsAt_kept ?_ hi0) HR.out).mono ?_); (go_split_ands; assumption); rintro e w1 ⟨rfl, hb1⟩))
      | (go_at_call 11; ((with_reducible refine (rcheck_is m _ _ _ r hc (idsAt_kept ?_ hi0) HR.out).mono ?_); (go_split_ands; assumption); rintro e w1 ⟨rfl, hb1⟩))
      | (go_at_call 10; ((with_reducible refine (mcheck_zero _).mono ?_); rintro e w1 ⟨rfl, hb1⟩)))
  go_wp2_with fail
  go_ret
  go_split_ands
  exact ⟨rfl, kept_trans hk (by assumption)⟩
end Go.Proofs.Ytnigjhfdeinlhab
