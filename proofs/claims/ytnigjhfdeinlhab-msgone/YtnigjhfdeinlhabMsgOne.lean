/-
  MsgOne: for every two messages the law's call returns true and leaves its arguments as they were. No condition.
-/
import Derived.Test.YtnigjhfdeinlhabRows
import Derived.Test.YtnigjhfdeinlhabMsgOpen
import Derived.Test.YtnigjhfdeinlhabMsgEq
import Derived.KernelRfl
namespace Go.Proofs.Ytnigjhfdeinlhab
open Go.ChangeShapes Go.WideShapes Go.ChangeAt Go.RowKit

set_option maxRecDepth 100000 in
theorem msgOne_lifted (os : Os) (started : os.Started) (H : Type) (enc : TypeId × Value → H) :
    ReturnsInHanded {} Try.checked os 7 .any (Rows.msgOneSpec.pre6 enc Try.prog Try.f7 Rows.msgOneRow.domain false) (Rows.msgOneSpec.post enc Try.prog Try.f7 false true false false) := by
  refine law_lifted (C := Try.checked) (by kernel_rfl) started (by kernel_rfl) Try.func7 (by kernel_rfl) (by kernel_rfl) rfl (by kernel_rfl) Try.underlying4
    (fun ds h => by match ds, h with | [_, _], _ => rfl)
    (ChangeSpec.witness6 (enc := enc) (C := Try.checked) false ⟨#[], #[.agg #[.int .i64 0, .slice none 0 0, .string ByteArray.empty], .agg #[.int .i64 0, .slice none 0 0, .string ByteArray.empty]], []⟩ 8 (by kernel_rfl) (by kernel_rfl) (by kernel_rfl) (by kernel_rfl)) ?_
  intro W base args ds p hval hA hsz
  rw [Try.params7] at hval
  replace hA : DataW.TrodAll enc Try.prog W 0 (fun _ => true) true Try.f7.params.toList args.toList ds p := hA
  rw [Try.params7] at hA
  obtain ⟨v0, vs0, d0, ds0, p0, q0, hargs, rfl, rfl, h0, r0⟩ := trodAll_cons hA
  obtain ⟨v1, vs1, d1, ds1, p1, q1, rfl, rfl, rfl, h1, r1⟩ := trodAll_cons r0
  obtain ⟨rfl, rfl, rfl⟩ := trodAll_nil r1
  obtain rfl : args = #[v0, v1] := by cases args; simp_all
  obtain ⟨a0, c0, x0, rfl, hc0, hi0⟩ := open_msg (hval 0 24 v0 rfl rfl) h0
  obtain ⟨a1, c1, x1, rfl, hc1, hi1⟩ := open_msg (hval 1 24 v1 rfl rfl) h1
  exact msgOne_walk x0 a0 c0 hc0 x1 a1 c1 hc1   W hi0 hi1

theorem msgOne_holds : Rows.MsgOneSaid :=
  OpenClaim.holds_of_wide 7 Try.f7 rfl rfl rfl rfl rfl rfl rfl ⟨rfl, rfl, rfl, rfl, rfl⟩ rfl rfl rfl rfl rfl (by kernel_rfl) Try.func7 (by kernel_rfl)
    (of_decide_eq_true (by kernel_rfl)) (by unfold Func.isWrapper; first | (rw [if_pos (by decide +kernel)]; kernel_rfl) | (rw [if_neg (by decide +kernel)]; exact ⟨rfl, rfl⟩))
    (fun os started H enc _ => msgOne_lifted os started H enc)
#print axioms msgOne_holds
end Go.Proofs.Ytnigjhfdeinlhab
