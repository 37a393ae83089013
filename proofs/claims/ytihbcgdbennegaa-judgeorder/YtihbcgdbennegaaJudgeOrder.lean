/-
  JudgeOrder: for every slice of transactions and every two transactions the law's call returns true and leaves its arguments as they were. No condition.
-/
import Derived.Test.YtihbcgdbennegaaRows
import Derived.Test.YtihbcgdbennegaaJLaws2
import Derived.KernelRfl
namespace Go.Proofs.Ytihbcgdbennegaa
open Go.ChangeShapes Go.WideShapes Go.ChangeAt Go.RowKit

set_option maxRecDepth 100000 in
theorem judgeOrder_lifted (os : Os) (started : os.Started) (H : Type) (enc : TypeId × Value → H) :
    ReturnsInHanded {} Try.checked os 8 .any (Rows.judgeOrderSpec.pre6 enc Try.prog Try.f8 Rows.judgeOrderRow.domain false) (Rows.judgeOrderSpec.post enc Try.prog Try.f8 false true false false) := by
  refine law_lifted (C := Try.checked) (by kernel_rfl) started (by kernel_rfl) Try.func8 (by kernel_rfl) (by kernel_rfl) rfl (by kernel_rfl) Try.underlying4
    (fun ds h => by match ds, h with | [_, _, _], _ => rfl)
    (ChangeSpec.witness6 (enc := enc) (C := Try.checked) false ⟨#[], #[.slice none 0 0, .agg #[.slice none 0 0, .int .i64 0, .int .i64 0, .int .i64 0], .agg #[.slice none 0 0, .int .i64 0, .int .i64 0, .int .i64 0]], []⟩ 8 (by kernel_rfl) (by kernel_rfl) (by kernel_rfl) (by kernel_rfl)) ?_
  intro W base args ds p hval hA hsz
  rw [Try.params8] at hval
  replace hA : DataW.TrodAll enc Try.prog W 0 (fun _ => true) true Try.f8.params.toList args.toList ds p := hA
  rw [Try.params8] at hA
  obtain ⟨v0, vs0, d0, ds0, p0, q0, hargs, rfl, rfl, h0, r0⟩ := trodAll_cons hA
  obtain ⟨v1, vs1, d1, ds1, p1, q1, rfl, rfl, rfl, h1, r1⟩ := trodAll_cons r0
  obtain ⟨v2, vs2, d2, ds2, p2, q2, rfl, rfl, rfl, h2, r2⟩ := trodAll_cons r1
  obtain ⟨rfl, rfl, rfl⟩ := trodAll_nil r2
  obtain rfl : args = #[v0, v1, v2] := by cases args; simp_all
  obtain ⟨a0, c0, x0, rfl, hc0, hm0, hi0⟩ := open_deeds_room (hval 0 22 v0 rfl rfl) h0 hsz
  obtain ⟨a1, c1, x1, rfl, hc1, hi1⟩ := open_deed (hval 1 30 v1 rfl rfl) h1
  obtain ⟨a2, c2, x2, rfl, hc2, hi2⟩ := open_deed (hval 2 30 v2 rfl rfl) h2
  exact judgeOrder_walk x0 a0 c0 x1 a1 c1 hc1 x2 a2 c2 hc2 hm0   W hi0 hi1 hi2

theorem judgeOrder_holds : Rows.JudgeOrderSaid :=
  OpenClaim.holds_of_wide 8 Try.f8 rfl rfl rfl rfl rfl rfl rfl ⟨rfl, rfl, rfl, rfl, rfl⟩ rfl rfl rfl rfl rfl (by kernel_rfl) Try.func8 (by kernel_rfl)
    (of_decide_eq_true (by kernel_rfl)) (by unfold Func.isWrapper; first | (rw [if_pos (by decide +kernel)]; kernel_rfl) | (rw [if_neg (by decide +kernel)]; exact ⟨rfl, rfl⟩))
    (fun os started H enc _ => judgeOrder_lifted os started H enc)
#print axioms judgeOrder_holds
end Go.Proofs.Ytihbcgdbennegaa
