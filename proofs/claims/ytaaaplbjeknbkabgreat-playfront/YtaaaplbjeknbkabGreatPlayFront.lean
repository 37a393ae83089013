/-
  PlayFront: for every salt and all acts of bulk at most 1048576 the law's call returns true and leaves its arguments as they were.
-/
import Derived.Test.YtaaaplbjeknbkabGreatRows
import Derived.Test.YtaaaplbjeknbkabGreatPlayFrontW
import Derived.Test.YtaaaplbjeknbkabGreatUFrame
import Derived.Test.YtaaaplbjeknbkabGreatUBulk
import Derived.KernelRfl
set_option maxRecDepth 20000
namespace Go.Proofs.YtaaaplbjeknbkabGreat
open Go.ChangeShapes Go.WideShapes Go.ChangeAt Go.RowKit

set_option maxRecDepth 100000 in
theorem playFront_upto (os : Os) (started : os.Started) (H : Type) (enc : TypeId × Value → H) (I : Stop.Interp) :
    ReturnsInHanded {} Tryz.checked os 5 .any ((Rows.OpenSpec.upto Rows.playFrontSpec).pre6 enc Tryz.prog Tryz.f5 Rows.playFrontUptoRow.domain false) (((Rows.OpenSpec.upto Rows.playFrontSpec).at I).post enc Tryz.prog Tryz.f5 false true false false) := by
  refine law_upto (C := Tryz.checked) (s := Rows.playFrontSpec) (k := Rows.uptoSmall) I (by kernel_rfl) started (by kernel_rfl) Tryz.func5 (by kernel_rfl) (by kernel_rfl) rfl (by kernel_rfl) Tryz.underlying4
    (fun ds h => by match ds, h with | [_, _, _], _ => rfl)
    (OpenSpec.witness (enc := enc) (C := Tryz.checked) (s := Rows.OpenSpec.upto Rows.playFrontSpec) (k := Rows.uptoSmall) rfl false ⟨#[], #[.int .u64 0, .slice none 0 0, .slice none 0 0], []⟩ 8 (by kernel_rfl) (by kernel_rfl) (by kernel_rfl)
      (x := ([.lit (.int .u64 0), .nil, .nil], [], [])) (by kernel_rfl) rfl (by kernel_rfl)) ?_
  intro W base args ds p hval hA hk
  rw [Tryz.params5] at hval
  replace hA : DataW.TrodAll enc Tryz.prog W 0 (fun _ => true) true Tryz.f5.params.toList args.toList ds p := hA
  rw [Tryz.params5] at hA
  obtain ⟨v0, vs0, d0, ds0, p0, q0, hargs, rfl, rfl, h0, r0⟩ := trodAll_cons hA
  obtain ⟨v1, vs1, d1, ds1, p1, q1, rfl, rfl, rfl, h1, r1⟩ := trodAll_cons r0
  obtain ⟨v2, vs2, d2, ds2, p2, q2, rfl, rfl, rfl, h2, r2⟩ := trodAll_cons r1
  obtain ⟨rfl, rfl, rfl⟩ := trodAll_nil r2
  obtain rfl : args = #[v0, v1, v2] := by cases args; simp_all
  have hB := bulk_all hk
  obtain ⟨n0, rfl, rfl, rfl, wx0⟩ := open_int Tryz.underlying22 (hval 0 22 v0 rfl rfl) h0
  obtain ⟨x0, rfl⟩ := wf_u64 wx0
  obtain ⟨a1, c1, x1, rfl, hc1, hz1, hi1⟩ := open_acts_kinds (hval 1 53 v1 rfl rfl) h1
  have hu1 := bulk_len hz1 (hB 1 _ rfl)
  obtain ⟨a2, c2, x2, rfl, hc2, hz2, hi2⟩ := open_acts_kinds (hval 2 53 v2 rfl rfl) h2
  have hu2 := bulk_len hz2 (hB 2 _ rfl)
  exact playFront_walk x0 x1 a1 c1 x2 a2 c2  hu1 hu2 W hi1 hi2

theorem playFront_holds_upto : Rows.PlayFrontUptoSaid :=
  OpenClaim.holds_of_cond 5 Tryz.f5 rfl rfl rfl rfl rfl rfl rfl ⟨rfl, rfl, rfl, rfl, rfl⟩ rfl rfl rfl rfl rfl (by kernel_rfl) Tryz.func5 (by kernel_rfl)
    (of_decide_eq_true (by kernel_rfl)) (by unfold Func.isWrapper; first | (rw [if_pos (by decide +kernel)]; kernel_rfl) | (rw [if_neg (by decide +kernel)]; exact ⟨rfl, rfl⟩))
    (fun os started H enc _ I => playFront_upto os started H enc I)
#print axioms playFront_holds_upto
end Go.Proofs.YtaaaplbjeknbkabGreat
