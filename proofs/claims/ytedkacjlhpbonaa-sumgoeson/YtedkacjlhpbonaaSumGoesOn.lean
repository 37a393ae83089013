/-
  For all strings a, b and more: sum.Of(a) and sum.Of(b) are equal exactly if sum.Of(a+more) and sum.Of(b+more) are. Conditions: none beyond the form's own (its reach: each string takes at most 2^47 - 4096 bytes).
-/
import Derived.Test.YtedkacjlhpbonaaRows
import Derived.Test.YtedkacjlhpbonaaFrame
import Derived.Test.YtedkacjlhpbonaaSumLaws
namespace Go.Proofs.Ytedkacjlhpbonaa
open Go.ChangeShapes Go.WideShapes Go.ChangeAt Go.RowKit
open Go.ChangeMaps (open_string shut_string)

/-- The form's own reach, read off three strings. -/
theorem room3 {H : Type} {P : Program} {t0 t1 t2 : TypeId} {a b m : ByteArray}
    (h : (DataW.weightsEach (H := H) P [t0, t1, t2] [.lit (.string a.data.toList), .lit (.string b.data.toList), .lit (.string m.data.toList)]).all (· ≤ reachBytes) = true) :
    a.size + m.size ≤ 9223372036854775807 ∧ b.size + m.size ≤ 9223372036854775807 := by
  have e : ∀ s : ByteArray, s.data.toList.length = s.size := fun s => Array.length_toList
  have ha : a.data.toList.length ≤ reachBytes := of_decide_eq_true (List.all_eq_true.1 h _ (by simp [DataW.weightsEach, DataW.weights]))
  have hb : b.data.toList.length ≤ reachBytes := of_decide_eq_true (List.all_eq_true.1 h _ (by simp [DataW.weightsEach, DataW.weights]))
  have hm : m.data.toList.length ≤ reachBytes := of_decide_eq_true (List.all_eq_true.1 h _ (by simp [DataW.weightsEach, DataW.weights]))
  rw [e] at ha hb hm
  unfold reachBytes at ha hb hm
  omega

set_option maxRecDepth 100000 in
theorem sumGoesOn_lifted (os : Os) (started : os.Started) (H : Type) (enc : TypeId × Value → H) :
    ReturnsInHanded {} Try.checked os 6 .any (Rows.sumGoesOnSpec.pre6 enc Try.prog Try.f6 Rows.sumGoesOnRow.domain false) (Rows.sumGoesOnSpec.post enc Try.prog Try.f6 false true false false) := by
  refine law_lifted (C := Try.checked) (by kernel_rfl) started (by kernel_rfl) Try.func6 (by kernel_rfl) (by kernel_rfl) rfl (by kernel_rfl) Try.underlying4
    (fun ds h => by match ds, h with | [_, _, _], _ => rfl)
    (ChangeSpec.witness6 (enc := enc) (C := Try.checked) false ⟨#[], #[.string ByteArray.empty, .string ByteArray.empty, .string ByteArray.empty], []⟩ 8 (by kernel_rfl) (by kernel_rfl) (by kernel_rfl) (by kernel_rfl)) ?_
  intro W base args ds p hval hA hsz
  rw [Try.params6] at hval
  replace hA : DataW.TrodAll enc Try.prog W 0 (fun _ => true) true Try.f6.params.toList args.toList ds p := hA
  rw [Try.params6] at hA
  obtain ⟨v0, vs0, d0, ds0, p0, q0, hargs, rfl, rfl, h0, r0⟩ := trodAll_cons hA
  obtain ⟨v1, vs1, d1, ds1, p1, q1, rfl, rfl, rfl, h1, r1⟩ := trodAll_cons r0
  obtain ⟨v2, vs2, d2, ds2, p2, q2, rfl, rfl, rfl, h2, r2⟩ := trodAll_cons r1
  obtain ⟨rfl, rfl, rfl⟩ := trodAll_nil r2
  obtain rfl : args = #[v0, v1, v2] := by cases args; simp_all
  obtain ⟨x0, rfl, rfl, rfl, hx0⟩ := open_string Try.underlying9 (hval 0 9 v0 rfl rfl) h0
  obtain ⟨x1, rfl, rfl, rfl, hx1⟩ := open_string Try.underlying9 (hval 1 9 v1 rfl rfl) h1
  obtain ⟨x2, rfl, rfl, rfl, hx2⟩ := open_string Try.underlying9 (hval 2 9 v2 rfl rfl) h2
  have hroom := room3 hsz
  exact sumGoesOn_walk x0 x1 x2 hx0 hx1 hx2 hroom W

theorem sumGoesOn_holds : Rows.SumGoesOnSaid :=
  OpenClaim.holds_of_wide 6 Try.f6 rfl rfl rfl rfl rfl rfl rfl ⟨rfl, rfl, rfl, rfl, rfl⟩ rfl rfl rfl rfl rfl (by kernel_rfl) Try.func6 (by kernel_rfl)
    (of_decide_eq_true (by kernel_rfl)) (by unfold Func.isWrapper; first | (rw [if_pos (by decide +kernel)]; kernel_rfl) | (rw [if_neg (by decide +kernel)]; exact ⟨rfl, rfl⟩))
    (fun os started H enc _ => sumGoesOn_lifted os started H enc)
#print axioms sumGoesOn_holds
end Go.Proofs.Ytedkacjlhpbonaa
