/-
  MsgCut: for every message, index and string the law's call returns true and leaves its arguments as they were. Conditions: none beyond the form's own (its reach: each string takes at most 2^47 - 4096 bytes).
-/
import Derived.Test.YtnigjhfdeinlhabRows
import Derived.Test.YtnigjhfdeinlhabMsgOpen
import Derived.Test.YtnigjhfdeinlhabMsgLaws3
import Derived.KernelRfl
namespace Go.Proofs.Ytnigjhfdeinlhab
open Go.ChangeShapes Go.WideShapes Go.ChangeAt Go.RowKit
open Go.ChangeMaps (open_string shut_string)

theorem room_last {H : Type} {P : Program} {t0 t1 t2 : TypeId} {d0 d1 : DataW H} {m : ByteArray} (h : (DataW.weightsEach (H := H) P [t0, t1, t2] [d0, d1, .lit (.string m.data.toList)]).all (· ≤ reachBytes) = true) : m.size ≤ 4611686018427387904 := by
  have e : ∀ s : ByteArray, s.data.toList.length = s.size := fun s => Array.length_toList
  have hm : m.data.toList.length ≤ reachBytes := of_decide_eq_true (List.all_eq_true.1 h _ (by simp [DataW.weightsEach, DataW.weights]))
  rw [e] at hm
  unfold reachBytes at hm
  omega

set_option maxRecDepth 100000 in
theorem msgCut_lifted (os : Os) (started : os.Started) (H : Type) (enc : TypeId × Value → H) :
    ReturnsInHanded {} Try.checked os 8 .any (Rows.msgCutSpec.pre6 enc Try.prog Try.f8 Rows.msgCutRow.domain false) (Rows.msgCutSpec.post enc Try.prog Try.f8 false true false false) := by
  refine law_lifted (C := Try.checked) (by kernel_rfl) started (by kernel_rfl) Try.func8 (by kernel_rfl) (by kernel_rfl) rfl (by kernel_rfl) Try.underlying4
    (fun ds h => by match ds, h with | [_, _, _], _ => rfl)
    (ChangeSpec.witness6 (enc := enc) (C := Try.checked) false ⟨#[], #[.agg #[.int .i64 0, .slice none 0 0, .string ByteArray.empty], .int .i64 0, .string ByteArray.empty], []⟩ 8 (by kernel_rfl) (by kernel_rfl) (by kernel_rfl) (by kernel_rfl)) ?_
  intro W base args ds p hval hA hsz
  rw [Try.params8] at hval
  replace hA : DataW.TrodAll enc Try.prog W 0 (fun _ => true) true Try.f8.params.toList args.toList ds p := hA
  rw [Try.params8] at hA
  obtain ⟨v0, vs0, d0, ds0, p0, q0, hargs, rfl, rfl, h0, r0⟩ := trodAll_cons hA
  obtain ⟨v1, vs1, d1, ds1, p1, q1, rfl, rfl, rfl, h1, r1⟩ := trodAll_cons r0
  obtain ⟨v2, vs2, d2, ds2, p2, q2, rfl, rfl, rfl, h2, r2⟩ := trodAll_cons r1
  obtain ⟨rfl, rfl, rfl⟩ := trodAll_nil r2
  obtain rfl : args = #[v0, v1, v2] := by cases args; simp_all
  obtain ⟨a0, c0, x0, rfl, hc0, hi0⟩ := open_msg (hval 0 24 v0 rfl rfl) h0
  obtain ⟨x1, rfl, rfl, rfl, wx1⟩ := open_int Try.underlying3 (hval 1 3 v1 rfl rfl) h1
  have hx1 := bounds_i64 wx1
  obtain ⟨x2, rfl, rfl, rfl, hx2⟩ := open_string Try.underlying9 (hval 2 9 v2 rfl rfl) h2
  have hroom := room_last hsz
  exact msgCut_walk x0 a0 c0 hc0 x1 x2  hx1 hx2 hroom W hi0

theorem msgCut_holds : Rows.MsgCutSaid :=
  OpenClaim.holds_of_wide 8 Try.f8 rfl rfl rfl rfl rfl rfl rfl ⟨rfl, rfl, rfl, rfl, rfl⟩ rfl rfl rfl rfl rfl (by kernel_rfl) Try.func8 (by kernel_rfl)
    (of_decide_eq_true (by kernel_rfl)) (by unfold Func.isWrapper; first | (rw [if_pos (by decide +kernel)]; kernel_rfl) | (rw [if_neg (by decide +kernel)]; exact ⟨rfl, rfl⟩))
    (fun os started H enc _ => msgCut_lifted os started H enc)
#print axioms msgCut_holds
end Go.Proofs.Ytnigjhfdeinlhab
