/-
  The walk of DeedDecodes.
-/
import Derived.Test.YtnigjhfdeinlhaaRefDecode2
import Derived.Test.YtnigjhfdeinlhaaDeedLaws5
import Derived.Test.YtnigjhfdeinlhaaDeedLaws1
namespace Go.Proofs.Ytnigjhfdeinlhaa
open Go.RowKit

/-- What both Decodes answer, in one word. -/
def ansD (l : List UInt8) : DeedD := if errD l = 0 then readD l else zeroD
theorem err_zero {l : List UInt8} (h : errD l = 0) : formD l = 0 ∧ checkD (readD l) = 0 := by
  unfold errD at h
  split at h
  · rename_i hh; exact absurd h hh
  · rename_i hh; exact ⟨by simpa using hh, h⟩
theorem decode_all (s : ByteArray) (r : Int) (X : DeedD) (w : World) (hs : s.size ≤ maxLen) (h : errD s.data.toList = r) (hX : ansD s.data.toList = X) : Calls Try.prog 15 #[.string s] w (GaveBoth w X r) := by
  unfold ansD at hX
  by_cases h0 : errD s.data.toList = 0
  · rw [if_pos h0] at hX
    rw [h0] at h
    subst h hX
    obtain ⟨h1, h2⟩ := err_zero h0
    exact decode_ok s w hs h1 h2
  · rw [if_neg h0] at hX
    subst hX
    exact decode_bad s r w hs h (by rw [← h]; exact h0)
theorem refDecode_all (s : ByteArray) (r : Int) (X : DeedD) (w : World) (hs : s.size ≤ maxLen) (h : errD s.data.toList = r) (hX : ansD s.data.toList = X) : Calls Try.prog 16 #[.string s] w (GaveBoth w X r) := by
  by_cases hf : formD s.data.toList = 0
  · obtain ⟨h0, hsz⟩ := form_zero hf
    have hln : s.data.toList.length = s.size := by simp
    have hp : 1 < s.size := by omega
    rw [getD_at s 1 hp, hln] at hsz
    rw [getD_at s 0 (by omega)] at h0
    have hc : errD s.data.toList = checkD (readD s.data.toList) := by unfold errD; rw [if_neg (by simp [hf])]
    refine refDecode_read s _ _ r w hp h0 rfl hsz rfl (hc.symm.trans h) X ?_
    rw [← hX]
    unfold ansD
    rw [h]
  · have hc : errD s.data.toList = formD s.data.toList := by unfold errD; rw [if_pos hf]
    have hr : r ≠ 0 := by rw [← h, hc]; exact hf
    have hX' : X = zeroD := by rw [← hX]; unfold ansD; rw [if_neg (by rw [h]; exact hr)]
    subst hX'
    exact refDecode_form s r w hs (hc.symm.trans h) hr

theorem ans_len (l : List UInt8) : (ansD l).ins.length ≤ maxLen := by
  unfold ansD
  split
  · rename_i h
    have := (check_ok (err_zero h).2).1
    unfold maxLen
    omega
  · decide

set_option maxHeartbeats 1000000 in
theorem deedDecodes_walk (s : ByteArray) (hs : s.size ≤ maxLen) (w : World) :
    Calls Try.prog 5 #[.string s] w fun e w' => e = .returned (.bool true) ∧ Below w.heap.size w w' := by
  obtain ⟨r, hr⟩ : ∃ r, errD s.data.toList = r := ⟨_, rfl⟩
  obtain ⟨X, hX⟩ : ∃ X, ansD s.data.toList = X := ⟨_, rfl⟩
  have hl : X.ins.length ≤ maxLen := by rw [← hX]; exact ans_len _
  have HR := Lib.hid hr
  have HX := Lib.hid hX
  clear hr hX
  go_enter Try.func5, Try.ntmps5
  go_wp2_with fail
  with_reducible refine (decode_all s r X _ hs HR.out HX.out).mono ?_
  rintro e w1 ⟨a1, cap1, rfl, hcap1, hi1, hfr1, hb1⟩
  have hk1 := kept_new w1 (.cells #[.slice a1 X.ins.length cap1, .int .i64 X.outs, .int .i64 X.weight, .int .i64 X.fee] 24)
  have hi1' := insAt_kept hk1 hi1
  go_wp2_with fail
  with_reducible refine (refDecode_all s r X _ hs HR.out HX.out).mono ?_
  rintro e w2 ⟨a2, cap2, rfl, hcap2, hi2, hfr2, hb2⟩
  have hk2 := kept_new w2 (.cells #[.slice a2 X.ins.length cap2, .int .i64 X.outs, .int .i64 X.weight, .int .i64 X.fee] 24)
  have hi2' := insAt_kept hk2 hi2
  have hi1'' := insAt_kept (kept_trans hb2 hk2) hi1'
  obtain ⟨c0, c1, c2, c3, hws⟩ := box_four (kept_trans hb2 hk2)
  have hws2 : w1.heap.size < w2.heap.size := by have := hb2.size; simp at this; omega
  obtain ⟨f0, f1, f2, f3, _⟩ := box_four hb2
  go_wp2_with fail
  with_reducible refine (deedEq_is X X _ _ _ _ _ true hl hi1'' hi2' (eqD_refl X)).mono ?_
  rintro e w3 ⟨rfl, hb3⟩
  go_wp2_with fail
  with_reducible refine (check_zero _).mono ?_
  rintro e w4 ⟨rfl, hb4⟩
  go_wp2_with fail
  go_ret
  exact ⟨rfl, kept_trans (kept_trans (kept_trans (kept_trans (kept_trans hb1 hk1) hb2) hk2) hb3) hb4⟩
end Go.Proofs.Ytnigjhfdeinlhaa
