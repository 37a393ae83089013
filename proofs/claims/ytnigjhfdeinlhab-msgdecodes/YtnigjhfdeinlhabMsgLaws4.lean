/-
  The walk of MsgDecodes.
-/
import Derived.Test.YtnigjhfdeinlhabMsgRefDecode2
import Derived.Test.YtnigjhfdeinlhabMsgLaws3
namespace Go.Proofs.Ytnigjhfdeinlhab
open Go.RowKit

theorem ansM_err {l : List UInt8} {r : Int} (h : errM l = r) (hr : r ≠ 0) : ansM l = zeroM := by unfold ansM; rw [if_neg (by rw [h]; exact hr)]
/-- The reference's MsgDecode, whatever the bytes. -/
theorem rdecode_all (s : ByteArray) (r : Int) (X : MsgD) (w : World) (hs : s.size ≤ maxLen) (h : errM s.data.toList = r) (hX : ansM s.data.toList = X) : Calls Try.prog 15 #[.string s] w (GaveM w X r) := by
  have hlen := len_eq s
  by_cases hf : formM s.data.toList = 0
  · obtain ⟨h0, h1, h2⟩ := formM_zero hf
    have hp : 0 < s.size := by omega
    have hk := kind_at s hp
    rw [hk] at h1 h2
    have hc : checkM (readM s.data.toList) = r := by rw [← h]; unfold errM; rw [if_neg (by simp [hf])]
    have hX' : X = if r = 0 then readM s.data.toList else zeroM := by rw [← hX]; unfold ansM; rw [h]
    by_cases h3 : (s[0].toNat : Int) = 3
    · refine rdecode_bring s r _ X w hp h3 ?_ hc hX'
      unfold readM
      rw [hk, if_pos h3]
      congr 1
      apply ByteArray.ext
      apply Array.toList_inj.1
      rw [extract_end _ _ _ rfl]
    · have hl := h2 h3
      rw [hlen] at hl
      have hp1 : 1 < s.size := by omega
      rw [getD_at s 1 hp1] at hl
      refine rdecode_ids s _ r _ X w hp1 h1 h3 rfl hl ?_ hc hX'
      unfold readM
      rw [hk, if_neg h3, getD_at s 1 hp1]
  · have he : formM s.data.toList = r := by rw [← h]; unfold errM; rw [if_pos hf]
    have hr : r ≠ 0 := by rw [← he]; exact hf
    rw [ansM_err h hr] at hX
    subst hX
    clear h
    by_cases h0 : s.size = 0
    · have : r = 3 := by rw [← he]; unfold formM; rw [hlen, if_pos h0]
      subst this
      exact rdecode_none s w h0
    · have hp : 0 < s.size := by omega
      have hk := kind_at s hp
      unfold formM at he
      rw [hlen, if_neg h0, hk] at he
      by_cases hw : within (s[0].toNat : Int) 1 4 = false
      · rw [if_pos hw] at he
        subst he
        exact rdecode_kind s w hp hw
      · rw [if_neg hw] at he
        rw [Bool.not_eq_false] at hw
        by_cases h3 : (s[0].toNat : Int) = 3
        · rw [if_pos h3] at he
          exact absurd he.symm hr
        · rw [if_neg h3] at he
          by_cases h2 : s.size < 2
          · rw [if_pos h2] at he
            subst he
            exact rdecode_one s w hp (by omega) hw h3
          · rw [if_neg h2, getD_at s 1 (by omega)] at he
            by_cases h4 : s.size < 2 + 8 * s[1].toNat
            · rw [if_pos h4] at he
              subst he
              exact rdecode_short s w hs (by omega) hw h3 h4
            · rw [if_neg h4] at he
              by_cases h5 : 2 + 8 * s[1].toNat < s.size
              · rw [if_pos h5] at he
                subst he
                exact rdecode_long s w hs (by omega) hw h3 h5
              · rw [if_neg h5] at he
                exact absurd he.symm hr

set_option maxHeartbeats 1000000 in
theorem msgDecodes_walk (s : ByteArray) (hs : s.size ≤ maxLen) (w : World) :
    Calls Try.prog 5 #[.string s] w fun e w' => e = .returned (.bool true) ∧ Below w.heap.size w w' := by
  obtain ⟨r, hr⟩ : ∃ r, errM s.data.toList = r := ⟨_, rfl⟩
  obtain ⟨X, hX⟩ : ∃ X, ansM s.data.toList = X := ⟨_, rfl⟩
  have hl : X.ids.length ≤ maxLen := by rw [← hX]; exact ansM_len _
  have HR := Lib.hid hr
  have HX := Lib.hid hX
  clear hr hX
  go_enter Try.func5, Try.ntmps5
  go_wp2_with fail
  with_reducible refine (mdecode_all s r X _ hs HR.out HX.out).mono ?_
  rintro e w1 ⟨a1, cap1, rfl, hcap1, hi1, hfr1, hb1⟩
  have hk1 := kept_new w1 (msgBox a1 cap1 X)
  have hi1' := idsAt_kept hk1 hi1
  go_wp2_with fail
  with_reducible refine (rdecode_all s r X _ hs HR.out HX.out).mono ?_
  rintro e w2 ⟨a2, cap2, rfl, hcap2, hi2, hfr2, hb2⟩
  have hk2 := kept_new w2 (msgBox a2 cap2 X)
  have hi2' := idsAt_kept hk2 hi2
  have hi1'' := idsAt_kept (kept_trans hb2 hk2) hi1'
  obtain ⟨c0, c1, c2, hws⟩ := box_three (kept_trans hb2 hk2)
  have hws2 : w1.heap.size < w2.heap.size := by have := hb2.size; simp at this; omega
  obtain ⟨f0, f1, f2, _⟩ := box_three hb2
  go_wp2_with fail
  with_reducible refine (msgEq_any X X _ _ _ _ _ true (Lib.hid (eqM_refl X)) hl hi1'' hi2').mono ?_
  rintro e w3 ⟨rfl, hb3⟩
  go_wp2_with fail
  with_reducible refine (mcheck_zero _).mono ?_
  rintro e w4 ⟨rfl, hb4⟩
  go_wp2_with fail
  go_ret
  exact ⟨rfl, kept_trans (kept_trans (kept_trans (kept_trans (kept_trans hb1 hk1) hb2) hk2) hb3) hb4⟩
end Go.Proofs.Ytnigjhfdeinlhab
