/-
  The walk of DeedBack.
-/
import Derived.Test.YtnigjhfdeinlhaaDeedLaws4
namespace Go.Proofs.Ytnigjhfdeinlhaa
open Go.RowKit

theorem eqD_refl (d : DeedD) : eqD d d = true := by
  unfold eqD
  simp
theorem check_zeroD : checkD zeroD = 1 := by decide
theorem encode_zero' (a : Option Addr) (cap : Nat) (w : World) : Calls Try.prog 13 #[.agg #[.slice a 0 cap, .int .i64 0, .int .i64 0, .int .i64 0]] w fun e w' => e = .returned (.tuple #[.string ⟨#[]⟩, .int .i64 1]) ∧ Below w.heap.size w w' :=
  encode_err zeroD a cap w 1 (insAt_none _ _) check_zeroD (by decide)
theorem deedEq_zero' (a : Option Addr) (cap : Nat) (w : World) : Calls Try.prog 17 #[.agg #[.slice a 0 cap, .int .i64 0, .int .i64 0, .int .i64 0], .agg #[.slice none 0 0, .int .i64 0, .int .i64 0, .int .i64 0]] w fun e w' => e = .returned (.bool true) ∧ Below w.heap.size w w' :=
  deedEq_is zeroD zeroD a none cap 0 w true (by decide) (insAt_none _ _) (insAt_none _ _) (eqD_refl _)
/-- The error of Decode, with the value laid out. -/
theorem decode_fail (s : ByteArray) (r : Int) (w : World) (hs : s.size ≤ maxLen) (h : errD s.data.toList = r) (hr : r ≠ 0) : Calls Try.prog 15 #[.string s] w fun e w' => ∃ (a : Option Addr) (cap : Nat), e = .returned (.tuple #[.agg #[.slice a 0 cap, .int .i64 0, .int .i64 0, .int .i64 0], .int .i64 r]) ∧ Below w.heap.size w w' :=
  (decode_bad s r w hs h hr).mono fun _ _ ⟨a, cap, he, _, _, _, hb⟩ => ⟨a, cap, he, hb⟩

set_option maxHeartbeats 1000000 in
theorem deedBack_ok_ok (d : DeedD) (a : Option Addr) (cap : Nat) (s : ByteArray) (w : World) (hs : s.size ≤ maxLen) (hi : InsAt w a d.ins) (h0 : checkD d = 0) (h1 : errD s.data.toList = 0) : 
    Calls Try.prog 7 #[.agg #[.slice a d.ins.length cap, .int .i64 d.outs, .int .i64 d.weight, .int .i64 d.fee], .string s] w fun e w' => e = .returned (.bool true) ∧ Below w.heap.size w w' := by
  obtain ⟨E, hE⟩ : ∃ E, str (encB d) = E := ⟨_, rfl⟩
  obtain ⟨hsz, hl8⟩ := enc_small d E h0 hE
  obtain ⟨_, hat, _, ho, hg, hf⟩ := check_ok h0
  have hEl : E.data.toList = encB d := by rw [← hE, str_list]
  have hEs : E.size ≤ maxLen := by unfold maxLen; omega
  have hdl : d.ins.length ≤ maxLen := by unfold maxLen; omega
  have HEF : Hid (formD E.data.toList = 0) := Lib.hid (by rw [hEl]; exact form_enc d hl8)
  have HED : Hid (readD E.data.toList = d) := Lib.hid (by rw [hEl]; exact read_enc d hl8 hat ho hg hf)
  have HR := Lib.hid h0
  have HE := Lib.hid hE
  clear h0 hE hsz hEl hat ho hg hf
  have hs1 : formD s.data.toList = 0 := by
    unfold errD at h1
    split at h1
    · rename_i hh; exact absurd h1 hh
    · rename_i hh; simpa using hh
  obtain ⟨x, hx⟩ : ∃ x, readD s.data.toList = x := ⟨_, rfl⟩
  have hs2 : checkD x = 0 := by
    unfold errD at h1
    rw [if_neg (by simp [hs1]), hx] at h1
    exact h1
  have HSE : Hid (str (encB x) = s) := Lib.hid (by
    rw [← hx, enc_read hs1]
    apply ByteArray.ext
    simp [str])
  have HSF := Lib.hid hs1
  have HSD := Lib.hid hx
  have HSC := Lib.hid hs2
  clear h1 hs1 hx hs2
  have hk := kept_new w (.cells #[.slice a d.ins.length cap, .int .i64 d.outs, .int .i64 d.weight, .int .i64 d.fee] 24)
  have hi0 := insAt_kept hk hi
  go_enter Try.func7, Try.ntmps7
  go_wp2_with fail
  with_reducible refine (written_any _).mono ?_
  rintro e w1 ⟨rfl, hb1⟩
  obtain ⟨c0, c1, c2, c3, hws⟩ := box_four hb1
  go_wp2_with fail
  with_reducible refine (encode_is d _ _ _ E (insAt_kept hb1 hi0) HR.out HE.out).mono ?_
  rintro e w2 ⟨rfl, hb2⟩
  have hb12 := kept_trans hb1 hb2
  clear c0 c1 c2 c3 hws
  obtain ⟨c0, c1, c2, c3, hws⟩ := box_four hb12
  go_wp2_with fail
  with_reducible refine (check_is d _ _ _ 0 (insAt_kept hb12 hi0) HR.out).mono ?_
  rintro e w3 ⟨rfl, hb3⟩
  have hb13 := kept_trans hb12 hb3
  go_wp2_with fail
  with_reducible refine (decode_is _ d _ hEs HEF.out HED.out HR.out).mono ?_
  rintro e w4 ⟨a4, cap4, rfl, hcap4, hi4, hfr4, hb4⟩
  have hkx := kept_new w4 (.cells #[.slice a4 d.ins.length cap4, .int .i64 d.outs, .int .i64 d.weight, .int .i64 d.fee] 24)
  have hb15 := kept_trans (kept_trans hb13 hb4) hkx
  clear c0 c1 c2 c3 hws
  obtain ⟨c0, c1, c2, c3, hws⟩ := box_four hb15
  go_wp2_with fail
  with_reducible refine (deedEq_is d d _ _ _ _ _ true hdl (insAt_kept hkx hi4) (insAt_kept hb15 hi0) (eqD_refl d)).mono ?_
  rintro e w6 ⟨rfl, hb6⟩
  have hbA := kept_trans hb15 hb6
  clear c0 c1 c2 c3 hws hb1 hb2 hb3 hb12 hb13 hb4 hb6 hb15 hi4 hkx
  go_wp2_with fail
  with_reducible refine (decode_is _ x _ hs HSF.out HSD.out HSC.out).mono ?_
  rintro e w7 ⟨a7, cap7, rfl, hcap7, hi7, hfr7, hb7⟩
  have hkx := kept_new w7 (.cells #[.slice a7 x.ins.length cap7, .int .i64 x.outs, .int .i64 x.weight, .int .i64 x.fee] 24)
  go_wp2_with fail
  with_reducible refine (encode_is x _ _ _ s (insAt_kept hkx hi7) HSC.out HSE.out).mono ?_
  rintro e w8 ⟨rfl, hb8⟩
  go_wp2_with fail
  go_ret
  exact ⟨rfl, kept_trans (kept_trans (kept_trans (kept_trans hk hbA) hb7) hkx) hb8⟩

set_option maxHeartbeats 1000000 in
theorem deedBack_ok_err (d : DeedD) (a : Option Addr) (cap : Nat) (s : ByteArray) (w : World) (hs : s.size ≤ maxLen) (hi : InsAt w a d.ins) (h0 : checkD d = 0) (h1 : errD s.data.toList ≠ 0) : 
    Calls Try.prog 7 #[.agg #[.slice a d.ins.length cap, .int .i64 d.outs, .int .i64 d.weight, .int .i64 d.fee], .string s] w fun e w' => e = .returned (.bool true) ∧ Below w.heap.size w w' := by
  obtain ⟨E, hE⟩ : ∃ E, str (encB d) = E := ⟨_, rfl⟩
  obtain ⟨hsz, hl8⟩ := enc_small d E h0 hE
  obtain ⟨_, hat, _, ho, hg, hf⟩ := check_ok h0
  have hEl : E.data.toList = encB d := by rw [← hE, str_list]
  have hEs : E.size ≤ maxLen := by unfold maxLen; omega
  have hdl : d.ins.length ≤ maxLen := by unfold maxLen; omega
  have HEF : Hid (formD E.data.toList = 0) := Lib.hid (by rw [hEl]; exact form_enc d hl8)
  have HED : Hid (readD E.data.toList = d) := Lib.hid (by rw [hEl]; exact read_enc d hl8 hat ho hg hf)
  have HR := Lib.hid h0
  have HE := Lib.hid hE
  clear h0 hE hsz hEl hat ho hg hf
  obtain ⟨q, hq⟩ : ∃ q, errD s.data.toList = q := ⟨_, rfl⟩
  have hq0 : q ≠ 0 := by rw [← hq]; exact h1
  have hqb : (q != 0) = true := by simpa using hq0
  have hqe : (q == 0) = false := by simpa using hq0
  have HSQ := Lib.hid hq
  clear hq h1
  have hk := kept_new w (.cells #[.slice a d.ins.length cap, .int .i64 d.outs, .int .i64 d.weight, .int .i64 d.fee] 24)
  have hi0 := insAt_kept hk hi
  go_enter Try.func7, Try.ntmps7
  go_wp2_with fail
  with_reducible refine (written_any _).mono ?_
  rintro e w1 ⟨rfl, hb1⟩
  obtain ⟨c0, c1, c2, c3, hws⟩ := box_four hb1
  go_wp2_with fail
  with_reducible refine (encode_is d _ _ _ E (insAt_kept hb1 hi0) HR.out HE.out).mono ?_
  rintro e w2 ⟨rfl, hb2⟩
  have hb12 := kept_trans hb1 hb2
  clear c0 c1 c2 c3 hws
  obtain ⟨c0, c1, c2, c3, hws⟩ := box_four hb12
  go_wp2_with fail
  with_reducible refine (check_is d _ _ _ 0 (insAt_kept hb12 hi0) HR.out).mono ?_
  rintro e w3 ⟨rfl, hb3⟩
  have hb13 := kept_trans hb12 hb3
  go_wp2_with fail
  with_reducible refine (decode_is _ d _ hEs HEF.out HED.out HR.out).mono ?_
  rintro e w4 ⟨a4, cap4, rfl, hcap4, hi4, hfr4, hb4⟩
  have hkx := kept_new w4 (.cells #[.slice a4 d.ins.length cap4, .int .i64 d.outs, .int .i64 d.weight, .int .i64 d.fee] 24)
  have hb15 := kept_trans (kept_trans hb13 hb4) hkx
  clear c0 c1 c2 c3 hws
  obtain ⟨c0, c1, c2, c3, hws⟩ := box_four hb15
  go_wp2_with fail
  with_reducible refine (deedEq_is d d _ _ _ _ _ true hdl (insAt_kept hkx hi4) (insAt_kept hb15 hi0) (eqD_refl d)).mono ?_
  rintro e w6 ⟨rfl, hb6⟩
  have hbA := kept_trans hb15 hb6
  clear c0 c1 c2 c3 hws hb1 hb2 hb3 hb12 hb13 hb4 hb6 hb15 hi4 hkx
  go_wp2_with fail
  with_reducible refine (decode_fail _ q _ hs HSQ.out hq0).mono ?_
  rintro e w7 ⟨a7, cap7, rfl, hb7⟩
  have hkx := kept_new w7 (.cells #[.slice a7 0 cap7, .int .i64 0, .int .i64 0, .int .i64 0] 24)
  go_wp2_with fail
  with_reducible refine (encode_zero' _ _ _).mono ?_
  rintro e w8 ⟨rfl, hb8⟩
  obtain ⟨c0, c1, c2, c3, hws⟩ := box_four hb8
  go_wp2_with fail
  with_reducible refine (deedEq_zero' _ _ _).mono ?_
  rintro e w9 ⟨rfl, hb9⟩
  go_wp2_with fail
  go_ret
  exact ⟨rfl, kept_trans (kept_trans (kept_trans (kept_trans (kept_trans hk hbA) hb7) hkx) hb8) hb9⟩

set_option maxHeartbeats 1000000 in
theorem deedBack_err_ok (d : DeedD) (a : Option Addr) (cap : Nat) (s : ByteArray) (w : World) (hs : s.size ≤ maxLen) (hi : InsAt w a d.ins) (h0 : checkD d ≠ 0) (h1 : errD s.data.toList = 0) : 
    Calls Try.prog 7 #[.agg #[.slice a d.ins.length cap, .int .i64 d.outs, .int .i64 d.weight, .int .i64 d.fee], .string s] w fun e w' => e = .returned (.bool true) ∧ Below w.heap.size w w' := by
  obtain ⟨r, hr⟩ : ∃ r, checkD d = r := ⟨_, rfl⟩
  rw [hr] at h0
  have hrb : (r == 0) = false := by simpa using h0
  have HR := Lib.hid hr
  clear hr
  have hs1 : formD s.data.toList = 0 := by
    unfold errD at h1
    split at h1
    · rename_i hh; exact absurd h1 hh
    · rename_i hh; simpa using hh
  obtain ⟨x, hx⟩ : ∃ x, readD s.data.toList = x := ⟨_, rfl⟩
  have hs2 : checkD x = 0 := by
    unfold errD at h1
    rw [if_neg (by simp [hs1]), hx] at h1
    exact h1
  have HSE : Hid (str (encB x) = s) := Lib.hid (by
    rw [← hx, enc_read hs1]
    apply ByteArray.ext
    simp [str])
  have HSF := Lib.hid hs1
  have HSD := Lib.hid hx
  have HSC := Lib.hid hs2
  clear h1 hs1 hx hs2
  have hk := kept_new w (.cells #[.slice a d.ins.length cap, .int .i64 d.outs, .int .i64 d.weight, .int .i64 d.fee] 24)
  have hi0 := insAt_kept hk hi
  go_enter Try.func7, Try.ntmps7
  go_wp2_with fail
  with_reducible refine (written_any _).mono ?_
  rintro e w1 ⟨rfl, hb1⟩
  obtain ⟨c0, c1, c2, c3, hws⟩ := box_four hb1
  go_wp2_with fail
  with_reducible refine (encode_err d _ _ _ r (insAt_kept hb1 hi0) HR.out h0).mono ?_
  rintro e w2 ⟨rfl, hb2⟩
  have hb12 := kept_trans hb1 hb2
  clear c0 c1 c2 c3 hws
  obtain ⟨c0, c1, c2, c3, hws⟩ := box_four hb12
  go_wp2_with fail
  with_reducible refine (check_is d _ _ _ r (insAt_kept hb12 hi0) HR.out).mono ?_
  rintro e w6 ⟨rfl, hb3⟩
  have hbA := kept_trans hb12 hb3
  clear c0 c1 c2 c3 hws hb1 hb2 hb3 hb12
  go_wp2_with fail
  with_reducible refine (decode_is _ x _ hs HSF.out HSD.out HSC.out).mono ?_
  rintro e w7 ⟨a7, cap7, rfl, hcap7, hi7, hfr7, hb7⟩
  have hkx := kept_new w7 (.cells #[.slice a7 x.ins.length cap7, .int .i64 x.outs, .int .i64 x.weight, .int .i64 x.fee] 24)
  go_wp2_with fail
  with_reducible refine (encode_is x _ _ _ s (insAt_kept hkx hi7) HSC.out HSE.out).mono ?_
  rintro e w8 ⟨rfl, hb8⟩
  go_wp2_with fail
  go_ret
  exact ⟨rfl, kept_trans (kept_trans (kept_trans (kept_trans hk hbA) hb7) hkx) hb8⟩

set_option maxHeartbeats 1000000 in
theorem deedBack_err_err (d : DeedD) (a : Option Addr) (cap : Nat) (s : ByteArray) (w : World) (hs : s.size ≤ maxLen) (hi : InsAt w a d.ins) (h0 : checkD d ≠ 0) (h1 : errD s.data.toList ≠ 0) : 
    Calls Try.prog 7 #[.agg #[.slice a d.ins.length cap, .int .i64 d.outs, .int .i64 d.weight, .int .i64 d.fee], .string s] w fun e w' => e = .returned (.bool true) ∧ Below w.heap.size w w' := by
  obtain ⟨r, hr⟩ : ∃ r, checkD d = r := ⟨_, rfl⟩
  rw [hr] at h0
  have hrb : (r == 0) = false := by simpa using h0
  have HR := Lib.hid hr
  clear hr
  obtain ⟨q, hq⟩ : ∃ q, errD s.data.toList = q := ⟨_, rfl⟩
  have hq0 : q ≠ 0 := by rw [← hq]; exact h1
  have hqb : (q != 0) = true := by simpa using hq0
  have hqe : (q == 0) = false := by simpa using hq0
  have HSQ := Lib.hid hq
  clear hq h1
  have hk := kept_new w (.cells #[.slice a d.ins.length cap, .int .i64 d.outs, .int .i64 d.weight, .int .i64 d.fee] 24)
  have hi0 := insAt_kept hk hi
  go_enter Try.func7, Try.ntmps7
  go_wp2_with fail
  with_reducible refine (written_any _).mono ?_
  rintro e w1 ⟨rfl, hb1⟩
  obtain ⟨c0, c1, c2, c3, hws⟩ := box_four hb1
  go_wp2_with fail
  with_reducible refine (encode_err d _ _ _ r (insAt_kept hb1 hi0) HR.out h0).mono ?_
  rintro e w2 ⟨rfl, hb2⟩
  have hb12 := kept_trans hb1 hb2
  clear c0 c1 c2 c3 hws
  obtain ⟨c0, c1, c2, c3, hws⟩ := box_four hb12
  go_wp2_with fail
  with_reducible refine (check_is d _ _ _ r (insAt_kept hb12 hi0) HR.out).mono ?_
  rintro e w6 ⟨rfl, hb3⟩
  have hbA := kept_trans hb12 hb3
  clear c0 c1 c2 c3 hws hb1 hb2 hb3 hb12
  go_wp2_with fail
  with_reducible refine (decode_fail _ q _ hs HSQ.out hq0).mono ?_
  rintro e w7 ⟨a7, cap7, rfl, hb7⟩
  have hkx := kept_new w7 (.cells #[.slice a7 0 cap7, .int .i64 0, .int .i64 0, .int .i64 0] 24)
  go_wp2_with fail
  with_reducible refine (encode_zero' _ _ _).mono ?_
  rintro e w8 ⟨rfl, hb8⟩
  obtain ⟨c0, c1, c2, c3, hws⟩ := box_four hb8
  go_wp2_with fail
  with_reducible refine (deedEq_zero' _ _ _).mono ?_
  rintro e w9 ⟨rfl, hb9⟩
  go_wp2_with fail
  go_ret
  exact ⟨rfl, kept_trans (kept_trans (kept_trans (kept_trans (kept_trans hk hbA) hb7) hkx) hb8) hb9⟩

theorem deedBack_walk (d : DeedD) (a : Option Addr) (cap : Nat) (_hc : d.ins.length ≤ cap) (s : ByteArray) (hs : s.size ≤ maxLen) (w : World) (hi : InsAt w a d.ins) :
    Calls Try.prog 7 #[deedV a cap d, .string s] w fun e w' => e = .returned (.bool true) ∧ Below w.heap.size w w' := by
  by_cases h0 : checkD d = 0
  · by_cases h1 : errD s.data.toList = 0
    · exact deedBack_ok_ok d a cap s w hs hi h0 h1
    · exact deedBack_ok_err d a cap s w hs hi h0 h1
  · by_cases h1 : errD s.data.toList = 0
    · exact deedBack_err_ok d a cap s w hs hi h0 h1
    · exact deedBack_err_err d a cap s w hs hi h0 h1
end Go.Proofs.Ytnigjhfdeinlhaa
