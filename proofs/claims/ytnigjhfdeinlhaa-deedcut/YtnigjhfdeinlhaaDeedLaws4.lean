/-
  The walks of the laws on Decode that need no reference of it: DeedCut, DeedBack.
-/
import Derived.Test.YtnigjhfdeinlhaaDecAll
import Derived.Test.YtnigjhfdeinlhaaDeedLaws3
namespace Go.Proofs.Ytnigjhfdeinlhaa
open Go.RowKit

theorem decode_is (s : ByteArray) (D : DeedD) (w : World) (hs : s.size ≤ maxLen) (h : formD s.data.toList = 0) (hD : readD s.data.toList = D) (hc : checkD D = 0) : Calls Try.prog 15 #[.string s] w (GaveBoth w D 0) := by
  subst hD
  exact decode_ok s w hs h hc
theorem decode_bad (s : ByteArray) (r : Int) (w : World) (hs : s.size ≤ maxLen) (h : errD s.data.toList = r) (hr : r ≠ 0) : Calls Try.prog 15 #[.string s] w (GaveBoth w zeroD r) := by
  unfold errD at h
  split at h
  · exact decode_form s r w hs h hr
  · rename_i h0
    exact decode_check s r w hs (by simpa using h0) h hr
theorem deedCut_err (d : DeedD) (a : Option Addr) (cap : Nat) (at_ : Int) (more : ByteArray) (w : World) (hi : InsAt w a d.ins) (h0 : checkD d ≠ 0) :
    Calls Try.prog 8 #[.agg #[.slice a d.ins.length cap, .int .i64 d.outs, .int .i64 d.weight, .int .i64 d.fee], .int .i64 at_, .string more] w fun e w' => e = .returned (.bool true) ∧ Below w.heap.size w w' := by
  obtain ⟨r, hr⟩ : ∃ r, checkD d = r := ⟨_, rfl⟩
  rw [hr] at h0
  have hrb : (r != 0) = true := by simpa using h0
  have HR := Lib.hid hr
  clear hr
  have hk := kept_new w (.cells #[.slice a d.ins.length cap, .int .i64 d.outs, .int .i64 d.weight, .int .i64 d.fee] 24)
  have hi0 := insAt_kept hk hi
  go_enter Try.func8, Try.ntmps8
  go_wp2_with fail
  with_reducible refine (written_any _).mono ?_
  rintro e w1 ⟨rfl, hb1⟩
  obtain ⟨c0, c1, c2, c3, hws⟩ := box_four hb1
  go_wp2_with fail
  with_reducible refine (encode_err d _ _ _ r (insAt_kept hb1 hi0) HR.out h0).mono ?_
  rintro e w2 ⟨rfl, hb2⟩
  go_wp2_with fail
  go_ret
  exact ⟨rfl, kept_trans (kept_trans hk hb1) hb2⟩

set_option maxHeartbeats 1000000 in
theorem deedCut_ok (d : DeedD) (a : Option Addr) (cap : Nat) (at_ : Int) (more : ByteArray) (w : World) (hroom : more.size ≤ 4611686018427387904) (hi : InsAt w a d.ins) (h0 : checkD d = 0) :
    Calls Try.prog 8 #[.agg #[.slice a d.ins.length cap, .int .i64 d.outs, .int .i64 d.weight, .int .i64 d.fee], .int .i64 at_, .string more] w fun e w' => e = .returned (.bool true) ∧ Below w.heap.size w w' := by
  obtain ⟨E, hE⟩ : ∃ E, str (encB d) = E := ⟨_, rfl⟩
  obtain ⟨hsz, hl8⟩ := enc_small d E h0 hE
  obtain ⟨_, hat, _, ho, hg, hf⟩ := check_ok h0
  have hEl : E.data.toList = encB d := by rw [← hE, str_list]
  have hEn : (encB d).length = E.size := by rw [encB_length, hsz]
  obtain ⟨k, hk⟩ : ∃ k : Nat, at_ % (E.size : Int) = k := ⟨(at_ % (E.size : Int)).toNat, by have := Int.emod_nonneg at_ (show (E.size : Int) ≠ 0 by omega); omega⟩
  have hkl : k < E.size := by have := Int.emod_lt_of_pos at_ (show (0 : Int) < E.size by omega); omega
  have HC : Hid (formD (E.extract 0 k).data.toList = 3) := Lib.hid (by rw [extract_take, hEl]; exact form_cut d hl8 k (by omega))
  have hcs : (E.extract 0 k).size ≤ maxLen := by rw [ByteArray.size_extract]; unfold maxLen; omega
  have hms : (E ++ more).size ≤ maxLen := by rw [ByteArray.size_append]; unfold maxLen; omega
  have hms1 : ¬ 9223372036854775807 < E.size + more.size := by omega
  have hml : (E ++ more).data.toList = encB d ++ more.data.toList := by rw [← hEl]; simp
  have hmlen : more.data.toList.length = more.size := by simp
  have HM : Hid (more.size ≠ 0 → formD (E ++ more).data.toList = 4) := Lib.hid (fun hm => by
    rw [hml]
    exact form_more d hl8 _ (by omega))
  have HZ : Hid (more.size = 0 → formD (E ++ more).data.toList = 0 ∧ readD (E ++ more).data.toList = d) := Lib.hid (fun hm => by
    have e : more.data.toList = [] := List.eq_nil_of_length_eq_zero (by simpa using hm)
    rw [hml, e, List.append_nil]
    exact ⟨form_enc d hl8, read_enc d hl8 hat ho hg hf⟩)
  have HK := Lib.hid hk
  have HR := Lib.hid h0
  have HE := Lib.hid hE
  have z1 : (0 : Int) < E.size := by omega
  have z2 : (E.size : Int) ≤ 1000 := by omega
  have z3 : (k : Int) ≤ (E.size : Int) := by omega
  clear hk h0 hE hsz hEl hEn hml hat ho hg hf hmlen
  have hkw := kept_new w (.cells #[.slice a d.ins.length cap, .int .i64 d.outs, .int .i64 d.weight, .int .i64 d.fee] 24)
  have hi0 := insAt_kept hkw hi
  by_cases hm : more.size = 0
  · have he := empty_yes hm
    obtain ⟨HF, HD⟩ := HZ.out hm
    have HF := Lib.hid HF
    have HD := Lib.hid HD
    clear hm HM HZ
    go_enter Try.func8, Try.ntmps8
    go_wp2_with fail
    with_reducible refine (written_any _).mono ?_
    rintro e w1 ⟨rfl, hb1⟩
    obtain ⟨c0, c1, c2, c3, hws⟩ := box_four hb1
    go_wp2_with fail
    with_reducible refine (encode_is d _ _ _ E (insAt_kept hb1 hi0) HR.out HE.out).mono ?_
    rintro e w2 ⟨rfl, hb2⟩
    go_wp2_with fail
    with_reducible refine (rest_is _ _ _ _ (by omega) (by omega) HK.out).mono ?_
    rintro e w' ⟨rfl, rfl⟩
    go_wp2_with fail
    with_reducible refine (decode_form _ 3 _ hcs HC.out (by decide)).mono ?_
    rintro e w3 ⟨a3, cap3, rfl, hcap3, hi3, hfr3, hb3⟩
    go_wp2_with fail
    with_reducible refine (decode_is _ d _ hms HF.out HD.out HR.out).mono ?_
    rintro e w4 ⟨a4, cap4, rfl, hcap4, hi4, hfr4, hb4⟩
    go_wp2_with fail
    go_ret
    exact ⟨rfl, kept_alloc (kept_trans (kept_alloc (kept_trans (kept_trans (kept_trans hkw hb1) hb2) hb3) _) hb4) _⟩
  · have he := empty_no hm
    have HF := Lib.hid (HM.out hm)
    clear hm HM HZ
    go_enter Try.func8, Try.ntmps8
    go_wp2_with fail
    with_reducible refine (written_any _).mono ?_
    rintro e w1 ⟨rfl, hb1⟩
    obtain ⟨c0, c1, c2, c3, hws⟩ := box_four hb1
    go_wp2_with fail
    with_reducible refine (encode_is d _ _ _ E (insAt_kept hb1 hi0) HR.out HE.out).mono ?_
    rintro e w2 ⟨rfl, hb2⟩
    go_wp2_with fail
    with_reducible refine (rest_is _ _ _ _ (by omega) (by omega) HK.out).mono ?_
    rintro e w' ⟨rfl, rfl⟩
    go_wp2_with fail
    with_reducible refine (decode_form _ 3 _ hcs HC.out (by decide)).mono ?_
    rintro e w3 ⟨a3, cap3, rfl, hcap3, hi3, hfr3, hb3⟩
    go_wp2_with fail
    with_reducible refine (decode_form _ 4 _ hms HF.out (by decide)).mono ?_
    rintro e w4 ⟨a4, cap4, rfl, hcap4, hi4, hfr4, hb4⟩
    go_wp2_with fail
    go_ret
    exact ⟨rfl, kept_alloc (kept_trans (kept_alloc (kept_trans (kept_trans (kept_trans hkw hb1) hb2) hb3) _) hb4) _⟩
theorem deedCut_walk (d : DeedD) (a : Option Addr) (cap : Nat) (_hc : d.ins.length ≤ cap) (at_ : Int) (more : ByteArray) (_hat : -9223372036854775808 ≤ at_ ∧ at_ ≤ 9223372036854775807) (_hm : more.size ≤ maxLen) (hroom : more.size ≤ 4611686018427387904) (w : World) (hi : InsAt w a d.ins) :
    Calls Try.prog 8 #[deedV a cap d, .int .i64 at_, .string more] w fun e w' => e = .returned (.bool true) ∧ Below w.heap.size w w' := by
  by_cases h0 : checkD d = 0
  · exact deedCut_ok d a cap at_ more w hroom hi h0
  · exact deedCut_err d a cap at_ more w hi h0
end Go.Proofs.Ytnigjhfdeinlhaa
