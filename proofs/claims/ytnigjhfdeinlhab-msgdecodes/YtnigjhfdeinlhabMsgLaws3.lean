/-
  The walks of MsgCut and MsgBack.
-/
import Derived.Test.YtnigjhfdeinlhabMsgDecodeAll
import Derived.Test.YtnigjhfdeinlhabMsgEq
namespace Go.Proofs.Ytnigjhfdeinlhab
open Go.RowKit

theorem msgCut_err (m : MsgD) (a : Option Addr) (cap : Nat) (at_ : Int) (more : ByteArray) (w : World) (hi : IdsAt w a m.ids) (h0 : checkM m ≠ 0) :
    Calls Try.prog 8 #[.agg #[.int .i64 m.kind, .slice a m.ids.length cap, .string m.body], .int .i64 at_, .string more] w fun e w' => e = .returned (.bool true) ∧ Below w.heap.size w w' := by
  obtain ⟨r, hr⟩ : ∃ r, checkM m = r := ⟨_, rfl⟩
  rw [hr] at h0
  have hrb : (r != 0) = true := by simpa using h0
  have HR := Lib.hid hr
  clear hr
  have hk := kept_new w (msgBox a cap m)
  have hi0 := idsAt_kept hk hi
  go_enter Try.func8, Try.ntmps8
  go_wp2_with fail
  with_reducible refine (told_any _).mono ?_
  rintro e w1 ⟨rfl, hb1⟩
  obtain ⟨c0, c1, c2, hws⟩ := box_three hb1
  go_wp2_with fail
  with_reducible refine (mencode_err m _ _ _ r (idsAt_kept hb1 hi0) HR.out h0).mono ?_
  rintro e w2 ⟨rfl, hb2⟩
  go_wp2_with fail
  go_ret
  exact ⟨rfl, kept_trans (kept_trans hk hb1) hb2⟩
theorem msgCut_bring (m : MsgD) (a : Option Addr) (cap : Nat) (at_ : Int) (more : ByteArray) (w : World) (hi : IdsAt w a m.ids) (h0 : checkM m = 0) (h3 : m.kind = 3) :
    Calls Try.prog 8 #[.agg #[.int .i64 m.kind, .slice a m.ids.length cap, .string m.body], .int .i64 at_, .string more] w fun e w' => e = .returned (.bool true) ∧ Below w.heap.size w w' := by
  obtain ⟨E, hE⟩ : ∃ E, ansE m = E := ⟨_, rfl⟩
  have h3b : (m.kind == 3) = true := beq_iff_eq.2 h3
  have HR := Lib.hid h0
  have HE := Lib.hid hE
  clear h0 hE h3
  have hk := kept_new w (msgBox a cap m)
  have hi0 := idsAt_kept hk hi
  go_enter Try.func8, Try.ntmps8
  go_wp2_with fail
  with_reducible refine (told_any _).mono ?_
  rintro e w1 ⟨rfl, hb1⟩
  obtain ⟨c0, c1, c2, hws⟩ := box_three hb1
  go_wp2_with fail
  with_reducible refine (mencode_all m _ _ _ 0 E (idsAt_kept hb1 hi0) HR.out HE.out).mono ?_
  rintro e w2 ⟨rfl, hb2⟩
  have d0 := kept_cell hb2 c0
  go_wp2_with fail
  go_ret
  exact ⟨rfl, kept_trans (kept_trans hk hb1) hb2⟩

set_option maxHeartbeats 1000000 in
theorem msgCut_ids (m : MsgD) (a : Option Addr) (cap : Nat) (at_ : Int) (more : ByteArray) (w : World) (hroom : more.size ≤ 4611686018427387904) (hi : IdsAt w a m.ids) (h0 : checkM m = 0) (h3 : m.kind ≠ 3) :
    Calls Try.prog 8 #[.agg #[.int .i64 m.kind, .slice a m.ids.length cap, .string m.body], .int .i64 at_, .string more] w fun e w' => e = .returned (.bool true) ∧ Below w.heap.size w w' := by
  obtain ⟨E, hE⟩ : ∃ E, ansE m = E := ⟨_, rfl⟩
  obtain ⟨hsz, hl0, hl20⟩ := size_ids h0 h3 hE
  have hEl : E.data.toList = encM m := by rw [← hE, ansE_ok h0, str_list]
  have hEn : (encM m).length = E.size := by rw [← hEl]; simp
  obtain ⟨k, hk⟩ : ∃ k : Nat, at_ % (E.size : Int) = k := ⟨(at_ % (E.size : Int)).toNat, by have := Int.emod_nonneg at_ (show (E.size : Int) ≠ 0 by omega); omega⟩
  have hkl : k < E.size := by have := Int.emod_lt_of_pos at_ (show (0 : Int) < E.size by omega); omega
  obtain ⟨X1, hX1⟩ : ∃ X, ansM (E.extract 0 k).data.toList = X := ⟨_, rfl⟩
  obtain ⟨X2, hX2⟩ : ∃ X, ansM (E ++ more).data.toList = X := ⟨_, rfl⟩
  have HC : Hid (errM (E.extract 0 k).data.toList = 3) := Lib.hid (by rw [extract_take, hEl]; exact errM_form (formM_cut h0 h3 k (by omega)) (by decide))
  have hcs : (E.extract 0 k).size ≤ maxLen := by rw [ByteArray.size_extract]; unfold maxLen; omega
  have hms : (E ++ more).size ≤ maxLen := by rw [ByteArray.size_append]; unfold maxLen; omega
  have hms1 : ¬ 9223372036854775807 < E.size + more.size := by omega
  have hml : (E ++ more).data.toList = encM m ++ more.data.toList := by rw [← hEl]; simp
  have hmlen : more.data.toList.length = more.size := by simp
  obtain ⟨q, hq⟩ : ∃ q, errM (E ++ more).data.toList = q := ⟨_, rfl⟩
  have HM : more.size ≠ 0 → q = 4 := fun hm => by
    rw [← hq, hml]
    exact errM_form (formM_more h0 h3 _ (by omega)) (by decide)
  have HZ : more.size = 0 → q = 0 := fun hm => by
    have e : more.data.toList = [] := List.eq_nil_of_length_eq_zero (by omega)
    rw [← hq, hml, e, List.append_nil]
    exact errM_enc h0
  have h3b : (m.kind == 3) = false := beq_eq_false_iff_ne.2 h3
  have HR := Lib.hid h0
  have HE := Lib.hid hE
  have HK := Lib.hid hk
  have H1 := Lib.hid hX1
  have H2 := Lib.hid hX2
  have HQ := Lib.hid hq
  have z0 : (0 : Int) ≤ (k : Int) := by omega
  have z1 : (k : Int) ≤ (E.size : Int) := by omega
  have hkw := kept_new w (msgBox a cap m)
  have hi0 := idsAt_kept hkw hi
  have hs1 : 10 ≤ E.size := by omega
  have hs2 : E.size ≤ 200 := by omega
  clear h0 hE hk hX1 hX2 hq hEl hEn hml hmlen h3 hi hsz hl0 hl20
  by_cases hm : more.size = 0
  · have he := empty_yes hm
    obtain rfl := HZ hm
    clear HZ HM hm
    go_enter Try.func8, Try.ntmps8
    go_wp2_with fail
    with_reducible refine (told_any _).mono ?_
    rintro e w1 ⟨rfl, hb1⟩
    obtain ⟨c0, c1, c2, hws⟩ := box_three hb1
    go_wp2_with fail
    with_reducible refine (mencode_all m _ _ _ 0 E (idsAt_kept hb1 hi0) HR.out HE.out).mono ?_
    rintro e w2 ⟨rfl, hb2⟩
    have d0 := kept_cell hb2 c0
    go_wp2_with fail
    with_reducible refine (rest_is _ _ _ _ (by omega) (by omega) HK.out).mono ?_
    rintro e w' ⟨rfl, rfl⟩
    go_wp2_with fail
    with_reducible refine (mdecode_all _ 3 X1 _ hcs HC.out H1.out).mono ?_
    rintro e w3 ⟨a3, cap3, rfl, hcap3, hi3, hfr3, hb3⟩
    go_wp2_with fail
    with_reducible refine (mdecode_all _ 0 X2 _ hms HQ.out H2.out).mono ?_
    rintro e w4 ⟨a4, cap4, rfl, hcap4, hi4, hfr4, hb4⟩
    go_wp2_with fail
    go_ret
    exact ⟨rfl, kept_alloc (kept_trans (kept_alloc (kept_trans (kept_trans (kept_trans hkw hb1) hb2) hb3) _) hb4) _⟩
  · have he := empty_no hm
    obtain rfl := HM hm
    clear HZ HM hm
    go_enter Try.func8, Try.ntmps8
    go_wp2_with fail
    with_reducible refine (told_any _).mono ?_
    rintro e w1 ⟨rfl, hb1⟩
    obtain ⟨c0, c1, c2, hws⟩ := box_three hb1
    go_wp2_with fail
    with_reducible refine (mencode_all m _ _ _ 0 E (idsAt_kept hb1 hi0) HR.out HE.out).mono ?_
    rintro e w2 ⟨rfl, hb2⟩
    have d0 := kept_cell hb2 c0
    go_wp2_with fail
    with_reducible refine (rest_is _ _ _ _ (by omega) (by omega) HK.out).mono ?_
    rintro e w' ⟨rfl, rfl⟩
    go_wp2_with fail
    with_reducible refine (mdecode_all _ 3 X1 _ hcs HC.out H1.out).mono ?_
    rintro e w3 ⟨a3, cap3, rfl, hcap3, hi3, hfr3, hb3⟩
    go_wp2_with fail
    with_reducible refine (mdecode_all _ 4 X2 _ hms HQ.out H2.out).mono ?_
    rintro e w4 ⟨a4, cap4, rfl, hcap4, hi4, hfr4, hb4⟩
    go_wp2_with fail
    go_ret
    exact ⟨rfl, kept_alloc (kept_trans (kept_alloc (kept_trans (kept_trans (kept_trans hkw hb1) hb2) hb3) _) hb4) _⟩
theorem msgCut_walk (m : MsgD) (a : Option Addr) (cap : Nat) (_hc : m.ids.length ≤ cap) (at_ : Int) (more : ByteArray) (_hat : -9223372036854775808 ≤ at_ ∧ at_ ≤ 9223372036854775807) (_hm : more.size ≤ maxLen) (hroom : more.size ≤ 4611686018427387904) (w : World) (hi : IdsAt w a m.ids) :
    Calls Try.prog 8 #[msgV a cap m, .int .i64 at_, .string more] w fun e w' => e = .returned (.bool true) ∧ Below w.heap.size w w' := by
  by_cases h0 : checkM m = 0
  · by_cases h3 : m.kind = 3
    · exact msgCut_bring m a cap at_ more w hi h0 h3
    · exact msgCut_ids m a cap at_ more w hroom hi h0 h3
  · exact msgCut_err m a cap at_ more w hi h0

/-- What Decode and then Encode make of bytes, in one word: the law's last line. -/
theorem back_err {l : List UInt8} {r : Int} {X : MsgD} (h : errM l = r) (hX : ansM l = X) (hr : r ≠ 0) : X = zeroM := by rw [← hX]; unfold ansM; rw [if_neg (by rw [h]; exact hr)]
theorem back_ok {s : ByteArray} {X : MsgD} (h : errM s.data.toList = 0) (hX : ansM s.data.toList = X) : checkM X = 0 ∧ ansE X = s := by
  obtain ⟨h1, h2⟩ := errM_zero h
  have e : X = readM s.data.toList := by rw [← hX]; unfold ansM; rw [if_pos h]
  rw [e]
  refine ⟨h2, ?_⟩
  rw [ansE_ok h2, enc_readM h1]
  apply ByteArray.ext
  simp [str]
theorem mencode_zero (a : Option Addr) (cap : Nat) (w : World) : Calls Try.prog 12 #[.agg #[.int .i64 0, .slice a 0 cap, .string ⟨#[]⟩]] w fun e w' => e = .returned (.tuple #[.string ⟨#[]⟩, .int .i64 1]) ∧ Below w.heap.size w w' :=
  mencode_err zeroM a cap w 1 (idsAt_nil _ _) zeroM_check (by decide)
theorem msgEq_zero (a : Option Addr) (cap : Nat) (w : World) : Calls Try.prog 16 #[.agg #[.int .i64 0, .slice a 0 cap, .string ⟨#[]⟩], .agg #[.int .i64 0, .slice none 0 0, .string ⟨#[]⟩]] w fun e w' => e = .returned (.bool true) ∧ Below w.heap.size w w' :=
  msgEq_any zeroM zeroM a none cap 0 w true (Lib.hid (eqM_refl _)) (by decide) (idsAt_nil _ _) (idsAt_nil _ _)
/-- The error of Decode, with the value laid out. -/
theorem mdecode_fail (s : ByteArray) (r : Int) (w : World) (hs : s.size ≤ maxLen) (h : errM s.data.toList = r) (hr : r ≠ 0) : Calls Try.prog 14 #[.string s] w fun e w' => ∃ (a : Option Addr) (cap : Nat), e = .returned (.tuple #[.agg #[.int .i64 0, .slice a 0 cap, .string ⟨#[]⟩], .int .i64 r]) ∧ Below w.heap.size w w' :=
  (mdecode_all s r zeroM w hs h (back_err h rfl hr)).mono fun _ _ ⟨a, cap, he, _, _, _, hb⟩ => ⟨a, cap, he, hb⟩

set_option maxHeartbeats 1000000 in
theorem msgBack_ok_ok (m : MsgD) (a : Option Addr) (cap : Nat) (s : ByteArray) (w : World) (hs : s.size ≤ maxLen) (hi : IdsAt w a m.ids) (h0 : checkM m = 0) (h1 : errM s.data.toList = 0) :
    Calls Try.prog 6 #[.agg #[.int .i64 m.kind, .slice a m.ids.length cap, .string m.body], .string s] w fun e w' => e = .returned (.bool true) ∧ Below w.heap.size w w' := by
  obtain ⟨E, hE⟩ : ∃ E, ansE m = E := ⟨_, rfl⟩
  have hEl : E.data.toList = encM m := by rw [← hE, ansE_ok h0, str_list]
  obtain ⟨hml, hEs⟩ : m.ids.length ≤ maxLen ∧ E.size ≤ maxLen := by
    by_cases h3 : m.kind = 3
    · have := size_bring h0 h3 hE
      rcases (checkM_ok h0).2 with ⟨_, h5, _⟩ | ⟨h4, _⟩
      · rw [h5]; unfold maxLen; simp; omega
      · exact absurd h3 h4
    · have := size_ids h0 h3 hE
      unfold maxLen; omega
  have HEE : Hid (errM E.data.toList = 0) := Lib.hid (by rw [hEl]; exact errM_enc h0)
  have HEA : Hid (ansM E.data.toList = m) := Lib.hid (by rw [hEl]; exact ansM_enc h0)
  obtain ⟨X, hX⟩ : ∃ X, ansM s.data.toList = X := ⟨_, rfl⟩
  obtain ⟨hXc, hXe⟩ := back_ok h1 hX
  have HR := Lib.hid h0
  have HE := Lib.hid hE
  have HS := Lib.hid h1
  have HX := Lib.hid hX
  have HXC := Lib.hid hXc
  have HXE := Lib.hid hXe
  clear h0 hE hEl h1 hX hXc hXe
  have hk := kept_new w (msgBox a cap m)
  have hi0 := idsAt_kept hk hi
  go_enter Try.func6, Try.ntmps6
  go_wp2_with fail
  with_reducible refine (told_any _).mono ?_
  rintro e w1 ⟨rfl, hb1⟩
  obtain ⟨c0, c1, c2, hws⟩ := box_three hb1
  go_wp2_with fail
  with_reducible refine (mencode_all m _ _ _ 0 E (idsAt_kept hb1 hi0) HR.out HE.out).mono ?_
  rintro e w2 ⟨rfl, hb2⟩
  have hb12 := kept_trans hb1 hb2
  clear c0 c1 c2 hws
  obtain ⟨c0, c1, c2, hws⟩ := box_three hb12
  go_wp2_with fail
  with_reducible refine (mcheck_is m _ _ _ 0 (idsAt_kept hb12 hi0) HR.out).mono ?_
  rintro e w3 ⟨rfl, hb3⟩
  have hb13 := kept_trans hb12 hb3
  go_wp2_with fail
  with_reducible refine (mdecode_all _ 0 m _ hEs HEE.out HEA.out).mono ?_
  rintro e w4 ⟨a4, cap4, rfl, hcap4, hi4, hfr4, hb4⟩
  have hkx := kept_new w4 (msgBox a4 cap4 m)
  have hb15 := kept_trans (kept_trans hb13 hb4) hkx
  clear c0 c1 c2 hws
  obtain ⟨c0, c1, c2, hws⟩ := box_three hb15
  have hws4 : w.heap.size < w4.heap.size := by have := (kept_trans hb13 hb4).size; simp at this; omega
  go_wp2_with fail
  with_reducible refine (msgEq_any m m _ _ _ _ _ true (Lib.hid (eqM_refl m)) hml (idsAt_kept hkx hi4) (idsAt_kept hb15 hi0)).mono ?_
  rintro e w6 ⟨rfl, hb6⟩
  have hbA := kept_trans hb15 hb6
  clear c0 c1 c2 hws hb1 hb2 hb3 hb12 hb13 hb4 hb6 hb15 hi4 hkx hws4
  go_wp2_with fail
  with_reducible refine (mdecode_all _ 0 X _ hs HS.out HX.out).mono ?_
  rintro e w7 ⟨a7, cap7, rfl, hcap7, hi7, hfr7, hb7⟩
  have hkx := kept_new w7 (msgBox a7 cap7 X)
  go_wp2_with fail
  with_reducible refine (mencode_all X _ _ _ 0 s (idsAt_kept hkx hi7) HXC.out HXE.out).mono ?_
  rintro e w8 ⟨rfl, hb8⟩
  go_wp2_with fail
  go_ret
  exact ⟨rfl, kept_trans (kept_trans (kept_trans (kept_trans hk hbA) hb7) hkx) hb8⟩

set_option maxHeartbeats 1000000 in
theorem msgBack_ok_err (m : MsgD) (a : Option Addr) (cap : Nat) (s : ByteArray) (w : World) (hs : s.size ≤ maxLen) (hi : IdsAt w a m.ids) (h0 : checkM m = 0) (h1 : errM s.data.toList ≠ 0) :
    Calls Try.prog 6 #[.agg #[.int .i64 m.kind, .slice a m.ids.length cap, .string m.body], .string s] w fun e w' => e = .returned (.bool true) ∧ Below w.heap.size w w' := by
  obtain ⟨E, hE⟩ : ∃ E, ansE m = E := ⟨_, rfl⟩
  have hEl : E.data.toList = encM m := by rw [← hE, ansE_ok h0, str_list]
  obtain ⟨hml, hEs⟩ : m.ids.length ≤ maxLen ∧ E.size ≤ maxLen := by
    by_cases h3 : m.kind = 3
    · have := size_bring h0 h3 hE
      rcases (checkM_ok h0).2 with ⟨_, h5, _⟩ | ⟨h4, _⟩
      · rw [h5]; unfold maxLen; simp; omega
      · exact absurd h3 h4
    · have := size_ids h0 h3 hE
      unfold maxLen; omega
  have HEE : Hid (errM E.data.toList = 0) := Lib.hid (by rw [hEl]; exact errM_enc h0)
  have HEA : Hid (ansM E.data.toList = m) := Lib.hid (by rw [hEl]; exact ansM_enc h0)
  obtain ⟨q, hq⟩ : ∃ q, errM s.data.toList = q := ⟨_, rfl⟩
  have hq0 : q ≠ 0 := by rw [← hq]; exact h1
  have hqb : (q != 0) = true := by simpa using hq0
  have hqe : (q == 0) = false := by simpa using hq0
  have HSQ := Lib.hid hq
  have HR := Lib.hid h0
  have HE := Lib.hid hE
  clear h0 hE hEl h1 hq
  have hk := kept_new w (msgBox a cap m)
  have hi0 := idsAt_kept hk hi
  go_enter Try.func6, Try.ntmps6
  go_wp2_with fail
  with_reducible refine (told_any _).mono ?_
  rintro e w1 ⟨rfl, hb1⟩
  obtain ⟨c0, c1, c2, hws⟩ := box_three hb1
  go_wp2_with fail
  with_reducible refine (mencode_all m _ _ _ 0 E (idsAt_kept hb1 hi0) HR.out HE.out).mono ?_
  rintro e w2 ⟨rfl, hb2⟩
  have hb12 := kept_trans hb1 hb2
  clear c0 c1 c2 hws
  obtain ⟨c0, c1, c2, hws⟩ := box_three hb12
  go_wp2_with fail
  with_reducible refine (mcheck_is m _ _ _ 0 (idsAt_kept hb12 hi0) HR.out).mono ?_
  rintro e w3 ⟨rfl, hb3⟩
  have hb13 := kept_trans hb12 hb3
  go_wp2_with fail
  with_reducible refine (mdecode_all _ 0 m _ hEs HEE.out HEA.out).mono ?_
  rintro e w4 ⟨a4, cap4, rfl, hcap4, hi4, hfr4, hb4⟩
  have hkx := kept_new w4 (msgBox a4 cap4 m)
  have hb15 := kept_trans (kept_trans hb13 hb4) hkx
  clear c0 c1 c2 hws
  obtain ⟨c0, c1, c2, hws⟩ := box_three hb15
  have hws4 : w.heap.size < w4.heap.size := by have := (kept_trans hb13 hb4).size; simp at this; omega
  go_wp2_with fail
  with_reducible refine (msgEq_any m m _ _ _ _ _ true (Lib.hid (eqM_refl m)) hml (idsAt_kept hkx hi4) (idsAt_kept hb15 hi0)).mono ?_
  rintro e w6 ⟨rfl, hb6⟩
  have hbA := kept_trans hb15 hb6
  clear c0 c1 c2 hws hb1 hb2 hb3 hb12 hb13 hb4 hb6 hb15 hi4 hkx hws4
  go_wp2_with fail
  with_reducible refine (mdecode_fail _ q _ hs HSQ.out hq0).mono ?_
  rintro e w7 ⟨a7, cap7, rfl, hb7⟩
  have hkx := kept_new w7 (.cells #[.int .i64 0, .slice a7 0 cap7, .string ⟨#[]⟩] 24)
  go_wp2_with fail
  with_reducible refine (mencode_zero _ _ _).mono ?_
  rintro e w8 ⟨rfl, hb8⟩
  obtain ⟨c0, c1, c2, hws⟩ := box_three hb8
  go_wp2_with fail
  with_reducible refine (msgEq_zero _ _ _).mono ?_
  rintro e w9 ⟨rfl, hb9⟩
  go_wp2_with fail
  go_ret
  exact ⟨rfl, kept_trans (kept_trans (kept_trans (kept_trans (kept_trans hk hbA) hb7) hkx) hb8) hb9⟩

set_option maxHeartbeats 1000000 in
theorem msgBack_err (m : MsgD) (a : Option Addr) (cap : Nat) (s : ByteArray) (w : World) (hs : s.size ≤ maxLen) (hi : IdsAt w a m.ids) (h0 : checkM m ≠ 0) :
    Calls Try.prog 6 #[.agg #[.int .i64 m.kind, .slice a m.ids.length cap, .string m.body], .string s] w fun e w' => e = .returned (.bool true) ∧ Below w.heap.size w w' := by
  obtain ⟨r, hr⟩ : ∃ r, checkM m = r := ⟨_, rfl⟩
  rw [hr] at h0
  have hrb : (r == 0) = false := by simpa using h0
  have HR := Lib.hid hr
  clear hr
  have hk := kept_new w (msgBox a cap m)
  have hi0 := idsAt_kept hk hi
  by_cases h1 : errM s.data.toList = 0
  · obtain ⟨X, hX⟩ : ∃ X, ansM s.data.toList = X := ⟨_, rfl⟩
    obtain ⟨hXc, hXe⟩ := back_ok h1 hX
    have HS := Lib.hid h1
    have HX := Lib.hid hX
    have HXC := Lib.hid hXc
    have HXE := Lib.hid hXe
    clear h1 hX hXc hXe
    go_enter Try.func6, Try.ntmps6
    go_wp2_with fail
    with_reducible refine (told_any _).mono ?_
    rintro e w1 ⟨rfl, hb1⟩
    obtain ⟨c0, c1, c2, hws⟩ := box_three hb1
    go_wp2_with fail
    with_reducible refine (mencode_err m _ _ _ r (idsAt_kept hb1 hi0) HR.out h0).mono ?_
    rintro e w2 ⟨rfl, hb2⟩
    have hb12 := kept_trans hb1 hb2
    clear c0 c1 c2 hws
    obtain ⟨c0, c1, c2, hws⟩ := box_three hb12
    go_wp2_with fail
    with_reducible refine (mcheck_is m _ _ _ r (idsAt_kept hb12 hi0) HR.out).mono ?_
    rintro e w6 ⟨rfl, hb3⟩
    have hbA := kept_trans hb12 hb3
    clear c0 c1 c2 hws hb1 hb2 hb3 hb12
    go_wp2_with fail
    with_reducible refine (mdecode_all _ 0 X _ hs HS.out HX.out).mono ?_
    rintro e w7 ⟨a7, cap7, rfl, hcap7, hi7, hfr7, hb7⟩
    have hkx := kept_new w7 (msgBox a7 cap7 X)
    go_wp2_with fail
    with_reducible refine (mencode_all X _ _ _ 0 s (idsAt_kept hkx hi7) HXC.out HXE.out).mono ?_
    rintro e w8 ⟨rfl, hb8⟩
    go_wp2_with fail
    go_ret
    exact ⟨rfl, kept_trans (kept_trans (kept_trans (kept_trans hk hbA) hb7) hkx) hb8⟩
  · obtain ⟨q, hq⟩ : ∃ q, errM s.data.toList = q := ⟨_, rfl⟩
    have hq0 : q ≠ 0 := by rw [← hq]; exact h1
    have hqb : (q != 0) = true := by simpa using hq0
    have hqe : (q == 0) = false := by simpa using hq0
    have HSQ := Lib.hid hq
    clear h1 hq
    go_enter Try.func6, Try.ntmps6
    go_wp2_with fail
    with_reducible refine (told_any _).mono ?_
    rintro e w1 ⟨rfl, hb1⟩
    obtain ⟨c0, c1, c2, hws⟩ := box_three hb1
    go_wp2_with fail
    with_reducible refine (mencode_err m _ _ _ r (idsAt_kept hb1 hi0) HR.out h0).mono ?_
    rintro e w2 ⟨rfl, hb2⟩
    have hb12 := kept_trans hb1 hb2
    clear c0 c1 c2 hws
    obtain ⟨c0, c1, c2, hws⟩ := box_three hb12
    go_wp2_with fail
    with_reducible refine (mcheck_is m _ _ _ r (idsAt_kept hb12 hi0) HR.out).mono ?_
    rintro e w6 ⟨rfl, hb3⟩
    have hbA := kept_trans hb12 hb3
    clear c0 c1 c2 hws hb1 hb2 hb3 hb12
    go_wp2_with fail
    with_reducible refine (mdecode_fail _ q _ hs HSQ.out hq0).mono ?_
    rintro e w7 ⟨a7, cap7, rfl, hb7⟩
    have hkx := kept_new w7 (.cells #[.int .i64 0, .slice a7 0 cap7, .string ⟨#[]⟩] 24)
    go_wp2_with fail
    with_reducible refine (mencode_zero _ _ _).mono ?_
    rintro e w8 ⟨rfl, hb8⟩
    obtain ⟨c0, c1, c2, hws⟩ := box_three hb8
    go_wp2_with fail
    with_reducible refine (msgEq_zero _ _ _).mono ?_
    rintro e w9 ⟨rfl, hb9⟩
    go_wp2_with fail
    go_ret
    exact ⟨rfl, kept_trans (kept_trans (kept_trans (kept_trans (kept_trans hk hbA) hb7) hkx) hb8) hb9⟩
theorem msgBack_walk (m : MsgD) (a : Option Addr) (cap : Nat) (_hc : m.ids.length ≤ cap) (s : ByteArray) (hs : s.size ≤ maxLen) (w : World) (hi : IdsAt w a m.ids) :
    Calls Try.prog 6 #[msgV a cap m, .string s] w fun e w' => e = .returned (.bool true) ∧ Below w.heap.size w w' := by
  by_cases h0 : checkM m = 0
  · by_cases h1 : errM s.data.toList = 0
    · exact msgBack_ok_ok m a cap s w hs hi h0 h1
    · exact msgBack_ok_err m a cap s w hs hi h0 h1
  · exact msgBack_err m a cap s w hs hi h0
end Go.Proofs.Ytnigjhfdeinlhab
