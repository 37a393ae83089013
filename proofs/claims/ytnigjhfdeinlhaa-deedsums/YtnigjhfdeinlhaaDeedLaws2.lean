/-
  The walks of the laws on Encode and ID alone.
-/
import Derived.Test.YtnigjhfdeinlhaaRefEncode
import Derived.Test.YtnigjhfdeinlhaaOfWalks
import Derived.Test.YtnigjhfdeinlhaaDeedLaws1
namespace Go.Proofs.Ytnigjhfdeinlhaa
open Go.RowKit

theorem encode_is (d : DeedD) (a : Option Addr) (cap : Nat) (w : World) (E : ByteArray) (hi : InsAt w a d.ins) (h : checkD d = 0) (hE : str (encB d) = E) :
    Calls Try.prog 13 #[.agg #[.slice a d.ins.length cap, .int .i64 d.outs, .int .i64 d.weight, .int .i64 d.fee]] w fun e w' => e = .returned (.tuple #[.string E, .int .i64 0]) ∧ Below w.heap.size w w' := hE ▸ encode_ok d a cap w hi h

theorem deedEncodes_walk (d : DeedD) (a : Option Addr) (cap : Nat) (hc : d.ins.length ≤ cap) (w : World) (hi : InsAt w a d.ins) :
    Calls Try.prog 4 #[deedV a cap d] w fun e w' => e = .returned (.bool true) ∧ Below w.heap.size w w' := by
  unfold deedV
  have hk := kept_new w (.cells #[.slice a d.ins.length cap, .int .i64 d.outs, .int .i64 d.weight, .int .i64 d.fee] 24)
  have hi0 := insAt_kept hk hi
  by_cases h0 : checkD d = 0
  · obtain ⟨E, hE⟩ : ∃ E, str (encB d) = E := ⟨_, rfl⟩
    have HR := Lib.hid h0
    have HE := Lib.hid hE
    clear h0 hE
    go_enter Try.func4, Try.ntmps4
    go_wp2_with fail
    with_reducible refine (encode_is d _ _ _ E hi0 HR.out HE.out).mono ?_
    rintro e w1 ⟨rfl, hb1⟩
    obtain ⟨c0, c1, c2, c3, hws⟩ := box_four hb1
    have hi1 := insAt_kept hb1 hi0
    go_wp2_with fail
    with_reducible refine (refEncode_ok d _ _ _ E hc hi1 HR.out HE.out).mono ?_
    rintro e w2 ⟨rfl, hb2⟩
    go_wp2_with fail
    with_reducible refine (check_zero _).mono ?_
    rintro e w3 ⟨rfl, hb3⟩
    go_wp2_with fail
    go_ret
    exact ⟨rfl, kept_trans (kept_trans (kept_trans hk hb1) hb2) hb3⟩
  · obtain ⟨r, hr⟩ : ∃ r, checkD d = r := ⟨_, rfl⟩
    rw [hr] at h0
    have HR := Lib.hid hr
    clear hr
    go_enter Try.func4, Try.ntmps4
    go_wp2_with fail
    with_reducible refine (encode_err d _ _ _ r hi0 HR.out h0).mono ?_
    rintro e w1 ⟨rfl, hb1⟩
    obtain ⟨c0, c1, c2, c3, hws⟩ := box_four hb1
    have hi1 := insAt_kept hb1 hi0
    go_wp2_with fail
    with_reducible refine (refEncode_err d _ _ _ r hc hi1 HR.out h0).mono ?_
    rintro e w2 ⟨rfl, hb2⟩
    go_wp2_with fail
    with_reducible refine (check_zero _).mono ?_
    rintro e w3 ⟨rfl, hb3⟩
    go_wp2_with fail
    go_ret
    exact ⟨rfl, kept_trans (kept_trans (kept_trans hk hb1) hb2) hb3⟩

theorem id_err (d : DeedD) (a : Option Addr) (cap : Nat) (w : World) (r : Int) (hi : InsAt w a d.ins) (h : checkD d = r) (hr : r ≠ 0) :
    Calls Try.prog 18 #[.agg #[.slice a d.ins.length cap, .int .i64 d.outs, .int .i64 d.weight, .int .i64 d.fee]] w fun e w' => e = .returned (.tuple #[.int .u64 0, .int .i64 r]) ∧ Below w.heap.size w w' := by
  have HR := Lib.hid h
  clear h
  have hrb : (r != 0) = true := by simpa using hr
  have hk := kept_new w (.cells #[.slice a d.ins.length cap, .int .i64 d.outs, .int .i64 d.weight, .int .i64 d.fee] 24)
  have hi0 := insAt_kept hk hi
  go_enter Try.func18, Try.ntmps18
  go_wp2_with fail
  with_reducible refine (encode_err d _ _ _ r hi0 HR.out hr).mono ?_
  rintro e w1 ⟨rfl, hb1⟩
  go_wp2_with fail
  go_ret2
  exact ⟨rfl, kept_trans hk hb1⟩
theorem enc_small (d : DeedD) (E : ByteArray) (h : checkD d = 0) (hE : str (encB d) = E) : E.size = 7 + 9 * d.ins.length ∧ d.ins.length ≤ 8 := by
  rw [← hE, str_size, encB_length]
  exact ⟨rfl, (check_ok h).1⟩
theorem id_is (d : DeedD) (a : Option Addr) (cap : Nat) (w : World) (E : ByteArray) (p : UInt64) (hi : InsAt w a d.ins) (h : checkD d = 0) (hE : str (encB d) = E) (hp : ofU E.data.toList = p) :
    Calls Try.prog 18 #[.agg #[.slice a d.ins.length cap, .int .i64 d.outs, .int .i64 d.weight, .int .i64 d.fee]] w fun e w' => e = .returned (.tuple #[.int .u64 p.toNat, .int .i64 0]) ∧ Below w.heap.size w w' := by
  have hs : E.size ≤ maxLen := by have := enc_small d E h hE; unfold maxLen; omega
  have HR := Lib.hid h
  have HE := Lib.hid hE
  have HP := Lib.hid hp
  clear h hE hp
  have hk := kept_new w (.cells #[.slice a d.ins.length cap, .int .i64 d.outs, .int .i64 d.weight, .int .i64 d.fee] 24)
  have hi0 := insAt_kept hk hi
  go_enter Try.func18, Try.ntmps18
  go_wp2_with fail
  with_reducible refine (encode_is d _ _ _ E hi0 HR.out HE.out).mono ?_
  rintro e w1 ⟨rfl, hb1⟩
  go_wp2_with fail
  with_reducible refine (of_is E p _ HP.out hs).mono ?_
  rintro e w2 ⟨rfl, rfl⟩
  go_wp2_with fail
  go_ret2
  exact ⟨rfl, kept_trans hk hb1⟩
theorem refID_err (d : DeedD) (a : Option Addr) (cap : Nat) (w : World) (r : Int) (hc : d.ins.length ≤ cap) (hi : InsAt w a d.ins) (h : checkD d = r) (hr : r ≠ 0) :
    Calls Try.prog 19 #[.agg #[.slice a d.ins.length cap, .int .i64 d.outs, .int .i64 d.weight, .int .i64 d.fee]] w fun e w' => e = .returned (.tuple #[.int .u64 0, .int .i64 r]) ∧ Below w.heap.size w w' := by
  have HR := Lib.hid h
  clear h
  have hrb : (r != 0) = true := by simpa using hr
  have hk := kept_new w (.cells #[.slice a d.ins.length cap, .int .i64 d.outs, .int .i64 d.weight, .int .i64 d.fee] 24)
  have hi0 := insAt_kept hk hi
  go_enter Try.func19, Try.ntmps19
  go_wp2_with fail
  with_reducible refine (refCheck_is d _ _ _ r hc hi0 HR.out).mono ?_
  rintro e w1 ⟨rfl, hb1⟩
  go_wp2_with fail
  go_ret2
  exact ⟨rfl, kept_trans hk hb1⟩
theorem refID_is (d : DeedD) (a : Option Addr) (cap : Nat) (w : World) (E : ByteArray) (p : UInt64) (hc : d.ins.length ≤ cap) (hi : InsAt w a d.ins) (h : checkD d = 0) (hE : str (encB d) = E) (hp : ofU E.data.toList = p) :
    Calls Try.prog 19 #[.agg #[.slice a d.ins.length cap, .int .i64 d.outs, .int .i64 d.weight, .int .i64 d.fee]] w fun e w' => e = .returned (.tuple #[.int .u64 p.toNat, .int .i64 0]) ∧ Below w.heap.size w w' := by
  have hs : E.size ≤ maxLen := by have := enc_small d E h hE; unfold maxLen; omega
  have HR := Lib.hid h
  have HP := Lib.hid hp
  have hby := fun (wx : World) (hx : InsAt wx a d.ins) => bytesOf_ok d a cap wx hx HR.out
  rw [hE] at hby
  clear h hE hp
  have hk := kept_new w (.cells #[.slice a d.ins.length cap, .int .i64 d.outs, .int .i64 d.weight, .int .i64 d.fee] 24)
  have hi0 := insAt_kept hk hi
  go_enter Try.func19, Try.ntmps19
  go_wp2_with fail
  with_reducible refine (refCheck_is d _ _ _ 0 hc hi0 HR.out).mono ?_
  rintro e w1 ⟨rfl, hb1⟩
  obtain ⟨c0, c1, c2, c3, hws⟩ := box_four hb1
  go_wp2_with fail
  with_reducible refine (hby _ (insAt_kept hb1 hi0)).mono ?_
  rintro e w2 ⟨rfl, hb2⟩
  go_wp2_with fail
  with_reducible refine (refSum_is E p _ HP.out hs).mono ?_
  rintro e w3 ⟨rfl, hb3⟩
  go_wp2_with fail
  go_ret2
  exact ⟨rfl, kept_trans (kept_trans (kept_trans hk hb1) hb2) hb3⟩

theorem deedIDs_walk (d : DeedD) (a : Option Addr) (cap : Nat) (hc : d.ins.length ≤ cap) (w : World) (hi : InsAt w a d.ins) :
    Calls Try.prog 6 #[deedV a cap d] w fun e w' => e = .returned (.bool true) ∧ Below w.heap.size w w' := by
  unfold deedV
  have hk := kept_new w (.cells #[.slice a d.ins.length cap, .int .i64 d.outs, .int .i64 d.weight, .int .i64 d.fee] 24)
  have hi0 := insAt_kept hk hi
  by_cases h0 : checkD d = 0
  · obtain ⟨E, hE⟩ : ∃ E, str (encB d) = E := ⟨_, rfl⟩
    obtain ⟨p, hp⟩ : ∃ p, ofU E.data.toList = p := ⟨_, rfl⟩
    have HR := Lib.hid h0
    have HE := Lib.hid hE
    have HP := Lib.hid hp
    clear h0 hE hp
    go_enter Try.func6, Try.ntmps6
    go_wp2_with fail
    with_reducible refine (id_is d _ _ _ E p hi0 HR.out HE.out HP.out).mono ?_
    rintro e w1 ⟨rfl, hb1⟩
    obtain ⟨c0, c1, c2, c3, hws⟩ := box_four hb1
    have hi1 := insAt_kept hb1 hi0
    go_wp2_with fail
    with_reducible refine (refID_is d _ _ _ E p hc hi1 HR.out HE.out HP.out).mono ?_
    rintro e w2 ⟨rfl, hb2⟩
    go_wp2_with fail
    with_reducible refine (check_zero _).mono ?_
    rintro e w3 ⟨rfl, hb3⟩
    go_wp2_with fail
    go_ret
    exact ⟨rfl, kept_trans (kept_trans (kept_trans hk hb1) hb2) hb3⟩
  · obtain ⟨r, hr⟩ : ∃ r, checkD d = r := ⟨_, rfl⟩
    rw [hr] at h0
    have HR := Lib.hid hr
    clear hr
    go_enter Try.func6, Try.ntmps6
    go_wp2_with fail
    with_reducible refine (id_err d _ _ _ r hi0 HR.out h0).mono ?_
    rintro e w1 ⟨rfl, hb1⟩
    obtain ⟨c0, c1, c2, c3, hws⟩ := box_four hb1
    have hi1 := insAt_kept hb1 hi0
    go_wp2_with fail
    with_reducible refine (refID_err d _ _ _ r hc hi1 HR.out h0).mono ?_
    rintro e w2 ⟨rfl, hb2⟩
    go_wp2_with fail
    with_reducible refine (check_zero _).mono ?_
    rintro e w3 ⟨rfl, hb3⟩
    go_wp2_with fail
    go_ret
    exact ⟨rfl, kept_trans (kept_trans (kept_trans hk hb1) hb2) hb3⟩

theorem simple_any (fee : Int) (w : World) : Calls Try.prog 37 #[.int .i64 fee] w fun e w' => e = .returned (.agg #[.slice none 0 0, .int .i64 1, .int .i64 10, .int .i64 fee]) ∧ Below w.heap.size w w' := by
  go_enter Try.func37, Try.ntmps37
  go_wp2
  exact bodyPost_ret (v := .agg #[.slice none 0 0, .int .i64 1, .int .i64 10, .int .i64 fee]) (by simp [results, Try.results37, go_sem]) rfl ⟨rfl, kept_new _ _⟩
theorem enc_simple : str (encB ⟨[], 1, 10, 3⟩) = ⟨#[68, 0, 1, 0, 10, 0, 3]⟩ := by
  have e : encB ⟨[], 1, 10, 3⟩ = [68, 0, 1, 0, 10, 0, 3] := by decide +kernel
  rw [e]
  rfl
theorem encode_simple (w : World) : Calls Try.prog 13 #[.agg #[.slice none 0 0, .int .i64 1, .int .i64 10, .int .i64 3]] w fun e w' => e = .returned (.tuple #[.string ⟨#[68, 0, 1, 0, 10, 0, 3]⟩, .int .i64 0]) ∧ Below w.heap.size w w' :=
  encode_is ⟨[], 1, 10, 3⟩ none 0 w _ (insAt_nil _ _) (by decide) enc_simple
theorem written_any (w : World) : Calls Try.prog 20 #[] w fun e w' => e = .returned (.bool true) ∧ Below w.heap.size w w' := by
  go_enter Try.func20, Try.ntmps20
  go_wp2_with fail
  with_reducible refine (simple_any 3 _).mono ?_
  rintro e w1 ⟨rfl, hb1⟩
  go_wp2_with fail
  with_reducible refine (encode_simple _).mono ?_
  rintro e w2 ⟨rfl, hb2⟩
  go_wp2_with fail
  go_ret
  exact ⟨rfl, kept_trans hb1 hb2⟩

theorem enc_first (d : DeedD) (E : ByteArray) (hE : str (encB d) = E) (h : 0 < E.size) : E[0] = 68 := by
  subst hE
  rfl
theorem deedSize_walk (d : DeedD) (a : Option Addr) (cap : Nat) (_hc : d.ins.length ≤ cap) (w : World) (hi : InsAt w a d.ins) :
    Calls Try.prog 10 #[deedV a cap d] w fun e w' => e = .returned (.bool true) ∧ Below w.heap.size w w' := by
  unfold deedV
  have hk := kept_new w (.cells #[.slice a d.ins.length cap, .int .i64 d.outs, .int .i64 d.weight, .int .i64 d.fee] 24)
  have hi0 := insAt_kept hk hi
  by_cases h0 : checkD d = 0
  · obtain ⟨E, hE⟩ : ∃ E, str (encB d) = E := ⟨_, rfl⟩
    obtain ⟨hsz, hl8⟩ := enc_small d E h0 hE
    have hpos : 0 < E.size := by omega
    have hfst := enc_first d E hE hpos
    have HR := Lib.hid h0
    have HE := Lib.hid hE
    clear h0 hE
    go_enter Try.func10, Try.ntmps10
    go_wp2_with fail
    with_reducible refine (encode_is d _ _ _ E hi0 HR.out HE.out).mono ?_
    rintro e w1 ⟨rfl, hb1⟩
    go_wp2_with fail
    with_reducible refine (written_any _).mono ?_
    rintro e w2 ⟨rfl, hb2⟩
    obtain ⟨c0, c1, c2, c3, hws⟩ := box_four (kept_trans hb1 hb2)
    go_wp2_with fail
    go_ret
    exact ⟨rfl, kept_trans (kept_trans hk hb1) hb2⟩
  · obtain ⟨r, hr⟩ : ∃ r, checkD d = r := ⟨_, rfl⟩
    rw [hr] at h0
    have hrb : (r != 0) = true := by simpa using h0
    have HR := Lib.hid hr
    clear hr
    go_enter Try.func10, Try.ntmps10
    go_wp2_with fail
    with_reducible refine (encode_err d _ _ _ r hi0 HR.out h0).mono ?_
    rintro e w1 ⟨rfl, hb1⟩
    go_wp2_with fail
    with_reducible refine (written_any _).mono ?_
    rintro e w2 ⟨rfl, hb2⟩
    go_wp2_with fail
    go_ret
    exact ⟨rfl, kept_trans (kept_trans hk hb1) hb2⟩
end Go.Proofs.Ytnigjhfdeinlhaa
