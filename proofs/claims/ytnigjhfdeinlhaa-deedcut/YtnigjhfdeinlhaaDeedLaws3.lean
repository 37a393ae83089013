/-
  The walk of the law on IDs of equal deeds.
-/
import Derived.Test.YtnigjhfdeinlhaaDeedLaws2
import Derived.Test.YtnigjhfdeinlhaaRefEq
namespace Go.Proofs.Ytnigjhfdeinlhaa
open Go.RowKit

theorem summed_any (w : World) : Calls Try.prog 22 #[] w fun e w' => e = .returned (.bool true) ∧ w = w' := by
  go_enter Try.func22, Try.ntmps22
  go_wp2_with fail
  with_reducible refine (of_none _).mono ?_
  rintro e w' ⟨rfl, rfl⟩
  go_wp2_with fail
  with_reducible refine (of_one _).mono ?_
  rintro e w' ⟨rfl, rfl⟩
  go_wp2_with fail
  go_ret
  exact ⟨rfl, rfl⟩
theorem deedEq_is (d x : DeedD) (a b : Option Addr) (ca cb : Nat) (w : World) (r : Bool) (hl : d.ins.length ≤ maxLen) (ha : InsAt w a d.ins) (hb : InsAt w b x.ins) (h : eqD d x = r) :
    Calls Try.prog 17 #[.agg #[.slice a d.ins.length ca, .int .i64 d.outs, .int .i64 d.weight, .int .i64 d.fee], .agg #[.slice b x.ins.length cb, .int .i64 x.outs, .int .i64 x.weight, .int .i64 x.fee]] w
      fun e w' => e = .returned (.bool r) ∧ Below w.heap.size w w' := h ▸ deedEq_any d x a b ca cb w hl ha hb
theorem eqD_eq {d x : DeedD} (h : eqD d x = true) : d = x := by
  unfold eqD at h
  simp only [Bool.and_eq_true, beq_iff_eq] at h
  obtain ⟨⟨⟨h1, h2⟩, h3⟩, h4⟩ := h
  cases d
  cases x
  simp_all

set_option maxHeartbeats 2000000 in
theorem deedSums_walk (d : DeedD) (a : Option Addr) (ca : Nat) (_ha : d.ins.length ≤ ca) (x : DeedD) (b : Option Addr) (cb : Nat) (_hb : x.ins.length ≤ cb) (w : World) (hi : InsAt w a d.ins) (hj : InsAt w b x.ins) :
    Calls Try.prog 9 #[deedV a ca d, deedV b cb x] w fun e w' => e = .returned (.bool true) ∧ Below w.heap.size w w' := by
  unfold deedV
  have hk := kept_alloc (kept_new w (.cells #[.slice a d.ins.length ca, .int .i64 d.outs, .int .i64 d.weight, .int .i64 d.fee] 24)) (.cells #[.slice b x.ins.length cb, .int .i64 x.outs, .int .i64 x.weight, .int .i64 x.fee] 24)
  have hi0 := insAt_kept hk hi
  have hj0 := insAt_kept hk hj
  clear hi hj
  by_cases h0 : checkD d = 0
  · obtain ⟨E, hE⟩ : ∃ E, str (encB d) = E := ⟨_, rfl⟩
    obtain ⟨p, hp⟩ : ∃ p, ofU E.data.toList = p := ⟨_, rfl⟩
    have hs : E.size ≤ maxLen := by have := enc_small d E h0 hE; unfold maxLen; omega
    have hl : d.ins.length ≤ maxLen := by have := (check_ok h0).1; unfold maxLen; omega
    have HR := Lib.hid h0
    have HE := Lib.hid hE
    have HP := Lib.hid hp
    by_cases h1 : checkD x = 0
    · obtain ⟨F, hF⟩ : ∃ F, str (encB x) = F := ⟨_, rfl⟩
      obtain ⟨q, hq⟩ : ∃ q, ofU F.data.toList = q := ⟨_, rfl⟩
      obtain ⟨r, hr⟩ : ∃ r, eqD d x = r := ⟨_, rfl⟩
      have hpq : r = true → ((p.toNat : Int) == (q.toNat : Int)) = true := fun h => by
        rw [h] at hr
        have e := eqD_eq hr
        subst e
        rw [← hq, ← hp, ← hF, ← hE]
        simp
      have HX := Lib.hid h1
      have HF := Lib.hid hF
      have HQ := Lib.hid hq
      have HRR := Lib.hid hr
      have HPQ := Lib.hid hpq
      clear h0 hE hp h1 hF hq hr hpq
      go_enter Try.func9, Try.ntmps9
      go_wp2_with fail
      with_reducible refine (written_any _).mono ?_
      rintro e w1 ⟨rfl, hb1⟩
      go_wp2_with fail
      with_reducible refine (summed_any _).mono ?_
      rintro e w' ⟨rfl, rfl⟩
      obtain ⟨p0, p1, p2, p3, q0, q1, q2, q3⟩ := box_eight hb1
      go_wp2_with fail
      with_reducible refine (id_is d _ _ _ E p (insAt_kept hb1 hi0) HR.out HE.out HP.out).mono ?_
      rintro e w2 ⟨rfl, hb2⟩
      have hb12 := kept_trans hb1 hb2
      clear p0 p1 p2 p3 q0 q1 q2 q3
      obtain ⟨p0, p1, p2, p3, q0, q1, q2, q3⟩ := box_eight hb12
      go_wp2_with fail
      with_reducible refine (id_is x _ _ _ F q (insAt_kept hb12 hj0) HX.out HF.out HQ.out).mono ?_
      rintro e w3 ⟨rfl, hb3⟩
      have hb13 := kept_trans hb12 hb3
      clear p0 p1 p2 p3 q0 q1 q2 q3
      obtain ⟨p0, p1, p2, p3, q0, q1, q2, q3⟩ := box_eight hb13
      go_wp2_with fail
      with_reducible refine (encode_is d _ _ _ E (insAt_kept hb13 hi0) HR.out HE.out).mono ?_
      rintro e w4 ⟨rfl, hb4⟩
      have hb14 := kept_trans hb13 hb4
      clear p0 p1 p2 p3 q0 q1 q2 q3
      obtain ⟨p0, p1, p2, p3, q0, q1, q2, q3⟩ := box_eight hb14
      go_wp2_with fail
      with_reducible refine (of_is E p _ HP.out hs).mono ?_
      rintro e w' ⟨rfl, rfl⟩
      go_wp2_with fail
      cases r
      · with_reducible refine (deedEq_is d x _ _ _ _ _ false hl (insAt_kept hb14 hi0) (insAt_kept hb14 hj0) HRR.out).mono ?_
        rintro e w5 ⟨rfl, hb5⟩
        go_wp2_with fail
        go_ret
        exact ⟨rfl, kept_trans (kept_trans hk hb14) hb5⟩
      · have hpq := HPQ.out rfl
        with_reducible refine (deedEq_is d x _ _ _ _ _ true hl (insAt_kept hb14 hi0) (insAt_kept hb14 hj0) HRR.out).mono ?_
        rintro e w5 ⟨rfl, hb5⟩
        go_wp2_with fail
        go_ret
        exact ⟨rfl, kept_trans (kept_trans hk hb14) hb5⟩
    · obtain ⟨r, hr⟩ : ∃ r, checkD x = r := ⟨_, rfl⟩
      rw [hr] at h1
      have hrb : (r != 0) = true := by simpa using h1
      have HX := Lib.hid hr
      clear h0 hE hp hr
      go_enter Try.func9, Try.ntmps9
      go_wp2_with fail
      with_reducible refine (written_any _).mono ?_
      rintro e w1 ⟨rfl, hb1⟩
      go_wp2_with fail
      with_reducible refine (summed_any _).mono ?_
      rintro e w' ⟨rfl, rfl⟩
      obtain ⟨p0, p1, p2, p3, q0, q1, q2, q3⟩ := box_eight hb1
      go_wp2_with fail
      with_reducible refine (id_is d _ _ _ E p (insAt_kept hb1 hi0) HR.out HE.out HP.out).mono ?_
      rintro e w2 ⟨rfl, hb2⟩
      have hb12 := kept_trans hb1 hb2
      clear p0 p1 p2 p3 q0 q1 q2 q3
      obtain ⟨p0, p1, p2, p3, q0, q1, q2, q3⟩ := box_eight hb12
      go_wp2_with fail
      with_reducible refine (id_err x _ _ _ r (insAt_kept hb12 hj0) HX.out h1).mono ?_
      rintro e w3 ⟨rfl, hb3⟩
      have hb13 := kept_trans hb12 hb3
      clear p0 p1 p2 p3 q0 q1 q2 q3
      obtain ⟨p0, p1, p2, p3, q0, q1, q2, q3⟩ := box_eight hb13
      go_wp2_with fail
      with_reducible refine (encode_is d _ _ _ E (insAt_kept hb13 hi0) HR.out HE.out).mono ?_
      rintro e w4 ⟨rfl, hb4⟩
      go_wp2_with fail
      with_reducible refine (of_is E p _ HP.out hs).mono ?_
      rintro e w' ⟨rfl, rfl⟩
      go_wp2_with fail
      go_ret
      exact ⟨rfl, kept_trans (kept_trans hk hb13) hb4⟩
  · obtain ⟨r, hr⟩ : ∃ r, checkD d = r := ⟨_, rfl⟩
    rw [hr] at h0
    have hrb : (r != 0) = true := by simpa using h0
    have hre : (r == 0) = false := by simpa using h0
    have HR := Lib.hid hr
    clear hr
    obtain ⟨y, s, hid⟩ : ∃ (y : Value) (s : Int), ∀ wx, InsAt wx b x.ins → Calls Try.prog 18 #[.agg #[.slice b x.ins.length cb, .int .i64 x.outs, .int .i64 x.weight, .int .i64 x.fee]] wx fun e w' => e = .returned (.tuple #[y, .int .i64 s]) ∧ Below wx.heap.size wx w' := by
      by_cases h1 : checkD x = 0
      · exact ⟨_, _, fun wx hx => id_is x b cb wx _ _ hx h1 rfl rfl⟩
      · exact ⟨_, _, fun wx hx => id_err x b cb wx _ hx rfl h1⟩
    go_enter Try.func9, Try.ntmps9
    go_wp2_with fail
    with_reducible refine (written_any _).mono ?_
    rintro e w1 ⟨rfl, hb1⟩
    go_wp2_with fail
    with_reducible refine (summed_any _).mono ?_
    rintro e w' ⟨rfl, rfl⟩
    obtain ⟨p0, p1, p2, p3, q0, q1, q2, q3⟩ := box_eight hb1
    go_wp2_with fail
    with_reducible refine (id_err d _ _ _ r (insAt_kept hb1 hi0) HR.out h0).mono ?_
    rintro e w2 ⟨rfl, hb2⟩
    have hb12 := kept_trans hb1 hb2
    clear p0 p1 p2 p3 q0 q1 q2 q3
    obtain ⟨p0, p1, p2, p3, q0, q1, q2, q3⟩ := box_eight hb12
    go_wp2_with fail
    with_reducible refine (hid _ (insAt_kept hb12 hj0)).mono ?_
    rintro e w3 ⟨rfl, hb3⟩
    have hb13 := kept_trans hb12 hb3
    clear p0 p1 p2 p3 q0 q1 q2 q3
    obtain ⟨p0, p1, p2, p3, q0, q1, q2, q3⟩ := box_eight hb13
    go_wp2_with fail
    with_reducible refine (encode_err d _ _ _ r (insAt_kept hb13 hi0) HR.out h0).mono ?_
    rintro e w4 ⟨rfl, hb4⟩
    go_wp2_with fail
    go_ret
    exact ⟨rfl, kept_trans (kept_trans hk hb13) hb4⟩
end Go.Proofs.Ytnigjhfdeinlhaa
