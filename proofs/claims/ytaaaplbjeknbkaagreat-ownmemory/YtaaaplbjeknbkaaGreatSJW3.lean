/-
  Contracts of package judge: payment, Judge.
-/
import Derived.Test.YtaaaplbjeknbkaaGreatSJW2
import Derived.Test.YtaaaplbjeknbkaaGreatJ5
set_option maxRecDepth 20000
namespace Go.Proofs.YtaaaplbjeknbkaaGreat.So.Ju
open Go.Proofs.YtaaaplbjeknbkaaGreat.Ju
open Go.RowKit Go.Maps

variable {w w' : World} {F : Nat → Prop} {R : Nat} {M : UInt64 → Option DeedD} {os : List UInt64} {sp : List InD} {b s n : Nat} {ev : UInt64 → Option Value} {v : Value}

def feesL (l : List DeedH) : Int := (l.map fun q => q.d.fee).sum
def weightsL (l : List DeedH) : Int := (l.map fun q => q.d.weight).sum
theorem feesL_step {l : List DeedH} {k : Nat} (h : k < l.length) : feesL (l.take (k + 1)) = feesL (l.take k) + l[k].d.fee := by unfold feesL; rw [List.take_succ_eq_append_getElem h, List.map_append, List.sum_append, List.map_cons, List.map_nil, List.sum_cons, List.sum_nil, Int.add_zero]
theorem weightsL_step {l : List DeedH} {k : Nat} (h : k < l.length) : weightsL (l.take (k + 1)) = weightsL (l.take k) + l[k].d.weight := by unfold weightsL; rw [List.take_succ_eq_append_getElem h, List.map_append, List.sum_append, List.map_cons, List.map_nil, List.sum_cons, List.sum_nil, Int.add_zero]
theorem sums_bound {l : List DeedH} (hf : ∀ q ∈ l, checkD q.d = 0) : ∀ k, k ≤ l.length → 0 ≤ feesL (l.take k) ∧ feesL (l.take k) ≤ 1000 * k ∧ 0 ≤ weightsL (l.take k) ∧ weightsL (l.take k) ≤ 1000 * k := fun k => by
  induction k with
  | zero => intro _; simp [feesL, weightsL]
  | succ k ih =>
    intro hk
    have := ih (by omega)
    obtain ⟨_, _, _, _, h5, h6⟩ := check_ok (hf _ (List.getElem_mem (show k < l.length by omega)))
    rw [feesL_step (by omega), weightsL_step (by omega)]
    omega
/-- The cells of deeds in a row. -/
def RowOf (w : World) (a : Option Addr) (l : List DeedH) : Prop := ∀ i (h : i < l.length), ∃ b o, a = some ⟨b, o, none⟩ ∧ b < w.heap.size ∧ DeedHCells w b (o + i * 4) l[i]
theorem deedH_kept {w w' : World} {b o : Nat} {q : DeedH} (hb : Below w.heap.size w w') (h : DeedHCells w b o q) : DeedHCells w' b o q := ⟨kept_cell hb h.1, kept_cell hb h.2.1, kept_cell hb h.2.2.1, kept_cell hb h.2.2.2⟩
theorem rowOf_kept {a : Option Addr} {l : List DeedH} (h : RowOf w a l) (hb : Below w.heap.size w w') : RowOf w' a l := fun i hi => by
  obtain ⟨b, o, e, hlt, hc⟩ := h i hi
  exact ⟨b, o, e, Nat.lt_of_lt_of_le hlt hb.size, deedH_kept hb hc⟩
set_option maxRecDepth 20000 in
theorem payment_any (l : List DeedH) (a : Option Addr) (cap : Nat) (w : World) (hl : l.length ≤ 2) (hf : ∀ q ∈ l, checkD q.d = 0) (hi : RowOf w a l) (r : Int) (hr : payI (feesL l) (weightsL l) = r) :
    Calls Tryz.prog 113 #[.slice a l.length cap] w fun e w' => e = .returned (.int .i64 r) ∧ Below w.heap.size w w' := by
  have HF := Lib.hid (sums_bound hf)
  have HI := Lib.hid hi
  have HR := Lib.hid hr
  have HC := Lib.hid hf
  clear hf hi hr
  go_enter Tryz.func113, Tryz.ntmps113
  go_wp2_with fail
  go_loopw [3, 4, 9] (fun x y i wr => ∃ k : Nat, k ≤ l.length ∧ i = .int .i64 k ∧ x = .int .i64 (feesL (l.take k)) ∧ y = .int .i64 (weightsL (l.take k)) ∧ Hid (Below w.heap.size w wr)) (fun _ _ i _ => l.length - (intOf i).toNat)
  case atStart => exact ⟨0, Nat.zero_le _, rfl, rfl, rfl, Lib.hid (Below.refl _ _)⟩
  case round =>
    obtain ⟨k, hk, rfl, rfl, rfl, HB⟩ := hrel
    have hbd := HF.out k hk
    by_cases hkl : k < l.length
    · obtain ⟨bb, oo, rfl, hbb, c0, c1, c2, c3⟩ := rowOf_kept HI.out HB.out k hkl
      have e1 := feesL_step hkl
      have e2 := weightsL_step hkl
      obtain ⟨_, _, _, _, h5, h6⟩ := check_ok (HC.out _ (List.getElem_mem hkl))
      obtain ⟨⟨qa, qc, ⟨ql, qo, qw, qf⟩⟩, hq⟩ : ∃ q, l[k] = q := ⟨_, rfl⟩
      rw [hq] at c0 c1 c2 c3 e1 e2 h5 h6
      simp only at c0 c1 c2 c3 e1 e2 h5 h6
      obtain ⟨X, hX⟩ : ∃ X, feesL (l.take k) = X := ⟨_, rfl⟩
      obtain ⟨Y, hY⟩ : ∃ Y, weightsL (l.take k) = Y := ⟨_, rfl⟩
      rw [hX] at e1 hbd ⊢
      rw [hY] at e2 hbd ⊢
      have E1 := Lib.hid e1
      have E2 := Lib.hid e2
      clear hX hY e1 e2 hq
      go_wp2_with fail
      go_roundw
      case rel => exact ⟨k + 1, by omega, by go_num, by rw [E1.out], by rw [E2.out], Lib.hid (kept_alloc HB.out _)⟩
      case measure => simp [intOf]; omega
    · have he : l.take k = l := List.take_of_length_le (by omega)
      rw [he] at hbd ⊢
      obtain ⟨X, hX⟩ : ∃ X, feesL l = X := ⟨_, rfl⟩
      obtain ⟨Y, hY⟩ : ∃ Y, weightsL l = Y := ⟨_, rfl⟩
      rw [hX, hY] at hbd ⊢
      have hr := HR.out
      rw [hX, hY] at hr
      unfold payI at hr
      clear hX hY he
      by_cases hlt : 10 * X < Y
      · rw [if_pos hlt] at hr
        have HQ := Lib.hid hr
        clear hr
        go_wp2_with fail
        go_ret
        exact ⟨ret_i64 HQ.out, HB.out⟩
      · rw [if_neg hlt] at hr
        have HQ := Lib.hid hr
        clear hr
        go_wp2_with fail
        go_ret
        exact ⟨ret_i64 HQ.out, HB.out⟩
/-- Judge's answers: a state, IDs in new memory, an error. -/
def GaveJ (w : World) (q : Int × List UInt64 × Int) (e : Ending) (w' : World) : Prop := ∃ a cap, e = .returned (.tuple #[.int .i64 q.1, .slice a q.2.1.length cap, .int .i64 q.2.2]) ∧ OwnIds w' w.heap.size (.slice a q.2.1.length cap) q.2.1 ∧ Below w.heap.size w w'
/-- Judge's answers, over what is found and spent. -/
def judgeM (M : UInt64 → Option DeedD) (q : InD → Bool) (d : DeedD) : Int × List UInt64 × Int := if checkD d ≠ 0 then (0, [], checkD d) else (stateM M q d, missL M d.ins, 0)
set_option maxRecDepth 20000 in
theorem judge_err (d : DeedD) (a : Option Addr) (cap : Nat) (w : World) (hi : InsAt w a d.ins) (r : Int) (hr : checkD d = r) (h0 : r ≠ 0) :
    Calls Tryz.prog 69 #[.pointer (some ⟨R, 0, none⟩), .agg #[.slice a d.ins.length cap, .int .i64 d.outs, .int .i64 d.weight, .int .i64 d.fee]] w (GaveJ w (0, [], r)) := by
  have hk0 := kept_new w (.cells #[.slice a d.ins.length cap, .int .i64 d.outs, .int .i64 d.weight, .int .i64 d.fee] 50)
  have HI := Lib.hid (insAt_kept hk0 hi)
  have HR := Lib.hid hr
  have hrb : (r != 0) = true := by simpa using h0
  clear hi hr
  go_enter Tryz.func69, Tryz.ntmps69
  go_wp2_with fail
  with_reducible refine (check_is d _ _ _ r HI.out HR.out).mono ?_
  rintro e w1 ⟨rfl, hb1⟩
  go_wp2_with fail
  go_ret3
  exact ⟨none, 0, rfl, ownIds_nil _ _, kept_trans hk0 hb1⟩
set_option maxRecDepth 20000 in
theorem judge_ok (d : DeedD) (a : Option Addr) (cap : Nat) (w : World) (h : LedAt w F R M os sp b s n ev v) (hi : InsAt w a d.ins) (hd : checkD d = 0) :
    Calls Tryz.prog 69 #[.pointer (some ⟨R, 0, none⟩), .agg #[.slice a d.ins.length cap, .int .i64 d.outs, .int .i64 d.weight, .int .i64 d.fee]] w (GaveJ w (stateM M (fun e => sp.contains e) d, missL M d.ins, 0)) := by
  have hk0 := kept_new w (.cells #[.slice a d.ins.length cap, .int .i64 d.outs, .int .i64 d.weight, .int .i64 d.fee] 50)
  have HI := Lib.hid (insAt_kept hk0 hi)
  have H := Lib.hid (h.kept hk0)
  have HD := Lib.hid hd
  have HK := Lib.hid hk0
  have hl := (check_ok hd).1
  obtain ⟨m, hm⟩ : ∃ m, missL M d.ins = m := ⟨_, rfl⟩
  obtain ⟨st, hst⟩ : ∃ st, stateM M (fun e => sp.contains e) d = st := ⟨_, rfl⟩
  have hml := missL_length M d.ins
  rw [hm] at hml
  have HM := Lib.hid hm
  have HST := Lib.hid hst
  rw [hm, hst]
  unfold stateM at hst
  rw [hm] at hst
  clear h hi hd hk0 hm
  go_enter Tryz.func69, Tryz.ntmps69
  go_wp2_with fail
  with_reducible refine (check_is d _ _ _ 0 HI.out HD.out).mono ?_
  rintro e w1 ⟨rfl, hb1⟩
  obtain ⟨c0, c1, c2, c3, hs1⟩ := box_four hb1
  have HI1 := Lib.hid (insAt_kept hb1 HI.out)
  have H1 := Lib.hid (H.out.kept hb1)
  have HB1 := Lib.hid (kept_trans HK.out hb1)
  clear hb1
  go_wp2_with fail
  with_reducible refine (missing_any _ (fun _ _ h hb => h.kept hb) _ _ _ M finds_led d a cap _ H1.out hl HI1.out).mono ?_
  rw [HM.out]
  rintro e w2 ⟨a2, cp2, rfl, ho2, hb2⟩
  obtain ⟨g0, g1, g2, g3⟩ : _ ∧ _ ∧ _ ∧ _ := ⟨kept_cell hb2 c0, kept_cell hb2 c1, kept_cell hb2 c2, kept_cell hb2 c3⟩
  have hs2 := (cell_spot g0).2
  have HI2 := Lib.hid (insAt_kept hb2 HI1.out)
  have H2 := Lib.hid (H1.out.kept hb2)
  have HB2 := Lib.hid (kept_trans HB1.out hb2)
  have HO2 := Lib.hid (own_mono ho2 HB1.out.size)
  clear hb2 ho2
  by_cases hne : m ≠ []
  · rw [if_pos hne] at hst
    have hpos : 0 < m.length := List.length_pos_iff.2 hne
    subst hst
    clear hne HST
    go_wp2_with fail
    go_ret3
    exact ⟨a2, cp2, rfl, HO2.out, HB2.out⟩
  · rw [if_neg hne] at hst
    obtain rfl : m = [] := Classical.not_not.1 hne
    clear hne
    cases hw : wickedL M (fun e => sp.contains e) d.ins with
    | true =>
      rw [if_pos hw] at hst
      subst hst
      have HWK := Lib.hid hw
      clear hw HST
      go_wp2_with fail
      with_reducible refine (isWicked_any _ (fun _ _ h hb => h.kept hb) _ _ _ _ _ _ M _ finds_led spends_led d a cap _ H2.out hl HI2.out true HWK.out).mono ?_
      rintro e w3 ⟨rfl, hb3⟩
      go_wp2_with fail
      go_ret3
      exact ⟨none, 0, rfl, ownIds_nil _ _, kept_trans HB2.out hb3⟩
    | false =>
      rw [if_neg (by rw [hw]; simp)] at hst
      have HWK := Lib.hid hw
      have HQ := Lib.hid hst
      clear hw HST hst
      go_wp2_with fail
      with_reducible refine (isWicked_any _ (fun _ _ h hb => h.kept hb) _ _ _ _ _ _ M _ finds_led spends_led d a cap _ H2.out hl HI2.out false HWK.out).mono ?_
      rintro e w3 ⟨rfl, hb3⟩
      obtain ⟨r0, r1, r2, r3⟩ : _ ∧ _ ∧ _ ∧ _ := ⟨kept_cell hb3 g0, kept_cell hb3 g1, kept_cell hb3 g2, kept_cell hb3 g3⟩
      have hs3 := (cell_spot r0).2
      have HROW : Hid (RowOf (w3.alloc (.cells #[.slice a d.ins.length cap, .int .i64 d.outs, .int .i64 d.weight, .int .i64 d.fee] 50)) (some ⟨w3.heap.size, 0, none⟩) [⟨a, cap, d⟩]) := Lib.hid fun i hi => by
        have hi : i < 1 := hi
        obtain rfl : i = 0 := by omega
        refine ⟨w3.heap.size, 0, rfl, by simp, ?_⟩
        unfold DeedHCells
        refine ⟨?_, ?_, ?_, ?_⟩ <;> simp [go_sem]
      have HB3 := Lib.hid (kept_alloc (kept_trans HB2.out hb3) (.cells #[.slice a d.ins.length cap, .int .i64 d.outs, .int .i64 d.weight, .int .i64 d.fee] 50))
      have HP : Hid (payI (feesL [⟨a, cap, d⟩]) (weightsL [⟨a, cap, d⟩]) = st) := Lib.hid (by simpa [feesL, weightsL] using HQ.out)
      have HF : Hid (∀ q ∈ [(⟨a, cap, d⟩ : DeedH)], checkD q.d = 0) := Lib.hid (fun q hq => by rw [List.mem_singleton.1 hq]; exact HD.out)
      clear hb3
      go_wp2_with fail
      refine (payment_any [⟨a, cap, d⟩] _ _ _ (by simp) HF.out HROW.out st HP.out).mono ?_
      rintro e w4 ⟨rfl, hb4⟩
      go_wp2_with fail
      go_ret3
      exact ⟨none, 0, rfl, ownIds_nil _ _, kept_trans HB3.out hb4⟩
theorem judge_any (d : DeedD) (a : Option Addr) (cap : Nat) (w : World) (h : LedAt w F R M os sp b s n ev v) (hi : InsAt w a d.ins) :
    Calls Tryz.prog 69 #[.pointer (some ⟨R, 0, none⟩), .agg #[.slice a d.ins.length cap, .int .i64 d.outs, .int .i64 d.weight, .int .i64 d.fee]] w (GaveJ w (judgeM M (fun e => sp.contains e) d)) := by
  unfold judgeM
  by_cases h0 : checkD d = 0
  · rw [if_neg (not_not_intro h0)]
    exact judge_ok d a cap w h hi h0
  · rw [if_pos h0]
    exact judge_err d a cap w hi _ rfl h0
end Go.Proofs.YtaaaplbjeknbkaaGreat.So.Ju
