/-
  A ledger over ONE list of deeds: the contracts of all its calls; Accept.
-/
import Derived.Test.YtaaaplbjeknbkaaGreatSJW5
set_option maxRecDepth 20000
namespace Go.Proofs.YtaaaplbjeknbkaaGreat.So.Ju
open Go.Proofs.YtaaaplbjeknbkaaGreat.Ju
open Go.RowKit Go.Maps

variable {w w' : World} {F : Nat → Prop} {R : Nat} {L : List DeedD}

/-- Block R is a ledger with these deeds. -/
def LedL (w : World) (F : Nat → Prop) (R : Nat) (L : List DeedD) : Prop := ∃ b s n ev v, n ≤ 8 * L.length ∧ LedAt w F R (findL L) (L.map idD) (insL L) b s n ev v
theorem LedL.same (h : LedL w F R L) (e : ∀ k, k < w.heap.size → F k → w'.heap[k]? = w.heap[k]?) (hs : w.heap.size ≤ w'.heap.size) : LedL w' F R L := by
  obtain ⟨b, s, n, ev, v, hn, h⟩ := h
  exact ⟨b, s, n, ev, v, hn, h.same e hs⟩
theorem LedL.kept (h : LedL w F R L) (hb : Below w.heap.size w w') : LedL w' F R L := h.same (fun k hk _ => hb.block k hk) hb.size
theorem LedL.turn (h : LedL w F R L) {G G' : Nat → Prop} (ht : Turn G G' w w') (ha : Apart F G) : LedL w' F R L := h.same (fun k hk hf => ht.block k hk (ha k hf)) ht.size
theorem LedL.there (h : LedL w F R L) : There w F := by
  obtain ⟨b, s, n, ev, v, hn, h⟩ := h
  exact h.there
theorem newJ_any (w : World) : Calls Tryz.prog 54 #[] w fun e w' => ∃ R F, e = .returned (.pointer (some ⟨R, 0, none⟩)) ∧ (∀ k, F k → w.heap.size ≤ k) ∧ LedL w' F R [] ∧ Below w.heap.size w w' :=
  (led_new w).mono fun _ _ ⟨R, F, h1, h2, h3, h4⟩ => ⟨R, F, h1, h2, ⟨_, _, _, _, _, Nat.le_refl _, h3⟩, h4⟩
theorem hasL_any (x : UInt64) (w : World) (h : LedL w F R L) (r : Bool) (hr : (findL L x).isSome = r) :
    Calls Tryz.prog 107 #[.pointer (some ⟨R, 0, none⟩), .int .u64 x.toNat] w fun e w' => e = .returned (.bool r) ∧ Below w.heap.size w w' := by
  obtain ⟨b, s, n, ev, v, hn, h⟩ := h
  exact hasJ_any x w h r hr
theorem deedL_any (x : UInt64) (w : World) (h : LedL w F R L) : Calls Tryz.prog 119 #[.pointer (some ⟨R, 0, none⟩), .int .u64 x.toNat] w (DeedAns w (findL L x)) := by
  obtain ⟨b, s, n, ev, v, hn, h⟩ := h
  exact deedJ_any x w h
theorem allL_any (w : World) (h : LedL w F R L) (hl : L.length ≤ 10000000000000) : Calls Tryz.prog 64 #[.pointer (some ⟨R, 0, none⟩)] w (GaveIds w (L.map idD)) := by
  obtain ⟨b, s, n, ev, v, hn, h⟩ := h
  exact allJ_any w h (by simpa using hl)
theorem judgeL_any (d : DeedD) (a : Option Addr) (cap : Nat) (w : World) (h : LedL w F R L) (hi : InsAt w a d.ins) :
    Calls Tryz.prog 69 #[.pointer (some ⟨R, 0, none⟩), .agg #[.slice a d.ins.length cap, .int .i64 d.outs, .int .i64 d.weight, .int .i64 d.fee]] w (GaveJ w (judgeL L d)) := by
  obtain ⟨b, s, n, ev, v, hn, h⟩ := h
  exact judge_any d a cap w h hi
theorem addL_any (d : DeedD) (a : Option Addr) (cap : Nat) (hl : L.length ≤ 5000000000000) (hd : checkD d = 0) (hx : findL L (idD d) = none) (w : World) (h : LedL w F R L) (hi : InsAt w a d.ins) (hout : ∀ bb o, d.ins ≠ [] → a = some ⟨bb, o, none⟩ → ¬ F bb) :
    Calls Tryz.prog 108 #[.pointer (some ⟨R, 0, none⟩), .int .u64 (idD d).toNat, .agg #[.slice a d.ins.length cap, .int .i64 d.outs, .int .i64 d.weight, .int .i64 d.fee]] w fun e w' => e = .returned (.tuple #[]) ∧ ∃ F', LedL w' F' R (L ++ [d]) ∧ Turn F F' w w' := by
  obtain ⟨b, s, n, ev, v, hn, h⟩ := h
  refine (add_any (idD d) d a cap (fun y hy => findL_keys hy) (by simpa using hl) (by omega) hd w h hi hout).mono ?_
  rintro e w' ⟨rfl, F', ev', v', h1, h2⟩
  refine ⟨rfl, F', ⟨b, s, n + d.ins.length, ev', v', ?_, ?_⟩, h2⟩
  rotate_left
  · rw [findL_new hx, List.map_append, insL_snoc]
    exact h1
  · have := (check_ok hd).1
    rw [List.length_append]
    simp only [List.length_cons, List.length_nil]
    omega
set_option maxRecDepth 20000 in
theorem acceptL_any (d : DeedD) (a : Option Addr) (cap : Nat) (hl : L.length ≤ 5000000000000) (w : World) (h : LedL w F R L) (hi : InsAt w a d.ins) (hout : ∀ bb o, d.ins ≠ [] → a = some ⟨bb, o, none⟩ → ¬ F bb) (r : Int) (L' : List DeedD) (hr : acceptL L d = (r, L')) :
    Calls Tryz.prog 68 #[.pointer (some ⟨R, 0, none⟩), .agg #[.slice a d.ins.length cap, .int .i64 d.outs, .int .i64 d.weight, .int .i64 d.fee]] w fun e w' => e = .returned (.int .i64 r) ∧ ∃ F', LedL w' F' R L' ∧ Turn F F' w w' := by
  have hk0 := kept_new w (.cells #[.slice a d.ins.length cap, .int .i64 d.outs, .int .i64 d.weight, .int .i64 d.fee] 50)
  have H := Lib.hid (h.kept hk0)
  have HI := Lib.hid (insAt_kept hk0 hi)
  have HK := Lib.hid hk0
  have HOUT := Lib.hid hout
  unfold acceptL at hr
  clear h hi hk0 hout
  by_cases h0 : checkD d = 0
  · rw [if_neg (not_not_intro h0)] at hr
    have HC := Lib.hid h0
    cases hf : (findL L (idD d)).isSome with
    | true =>
      rw [if_pos hf] at hr
      simp only [Prod.mk.injEq] at hr
      obtain ⟨rfl, rfl⟩ := hr
      have HF := Lib.hid hf
      clear hf h0
      go_enter Tryz.func68, Tryz.ntmps68
      go_wp2_with fail
      with_reducible refine (id_ok d _ _ _ HI.out HC.out).mono ?_
      rintro e w1 ⟨rfl, hb1⟩
      have H1 := Lib.hid (H.out.kept hb1)
      go_wp2_with fail
      with_reducible refine (hasL_any (idD d) _ H1.out true HF.out).mono ?_
      rintro e w2 ⟨rfl, hb2⟩
      go_wp2_with fail
      go_ret
      exact ⟨rfl, F, H1.out.kept hb2, Turn.of_below (kept_trans (kept_trans HK.out hb1) hb2)⟩
    | false =>
      rw [if_neg (by rw [hf]; simp)] at hr
      have hfn : findL L (idD d) = none := by cases hq : findL L (idD d) with | none => rfl | some y => rw [hq] at hf; cases hf
      have HFN := Lib.hid hfn
      have HF := Lib.hid hf
      obtain ⟨st, hst⟩ : ∃ st, stateL L d = st := ⟨_, rfl⟩
      have HJ : Hid (judgeL L d = (st, missL (findL L) d.ins, 0)) := Lib.hid (by unfold judgeL; rw [if_neg (not_not_intro h0), hst])
      have hsb : st = 0 ∨ st = 1 ∨ st = 2 ∨ st = 3 := by
        rw [← hst]
        unfold stateL stateM payI
        split
        · simp
        · split
          · simp
          · split <;> simp
      rw [hst] at hr
      clear hst hf hfn h0
      by_cases hge : st ≥ 2
      · rw [if_pos hge] at hr
        simp only [Prod.mk.injEq] at hr
        obtain ⟨rfl, rfl⟩ := hr
        have hst : st = 2 ∨ st = 3 := by omega
        clear hge hsb
        go_enter Tryz.func68, Tryz.ntmps68
        go_wp2_with fail
        with_reducible refine (id_ok d _ _ _ HI.out HC.out).mono ?_
        rintro e w1 ⟨rfl, hb1⟩
        have H1 := Lib.hid (H.out.kept hb1)
        go_wp2_with fail
        with_reducible refine (hasL_any (idD d) _ H1.out false HF.out).mono ?_
        rintro e w2 ⟨rfl, hb2⟩
        have hb12 := kept_trans hb1 hb2
        obtain ⟨c0, c1, c2, c3, hs1⟩ := box_four hb12
        have HI2 := Lib.hid (insAt_kept hb12 HI.out)
        have H2 := Lib.hid (H1.out.kept hb2)
        have HB2 := Lib.hid (kept_trans HK.out hb12)
        clear hb1 hb2 hb12
        go_wp2_with fail
        with_reducible refine (judgeL_any d a cap _ H2.out HI2.out).mono ?_
        rw [HJ.out]
        rintro e w3 ⟨a3, c3', rfl, ho3, hb3⟩
        have HB3 := Lib.hid (kept_trans HB2.out hb3)
        have H3 := Lib.hid (H2.out.kept hb3)
        clear ho3 hb3
        simp only
        rcases hst with rfl | rfl
        · go_wp2_with fail
          go_ret
          exact ⟨rfl, F, H3.out, Turn.of_below HB3.out⟩
        · go_wp2_with fail
          go_ret
          exact ⟨rfl, F, H3.out, Turn.of_below HB3.out⟩
      · rw [if_neg hge] at hr
        simp only [Prod.mk.injEq] at hr
        obtain ⟨rfl, rfl⟩ := hr
        have hst : st = 0 ∨ st = 1 := by omega
        clear hge hsb
        go_enter Tryz.func68, Tryz.ntmps68
        go_wp2_with fail
        with_reducible refine (id_ok d _ _ _ HI.out HC.out).mono ?_
        rintro e w1 ⟨rfl, hb1⟩
        have H1 := Lib.hid (H.out.kept hb1)
        go_wp2_with fail
        with_reducible refine (hasL_any (idD d) _ H1.out false HF.out).mono ?_
        rintro e w2 ⟨rfl, hb2⟩
        have hb12 := kept_trans hb1 hb2
        obtain ⟨c0, c1, c2, c3, hs1⟩ := box_four hb12
        have HI2 := Lib.hid (insAt_kept hb12 HI.out)
        have H2 := Lib.hid (H1.out.kept hb2)
        have HB2 := Lib.hid (kept_trans HK.out hb12)
        clear hb1 hb2 hb12
        go_wp2_with fail
        with_reducible refine (judgeL_any d a cap _ H2.out HI2.out).mono ?_
        rw [HJ.out]
        rintro e w3 ⟨a3, c3', rfl, ho3, hb3⟩
        have d0 := kept_cell hb3 c0
        have d1 := kept_cell hb3 c1
        have d2 := kept_cell hb3 c2
        have d3 := kept_cell hb3 c3
        have d4 := (cell_spot d0).2
        have HB3 := Lib.hid (kept_trans HB2.out hb3)
        have HI3 := Lib.hid (insAt_kept hb3 HI2.out)
        have H3 := Lib.hid (H2.out.kept hb3)
        clear ho3 hb3
        simp only
        rcases hst with rfl | rfl
        · go_wp2_with fail
          with_reducible refine (addL_any d a cap hl HC.out HFN.out _ H3.out HI3.out HOUT.out).mono ?_
          rintro e w4 ⟨rfl, F4, h4, t4⟩
          have H4 := Lib.hid h4
          have T4 := Lib.hid t4
          clear h4 t4
          go_wp2_with fail
          go_ret
          exact ⟨rfl, F4, H4.out, (Turn.of_below HB3.out).trans T4.out⟩
        · go_wp2_with fail
          with_reducible refine (addL_any d a cap hl HC.out HFN.out _ H3.out HI3.out HOUT.out).mono ?_
          rintro e w4 ⟨rfl, F4, h4, t4⟩
          have H4 := Lib.hid h4
          have T4 := Lib.hid t4
          clear h4 t4
          go_wp2_with fail
          go_ret
          exact ⟨rfl, F4, H4.out, (Turn.of_below HB3.out).trans T4.out⟩
  · rw [if_pos h0] at hr
    simp only [Prod.mk.injEq] at hr
    obtain ⟨hr, rfl⟩ := hr
    rw [hr] at h0
    have HR := Lib.hid hr
    have hrb : (r != 0) = true := by simpa using h0
    clear hr
    go_enter Tryz.func68, Tryz.ntmps68
    go_wp2_with fail
    with_reducible refine (id_err d _ _ _ r HI.out HR.out h0).mono ?_
    rintro e w1 ⟨rfl, hb1⟩
    go_wp2_with fail
    go_ret
    exact ⟨rfl, F, H.out.kept hb1, Turn.of_below (kept_trans HK.out hb1)⟩
end Go.Proofs.YtaaaplbjeknbkaaGreat.So.Ju
