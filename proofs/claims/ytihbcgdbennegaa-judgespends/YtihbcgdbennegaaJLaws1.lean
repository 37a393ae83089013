/-
  The walk of JudgeSays.
-/
import Derived.Test.YtihbcgdbennegaaJC
namespace Go.Proofs.Ytihbcgdbennegaa
open Go.RowKit Go.Maps

theorem judgeL_ok {L : List DeedD} {d : DeedD} (h : checkD d = 0) : judgeL L d = (stateL L d, missL (findL L) d.ins, 0) := by unfold judgeL; rw [if_neg (not_not_intro h)]
theorem judgeL_err {L : List DeedD} {d : DeedD} (h : checkD d ≠ 0) : judgeL L d = (0, [], checkD d) := by unfold judgeL; rw [if_pos h]
theorem acceptL_err {L : List DeedD} {d : DeedD} (h : checkD d ≠ 0) : acceptL L d = (checkD d, L) := by unfold acceptL; rw [if_pos h]
theorem acceptL_twice {L : List DeedD} {d : DeedD} (h : checkD d = 0) (hf : (findL L (idD d)).isSome = true) : acceptL L d = (6, L) := by unfold acceptL; rw [if_neg (not_not_intro h), if_pos hf]
theorem acceptL_state {L : List DeedD} {d : DeedD} (h : checkD d = 0) (hf : (findL L (idD d)).isSome = false) (hs : stateL L d ≥ 2) : acceptL L d = (7, L) := by unfold acceptL; rw [if_neg (not_not_intro h), if_neg (by rw [hf]; simp), if_pos hs]
theorem acceptL_new {L : List DeedD} {d : DeedD} (h : checkD d = 0) (hf : (findL L (idD d)).isSome = false) (hs : ¬ stateL L d ≥ 2) : acceptL L d = (0, L ++ [d]) := by unfold acceptL; rw [if_neg (not_not_intro h), if_neg (by rw [hf]; simp), if_neg hs]
theorem find_snoc_self (L : List DeedD) (d : DeedD) : (findL (L ++ [d]) (idD d)).isSome = true := findL_some.2 ⟨d, by simp, rfl⟩
theorem stateL_cases (L : List DeedD) (d : DeedD) : (stateL L d = 2 ∧ missL (findL L) d.ins ≠ []) ∨ ((stateL L d = 0 ∨ stateL L d = 1 ∨ stateL L d = 3) ∧ missL (findL L) d.ins = []) := by
  unfold stateL stateM payI
  by_cases h : missL (findL L) d.ins ≠ []
  · rw [if_pos h]; exact .inl ⟨rfl, h⟩
  · rw [if_neg h]
    refine .inr ⟨?_, Classical.not_not.1 h⟩
    split
    · simp
    · split <;> simp
theorem take_lacks {m : List UInt64} (h : m.Nodup) {k : Nat} (hk : k < m.length) : (m.take k).contains m[k] = false := by
  rw [← Bool.not_eq_true, List.contains_iff_mem]
  intro hm
  obtain ⟨j, hj, e⟩ := List.mem_take_iff_getElem.1 hm
  exact (List.pairwise_iff_getElem.1 h) j k (by omega) hk (by omega) e
set_option maxRecDepth 20000 in
set_option maxHeartbeats 1000000 in
theorem judgeSays_walk (l : List DeedH) (a : Option Addr) (cap : Nat) (d : DeedD) (da : Option Addr) (dc : Nat) (_hdc : d.ins.length ≤ dc) (hm : l.length ≤ 2932031007402) (w : World) (hi : DeedsAt w a l) (hd : InsAt w da d.ins) :
    Calls Try.prog 6 #[.slice a l.length cap, deedV da dc d] w fun e w' => e = .returned (.bool true) ∧ Below w.heap.size w w' := by
  unfold deedV
  obtain ⟨w0, hw0⟩ : ∃ x, x = w.alloc (.cells #[.slice da d.ins.length dc, .int .i64 d.outs, .int .i64 d.weight, .int .i64 d.fee] 30) := ⟨_, rfl⟩
  have hk0 : Below w.heap.size w w0 := hw0 ▸ kept_new _ _
  have hbx : w0.heap[w.heap.size]? = some (.cells #[.slice da d.ins.length dc, .int .i64 d.outs, .int .i64 d.weight, .int .i64 d.fee] 30 (0, 0)) := hw0 ▸ heap_alloc_new _ _
  have c0 : w0.cell? ⟨w.heap.size, 0, none⟩ = some (.slice da d.ins.length dc) := head_cell hbx 0
  have c1 : w0.cell? ⟨w.heap.size, 1, none⟩ = some (.int .i64 d.outs) := head_cell hbx 1
  have c2 : w0.cell? ⟨w.heap.size, 2, none⟩ = some (.int .i64 d.weight) := head_cell hbx 2
  have c3 : w0.cell? ⟨w.heap.size, 3, none⟩ = some (.int .i64 d.fee) := head_cell hbx 3
  have C0 := Lib.hid c0
  have C1 := Lib.hid c1
  have C2 := Lib.hid c2
  have C3 := Lib.hid c3
  have HI := Lib.hid (deedsAt_kept hi hk0)
  have HD := Lib.hid (insAt_kept hk0 hd)
  have HK := Lib.hid hk0
  have HW0 := Lib.hid hw0
  clear hi hd hk0 hw0 hbx c0 c1 c2 c3
  go_enter Try.func6, Try.ntmps6
  go_wp2_with fail
  rw [← HW0.out]
  with_reducible refine (judged_any w0).mono ?_
  rintro e w1 ⟨rfl, hb1⟩
  have HB1 := Lib.hid hb1
  clear hb1
  go_wp2_with fail
  with_reducible refine (hj_new w0 w1 HB1.out).mono ?_
  rintro e w2 ⟨R, F2, rfl, h2, _, _⟩
  have H2 := Lib.hid h2
  clear h2
  go_wp2_with fail
  go_loopw [23] (fun i wr => ∃ (k : Nat) (F : Nat → Prop), k ≤ l.length ∧ i = .int .i64 k ∧ Hid (HeldJ w0 wr F R (runJ (l.take k)))) (fun i _ => l.length - (intOf i).toNat)
  case atStart => exact ⟨0, F2, Nat.zero_le _, rfl, H2⟩
  case round =>
    clear H2
    obtain ⟨k, F, hk, rfl, H⟩ := hrel
    by_cases hkl : k < l.length
    · obtain ⟨g, o, rfl, hg, q0, q1, q2, q3⟩ := deedsJ_at HI.out H.out.below k hkl
      have hst := runJ_step hkl
      have hlen := runJ_len l k
      have hin := (HI.out k hkl).2.1
      obtain ⟨⟨xa, xc, xd⟩, hx⟩ : ∃ q, l[k] = q := ⟨_, rfl⟩
      rw [hx] at q0 q1 q2 q3 hst hin
      simp only at q0 q1 q2 q3 hst hin
      obtain ⟨⟨r, L'⟩, hr⟩ : ∃ q, acceptL (runJ (l.take k)) xd = q := ⟨_, rfl⟩
      rw [hr] at hst
      have HST := Lib.hid hst
      have HR := Lib.hid hr
      have HIN := Lib.hid hin
      have HX := Lib.hid (H.out.kept (kept_new wr (.cells #[.slice xa xd.ins.length xc, .int .i64 xd.outs, .int .i64 xd.weight, .int .i64 xd.fee] 30)))
      clear hx hst hr hin
      go_wp2_with fail
      with_reducible refine (hj_accept w0 F R _ _ HX.out (by omega) xd xa xc HIN.out r L' HR.out).mono ?_
      rintro e w3 ⟨rfl, F3, h3, _⟩
      have H3 := Lib.hid h3
      clear h3
      go_wp2_with fail
      go_roundw
      case rel => exact ⟨k + 1, F3, by omega, by go_num, Lib.hid (by rw [HST.out]; exact H3.out)⟩
      case measure => simp [intOf]; omega
    · have he : l.take k = l := List.take_of_length_le (by omega)
      have hlen := runJ_len l k
      have H' := H.out
      rw [he] at H' hlen
      obtain ⟨L, hL⟩ : ∃ L, runJ l = L := ⟨_, rfl⟩
      rw [hL] at H' hlen
      have HL := Lib.hid H'
      clear H H' he hL
      have c0 := kept_cell HL.out.below C0.out
      have c1 := kept_cell HL.out.below C1.out
      have c2 := kept_cell HL.out.below C2.out
      have c3 := kept_cell HL.out.below C3.out
      have c4 := (cell_spot c0).2
      by_cases hc : checkD d = 0
      · have HC := Lib.hid hc
        obtain ⟨m, hmm⟩ : ∃ m, missL (findL L) d.ins = m := ⟨_, rfl⟩
        have hJ := judgeL_ok (L := L) hc
        have hsc := stateL_cases L d
        obtain ⟨hm1, hm2, _⟩ := missL_facts (findL L) d.ins
        have hml := missL_length (findL L) d.ins
        have hl8 := (check_ok hc).1
        obtain ⟨st, hst⟩ : ∃ st, stateL L d = st := ⟨_, rfl⟩
        rw [hmm, hst] at hJ
        rw [hmm] at hm1 hm2 hml
        rw [hmm, hst] at hsc
        have HJ := Lib.hid hJ
        have HM1 := Lib.hid hm1
        have HM2 := Lib.hid hm2
        have HST := Lib.hid hst
        clear hJ hm1 hm2 hc hmm hst
        go_wp2_with fail
        with_reducible refine (hj_judge w0 F R L _ HL.out d da dc (insAt_kept HL.out.below HD.out) st m 0 HJ.out).mono ?_
        rintro e w4 ⟨ma, mc, rfl, ho4, hb4⟩
        simp only
        obtain ⟨ma', mc', em, hmc, hids, _⟩ := owns_idsAt ho4
        simp only [Value.slice.injEq] at em
        obtain ⟨rfl, _, rfl⟩ := em
        have H4 := Lib.hid (HL.out.kept hb4)
        have d0 := kept_cell hb4 c0
        have d1 := kept_cell hb4 c1
        have d2 := kept_cell hb4 c2
        have d3 := kept_cell hb4 c3
        have d4 := (cell_spot d0).2
        have HID := Lib.hid hids
        clear ho4 hb4 hids c0 c1 c2 c3 c4
        go_wp2_with fail
        with_reducible refine (id_ok d da dc _ (insAt_kept H4.out.below HD.out) HC.out).mono ?_
        rintro e w5 ⟨rfl, hb5⟩
        have H5 := Lib.hid (H4.out.kept hb5)
        have e0 := kept_cell hb5 d0
        have e1 := kept_cell hb5 d1
        have e2 := kept_cell hb5 d2
        have e3 := kept_cell hb5 d3
        have e4 := (cell_spot e0).2
        have HID5 := Lib.hid (idsAt_kept hb5 HID.out)
        obtain ⟨ix, hix⟩ : ∃ ix, idD d = ix := ⟨_, rfl⟩
        rw [hix]
        have HIX := Lib.hid hix
        clear hb5 d0 d1 d2 d3 d4 HID hix
        rcases hsc with ⟨rfl, hne⟩ | ⟨h3, rfl⟩
        · have hpos := List.length_pos_iff.2 hne
          clear hne
          go_wp2_with fail
          go_loopw [61] (fun i wr => ∃ k2 : Nat, k2 ≤ m.length ∧ i = .int .i64 k2 ∧ Hid (Below w5.heap.size w5 wr)) (fun i _ => m.length - (intOf i).toNat)
          case atStart => exact ⟨0, Nat.zero_le _, rfl, Lib.hid (Below.refl _ _)⟩
          case round =>
            obtain ⟨k2, hk2, rfl, HB6⟩ := hrel
            by_cases hkm : k2 < m.length
            · obtain ⟨ib, io, rfl, hib, hic⟩ := idsAt_kept HB6.out HID5.out k2 hkm
              have HH := Lib.hid (H5.out.kept HB6.out)
              have hn1 : (findL L m[k2]).isSome = false := by rw [HM1.out _ (List.getElem_mem hkm)]; rfl
              have hn2 := take_lacks HM2.out hkm
              have HIDW := Lib.hid (idsAt_kept HB6.out HID5.out)
              obtain ⟨y, hy⟩ : ∃ y, m[k2] = y := ⟨_, rfl⟩
              rw [hy] at hn1 hn2 hic
              have HN1 := Lib.hid hn1
              have HN2 := Lib.hid hn2
              clear hn1 hn2 hy
              go_wp2_with fail
              with_reducible refine (hj_has w0 F R L _ HH.out y false HN1.out).mono ?_
              rintro e w7 ⟨rfl, hb7⟩
              have HB7 := Lib.hid (kept_trans HB6.out hb7)
              have HID7 := Lib.hid (idsAt_kept hb7 HIDW.out)
              clear hb7
              go_wp2_with fail
              with_reducible refine (hasID_take m k2 false y _ _ _ (by omega) (by unfold maxLen; omega) HID7.out HN2.out).mono ?_
              rintro e w8 ⟨rfl, rfl⟩
              go_wp2_with fail
              go_roundw
              case rel => exact ⟨k2 + 1, by omega, by go_num, HB7⟩
              case measure => simp [intOf]; omega
            · skip
              have HH := Lib.hid (H5.out.kept HB6.out)
              have f0 := kept_cell HB6.out e0
              have f1 := kept_cell HB6.out e1
              have f2 := kept_cell HB6.out e2
              have f3 := kept_cell HB6.out e3
              have f4 := (cell_spot f0).2
              cases hfx : (findL L ix).isSome with
              | true =>
                have HA : Hid (acceptL L d = (6, L)) := Lib.hid (acceptL_twice HC.out (by rw [HIX.out]; exact hfx))
                have HFX := Lib.hid hfx
                clear hfx
                go_wp2_with fail
                with_reducible refine (hj_has w0 F R L _ HH.out ix true HFX.out).mono ?_
                rintro e w7 ⟨rfl, hb7⟩
                have H7 := Lib.hid (HH.out.kept hb7)
                have g0 := kept_cell hb7 f0
                have g1 := kept_cell hb7 f1
                have g2 := kept_cell hb7 f2
                have g3 := kept_cell hb7 f3
                have g4 := (cell_spot g0).2
                clear hb7
                go_wp2_with fail
                with_reducible refine (hj_accept w0 F R L _ H7.out (by omega) d da dc HD.out 6 L HA.out).mono ?_
                rintro e w8 ⟨rfl, F8, h8, _⟩
                have H8 := Lib.hid h8
                clear h8
                go_wp2_with fail
                go_ret
                exact ⟨rfl, kept_trans HK.out H8.out.below⟩
              | false =>
                have HA : Hid (acceptL L d = (7, L)) := Lib.hid (acceptL_state HC.out (by rw [HIX.out]; exact hfx) (by rw [HST.out]; omega))
                have HFX := Lib.hid hfx
                clear hfx
                go_wp2_with fail
                with_reducible refine (hj_has w0 F R L _ HH.out ix false HFX.out).mono ?_
                rintro e w7 ⟨rfl, hb7⟩
                have H7 := Lib.hid (HH.out.kept hb7)
                have g0 := kept_cell hb7 f0
                have g1 := kept_cell hb7 f1
                have g2 := kept_cell hb7 f2
                have g3 := kept_cell hb7 f3
                have g4 := (cell_spot g0).2
                clear hb7
                go_wp2_with fail
                with_reducible refine (hj_accept w0 F R L _ H7.out (by omega) d da dc HD.out 7 L HA.out).mono ?_
                rintro e w8 ⟨rfl, F8, h8, _⟩
                have H8 := Lib.hid h8
                clear h8
                go_wp2_with fail
                with_reducible refine (hj_has w0 F8 R L _ H8.out ix false HFX.out).mono ?_
                rintro e w9 ⟨rfl, hb9⟩
                go_wp2_with fail
                go_ret
                exact ⟨rfl, kept_trans HK.out (kept_trans H8.out.below hb9)⟩
        · have hst2 : (st == 2) = false := by rcases h3 with rfl | rfl | rfl <;> rfl
          go_wp2_with fail
          go_loopw [61] (fun i wr => i = .int .i64 0 ∧ Hid (Below w5.heap.size w5 wr)) (fun _ _ => 0)
          case atStart => exact ⟨rfl, Lib.hid (Below.refl _ _)⟩
          case round =>
            obtain ⟨rfl, HB6⟩ := hrel
            by_cases hw3 : st = 3
            · subst hw3
              clear h3 hst2
              have HH := Lib.hid (H5.out.kept HB6.out)
              have f0 := kept_cell HB6.out e0
              have f1 := kept_cell HB6.out e1
              have f2 := kept_cell HB6.out e2
              have f3 := kept_cell HB6.out e3
              have f4 := (cell_spot f0).2
              cases hfx : (findL L ix).isSome with
              | true =>
                have HA : Hid (acceptL L d = (6, L)) := Lib.hid (acceptL_twice HC.out (by rw [HIX.out]; exact hfx))
                have HFX := Lib.hid hfx
                clear hfx
                go_wp2_with fail
                with_reducible refine (hj_has w0 F R L _ HH.out ix true HFX.out).mono ?_
                rintro e w7 ⟨rfl, hb7⟩
                have H7 := Lib.hid (HH.out.kept hb7)
                have g0 := kept_cell hb7 f0
                have g1 := kept_cell hb7 f1
                have g2 := kept_cell hb7 f2
                have g3 := kept_cell hb7 f3
                have g4 := (cell_spot g0).2
                clear hb7
                go_wp2_with fail
                with_reducible refine (hj_accept w0 F R L _ H7.out (by omega) d da dc HD.out 6 L HA.out).mono ?_
                rintro e w8 ⟨rfl, F8, h8, _⟩
                have H8 := Lib.hid h8
                clear h8
                go_wp2_with fail
                go_ret
                exact ⟨rfl, kept_trans HK.out H8.out.below⟩
              | false =>
                have HA : Hid (acceptL L d = (7, L)) := Lib.hid (acceptL_state HC.out (by rw [HIX.out]; exact hfx) (by rw [HST.out]; omega))
                have HFX := Lib.hid hfx
                clear hfx
                go_wp2_with fail
                with_reducible refine (hj_has w0 F R L _ HH.out ix false HFX.out).mono ?_
                rintro e w7 ⟨rfl, hb7⟩
                have H7 := Lib.hid (HH.out.kept hb7)
                have g0 := kept_cell hb7 f0
                have g1 := kept_cell hb7 f1
                have g2 := kept_cell hb7 f2
                have g3 := kept_cell hb7 f3
                have g4 := (cell_spot g0).2
                clear hb7
                go_wp2_with fail
                with_reducible refine (hj_accept w0 F R L _ H7.out (by omega) d da dc HD.out 7 L HA.out).mono ?_
                rintro e w8 ⟨rfl, F8, h8, _⟩
                have H8 := Lib.hid h8
                clear h8
                go_wp2_with fail
                with_reducible refine (hj_has w0 F8 R L _ H8.out ix false HFX.out).mono ?_
                rintro e w9 ⟨rfl, hb9⟩
                go_wp2_with fail
                go_ret
                exact ⟨rfl, kept_trans HK.out (kept_trans H8.out.below hb9)⟩
            · have hst3 : (st == 3) = false := beq_eq_false_iff_ne.2 hw3
              have hlt2 : ¬ st ≥ 2 := by omega
              clear h3 hw3
              have HH := Lib.hid (H5.out.kept HB6.out)
              have f0 := kept_cell HB6.out e0
              have f1 := kept_cell HB6.out e1
              have f2 := kept_cell HB6.out e2
              have f3 := kept_cell HB6.out e3
              have f4 := (cell_spot f0).2
              cases hfx : (findL L ix).isSome with
              | true =>
                have HA : Hid (acceptL L d = (6, L)) := Lib.hid (acceptL_twice HC.out (by rw [HIX.out]; exact hfx))
                have HFX := Lib.hid hfx
                clear hfx
                go_wp2_with fail
                with_reducible refine (hj_has w0 F R L _ HH.out ix true HFX.out).mono ?_
                rintro e w7 ⟨rfl, hb7⟩
                have H7 := Lib.hid (HH.out.kept hb7)
                have g0 := kept_cell hb7 f0
                have g1 := kept_cell hb7 f1
                have g2 := kept_cell hb7 f2
                have g3 := kept_cell hb7 f3
                have g4 := (cell_spot g0).2
                clear hb7
                go_wp2_with fail
                with_reducible refine (hj_accept w0 F R L _ H7.out (by omega) d da dc HD.out 6 L HA.out).mono ?_
                rintro e w8 ⟨rfl, F8, h8, _⟩
                have H8 := Lib.hid h8
                clear h8
                go_wp2_with fail
                go_ret
                exact ⟨rfl, kept_trans HK.out H8.out.below⟩
              | false =>
                have HA : Hid (acceptL L d = (0, L ++ [d])) := Lib.hid (acceptL_new HC.out (by rw [HIX.out]; exact hfx) (by rw [HST.out]; exact hlt2))
                have HAA : Hid (acceptL (L ++ [d]) d = (6, L ++ [d])) := Lib.hid (acceptL_twice HC.out (find_snoc_self L d))
                have HLN : Hid ((L ++ [d]).length ≤ 5000000000000) := Lib.hid (by rw [List.length_append, List.length_cons, List.length_nil]; omega)
                have HFX := Lib.hid hfx
                have HFY : Hid ((findL (L ++ [d]) ix).isSome = true) := Lib.hid (by rw [← HIX.out]; exact find_snoc_self L d)
                clear hfx
                go_wp2_with fail
                with_reducible refine (hj_has w0 F R L _ HH.out ix false HFX.out).mono ?_
                rintro e w7 ⟨rfl, hb7⟩
                have H7 := Lib.hid (HH.out.kept hb7)
                have g0 := kept_cell hb7 f0
                have g1 := kept_cell hb7 f1
                have g2 := kept_cell hb7 f2
                have g3 := kept_cell hb7 f3
                have g4 := (cell_spot g0).2
                clear hb7
                go_wp2_with fail
                with_reducible refine (hj_accept w0 F R L _ H7.out (by omega) d da dc HD.out 0 _ HA.out).mono ?_
                rintro e w8 ⟨rfl, F8, h8, _⟩
                have H8 := Lib.hid h8
                clear h8
                go_wp2_with fail
                with_reducible refine (hj_has w0 F8 R _ _ H8.out ix true HFY.out).mono ?_
                rintro e w9 ⟨rfl, hb9⟩
                have H9 := Lib.hid (H8.out.kept hb9)
                have k0 := kept_cell H9.out.below C0.out
                have k1 := kept_cell H9.out.below C1.out
                have k2 := kept_cell H9.out.below C2.out
                have k3 := kept_cell H9.out.below C3.out
                have k4 := (cell_spot k0).2
                clear hb9
                go_wp2_with fail
                with_reducible refine (hj_accept w0 F8 R _ _ H9.out HLN.out d da dc HD.out 6 _ HAA.out).mono ?_
                rintro e w10 ⟨rfl, F10, h10, _⟩
                have H10 := Lib.hid h10
                clear h10
                go_wp2_with fail
                go_ret
                exact ⟨rfl, kept_trans HK.out H10.out.below⟩
      · obtain ⟨r, hr⟩ : ∃ r, checkD d = r := ⟨_, rfl⟩
        have hJ := judgeL_err (L := L) hc
        have hA := acceptL_err (L := L) hc
        rw [hr] at hc hJ hA
        have HJ := Lib.hid hJ
        have HA := Lib.hid hA
        have HR := Lib.hid hr
        have hrb : (r != 0) = true := by simpa using hc
        have HC := Lib.hid hc
        clear hJ hA hr hc
        go_wp2_with fail
        with_reducible refine (hj_judge w0 F R L _ HL.out d da dc (insAt_kept HL.out.below HD.out) 0 [] r HJ.out).mono ?_
        rintro e w4 ⟨ma, mc, rfl, ho4, hb4⟩
        have H4 := Lib.hid (HL.out.kept hb4)
        have d0 := kept_cell hb4 c0
        have d1 := kept_cell hb4 c1
        have d2 := kept_cell hb4 c2
        have d3 := kept_cell hb4 c3
        have d4 := (cell_spot d0).2
        clear ho4 hb4
        simp only
        go_wp2_with fail
        with_reducible refine (id_err d da dc _ r (insAt_kept H4.out.below HD.out) HR.out HC.out).mono ?_
        rintro e w5 ⟨rfl, hb5⟩
        have H5 := Lib.hid (H4.out.kept hb5)
        have e0 := kept_cell hb5 d0
        have e1 := kept_cell hb5 d1
        have e2 := kept_cell hb5 d2
        have e3 := kept_cell hb5 d3
        have e4 := (cell_spot e0).2
        clear hb5
        go_wp2_with fail
        with_reducible refine (hj_accept w0 F R L _ H5.out (by omega) d da dc HD.out r L HA.out).mono ?_
        rintro e w6 ⟨rfl, F6, h6, _⟩
        have H6 := Lib.hid h6
        clear h6
        go_wp2_with fail
        go_ret
        exact ⟨rfl, kept_trans HK.out H6.out.below⟩
end Go.Proofs.Ytihbcgdbennegaa
