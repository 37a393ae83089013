/-
  The reference's ledger: judge, Judge.
-/
import Derived.Test.YtihbcgdbennegaaRefJ1
namespace Go.Proofs.Ytihbcgdbennegaa
open Go.RowKit Go.Maps

theorem ids_nil_neq (w : World) (a : Option Addr) (l c : Nat) : (binOp .neq 31 (.slice a l c) (.slice none 0 0)).run Try.prog w = .ok (.bool (!a.isNone)) w := by
  simp [binOp, run_equal_slice_nil w 31 _ a l c Try.underlying31]
/-- The answers of the reference's judge. -/
def GaveR (w : World) (k : Int) (m : List UInt64) (e : Ending) (w' : World) : Prop := ∃ a cap, e = .returned (.tuple #[.int .i64 k, .slice a m.length cap]) ∧ OwnIds w' w.heap.size (.slice a m.length cap) m ∧ Below w.heap.size w w'
theorem any_take_bad {q : InD → Bool} {l : List InD} {k : Nat} (h : k < l.length) (hq : q l[k] = true) : l.any q = true := List.any_eq_true.2 ⟨_, List.getElem_mem h, hq⟩
theorem any_take_good {q : InD → Bool} {l : List InD} {k : Nat} (h : k < l.length) (hn : (l.take k).any q = false) (hq : q l[k] = false) : (l.take (k + 1)).any q = false := by
  rw [List.take_succ_eq_append_getElem h, List.any_append, hn]
  simp [hq]
theorem contains_appJ {a b : List InD} {x : InD} (h1 : a.contains x = false) (h2 : b.contains x = false) : (a ++ b).contains x = false := by
  rw [← Bool.not_eq_true, List.contains_iff_mem] at h1 h2 ⊢
  intro h
  exact (List.mem_append.1 h).elim h1 h2
theorem insL_dOf_step {l : List DeedH} {k : Nat} (h : k < l.length) : insL (dOf (l.take (k + 1))) = insL (dOf (l.take k)) ++ l[k].d.ins := by
  unfold dOf
  rw [List.take_succ_eq_append_getElem h, List.map_append]
  exact insL_snoc _ _
theorem insL_mem {l : List DeedH} {k : Nat} (h : k < l.length) {e : InD} (he : l[k].d.ins.contains e = true) : (insL (dOf l)).contains e = true := by
  rw [List.contains_iff_mem] at he ⊢
  unfold insL dOf
  exact List.mem_flatMap.2 ⟨l[k].d, List.mem_map.2 ⟨l[k], List.getElem_mem h, rfl⟩, he⟩
variable {w w' : World} {a : Option Addr} {l : List DeedH}
set_option maxRecDepth 20000 in
set_option maxHeartbeats 1000000 in
theorem refjudge_any (cap : Nat) (d : DeedD) (da : Option Addr) (dc : Nat) (w : World) (h : RowJ w a l) (hl : l.length ≤ 2932031007402) (hd : checkD d = 0) (hi : InsAt w da d.ins) (st : Int) (m : List UInt64) (hst : stateL (dOf l) d = st) (hm : missL (findL (dOf l)) d.ins = m) :
    Calls Try.prog 35 #[.agg #[.slice a l.length cap], .agg #[.slice da d.ins.length dc, .int .i64 d.outs, .int .i64 d.weight, .int .i64 d.fee]] w (GaveR w st m) := by
  obtain ⟨w0, hw0⟩ : ∃ y, y = (w.alloc (.cells #[.slice a l.length cap] 27)).alloc (.cells #[.slice da d.ins.length dc, .int .i64 d.outs, .int .i64 d.weight, .int .i64 d.fee] 30) := ⟨_, rfl⟩
  have hk0 : Below w.heap.size w w0 := hw0 ▸ kept_alloc (kept_new _ _) _
  have hbx : w0.heap[w.heap.size]? = some (.cells #[.slice a l.length cap] 27 (0, 0)) := hw0 ▸ heap_alloc2_old _ _ _
  have hby : w0.heap[w.heap.size + 1]? = some (.cells #[.slice da d.ins.length dc, .int .i64 d.outs, .int .i64 d.weight, .int .i64 d.fee] 30 (0, 0)) := hw0 ▸ heap_alloc2_new _ _ _
  have hcell : ∀ wx, Below w0.heap.size w0 wx → wx.cell? ⟨w.heap.size, 0, none⟩ = some (.slice a l.length cap) ∧ wx.cell? ⟨w.heap.size + 1, 0, none⟩ = some (.slice da d.ins.length dc) ∧ wx.cell? ⟨w.heap.size + 1, 2, none⟩ = some (.int .i64 d.weight) ∧ wx.cell? ⟨w.heap.size + 1, 3, none⟩ = some (.int .i64 d.fee) ∧ w.heap.size + 1 < wx.heap.size := fun wx hb =>
    ⟨kept_cell hb (head_cell hbx 0), kept_cell hb (head_cell hby 0), kept_cell hb (head_cell hby 2), kept_cell hb (head_cell hby 3), (cell_spot (kept_cell hb (head_cell hby 0))).2⟩
  have HC := Lib.hid hcell
  have H := Lib.hid (h.kept hk0)
  have HI := Lib.hid (insAt_kept hk0 hi)
  have HK := Lib.hid hk0
  have HW0 := Lib.hid hw0
  have HD := Lib.hid hd
  have hl8 := (check_ok hd).1
  have hpay := (check_ok hd).2.2.2.2
  have hnn := ids_nil_neq
  obtain ⟨M, hM⟩ : ∃ M, findL (dOf l) = M := ⟨_, rfl⟩
  have hstu : stateM M (spentL (dOf l)) d = st := by rw [← hM]; exact hst
  unfold stateM at hstu
  rw [hM] at hm
  rw [hm] at hstu
  have HM := Lib.hid hM
  have HMM := Lib.hid hm
  have hml := missL_length M d.ins
  rw [hm] at hml
  clear h hi hk0 hbx hby hcell hw0 hd hst hM hm
  obtain ⟨dl, dO, dg, df⟩ := d
  simp only at HC HI HMM hl8 hpay hstu hml HW0 HD ⊢
  go_enter Try.func35, Try.ntmps35
  go_wp2_with fail
  rw [← HW0.out]
  go_loopw [6, 18] (fun vi i wr => ∃ k : Nat, k ≤ dl.length ∧ i = .int .i64 k ∧ Hid (OwnIds wr w0.heap.size vi (missL M (dl.take k)) ∧ (missL M (dl.take k) = [] → vi = .slice none 0 0)) ∧ Hid (Below w0.heap.size w0 wr)) (fun _ i _ => dl.length - (intOf i).toNat)
  case atStart => exact ⟨0, Nat.zero_le _, rfl, Lib.hid ⟨ownIds_nil _ _, fun _ => rfl⟩, Lib.hid (Below.refl _ _)⟩
  case round =>
    obtain ⟨k, hk, rfl, HO, HB⟩ := hrel
    rename_i u6
    by_cases hkl : k < dl.length
    · obtain ⟨bb, oo, rfl, hbb, c0, c1, _⟩ := insAt_kept HB.out HI.out k hkl
      have hst := missL_step (M := M) hkl
      have hlen := missL_length M (dl.take k)
      rw [List.length_take] at hlen
      obtain ⟨⟨ix, ia⟩, hix⟩ : ∃ q, dl[k] = q := ⟨_, rfl⟩
      rw [hix] at c0 c1 hst
      simp only at c0 c1 hst
      have hk1 := kept_new wr (.cells #[.int .u64 ix.toNat, .int .i64 ia] 52)
      obtain ⟨z0, _, _, _, z4⟩ := HC.out _ (kept_trans HB.out hk1)
      have HR1 := Lib.hid (H.out.kept (kept_trans HB.out hk1))
      have HK1 := Lib.hid hk1
      have hmf : ∀ r, (M ix).isSome = r → (findL (dOf l) ix).isSome = r := fun r e => by rw [HM.out]; exact e
      have HMF := Lib.hid hmf
      obtain ⟨zz, hzz⟩ : ∃ z, z = wr.alloc (.cells #[.int .u64 ix.toNat, .int .i64 ia] 52) := ⟨_, rfl⟩
      clear hix hk1 hmf
      cases hq : (M ix).isSome with
      | true =>
        rw [if_pos hq] at hst
        have HST := Lib.hid hst
        have HQ := Lib.hid (HMF.out true hq)
        clear hst hq hzz
        go_wp2_with fail
        with_reducible refine (refHasJ_any ix cap _ HR1.out hl true HQ.out).mono ?_
        rintro e w2 ⟨rfl, hb2⟩
        have hb12 := kept_trans HK1.out hb2
        have HO2 := Lib.hid (owns_below HO.out.1 hb12)
        have HB2 := Lib.hid (kept_trans HB.out hb12)
        clear hb12 hb2
        go_wp2_with fail
        go_roundw
        case rel => exact ⟨k + 1, by omega, by go_num, Lib.hid (by rw [HST.out]; exact ⟨HO2.out, HO.out.2⟩), HB2⟩
        case measure => simp [intOf]; omega
      | false =>
        rw [if_neg (by rw [hq]; simp)] at hst
        have HQ := Lib.hid (HMF.out false hq)
        clear hq hzz
        cases hc : (missL M (dl.take k)).contains ix with
        | true =>
          rw [if_pos hc] at hst
          have HST := Lib.hid hst
          have HCC := Lib.hid hc
          clear hst hc
          go_wp2_with fail
          with_reducible refine (refHasJ_any ix cap _ HR1.out hl false HQ.out).mono ?_
          rintro e w2 ⟨rfl, hb2⟩
          have hb12 := kept_trans HK1.out hb2
          obtain ⟨d0, d1, hs1⟩ := box_pair hb2
          have HO2 := Lib.hid (owns_below HO.out.1 hb12)
          have HB2 := Lib.hid (kept_trans HB.out hb12)
          have HN2 := Lib.hid HO.out.2
          clear HO
          obtain ⟨ja, jc, rfl, _, hids, _⟩ := owns_idsAt HO2.out
          have HIDS := Lib.hid hids
          clear hb12 hb2 hids
          go_wp2_with fail
          with_reducible refine (hasID_any _ ix true HCC _ _ _ (by unfold maxLen; omega) HIDS.out).mono ?_
          rintro e w3 ⟨rfl, rfl⟩
          go_wp2_with fail
          go_roundw
          case rel => exact ⟨k + 1, by omega, by go_num, Lib.hid (by rw [HST.out]; exact ⟨HO2.out, HN2.out⟩), HB2⟩
          case measure => simp [intOf]; omega
        | false =>
          rw [if_neg (by rw [hc]; simp)] at hst
          have HST := Lib.hid hst
          have HCC := Lib.hid hc
          clear hst hc
          go_wp2_with fail
          with_reducible refine (refHasJ_any ix cap _ HR1.out hl false HQ.out).mono ?_
          rintro e w2 ⟨rfl, hb2⟩
          have hb12 := kept_trans HK1.out hb2
          obtain ⟨d0, d1, hs1⟩ := box_pair hb2
          have HO2 := Lib.hid (owns_below HO.out.1 hb12)
          have HB2 := Lib.hid (kept_trans HB.out hb12)
          clear HO
          obtain ⟨ja, jc, rfl, _, hids, _⟩ := owns_idsAt HO2.out
          have HIDS := Lib.hid hids
          clear hb12 hb2 hids
          go_wp2_with fail
          with_reducible refine (hasID_any _ ix false HCC _ _ _ (by unfold maxLen; omega) HIDS.out).mono ?_
          rintro e w3 ⟨rfl, rfl⟩
          go_wp2_with (at_builtin; refine append_id rfl _ _ rfl ix rfl rfl HO2.out (by omega) HB2.out.size ?_; intro g4 cap4 w4 ho4 hg4 hg5)
          have HO5 := Lib.hid ho4
          have HB5 := Lib.hid (HB2.out.grown hg5 HB2.out.size (fun j hj => (HO2.out.lt j hj).1))
          clear ho4 hg4 hg5
          go_wp2_with fail
          go_roundw
          case rel => exact ⟨k + 1, by omega, by go_num, Lib.hid (by rw [HST.out]; exact ⟨by simpa using HO5.out, fun e => by simp at e⟩), HB5⟩
          case measure => simp [intOf]; omega
    · have he : dl.take k = dl := List.take_of_length_le (by omega)
      have HO' := HO.out
      rw [he, HMM.out] at HO'
      obtain ⟨ho, hnil⟩ := HO'
      obtain ⟨w1, hw1⟩ : ∃ x, x = wr := ⟨_, rfl⟩
      subst hw1
      clear he HO
      by_cases hne : m ≠ []
      · rw [if_pos hne] at hstu
        subst hstu
        have hpos : 0 < m.length := List.length_pos_iff.2 hne
        obtain ⟨ja, jc, rfl, _, hids, _⟩ := owns_idsAt ho
        obtain ⟨gb, go, rfl, _, _⟩ := hids 0 hpos
        have HO := Lib.hid ho
        clear hids ho hnil hne
        go_wp2_with fail
        go_ret2
        exact ⟨_, _, rfl, own_mono HO.out HK.out.size, kept_trans HK.out HB.out⟩
      · obtain rfl : m = [] := Classical.not_not.1 hne
        obtain rfl := hnil rfl
        rw [if_neg hne] at hstu
        obtain ⟨_, z1, _, _, z4⟩ := HC.out _ HB.out
        clear ho hnil hne
        have HSTU := Lib.hid hstu
        clear hstu
        go_wp2_with fail
        go_loopw [46] (fun i wr => ∃ k2 : Nat, k2 ≤ dl.length ∧ i = .int .i64 k2 ∧ Hid ((dl.take k2).any (badIn M (spentL (dOf l))) = false) ∧ Hid (Below w1.heap.size w1 wr)) (fun i _ => dl.length - (intOf i).toNat)
        case atStart => exact ⟨0, Nat.zero_le _, rfl, Lib.hid (by simp), Lib.hid (Below.refl _ _)⟩
        case round =>
          obtain ⟨k2, hk2, rfl, NO, HB2⟩ := hrel
          have HBW := Lib.hid (kept_trans HB.out HB2.out)
          by_cases hk2l : k2 < dl.length
          · obtain ⟨bb, oo, rfl, hbb, c0, c1, _⟩ := insAt_kept HBW.out HI.out k2 hk2l
            have hyes := any_take_bad (q := badIn M (spentL (dOf l))) hk2l
            have hno := any_take_good (q := badIn M (spentL (dOf l))) hk2l NO.out
            obtain ⟨⟨ix, ia⟩, hix⟩ : ∃ q, dl[k2] = q := ⟨_, rfl⟩
            rw [hix] at c0 c1 hyes hno
            simp only at c0 c1
            have HYES : Hid (badIn M (spentL (dOf l)) (ix, ia) = true → st = 3) := Lib.hid (fun e => by rw [← HSTU.out]; unfold wickedL; rw [if_pos (hyes e)])
            have HNO := Lib.hid hno
            have hk1 := kept_new wr (.cells #[.int .u64 ix.toNat, .int .i64 ia] 52)
            obtain ⟨z0, _, _, _, z4'⟩ := HC.out _ (kept_trans HBW.out hk1)
            have HR1 := Lib.hid (H.out.kept (kept_trans HBW.out hk1))
            have HK1 := Lib.hid hk1
            obtain ⟨wB, hwB⟩ : ∃ x, x = wr := ⟨_, rfl⟩
            subst hwB
            clear hix hk1 hyes hno
            go_wp2_with fail
            with_reducible refine (refFind_any ix cap _ HR1.out hl).mono ?_
            rw [HM.out]
            rintro e w3 ⟨a3, cc3, rfl, _, _, hb3⟩
            obtain ⟨d0, d1, hs3⟩ := box_pair hb3
            obtain ⟨dd, hdd⟩ : ∃ x, (M ix).getD nod = x := ⟨_, rfl⟩
            have hbad : badIn M (spentL (dOf l)) (ix, ia) = (decide (ia ≥ dd.outs) || spentL (dOf l) (ix, ia)) := by unfold badIn; rw [hdd]
            rw [hdd]
            obtain ⟨el, eo, eg, ef⟩ := dd
            simp only at hbad ⊢
            obtain ⟨rr, hrr⟩ : ∃ r, (M ix).isSome = r := ⟨_, rfl⟩
            rw [hrr]
            have hk4 := kept_new w3 (.cells #[.slice a3 el.length cc3, .int .i64 eo, .int .i64 eg, .int .i64 ef] 30)
            have HB4 := Lib.hid (kept_trans (kept_trans HK1.out hb3) hk4)
            have g0 := kept_cell hk4 d0
            have g1 := kept_cell hk4 d1
            obtain ⟨hzz, _, _, _, _⟩ := HC.out _ (kept_trans HBW.out (kept_trans HK1.out hb3))
            obtain ⟨w4, hw4⟩ : ∃ x, x = w3.alloc (.cells #[.slice a3 el.length cc3, .int .i64 eo, .int .i64 eg, .int .i64 ef] 30) := ⟨_, rfl⟩
            rw [← hw4] at HB4 g0 g1
            have HW4 := Lib.hid hw4
            have HBAD := Lib.hid hbad
            clear hdd hrr hb3 hk4 hw4 hbad
            by_cases hge : ia ≥ eo
            · have hd3 : st = 3 := HYES.out (by rw [HBAD.out, decide_eq_true hge]; rfl)
              subst hd3
              have hdec : decide (ia ≥ eo) = true := decide_eq_true hge
              clear HYES HNO HSTU HBAD
              go_wp2_with fail
              rw [← HW4.out]
              go_ret2
              exact ⟨none, 0, rfl, ownIds_nil _ _, kept_trans (kept_trans HK.out HBW.out) HB4.out⟩
            · have hdec : decide (ia ≥ eo) = false := decide_eq_false hge
              obtain ⟨y0, _, _, _, y4⟩ := HC.out _ (kept_trans HBW.out HB4.out)
              have Y0 := Lib.hid y0
              have G0 := Lib.hid g0
              have G1 := Lib.hid g1
              have hzs : w.heap.size < w3.heap.size := (cell_spot hzz).2
              clear y0 g0 g1
              go_wp2_with fail
              rw [← HW4.out]
              go_loopw [65] (fun i wr => ∃ j : Nat, j ≤ l.length ∧ i = .int .i64 j ∧ Hid ((insL (dOf (l.take j))).contains (ix, ia) = false) ∧ Hid (Below w4.heap.size w4 wr)) (fun i _ => l.length - (intOf i).toNat)
              case atStart => exact ⟨0, Nat.zero_le _, rfl, Lib.hid (by simp [insL, dOf]), Lib.hid (Below.refl _ _)⟩
              case round =>
                obtain ⟨j, hj, rfl, NJ, HB5⟩ := hrel
                by_cases hjl : j < l.length
                · have hr := H.out.kept (kept_trans HBW.out (kept_trans HB4.out HB5.out))
                  obtain ⟨rb, ro, rfl, hrb, q0, q1, q2, q3⟩ := hr.row j hjl
                  have hin := hr.ins _ (List.getElem_mem hjl)
                  have hfi := hr.fine _ (List.getElem_mem hjl)
                  have hstp := insL_dOf_step hjl
                  have hmem := insL_mem (e := (ix, ia)) hjl
                  obtain ⟨⟨qa, qc, qd⟩, hq⟩ : ∃ q, l[j] = q := ⟨_, rfl⟩
                  rw [hq] at q0 q1 q2 q3 hin hfi hstp hmem
                  simp only at q0 q1 q2 q3 hin hfi hstp hmem
                  have hk6 := kept_new wr (.cells #[.slice qa qd.ins.length qc, .int .i64 qd.outs, .int .i64 qd.weight, .int .i64 qd.fee] 30)
                  have m0 := kept_cell HB5.out G0.out
                  have m1 := kept_cell HB5.out G1.out
                  have m2 := (cell_spot m0).2
                  have HIN := Lib.hid (insAt_kept hk6 hin)
                  have HK6 := Lib.hid hk6
                  have HSTP := Lib.hid hstp
                  have HMEM := Lib.hid hmem
                  have hql := (check_ok hfi).1
                  clear hr hq hin hfi hk6 hstp hmem
                  cases hcc : qd.ins.contains (ix, ia) with
                  | true =>
                    have hd3 : st = 3 := HYES.out (by rw [HBAD.out, hdec]; exact HMEM.out hcc)
                    subst hd3
                    have HCC := Lib.hid hcc
                    clear HYES HNO HSTU HBAD hcc
                    go_wp2_with fail
                    refine (show Calls Try.prog 55 #[.slice qa qd.ins.length qc, inV (ix, ia)] _ fun e w' => e = .returned (.bool true) ∧ Below _ _ w' from HCC.out ▸ has_any qd.ins (ix, ia) qa qc _ (by unfold maxLen; omega) HIN.out).mono ?_
                    rintro e w7 ⟨rfl, hb7⟩
                    go_wp2_with fail
                    go_ret2
                    exact ⟨none, 0, rfl, ownIds_nil _ _, kept_trans (kept_trans HK.out HBW.out) (kept_trans (kept_trans HB4.out HB5.out) (kept_trans HK6.out hb7))⟩
                  | false =>
                    have HCC := Lib.hid hcc
                    clear hcc
                    go_wp2_with fail
                    refine (show Calls Try.prog 55 #[.slice qa qd.ins.length qc, inV (ix, ia)] _ fun e w' => e = .returned (.bool false) ∧ Below _ _ w' from HCC.out ▸ has_any qd.ins (ix, ia) qa qc _ (by unfold maxLen; omega) HIN.out).mono ?_
                    rintro e w7 ⟨rfl, hb7⟩
                    have HB7 := Lib.hid (kept_trans HB5.out (kept_trans HK6.out hb7))
                    clear hb7
                    go_wp2_with fail
                    go_roundw
                    case rel => exact ⟨j + 1, by omega, by go_num, Lib.hid (by rw [HSTP.out]; exact contains_appJ NJ.out HCC.out), HB7⟩
                    case measure => simp [intOf]; omega
                · have he : l.take j = l := List.take_of_length_le (by omega)
                  have hnj := NJ.out
                  rw [he] at hnj
                  have HNB : Hid (badIn M (spentL (dOf l)) (ix, ia) = false) := Lib.hid (by rw [HBAD.out, hdec]; exact hnj)
                  have HB8 := Lib.hid (kept_trans HB2.out (kept_trans HB4.out HB5.out))
                  clear he hnj
                  go_wp2_with fail
                  go_roundw
                  case rel => exact ⟨k2 + 1, by omega, by go_num, Lib.hid (HNO.out HNB.out), HB8⟩
                  case measure => simp [intOf]; omega
          · have he : dl.take k2 = dl := List.take_of_length_le (by omega)
            have hnw := NO.out
            rw [he] at hnw
            have hst := HSTU.out
            rw [if_neg (by unfold wickedL; rw [hnw]; simp)] at hst
            obtain ⟨_, _, z2, z3, z5⟩ := HC.out _ HBW.out
            unfold payI at hst
            clear he hnw HSTU
            by_cases hlt : 10 * df < dg
            · rw [if_pos hlt] at hst
              subst hst
              go_wp2_with fail
              go_ret2
              exact ⟨none, 0, rfl, ownIds_nil _ _, kept_trans HK.out HBW.out⟩
            · rw [if_neg hlt] at hst
              subst hst
              go_wp2_with fail
              go_ret2
              exact ⟨none, 0, rfl, ownIds_nil _ _, kept_trans HK.out HBW.out⟩
end Go.Proofs.Ytihbcgdbennegaa
