/-
  The contract of Add, where the link is new.
-/
import Derived.Test.YtaaaplbjeknbkaaGreatSHomeW12
set_option maxRecDepth 20000
namespace Go.Proofs.YtaaaplbjeknbkaaGreat.So.Ho
open Go.Proofs.YtaaaplbjeknbkaaGreat.Ho
open Go.RowKit Go.Maps

variable {w w' : World} {F : Nat → Prop} {R : Nat} {L : List LinkD}

theorem HomeL.kept (h : HomeL w F R L) (hb : Below w.heap.size w w') : HomeL w' F R L := by
  obtain ⟨b, ev, v, h⟩ := h
  exact ⟨b, ev, v, h.kept hb⟩
theorem homeL_full (w : World) (h : HomeL w F R L) {n : Nat} (hn : n ≤ 1000) (hg : GoodL n L) (r : Bool) (hr : fullL L = r) :
    Calls Tryz.prog 101 #[.pointer (some ⟨R, 0, none⟩)] w fun e w' => e = .returned (.bool r) ∧ Below w.heap.size w w' := by
  obtain ⟨b, ev, v, h⟩ := h
  subst hr
  have hl : L.length ≤ 1000 := Nat.le_trans hg.len hn
  exact isFull_any (allL L) (allL_nodup L) allL_some (Nat.le_trans (allL_len L) hl) w h (by rw [lsOf_len]; exact hl) (fun l hl => by obtain ⟨m, hm, rfl⟩ := List.mem_map.1 hl; exact hg.peer m hm)
theorem homeL_worst (w : World) (h : HomeL w F R L) {n : Nat} (hn : n ≤ 1000) (hg : GoodL n L) :
    Calls Tryz.prog 103 #[.pointer (some ⟨R, 0, none⟩)] w fun e w' => e = .returned (.int .i64 (worstL L)) ∧ Below w.heap.size w w' := by
  obtain ⟨b, ev, v, h⟩ := h
  have hl : L.length ≤ 1000 := Nat.le_trans hg.len hn
  refine (worst_any w h (by rw [lsOf_len]; exact hl) (fun l hl => by obtain ⟨m, hm, rfl⟩ := List.mem_map.1 hl; exact hg.peer m hm)).mono ?_
  rintro e w' ⟨rfl, hb⟩
  rw [usageL_eq hg]
  exact ⟨rfl, hb⟩
theorem homeL_evict (w : World) (h : HomeL w F R L) {n : Nat} (hn : n ≤ 1000) (hg : GoodL n L) (hf : fullL L = true) :
    Calls Tryz.prog 102 #[.pointer (some ⟨R, 0, none⟩), .int .i64 (worstL L)] w fun e w' => e = .returned (.tuple #[]) ∧ ∃ F', HomeL w' F' R (evictL L) ∧ Turn F F' w w' := by
  obtain ⟨b, ev, v, h⟩ := h
  have hl : L.length ≤ 1000 := Nat.le_trans hg.len hn
  obtain ⟨m, hm, e⟩ := worst_has hg hf
  obtain ⟨i, hi⟩ : ∃ i, (lsOf L).findIdx? (fun l => l.peer == worstL L) = some i := by
    cases hx : (lsOf L).findIdx? (fun l => l.peer == worstL L) with
    | some i => exact ⟨i, rfl⟩
    | none =>
      have := List.findIdx?_eq_none_iff.1 hx (ldOf m) (List.mem_map_of_mem hm)
      simp [ldOf, e] at this
  have hil := (List.findIdx?_eq_some_iff_getElem.1 hi).1
  refine (removeOldest_any (worstL L) i hil hi w h (by rw [lsOf_len]; exact hl)).mono ?_
  rintro e w' ⟨rfl, F', ev', v', h1, h2⟩
  rw [filter_first _ _ _ hil hg.nodup hi, lsOf_eraseP] at h1
  refine ⟨rfl, F', ⟨b, ev', v', ?_⟩, h2⟩
  have := deedOf_sub hg (evict_sub L)
  rw [← this]
  exact h1
theorem homeL_new {b : Nat} {ev : UInt64 → Option Value} {v : Value} {p : Nat} {x : UInt64} {d : DeedD} {M : UInt64 → Option DeedD} (h : HomeAt w F R none (lsOf L ++ [⟨p, x⟩]) M b ev v) (hM : ∀ y, M y = deedOf (newL L p x d) y) : HomeL w F R (newL L p x d) :=
  ⟨b, ev, v, by
    have e : lsOf (newL L p x d) = lsOf L ++ [⟨p, x⟩] := by simp [newL, lsOf, ldOf]
    rw [e]
    exact h.as hM⟩
set_option maxRecDepth 20000 in
set_option maxHeartbeats 2000000 in
theorem add_new (p : Nat) (hp : p < 8) (x : UInt64) (d : DeedD) (hd : checkD d = 0) (ht : ¬ ∃ l ∈ L, l.peer = p ∧ l.id = x) (a : Option Addr) (cap : Nat) (w : World) (hi : InsAt w a d.ins) (hout : ∀ bb o, d.ins ≠ [] → a = some ⟨bb, o, none⟩ → ¬ F bb) (h : HomeL w F R L) (hg : GoodL 24 L) :
    Calls Tryz.prog 66 #[.pointer (some ⟨R, 0, none⟩), .int .i64 p, .int .u64 x.toNat, .agg #[.slice a d.ins.length cap, .int .i64 d.outs, .int .i64 d.weight, .int .i64 d.fee]] w fun e w' => e = .returned (.tuple #[.bool (deedOf (room (newL L p x d)) x).isSome, .int .i64 0]) ∧ ∃ F', HomeL w' F' R (room (newL L p x d)) ∧ Turn F F' w w' := by
  obtain ⟨b, ev, v, h⟩ := h
  have hk := kept_new w (.cells #[.slice a d.ins.length cap, .int .i64 d.outs, .int .i64 d.weight, .int .i64 d.fee] 50)
  have HI := Lib.hid (insAt_kept hk hi)
  have HD := Lib.hid hd
  have HK := Lib.hid hk
  have H := Lib.hid (h.kept hk)
  have HBX : Hid (BoxIs w.heap.size a cap d (w.alloc (.cells #[.slice a d.ins.length cap, .int .i64 d.outs, .int .i64 d.weight, .int .i64 d.fee] 50))) := Lib.hid (heap_alloc_new _ _)
  have HNB : Hid (∀ g, F g → g < w.heap.size) := Lib.hid h.there
  have HG := Lib.hid hg
  have HG1 := Lib.hid (newL_good hg hp hd ht)
  have HOUT := Lib.hid hout
  have hl24 : (lsOf L).length ≤ 24 := by rw [lsOf_len]; exact hg.len
  have HT : Hid ((lsOf L).any (fun y => decide ((⟨p, x⟩ : LD) = y)) = false) := Lib.hid (by
    rw [List.any_eq_false]
    intro y hy
    obtain ⟨l, hl, rfl⟩ := List.mem_map.1 hy
    simp only [ldOf, decide_eq_true_eq, LD.mk.injEq, not_and]
    intro e1 e2
    exact ht ⟨l, hl, e1.symm, e2.symm⟩)
  obtain ⟨iE, hiE, hz0, hz1, hz2⟩ := info_parts info_link
  clear hi hd hk h hg ht hout
  go_enter Tryz.func66, Tryz.ntmps66
  go_wp2_with fail
  with_reducible refine (isPeer_yes p p rfl hp _).mono ?_
  rintro e w1 ⟨rfl, rfl⟩
  go_wp2_with fail
  with_reducible refine (check_is d a cap _ 0 HI.out HD.out).mono ?_
  rintro e w1 ⟨rfl, hb1⟩
  obtain ⟨wd, hwd⟩ : ∃ wd, (w1.alloc (.cells #[.int .i64 p, .int .u64 x.toNat] 153)).drew = wd := ⟨_, rfl⟩
  have hbd : Below w1.heap.size w1 wd := hwd ▸ (kept_new _ _).drew
  have HH := H.out.kept (kept_trans hb1 hbd)
  obtain ⟨la, lcap, rfl, _, hat⟩ := HH.linkForm
  have hlc := HH.linkc.1
  have hlt := HH.lt
  have d0 : wd.cell? ⟨w1.heap.size, 0, none⟩ = some (.int .i64 p) := by rw [← hwd]; show (w1.alloc _).cell? _ = _; simp [go_sem]
  have d1 : wd.cell? ⟨w1.heap.size, 1, none⟩ = some (.int .u64 x.toNat) := by rw [← hwd]; show (w1.alloc _).cell? _ = _; simp [go_sem]
  have hs1 := (cell_spot d0).2
  have HWD := Lib.hid hwd
  have HAT := Lib.hid hat
  have HB := Lib.hid (kept_trans HK.out (kept_trans hb1 hbd))
  have HBX1 := Lib.hid (boxIs_kept HBX.out (kept_trans hb1 hbd))
  have HI1 := Lib.hid (insAt_kept (kept_trans hb1 hbd) HI.out)
  have HHD := Lib.hid HH
  clear hwd hat HH hbd hb1
  go_wp2_with fail
  refine region_tail 5 (by kernel_rfl) (by kernel_rfl) HWD.out ?_
  simp only [List.take_succ_cons, List.take_zero, List.drop_succ_cons, List.drop_zero]
  repeat still_step
  refine wpStill_nil ?_
  go_wp2_with fail
  with_reducible refine (linkHas_any ⟨p, x⟩ (lsOf L) la lcap _ (by omega) HAT.out).mono ?_
  rintro e w2 ⟨rfl, hb2⟩
  rw [HT.out]
  have HH2 := HHD.out.kept hb2
  have hlc2 := HH2.linkc.1
  have hlt2 := HH2.lt
  have d20 := kept_cell hb2 d0
  have d21 := kept_cell hb2 d1
  have hs2 := (cell_spot d20).2
  have HDD := Lib.hid (HH2.kept (w' := w2.drew) ((Below.refl _ _).drew))
  have HO2 : Hid (OwnLinks w2.drew (.slice la (lsOf L).length lcap) (lsOf L)) := Lib.hid HDD.out.links
  have HBX2 := Lib.hid (boxIs_kept HBX1.out (kept_trans hb2 ((Below.refl _ _).drew)))
  have HI2 := Lib.hid (insAt_kept (kept_trans hb2 ((Below.refl _ _).drew)) HI1.out)
  have HB2 := Lib.hid (kept_trans HB.out (kept_trans hb2 ((Below.refl _ _).drew)))
  have hone : ∀ u ∈ linkC ⟨p, x⟩, u.oneCell' = true := by simp [linkC, Value.oneCell']
  clear HH2 hb2 hlc hlt d0 d1 hs1
  go_upto_region 9 with fail
  go_cut [] from 29 to 38 (fun wx => ∃ F4 : Nat → Prop, Hid (∃ v4, HomeAt wx F4 R none (lsOf L ++ [⟨p, x⟩]) (deedOf L) b ev v4) ∧ Hid (Turn F F4 w wx) ∧ Hid (BoxIs w.heap.size a cap d wx) ∧ Hid (InsAt wx a d.ins))
  case first =>
    go_region_law (first
      | (refine step_append_lies _ (by rfl) _ _ _ (by rfl) 0 153 iE _ 2 16 Tryz.underlying100 hiE hz0 hz1 hz2 rfl (by omega) (.slice la (lsOf L).length lcap) (lsOf L).length _ (by rfl) (HO2.out.alloc _) ⟨w2.drew.heap.size, 0, none⟩ 1 1 (linkC ⟨p, x⟩) (by rfl) (by rfl) (cells_new w2.drew _ _) hone (by omega) (by unfold maxLen; omega) (by omega) (by omega) _ rfl ?_; intro g5 cap5 w5 hown5 hgrow5 hat5 hlt5; obtain ⟨⟨l0, l1, l2⟩, F6, t6, u6⟩ := HDD.out.appended (x := ⟨p, x⟩) hgrow5 hown5 (hat5.imp id (fun e => e.trans (by simp))); have T6 := Lib.hid t6; have U6 := Lib.hid u6; clear t6 u6 hown5 hgrow5 hat5 hlt5))
    all_goals
      go_wp2_with fail
      go_meet
      case rel => exact ⟨F6, Lib.hid ⟨_, T6.out⟩, Lib.hid ((Turn.of_below HB2.out).trans U6.out), Lib.hid ((U6.out.block _ (boxIs_cells HBX2.out).2.2.2.2 (fun hF => by have := HNB.out _ hF; omega)).trans HBX2.out), Lib.hid (insAt_turn HI2.out U6.out HOUT.out)⟩
  case rest =>
    obtain ⟨F4, H4, T4, HBX4, HI4⟩ := hcut
    obtain ⟨v4, h4⟩ := H4.out
    have HH4 := Lib.hid h4
    clear h4 H4 HDD HO2 HBX2 HI2 HB2 hlc2 hlt2 d20 d21 hs2
    cases hx : (deedOf L x).isSome with
    | true =>
        have HX := Lib.hid hx
        clear hx
        go_wp2_with fail
        with_reducible refine (has_home_is x _ HH4.out true HX.out).mono ?_
        rintro e w6 ⟨rfl, hb6⟩
        have H5 : Hid (HomeL w6 F4 R (newL L p x d)) := Lib.hid (homeL_new (HH4.out.kept hb6) (fun y => by rw [deedOf_new, if_pos HX.out]))
        have T5 := Lib.hid (T4.out.trans (Turn.of_below hb6))
        clear hb6
        clear HH4 T4 HBX4 HI4 HAT HHD HI1 HBX1 HB HWD HT HG
        go_wp2_with fail
        go_loopw [47] (fun _ wr => ∃ (F' : Nat → Prop) (L' : List LinkD), Hid (HomeL wr F' R L') ∧ Hid (Turn F F' w wr) ∧ Hid (GoodL 25 L') ∧ Hid (room L' = room (newL L p x d))) (fun _ wr => lenAt wr R)
        case atStart => exact ⟨F4, _, H5, T5, HG1, Lib.hid rfl⟩
        case round =>
          obtain ⟨F', L', H6, T6, HG6, HR6⟩ := hrel
          cases hf : fullL L' with
          | true =>
            have HF := Lib.hid hf
            clear hf
            go_wp2_with fail
            with_reducible refine (homeL_full _ H6.out (by omega) HG6.out true HF.out).mono ?_
            rintro e w6 ⟨rfl, hb6⟩
            have H7 := Lib.hid (H6.out.kept hb6)
            have T7 := Lib.hid (T6.out.trans (Turn.of_below hb6))
            clear hb6
            go_wp2_with fail
            with_reducible refine (homeL_worst _ H7.out (by omega) HG6.out).mono ?_
            rintro e w7 ⟨rfl, hb7⟩
            have H8 := Lib.hid (H7.out.kept hb7)
            have T8 := Lib.hid (T7.out.trans (Turn.of_below hb7))
            clear hb7
            go_wp2_with fail
            with_reducible refine (homeL_evict _ H8.out (by omega) HG6.out HF.out).mono ?_
            rintro e w8 ⟨rfl, F9, h9, t9⟩
            have H9 := Lib.hid h9
            have T9 := Lib.hid (T8.out.trans t9)
            clear h9 t9
            go_wp2_with fail
            go_roundw
            case rel => exact ⟨F9, _, H9, T9, Lib.hid (HG6.out.sub (evict_sub _)), Lib.hid ((room_full HG6.out HF.out).symm.trans HR6.out)⟩
            case measure =>
              rw [H9.out.lenAt, H6.out.lenAt]
              have := evict_len HG6.out HF.out
              omega
          | false =>
            have HE : Hid (L' = room (newL L p x d)) := Lib.hid ((room_not hf).symm.trans HR6.out)
            have HF := Lib.hid hf
            clear hf
            go_wp2_with fail
            with_reducible refine (homeL_full _ H6.out (by omega) HG6.out false HF.out).mono ?_
            rintro e w6 ⟨rfl, hb6⟩
            obtain ⟨b7, ev7, v7, h7⟩ := H6.out.kept hb6
            have H7 := Lib.hid h7
            have T7 := Lib.hid (T6.out.trans (Turn.of_below hb6))
            clear hb6 h7
            go_wp2_with fail
            with_reducible refine (has_home x _ H7.out).mono ?_
            rintro e w7 ⟨rfl, hb7⟩
            have HB7 := Lib.hid hb7
            clear hb7
            go_wp2_with fail
            go_ret2
            rw [← HE.out]
            exact ⟨rfl, F', ⟨b7, ev7, v7, H7.out.kept HB7.out⟩, T7.out.trans (Turn.of_below HB7.out)⟩
    | false =>
        have HX := Lib.hid hx
        clear hx
        go_wp2_with fail
        with_reducible refine (has_home_is x _ HH4.out false HX.out).mono ?_
        rintro e w6 ⟨rfl, hb6⟩
        obtain ⟨q0, q1, q2, q3, q4⟩ := boxIs_cells (boxIs_kept HBX4.out hb6)
        have HI6 := Lib.hid (insAt_kept hb6 HI4.out)
        have HB6 := Lib.hid hb6
        clear hb6
        go_wp2_with fail
        with_reducible refine (keep_any x d a cap (allL L) (fun y hy => (allL_some y).1 hy) (Nat.le_trans (allL_len L) (Nat.le_trans HG.out.len (by omega))) HD.out _ (HH4.out.kept HB6.out) HI6.out).mono ?_
        rintro e w7 ⟨rfl, F7, ev7, h7, t7⟩
        have H5 : Hid (HomeL w7 F7 R (newL L p x d)) := Lib.hid (homeL_new h7 (fun y => by rw [deedOf_new, if_neg (by rw [HX.out]; simp)]))
        have T5 := Lib.hid ((T4.out.trans (Turn.of_below HB6.out)).trans t7)
        clear h7 t7 q0 q1 q2 q3 q4 HI6 HB6
        clear HH4 T4 HBX4 HI4 HAT HHD HI1 HBX1 HB HWD HT HG
        go_wp2_with fail
        go_loopw [47] (fun _ wr => ∃ (F' : Nat → Prop) (L' : List LinkD), Hid (HomeL wr F' R L') ∧ Hid (Turn F F' w wr) ∧ Hid (GoodL 25 L') ∧ Hid (room L' = room (newL L p x d))) (fun _ wr => lenAt wr R)
        case atStart => exact ⟨F7, _, H5, T5, HG1, Lib.hid rfl⟩
        case round =>
          obtain ⟨F', L', H6, T6, HG6, HR6⟩ := hrel
          cases hf : fullL L' with
          | true =>
            have HF := Lib.hid hf
            clear hf
            go_wp2_with fail
            with_reducible refine (homeL_full _ H6.out (by omega) HG6.out true HF.out).mono ?_
            rintro e w6 ⟨rfl, hb6⟩
            have H7 := Lib.hid (H6.out.kept hb6)
            have T7 := Lib.hid (T6.out.trans (Turn.of_below hb6))
            clear hb6
            go_wp2_with fail
            with_reducible refine (homeL_worst _ H7.out (by omega) HG6.out).mono ?_
            rintro e w7 ⟨rfl, hb7⟩
            have H8 := Lib.hid (H7.out.kept hb7)
            have T8 := Lib.hid (T7.out.trans (Turn.of_below hb7))
            clear hb7
            go_wp2_with fail
            with_reducible refine (homeL_evict _ H8.out (by omega) HG6.out HF.out).mono ?_
            rintro e w8 ⟨rfl, F9, h9, t9⟩
            have H9 := Lib.hid h9
            have T9 := Lib.hid (T8.out.trans t9)
            clear h9 t9
            go_wp2_with fail
            go_roundw
            case rel => exact ⟨F9, _, H9, T9, Lib.hid (HG6.out.sub (evict_sub _)), Lib.hid ((room_full HG6.out HF.out).symm.trans HR6.out)⟩
            case measure =>
              rw [H9.out.lenAt, H6.out.lenAt]
              have := evict_len HG6.out HF.out
              omega
          | false =>
            have HE : Hid (L' = room (newL L p x d)) := Lib.hid ((room_not hf).symm.trans HR6.out)
            have HF := Lib.hid hf
            clear hf
            go_wp2_with fail
            with_reducible refine (homeL_full _ H6.out (by omega) HG6.out false HF.out).mono ?_
            rintro e w6 ⟨rfl, hb6⟩
            obtain ⟨b7, ev7, v7, h7⟩ := H6.out.kept hb6
            have H7 := Lib.hid h7
            have T7 := Lib.hid (T6.out.trans (Turn.of_below hb6))
            clear hb6 h7
            go_wp2_with fail
            with_reducible refine (has_home x _ H7.out).mono ?_
            rintro e w7 ⟨rfl, hb7⟩
            have HB7 := Lib.hid hb7
            clear hb7
            go_wp2_with fail
            go_ret2
            rw [← HE.out]
            exact ⟨rfl, F', ⟨b7, ev7, v7, H7.out.kept HB7.out⟩, T7.out.trans (Turn.of_below HB7.out)⟩
end Go.Proofs.YtaaaplbjeknbkaaGreat.So.Ho
