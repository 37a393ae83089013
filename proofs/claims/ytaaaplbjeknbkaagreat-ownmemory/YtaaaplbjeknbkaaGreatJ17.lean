/-
  The contract of Add, where the link is new.
  Contracts of package orphan: Deed, once more: what it hands out lies in new memory.
  The contracts of package orphan, said of the list of links of a pool that lies in a node.
-/
import Derived.Test.YtaaaplbjeknbkaaGreatJ16
import Derived.Test.YtaaaplbjeknbkaaGreatJ14
set_option maxRecDepth 20000
namespace Go.Proofs.YtaaaplbjeknbkaaGreat.Ho
open Go.RowKit Go.Maps

variable {w w' : World} {F : Nat → Prop} {R : Loc} {L : List LinkD}

theorem HomeL.kept (h : HomeL w F R L) (hb : Below w.heap.size w w') : HomeL w' F R L := by
  obtain ⟨b, ev, v, h⟩ := h
  exact ⟨b, ev, v, h.kept hb⟩
theorem homeL_full (w : World) (h : HomeL w F R L) {n : Nat} (hn : n ≤ 1000) (hg : GoodL n L) (r : Bool) (hr : fullL L = r) :
    Calls Tryz.prog 101 #[.pointer (some ⟨R.b, 27, none⟩)] w fun e w' => e = .returned (.bool r) ∧ Below w.heap.size w w' := by
  obtain ⟨b, ev, v, h⟩ := h
  subst hr
  have hl : L.length ≤ 1000 := Nat.le_trans hg.len hn
  exact isFull_any (allL L) (allL_nodup L) allL_some (Nat.le_trans (allL_len L) hl) w h (by rw [lsOf_len]; exact hl) (fun l hl => by obtain ⟨m, hm, rfl⟩ := List.mem_map.1 hl; exact hg.peer m hm)
theorem homeL_worst (w : World) (h : HomeL w F R L) {n : Nat} (hn : n ≤ 1000) (hg : GoodL n L) :
    Calls Tryz.prog 103 #[.pointer (some ⟨R.b, 27, none⟩)] w fun e w' => e = .returned (.int .i64 (worstL L)) ∧ Below w.heap.size w w' := by
  obtain ⟨b, ev, v, h⟩ := h
  have hl : L.length ≤ 1000 := Nat.le_trans hg.len hn
  refine (worst_any w h (by rw [lsOf_len]; exact hl) (fun l hl => by obtain ⟨m, hm, rfl⟩ := List.mem_map.1 hl; exact hg.peer m hm)).mono ?_
  rintro e w' ⟨rfl, hb⟩
  rw [usageL_eq hg]
  exact ⟨rfl, hb⟩
theorem homeL_evict (w : World) (h : HomeL w F R L) {n : Nat} (hn : n ≤ 1000) (hg : GoodL n L) (hf : fullL L = true) :
    Calls Tryz.prog 102 #[.pointer (some ⟨R.b, 27, none⟩), .int .i64 (worstL L)] w fun e w' => e = .returned (.tuple #[]) ∧ ∃ F', HomeL w' F' R (evictL L) ∧ Turn F F' w w' := by
  obtain ⟨b, ev, v, h⟩ := h
  have hl : L.length ≤ 1000 := Nat.le_trans hg.len hn
  obtain ⟨m, hm, e⟩ := worst_has hg hf
  obtain ⟨i, hi⟩ : ∃ i, (lsOf L).findIdx? (fun l => l.peer == worstL L) = some i := by
    cases hx : (lsOf L).findIdx? (fun l => l.peer == worstL L) with
    | some i => exact ⟨i, rfl⟩
    | none =>
      have := List.findIdx?_eq_none_iff.1 hx (ldOf m) (List.mem_map_of_mem hm)
      simp [ldOf, e] at this
  have hil := (List.findIdx?_eq_some_iff_getElem.1 hi).1
  refine (removeOldest_any (worstL L) i hil hi w h (by rw [lsOf_len]; exact hl)).mono ?_
  rintro e w' ⟨rfl, F', ev', v', h1, h2⟩
  rw [filter_first _ _ _ hil hg.nodup hi, lsOf_eraseP] at h1
  refine ⟨rfl, F', ⟨b, ev', v', ?_⟩, h2⟩
  have := deedOf_sub hg (evict_sub L)
  rw [← this]
  exact h1
theorem homeL_new {b : Nat} {ev : UInt64 → Option Value} {v : Value} {p : Nat} {x : UInt64} {d : DeedD} {M : UInt64 → Option DeedD} (h : HomeAt w F R none (lsOf L ++ [⟨p, x⟩]) M b ev v) (hM : ∀ y, M y = deedOf (newL L p x d) y) : HomeL w F R (newL L p x d) :=
  ⟨b, ev, v, by
    have e : lsOf (newL L p x d) = lsOf L ++ [⟨p, x⟩] := by simp [newL, lsOf, ldOf]
    rw [e]
    exact h.as hM⟩
set_option maxRecDepth 20000 in
set_option maxHeartbeats 2000000 in
theorem add_new (p : Nat) (hp : p < 8) (x : UInt64) (d : DeedD) (hd : checkD d = 0) (ht : ¬ ∃ l ∈ L, l.peer = p ∧ l.id = x) (a : Option Addr) (cap : Nat) (w : World) (hi : InsAt w a d.ins) (hout : ∀ bb o, d.ins ≠ [] → a = some ⟨bb, o, none⟩ → ¬ F bb) (h : HomeL w F R L) (hg : GoodL 24 L) :
    Calls Tryz.prog 66 #[.pointer (some ⟨R.b, 27, none⟩), .int .i64 p, .int .u64 x.toNat, .agg #[.slice a d.ins.length cap, .int .i64 d.outs, .int .i64 d.weight, .int .i64 d.fee]] w fun e w' => e = .returned (.tuple #[.bool (deedOf (room (newL L p x d)) x).isSome, .int .i64 0]) ∧ ∃ F', HomeL w' F' R (room (newL L p x d)) ∧ Turn F F' w w' := by
  obtain ⟨b, ev, v, h⟩ := h
  have hk := kept_new w (.cells #[.slice a d.ins.length cap, .int .i64 d.outs, .int .i64 d.weight, .int .i64 d.fee] 50)
  have HI := Lib.hid (insAt_kept hk hi)
  have HD := Lib.hid hd
  have HK := Lib.hid hk
  have H := Lib.hid (h.kept hk)
  have HBX : Hid (BoxIs w.heap.size a cap d (w.alloc (.cells #[.slice a d.ins.length cap, .int .i64 d.outs, .int .i64 d.weight, .int .i64 d.fee] 50))) := Lib.hid (heap_alloc_new _ _)
  have HNB : Hid (∀ g, F g → g < w.heap.size) := Lib.hid h.there
  have HG := Lib.hid hg
  have HG1 := Lib.hid (newL_good hg hp hd ht)
  have HOUT := Lib.hid hout
  have hl24 : (lsOf L).length ≤ 24 := by rw [lsOf_len]; exact hg.len
  have HT : Hid ((lsOf L).any (fun y => decide ((⟨p, x⟩ : LD) = y)) = false) := Lib.hid (by
    rw [List.any_eq_false]
    intro y hy
    obtain ⟨l, hl, rfl⟩ := List.mem_map.1 hy
    simp only [ldOf, decide_eq_true_eq, LD.mk.injEq, not_and]
    intro e1 e2
    exact ht ⟨l, hl, e1.symm, e2.symm⟩)
  obtain ⟨iE, hiE, hz0, hz1, hz2⟩ := info_parts info_link
  clear hi hd hk h hg ht hout
  go_enter Tryz.func66, Tryz.ntmps66
  go_wp2_with fail
  with_reducible refine (isPeer_yes p p rfl hp _).mono ?_
  rintro e w1 ⟨rfl, rfl⟩
  go_wp2_with fail
  with_reducible refine (check_is d a cap _ 0 HI.out HD.out).mono ?_
  rintro e w1 ⟨rfl, hb1⟩
  obtain ⟨wd, hwd⟩ : ∃ wd, (w1.alloc (.cells #[.int .i64 p, .int .u64 x.toNat] 153)).drew = wd := ⟨_, rfl⟩
  have hbd : Below w1.heap.size w1 wd := hwd ▸ (kept_new _ _).drew
  have HH := H.out.kept (kept_trans hb1 hbd)
  obtain ⟨la, lcap, rfl, _, hat⟩ := HH.linkForm
  have hlc := HH.linkc.1
  have hlt := HH.lt
  have d0 : wd.cell? ⟨w1.heap.size, 0, none⟩ = some (.int .i64 p) := by rw [← hwd]; show (w1.alloc _).cell? _ = _; simp [go_sem]
  have d1 : wd.cell? ⟨w1.heap.size, 1, none⟩ = some (.int .u64 x.toNat) := by rw [← hwd]; show (w1.alloc _).cell? _ = _; simp [go_sem]
  have hs1 := (cell_spot d0).2
  have HWD := Lib.hid hwd
  have HAT := Lib.hid hat
  have HB := Lib.hid (kept_trans HK.out (kept_trans hb1 hbd))
  have HBX1 := Lib.hid (boxIs_kept HBX.out (kept_trans hb1 hbd))
  have HI1 := Lib.hid (insAt_kept (kept_trans hb1 hbd) HI.out)
  have HHD := Lib.hid HH
  clear hwd hat HH hbd hb1
  go_wp2_with fail
  refine region_tail 5 (by kernel_rfl) (by kernel_rfl) HWD.out ?_
  simp only [List.take_succ_cons, List.take_zero, List.drop_succ_cons, List.drop_zero]
  repeat still_step
  refine wpStill_nil ?_
  go_wp2_with fail
  with_reducible refine (linkHas_any ⟨p, x⟩ (lsOf L) la lcap _ (by omega) HAT.out).mono ?_
  rintro e w2 ⟨rfl, hb2⟩
  rw [HT.out]
  have HH2 := HHD.out.kept hb2
  have hlc2 := HH2.linkc.1
  have hlt2 := HH2.lt
  have d20 := kept_cell hb2 d0
  have d21 := kept_cell hb2 d1
  have hs2 := (cell_spot d20).2
  have HDD := Lib.hid (HH2.kept (w' := w2.drew) ((Below.refl _ _).drew))
  have HO2 : Hid (OwnLinks w2.drew (.slice la (lsOf L).length lcap) (lsOf L)) := Lib.hid HDD.out.links
  have HBX2 := Lib.hid (boxIs_kept HBX1.out (kept_trans hb2 ((Below.refl _ _).drew)))
  have HI2 := Lib.hid (insAt_kept (kept_trans hb2 ((Below.refl _ _).drew)) HI1.out)
  have HB2 := Lib.hid (kept_trans HB.out (kept_trans hb2 ((Below.refl _ _).drew)))
  have hone : ∀ u ∈ linkC ⟨p, x⟩, u.oneCell' = true := by simp [linkC, Value.oneCell']
  clear HH2 hb2 hlc hlt d0 d1 hs1
  go_upto_region 9 with fail
  go_cut [] from 29 to 38 (fun wx => ∃ F4 : Nat → Prop, Hid (∃ v4, HomeAt wx F4 R none (lsOf L ++ [⟨p, x⟩]) (deedOf L) b ev v4) ∧ Hid (Turn F F4 w wx) ∧ Hid (BoxIs w.heap.size a cap d wx) ∧ Hid (InsAt wx a d.ins))
  case first =>
    go_region_law (first
      | (refine step_append_lies _ (by rfl) _ _ _ (by rfl) 0 153 iE _ 2 16 Tryz.underlying100 hiE hz0 hz1 hz2 rfl (by omega) (.slice la (lsOf L).length lcap) (lsOf L).length _ (by rfl) (HO2.out.alloc _) ⟨w2.drew.heap.size, 0, none⟩ 1 1 (linkC ⟨p, x⟩) (by rfl) (by rfl) (cells_new w2.drew _ _) hone (by omega) (by unfold maxLen; omega) (by omega) (by omega) _ rfl ?_; intro g5 cap5 w5 hown5 hgrow5 hat5 hlt5; obtain ⟨⟨l0, l1, l2⟩, F6, t6, u6⟩ := HDD.out.appended (x := ⟨p, x⟩) hgrow5 hown5 (hat5.imp id (fun e => e.trans (by simp))); have T6 := Lib.hid t6; have U6 := Lib.hid u6; clear t6 u6 hown5 hgrow5 hat5 hlt5))
    all_goals
      go_wp2_with fail
      go_meet
      case rel => exact ⟨F6, Lib.hid ⟨_, T6.out⟩, Lib.hid ((Turn.of_below HB2.out).trans U6.out), Lib.hid ((U6.out.block _ (boxIs_cells HBX2.out).2.2.2.2 (fun hF => by have := HNB.out _ hF; omega)).trans HBX2.out), Lib.hid (insAt_turn HI2.out U6.out HOUT.out)⟩
  case rest =>
    obtain ⟨F4, H4, T4, HBX4, HI4⟩ := hcut
    obtain ⟨v4, h4⟩ := H4.out
    have HH4 := Lib.hid h4
    clear h4 H4 HDD HO2 HBX2 HI2 HB2 hlc2 hlt2 d20 d21 hs2
    cases hx : (deedOf L x).isSome with
    | true =>
        have HX := Lib.hid hx
        clear hx
        go_wp2_with fail
        with_reducible refine (has_home_is x _ HH4.out true HX.out).mono ?_
        rintro e w6 ⟨rfl, hb6⟩
        have H5 : Hid (HomeL w6 F4 R (newL L p x d)) := Lib.hid (homeL_new (HH4.out.kept hb6) (fun y => by rw [deedOf_new, if_pos HX.out]))
        have T5 := Lib.hid (T4.out.trans (Turn.of_below hb6))
        clear hb6
        clear HH4 T4 HBX4 HI4 HAT HHD HI1 HBX1 HB HWD HT HG
        go_wp2_with fail
        go_loopw [47] (fun _ wr => ∃ (F' : Nat → Prop) (L' : List LinkD), Hid (HomeL wr F' R L') ∧ Hid (Turn F F' w wr) ∧ Hid (GoodL 25 L') ∧ Hid (room L' = room (newL L p x d))) (fun _ wr => lenAt wr R)
        case atStart => exact ⟨F4, _, H5, T5, HG1, Lib.hid rfl⟩
        case round =>
          obtain ⟨F', L', H6, T6, HG6, HR6⟩ := hrel
          cases hf : fullL L' with
          | true =>
            have HF := Lib.hid hf
            clear hf
            go_wp2_with fail
            with_reducible refine (homeL_full _ H6.out (by omega) HG6.out true HF.out).mono ?_
            rintro e w6 ⟨rfl, hb6⟩
            have H7 := Lib.hid (H6.out.kept hb6)
            have T7 := Lib.hid (T6.out.trans (Turn.of_below hb6))
            clear hb6
            go_wp2_with fail
            with_reducible refine (homeL_worst _ H7.out (by omega) HG6.out).mono ?_
            rintro e w7 ⟨rfl, hb7⟩
            have H8 := Lib.hid (H7.out.kept hb7)
            have T8 := Lib.hid (T7.out.trans (Turn.of_below hb7))
            clear hb7
            go_wp2_with fail
            with_reducible refine (homeL_evict _ H8.out (by omega) HG6.out HF.out).mono ?_
            rintro e w8 ⟨rfl, F9, h9, t9⟩
            have H9 := Lib.hid h9
            have T9 := Lib.hid (T8.out.trans t9)
            clear h9 t9
            go_wp2_with fail
            go_roundw
            case rel => exact ⟨F9, _, H9, T9, Lib.hid (HG6.out.sub (evict_sub _)), Lib.hid ((room_full HG6.out HF.out).symm.trans HR6.out)⟩
            case measure =>
              rw [H9.out.lenAt, H6.out.lenAt]
              have := evict_len HG6.out HF.out
              omega
          | false =>
            have HE : Hid (L' = room (newL L p x d)) := Lib.hid ((room_not hf).symm.trans HR6.out)
            have HF := Lib.hid hf
            clear hf
            go_wp2_with fail
            with_reducible refine (homeL_full _ H6.out (by omega) HG6.out false HF.out).mono ?_
            rintro e w6 ⟨rfl, hb6⟩
            obtain ⟨b7, ev7, v7, h7⟩ := H6.out.kept hb6
            have H7 := Lib.hid h7
            have T7 := Lib.hid (T6.out.trans (Turn.of_below hb6))
            clear hb6 h7
            go_wp2_with fail
            with_reducible refine (has_home x _ H7.out).mono ?_
            rintro e w7 ⟨rfl, hb7⟩
            have HB7 := Lib.hid hb7
            clear hb7
            go_wp2_with fail
            go_ret2
            rw [← HE.out]
            exact ⟨rfl, F', ⟨b7, ev7, v7, H7.out.kept HB7.out⟩, T7.out.trans (Turn.of_below HB7.out)⟩
    | false =>
        have HX := Lib.hid hx
        clear hx
        go_wp2_with fail
        with_reducible refine (has_home_is x _ HH4.out false HX.out).mono ?_
        rintro e w6 ⟨rfl, hb6⟩
        obtain ⟨q0, q1, q2, q3, q4⟩ := boxIs_cells (boxIs_kept HBX4.out hb6)
        have HI6 := Lib.hid (insAt_kept hb6 HI4.out)
        have HB6 := Lib.hid hb6
        clear hb6
        go_wp2_with fail
        with_reducible refine (keep_any x d a cap (allL L) (fun y hy => (allL_some y).1 hy) (Nat.le_trans (allL_len L) (Nat.le_trans HG.out.len (by omega))) HD.out _ (HH4.out.kept HB6.out) HI6.out).mono ?_
        rintro e w7 ⟨rfl, F7, ev7, h7, t7⟩
        have H5 : Hid (HomeL w7 F7 R (newL L p x d)) := Lib.hid (homeL_new h7 (fun y => by rw [deedOf_new, if_neg (by rw [HX.out]; simp)]))
        have T5 := Lib.hid ((T4.out.trans (Turn.of_below HB6.out)).trans t7)
        clear h7 t7 q0 q1 q2 q3 q4 HI6 HB6
        clear HH4 T4 HBX4 HI4 HAT HHD HI1 HBX1 HB HWD HT HG
        go_wp2_with fail
        go_loopw [47] (fun _ wr => ∃ (F' : Nat → Prop) (L' : List LinkD), Hid (HomeL wr F' R L') ∧ Hid (Turn F F' w wr) ∧ Hid (GoodL 25 L') ∧ Hid (room L' = room (newL L p x d))) (fun _ wr => lenAt wr R)
        case atStart => exact ⟨F7, _, H5, T5, HG1, Lib.hid rfl⟩
        case round =>
          obtain ⟨F', L', H6, T6, HG6, HR6⟩ := hrel
          cases hf : fullL L' with
          | true =>
            have HF := Lib.hid hf
            clear hf
            go_wp2_with fail
            with_reducible refine (homeL_full _ H6.out (by omega) HG6.out true HF.out).mono ?_
            rintro e w6 ⟨rfl, hb6⟩
            have H7 := Lib.hid (H6.out.kept hb6)
            have T7 := Lib.hid (T6.out.trans (Turn.of_below hb6))
            clear hb6
            go_wp2_with fail
            with_reducible refine (homeL_worst _ H7.out (by omega) HG6.out).mono ?_
            rintro e w7 ⟨rfl, hb7⟩
            have H8 := Lib.hid (H7.out.kept hb7)
            have T8 := Lib.hid (T7.out.trans (Turn.of_below hb7))
            clear hb7
            go_wp2_with fail
            with_reducible refine (homeL_evict _ H8.out (by omega) HG6.out HF.out).mono ?_
            rintro e w8 ⟨rfl, F9, h9, t9⟩
            have H9 := Lib.hid h9
            have T9 := Lib.hid (T8.out.trans t9)
            clear h9 t9
            go_wp2_with fail
            go_roundw
            case rel => exact ⟨F9, _, H9, T9, Lib.hid (HG6.out.sub (evict_sub _)), Lib.hid ((room_full HG6.out HF.out).symm.trans HR6.out)⟩
            case measure =>
              rw [H9.out.lenAt, H6.out.lenAt]
              have := evict_len HG6.out HF.out
              omega
          | false =>
            have HE : Hid (L' = room (newL L p x d)) := Lib.hid ((room_not hf).symm.trans HR6.out)
            have HF := Lib.hid hf
            clear hf
            go_wp2_with fail
            with_reducible refine (homeL_full _ H6.out (by omega) HG6.out false HF.out).mono ?_
            rintro e w6 ⟨rfl, hb6⟩
            obtain ⟨b7, ev7, v7, h7⟩ := H6.out.kept hb6
            have H7 := Lib.hid h7
            have T7 := Lib.hid (T6.out.trans (Turn.of_below hb6))
            clear hb6 h7
            go_wp2_with fail
            with_reducible refine (has_home x _ H7.out).mono ?_
            rintro e w7 ⟨rfl, hb7⟩
            have HB7 := Lib.hid hb7
            clear hb7
            go_wp2_with fail
            go_ret2
            rw [← HE.out]
            exact ⟨rfl, F', ⟨b7, ev7, v7, H7.out.kept HB7.out⟩, T7.out.trans (Turn.of_below HB7.out)⟩
end Go.Proofs.YtaaaplbjeknbkaaGreat.Ho
namespace Go.Proofs.YtaaaplbjeknbkaaGreat.Ho
open Go.RowKit Go.Maps

variable {w w' : World} {F : Nat → Prop} {R : Loc} {it : Option It} {ls : List LD} {M : UInt64 → Option DeedD} {b : Nat} {ev : UInt64 → Option Value} {v : Value}

/-- A deed whose Ins lie in new memory. -/
def DeedAnsF (w : World) (m : Option DeedD) (e : Ending) (w' : World) : Prop :=
  ∃ a c, e = .returned (.tuple #[.agg #[.slice a (m.getD nod).ins.length c, .int .i64 (m.getD nod).outs, .int .i64 (m.getD nod).weight, .int .i64 (m.getD nod).fee], .int .i64 (if m.isSome then 0 else 5)]) ∧ (m.getD nod).ins.length ≤ 8 ∧ (m.getD nod).ins.length ≤ c ∧ InsAt w' a (m.getD nod).ins ∧ (∀ bb o, (m.getD nod).ins ≠ [] → a = some ⟨bb, o, none⟩ → w.heap.size ≤ bb) ∧ Below w.heap.size w w'
set_option maxRecDepth 20000 in
theorem deedF_none (x : UInt64) (w : World) (h : HomeAt w F R it ls M b ev v) (hx : M x = none) :
    Calls Tryz.prog 154 #[.pointer (some ⟨R.b, 27, none⟩), .int .u64 x.toNat] w (DeedAnsF w none) := by
  have H := Lib.hid (h.kept (kept_new w (.cells #[.slice none 0 0, .int .i64 0, .int .i64 0, .int .i64 0] 50)))
  have HX : Hid ((M x).isSome = false) := Lib.hid (by rw [hx]; rfl)
  clear h hx
  go_enter Tryz.func154, Tryz.ntmps154
  go_wp2_with fail
  with_reducible refine (has_home_is x _ H.out false HX.out).mono ?_
  rintro e w1 ⟨rfl, hb1⟩
  have hB := (hb1.block w.heap.size (by simp)).trans (heap_alloc_new w _)
  have c0 := (head_cell hB 0).trans rfl
  have c1 := (head_cell hB 1).trans rfl
  have c2 := (head_cell hB 2).trans rfl
  have c3 := (head_cell hB 3).trans rfl
  have f0 := frozen_of_row w1 _ 0 _ _ hB
  have f1 := frozen_of_row w1 _ 1 _ _ hB
  have f2 := frozen_of_row w1 _ 2 _ _ hB
  have f3 := frozen_of_row w1 _ 3 _ _ hB
  have hs := (cell_spot c0).2
  have HB := Lib.hid (kept_trans (kept_new _ _) hb1)
  clear hB hb1
  go_wp2_with fail
  refine bodyPost_ret (v := .tuple #[.agg #[.slice none 0 0, .int .i64 0, .int .i64 0, .int .i64 0], .int .i64 5]) (by simp [results, Tryz.results154, go_sem, c0, c1, c2, c3]) rfl ?_
  have ht := turn_set4 w1 w.heap.size (.slice none 0 0) (.int .i64 0) (.int .i64 0) (.int .i64 0)
  exact ⟨none, 0, rfl, Nat.zero_le _, Nat.zero_le _, fun i hi => absurd hi (by simp [nod]), (fun bb o hne => absurd rfl hne), HB.out.trans (ht.below (fun k hk => by omega) HB.out.size)⟩
set_option maxRecDepth 20000 in
theorem deedF_some (x : UInt64) (d : DeedD) (w : World) (h : HomeAt w F R it ls M b ev v) (hx : M x = some d) :
    Calls Tryz.prog 154 #[.pointer (some ⟨R.b, 27, none⟩), .int .u64 x.toNat] w (DeedAnsF w (some d)) := by
  have H := Lib.hid (h.kept (kept_new w (.cells #[.slice none 0 0, .int .i64 0, .int .i64 0, .int .i64 0] 50)))
  have HX : Hid ((M x).isSome = true) := Lib.hid (by rw [hx]; rfl)
  have HXD := Lib.hid hx
  have HF := Lib.hid (h.fine x d hx)
  clear h hx
  go_enter Tryz.func154, Tryz.ntmps154
  go_wp2_with fail
  with_reducible refine (has_home_is x _ H.out true HX.out).mono ?_
  rintro e w1 ⟨rfl, hb1⟩
  have H1 := H.out.kept hb1
  have hmc := H1.mapc
  have hlt := H1.lt
  have hlk := H1.look x
  obtain ⟨a, c, hv, hl, hc, hi⟩ := H1.deed x
  rw [HXD.out] at hv hl hc hi
  rw [hv] at hlk
  simp only [Option.getD_some] at hlk hl hc hi
  unfold deedV at hlk
  have hB := (hb1.block w.heap.size (by simp)).trans (heap_alloc_new w _)
  have HB1 := Lib.hid hB
  have HB := Lib.hid (kept_trans (kept_new _ _) hb1)
  have HI := Lib.hid hi
  clear hB hb1 H1 hi hv
  go_wp2_with fail
  with_reducible refine (clone_any d a c _ hl HI.out).mono ?_
  rintro e w2 ⟨v2, rfl, a2, k2, rfl, ho2, hb2⟩
  have hB := (hb2.block w.heap.size (cell_spot (head_cell HB1.out 0)).2).trans HB1.out
  have c0 := (head_cell hB 0).trans rfl
  have c1 := (head_cell hB 1).trans rfl
  have c2 := (head_cell hB 2).trans rfl
  have c3 := (head_cell hB 3).trans rfl
  have f0 := frozen_of_row w2 _ 0 _ _ hB
  have f1 := frozen_of_row w2 _ 1 _ _ hB
  have f2 := frozen_of_row w2 _ 2 _ _ hB
  have f3 := frozen_of_row w2 _ 3 _ _ hB
  have hs := (cell_spot c0).2
  have HO := Lib.hid ho2
  have HB2 := Lib.hid (kept_trans HB.out hb2)
  have HS : Hid (w.heap.size < w1.heap.size) := Lib.hid (cell_spot (head_cell HB1.out 0)).2
  clear hB hb2 ho2
  go_wp2_with fail
  refine bodyPost_ret (v := .tuple #[.agg #[.slice a2 d.ins.length k2, .int .i64 d.outs, .int .i64 d.weight, .int .i64 d.fee], .int .i64 0]) (by simp [results, Tryz.results154, go_sem, c0, c1, c2, c3]) rfl ?_
  have ht := turn_set4 w2 w.heap.size (.slice a2 d.ins.length k2) (.int .i64 d.outs) (.int .i64 d.weight) (.int .i64 d.fee)
  have ho3 := own_turn HO.out ht (fun k hk e => by have := (HO.out.lt k hk).1; have := HS.out; omega)
  have ho4 : OwnIns _ _ d.ins := ⟨ho3.1, ho3.2.imp id fun ⟨g, cap, cur, q1, _, q3⟩ => ⟨g, cap, cur, q1, Nat.zero_le _, q3⟩⟩
  obtain ⟨_, hc4, hi4⟩ := ownIns_slice ho4 (ins_ok HF.out)
  exact ⟨a2, k2, rfl, hl, hc4, hi4, (fun bb o _ e => by subst e; have := (HO.out.lt bb rfl).1; have := HS.out; omega), HB2.out.trans (ht.below (fun k hk => by omega) HB2.out.size)⟩
theorem deedF_any (x : UInt64) (w : World) (h : HomeAt w F R it ls M b ev v) :
    Calls Tryz.prog 154 #[.pointer (some ⟨R.b, 27, none⟩), .int .u64 x.toNat] w (DeedAnsF w (M x)) := by
  cases hx : M x with
  | none => exact deedF_none x w h hx
  | some d => exact deedF_some x d w h hx

end Go.Proofs.YtaaaplbjeknbkaaGreat.Ho
namespace Go.Proofs.YtaaaplbjeknbkaaGreat.Ho
open Go.RowKit Go.Maps

/-- Block R is a node whose pool has these links. -/
def HL (w : World) (F : Nat → Prop) (R : Loc) (L : List LinkD) : Prop := GoodL 24 L ∧ HomeL w F R L

variable {w0 w w' : World} {R : Loc} {L : List LinkD} {F : Nat → Prop}

theorem HL.kept (h : HL w F R L) (hb : Below w.heap.size w w') : HL w' F R L := ⟨h.1, h.2.kept hb⟩
theorem HL.there (h : HL w F R L) : There w F := by
  obtain ⟨_, _, _, _, h⟩ := h
  exact h.there
theorem HL.block (h : HL w F R L) : F R.b := by
  obtain ⟨_, _, _, _, h⟩ := h
  exact h.fR
theorem good_none : GoodL 24 [] := ⟨by simp, fun l hl => by simp at hl, fun l hl => by simp at hl, fun l hl => by simp at hl, by simp [lsOf]⟩
theorem room_good {p : Nat} {x : UInt64} {d : DeedD} (hg : GoodL 24 L) (hp : p < 8) (hd : checkD d = 0) (ht : ¬ ∃ l ∈ L, l.peer = p ∧ l.id = x) : GoodL 24 (room (newL L p x d)) := by
  have h1 := newL_good hg hp hd ht
  have h2 := h1.sub (room_sub _)
  have h3 := room_fine _ _ rfl h1
  unfold fullL fullF at h3
  rw [Bool.or_eq_false_iff] at h3
  have h4 := of_decide_eq_false h3.2
  rw [lsOf_len] at h4
  exact ⟨by omega, h2.peer, h2.fine, h2.one, h2.nodup⟩
/-- Add: the answers, and what the pool is then. -/
def addC (L : List LinkD) (p : Int) (x : UInt64) (d : DeedD) : (Bool × Int) × List LinkD :=
  if ¬ goodP p then ((false, 1), L) else if checkD d ≠ 0 then ((false, checkD d), L) else if L.any (fun l => l.peer == p.toNat && l.id == x) then ((false, 6), L) else (((deedOf (room (newL L p.toNat x d)) x).isSome, 0), room (newL L p.toNat x d))
theorem any_twice {p : Nat} {x : UInt64} : L.any (fun l => l.peer == p && l.id == x) = true ↔ ∃ l ∈ L, l.peer = p ∧ l.id = x := by
  rw [List.any_eq_true]
  constructor
  · rintro ⟨l, hl, e⟩
    simp only [Bool.and_eq_true, beq_iff_eq] at e
    exact ⟨l, hl, e⟩
  · rintro ⟨l, hl, e⟩
    exact ⟨l, hl, by simpa using e⟩
theorem addC_good (hg : GoodL 24 L) (p : Int) (x : UInt64) (d : DeedD) : GoodL 24 (addC L p x d).2 := by
  unfold addC
  split
  · exact hg
  · split
    · exact hg
    · split
      · exact hg
      · rename_i h1 h2 h3
        obtain ⟨n, rfl, hn, hnn⟩ := peer_nat (Classical.not_not.1 h1)
        rw [hnn] at h3 ⊢
        exact room_good hg hn (Classical.not_not.1 h2) (fun h => h3 (any_twice.2 h))
theorem hl_add (p : Int) (x : UInt64) (d : DeedD) (a : Option Addr) (cap : Nat) (w : World) (h : HL w F R L) (hi : InsAt w a d.ins) (hout : ∀ bb o, d.ins ≠ [] → a = some ⟨bb, o, none⟩ → ¬ F bb) :
    Calls Tryz.prog 66 #[.pointer (some ⟨R.b, 27, none⟩), .int .i64 p, .int .u64 x.toNat, .agg #[.slice a d.ins.length cap, .int .i64 d.outs, .int .i64 d.weight, .int .i64 d.fee]] w fun e w' =>
      e = .returned (.tuple #[.bool (addC L p x d).1.1, .int .i64 (addC L p x d).1.2]) ∧ ∃ F', HL w' F' R (addC L p x d).2 ∧ Turn F F' w w' := by
  unfold addC
  by_cases hp : goodP p
  · rw [if_neg (not_not_intro hp)]
    obtain ⟨n, rfl, hn, hnn⟩ := peer_nat hp
    rw [hnn]
    by_cases hd : checkD d = 0
    · rw [if_neg (not_not_intro hd)]
      by_cases ht : ∃ l ∈ L, l.peer = n ∧ l.id = x
      · rw [if_pos (any_twice.2 ht)]
        refine (add_twice n hn x d hd ht a cap w hi h.2 h.1).mono ?_
        rintro e w' ⟨rfl, hb⟩
        exact ⟨rfl, F, h.kept hb, Turn.of_below hb⟩
      · rw [if_neg (fun hh => ht (any_twice.1 hh))]
        refine (add_new n hn x d hd ht a cap w hi hout h.2 h.1).mono ?_
        rintro e w' ⟨rfl, F', h4, h5⟩
        exact ⟨rfl, F', ⟨room_good h.1 hn hd ht, h4⟩, h5⟩
    · rw [if_pos hd]
      refine (add_check n hn x d _ rfl hd a cap w hi).mono ?_
      rintro e w' ⟨rfl, hb⟩
      exact ⟨rfl, F, h.kept hb, Turn.of_below hb⟩
  · rw [if_pos hp]
    refine (add_arg p hp x d a cap w).mono ?_
    rintro e w' ⟨rfl, hb⟩
    exact ⟨rfl, F, h.kept hb, Turn.of_below hb⟩
/-- Remove. -/
def removeL (L : List LinkD) (x : UInt64) : List LinkD := L.filter fun l => !(l.id == x)
theorem hl_remove (x : UInt64) (w : World) (h : HL w F R L) :
    Calls Tryz.prog 165 #[.pointer (some ⟨R.b, 27, none⟩), .int .u64 x.toNat] w fun e w' => e = .returned (.bool (deedOf L x).isSome) ∧ ∃ F', HL w' F' R (removeL L x) ∧ Turn F F' w w' := by
  obtain ⟨hg, b, ev, v, h3⟩ := h
  refine (remove_any x w h3 (by rw [lsOf_len]; have := hg.len; omega)).mono ?_
  rintro e w' ⟨rfl, F', ev', v', h4, h5⟩
  rw [lsOf_filter] at h4
  have hs : (removeL L x).Sublist L := List.filter_sublist
  rw [show (L.filter fun l => !((ldOf l).id == x)) = removeL L x from rfl, deedOf_sub hg hs] at h4
  exact ⟨rfl, F', ⟨hg.sub hs, b, ev', v', h4⟩, h5⟩
/-- Drop. -/
def dropL (L : List LinkD) (p : Nat) : List LinkD := L.filter fun l => !(l.peer == p)
theorem hl_drop (p : Nat) (hp : p < 8) (w : World) (h : HL w F R L) :
    Calls Tryz.prog 87 #[.pointer (some ⟨R.b, 27, none⟩), .int .i64 p] w fun e w' => e = .returned (.int .i64 0) ∧ ∃ F', HL w' F' R (dropL L p) ∧ Turn F F' w w' := by
  obtain ⟨hg, b, ev, v, h3⟩ := h
  refine (drop_yes p hp w h3 (by rw [lsOf_len]; have := hg.len; omega)).mono ?_
  rintro e w' ⟨rfl, F', ev', v', h4, h5⟩
  rw [lsOf_filter] at h4
  have hs : (dropL L p).Sublist L := List.filter_sublist
  rw [show (L.filter fun l => !((ldOf l).peer == p)) = dropL L p from rfl, deedOf_sub hg hs] at h4
  exact ⟨rfl, F', ⟨hg.sub hs, b, ev', v', h4⟩, h5⟩
theorem hl_has (x : UInt64) (w : World) (h : HL w F R L) (r : Bool) (hr : (deedOf L x).isSome = r) :
    Calls Tryz.prog 99 #[.pointer (some ⟨R.b, 27, none⟩), .int .u64 x.toNat] w fun e w' => e = .returned (.bool r) ∧ Below w.heap.size w w' := by
  obtain ⟨_, b, ev, v, h3⟩ := h
  exact has_home_is x w h3 r hr
theorem hl_deed (x : UInt64) (w : World) (h : HL w F R L) :
    Calls Tryz.prog 154 #[.pointer (some ⟨R.b, 27, none⟩), .int .u64 x.toNat] w (DeedAnsF w (deedOf L x)) := by
  obtain ⟨_, b, ev, v, h3⟩ := h
  exact deedF_any x w h3
theorem hl_all (w : World) (h : HL w F R L) :
    Calls Tryz.prog 65 #[.pointer (some ⟨R.b, 27, none⟩)] w (GaveIds w (allL L)) := by
  obtain ⟨hg, b, ev, v, h3⟩ := h
  exact all_any w h3 (by rw [lsOf_len]; have := hg.len; omega)
/-- Children. -/
def childL (L : List LinkD) (x : UInt64) : List UInt64 := (allL L).filter fun y => spendsD ((deedOf L y).getD nod) x
theorem hl_children (x : UInt64) (w : World) (h : HL w F R L) :
    Calls Tryz.prog 67 #[.pointer (some ⟨R.b, 27, none⟩), .int .u64 x.toNat] w (GaveIds w (childL L x)) := by
  obtain ⟨hg, b, ev, v, h3⟩ := h
  exact children_any x w h3 (by rw [lsOf_len]; have := hg.len; omega)
end Go.Proofs.YtaaaplbjeknbkaaGreat.Ho
