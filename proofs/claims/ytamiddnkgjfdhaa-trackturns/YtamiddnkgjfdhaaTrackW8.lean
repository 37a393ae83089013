/-
  The walk of Drop.
-/
import Derived.Test.YtamiddnkgjfdhaaTrackW7
namespace Go.Proofs.Ytamiddnkgjfdhaa
open Go.RowKit Go.Maps

variable {w w' : World} {F : Nat → Prop} {R : Nat} {it : Option It} {s : TS} {b : Nat} {ev : UInt64 → Option Value} {pv : Nat → Value}

theorem drop_arg (p : Int) (h : ¬ (0 ≤ p ∧ p < 8)) (w : World) :
    Calls Try.prog 29 #[.pointer (some ⟨R, 0, none⟩), .int .i64 p] w fun e w' => e = .returned (.int .i64 1) ∧ Below w.heap.size w w' := by
  have HP := Lib.hid h
  clear h
  go_enter Try.func29, Try.ntmps29
  go_wp2_with fail
  with_reducible refine (isPeer_no p HP.out _).mono ?_
  rintro e w1 ⟨rfl, rfl⟩
  go_wp2_with fail
  go_ret
  exact ⟨rfl, kept_new _ _⟩
theorem take_contains_nodup {l : List UInt64} (h : l.Nodup) {k : Nat} (hk : k < l.length) : (l.take k).contains l[k] = false := by
  rw [← Bool.not_eq_true, List.contains_iff_mem]
  intro hm
  obtain ⟨j, hj, e⟩ := List.mem_take_iff_getElem.1 hm
  have := List.pairwise_iff_getElem.1 h j k (by omega) hk (by omega)
  exact this e
set_option maxRecDepth 20000 in
set_option maxHeartbeats 1600000 in
theorem drop_any (p : Nat) (hp : p < 8) (w : World) (h : TrackAt w F R none s b ev pv) (hf : s.Fine) (hl : s.Linked) (hs : s.Small) (hn : (s.I p).Nodup) :
    Calls Try.prog 29 #[.pointer (some ⟨R, 0, none⟩), .int .i64 p] w fun e w' => e = .returned (.int .i64 0) ∧ ∃ F', TrackIn w' F' R (s.drop p) ∧ Turn F F' w w' := by
  have hpi : (p : Int) < 8 := by omega
  have hlt := h.lt
  obtain ⟨i0, _⟩ := h.idc p hp
  obtain ⟨a, cp, hv, hcp, hat, _⟩ := owns_idsAt (h.ids p hp)
  rw [hv] at i0
  have H := Lib.hid h
  have HF := Lib.hid hf
  have HL := Lib.hid hl
  have HS := Lib.hid hs
  have HN := Lib.hid hn
  have HV := Lib.hid hv
  have hl20 := hf.2 p hp
  clear h hf hl hs hn hv hat
  go_enter Try.func29, Try.ntmps29
  go_wp2_with fail
  with_reducible refine (isPeer_yes p p rfl hp _).mono ?_
  rintro e w1 ⟨rfl, rfl⟩
  go_wp2_with fail
  go_quiet (fail)
  generalize hw2 : World.drewN (w.alloc (.cells #[.int .i64 p] 3)) nq = w2
  have hb2 : Below w.heap.size w w2 := hw2 ▸ below_drewN (kept_new w (.cells #[.int .i64 p] 3)) _
  have HC2 : Hid (CellIs w.heap.size (.int .i64 p) w2) := Lib.hid (hw2 ▸ cellIs_kept _ _ _ _ (cellIs_new w _ 3) (below_drewN (Below.refl _ _) _))
  have H2 : Hid (TrackAt w2 F R none s b ev pv) := Lib.hid (H.out.kept hb2)
  clear hw2
  go_wp2_with fail
  go_loopw [17] (fun i wr => ∃ (k : Nat) (F' : Nat → Prop) (ev' : UInt64 → Option Value) (pv' : Nat → Value), k ≤ (s.I p).length ∧ i = .int .i64 k ∧ Hid (TrackAt wr F' R none (s.dropPart p ((s.I p).take k)) b ev' pv') ∧ Hid (pv' p = pv p) ∧ Hid (Turn F F' w wr) ∧ Hid (CellIs w.heap.size (.int .i64 p) wr) ∧ Hid (¬ F' w.heap.size)) (fun i _ => (s.I p).length - (intOf i).toNat)
  case atStart =>
    refine ⟨0, F, ev, pv, Nat.zero_le _, rfl, Lib.hid (H2.out.as rfl (fun y => rfl) (fun q _ => ?_)), Lib.hid rfl, Lib.hid (Turn.of_below hb2), HC2, Lib.hid (fun hF => absurd (H.out.there w.heap.size hF) (Nat.lt_irrefl _))⟩
    show _ = if q = p then s.I p else (s.I q).filter _
    split
    · rename_i e; rw [e]
    · rw [List.filter_eq_self.2]
      intro y _
      rfl
  case round =>
    obtain ⟨k, F', ev', pv', hk, rfl, HT, HPV, HU, HC, HNF⟩ := hrel
    have hclt : w.heap.size < wr.heap.size := (cell_spot HC.out).2
    have hRlt : R < wr.heap.size := HT.out.lt
    by_cases hkl : k < (s.I p).length
    · have hid : OwnIds wr 0 (.slice a (s.I p).length cp) (s.I p) := by
        have h1 := HT.out.ids p hp
        have h2 : (s.dropPart p ((s.I p).take k)).I p = s.I p := if_pos rfl
        rw [h2, HPV.out, HV.out] at h1
        exact h1
      obtain ⟨a', cp', e', _, hat, _⟩ := owns_idsAt hid
      simp only [Value.slice.injEq] at e'
      obtain ⟨rfl, _, rfl⟩ := e'
      obtain ⟨g, o, rfl, hg, c0⟩ := hat k hkl
      clear hid hat
      have hnc := take_contains_nodup HN.out hkl
      obtain ⟨x, hx⟩ : ∃ x, (s.I p)[k] = x := ⟨_, rfl⟩
      have hxm : x ∈ s.I p := hx ▸ List.getElem_mem hkl
      rw [hx] at c0 hnc
      have HX := Lib.hid hx
      obtain ⟨hE1, hE2⟩ := drop_ents (s := s) (p := p) hnc
      obtain ⟨e1, he1, _⟩ := HL.out p hp x hxm
      obtain ⟨l, hl⟩ : ∃ l, s.E x = some l := by
        cases hE : s.E x with
        | some l => exact ⟨l, rfl⟩
        | none => unfold TS.ents at he1; rw [hE] at he1; simp at he1
      have hse : s.ents x = l := by unfold TS.ents; rw [hl]; rfl
      have hEl : (s.dropPart p ((s.I p).take k)).E x = some l := hE1.trans hl
      obtain ⟨g2, n2, cap2, hev⟩ : ∃ g n cap, ev' x = some (.slice (some ⟨g, 0, none⟩) n cap) := by
        rcases HT.out.ents x with ⟨_, h2⟩ | ⟨v, m, h1, h2, h3⟩
        · rw [hEl] at h2; cases h2
        · have : l = m := Option.some.inj (hEl.symm.trans h2)
          subst this
          obtain ⟨g, cap, e, _⟩ := h3.form (by rw [← hse]; exact List.length_pos_of_mem he1)
          exact ⟨g, _, cap, by rw [h1, e]⟩
      have hlk := (HT.out.kept (w' := wr.drew) ((Below.refl _ _).drew)).look x
      rw [hev, Option.getD_some] at hlk
      have hmc := HT.out.mapc
      have hl8 : l.length ≤ 8 := by rw [← hse]; exact (HF.out.1 x).1
      have HSM := Lib.hid (drop_small HS.out HL.out p hp ((s.I p).take k) (fun y hy => List.mem_of_mem_take hy))
      have HEL := Lib.hid hEl
      have HEV := Lib.hid hev
      have HNC := Lib.hid hnc
      have HSE := Lib.hid hse
      have HD := Lib.hid (HT.out.kept (w' := wr.drew) ((Below.refl _ _).drew))
      have HCD : Hid (CellIs w.heap.size (.int .i64 p) wr.drew) := Lib.hid (cellIs_kept _ _ _ _ HC.out ((Below.refl _ _).drew))
      clear hx hxm hE1 hE2 he1 hl hse hEl hev hnc
      go_wp2_with fail
      go_region_law (first
        | (go_simp; go_at_call 51; (with_reducible refine (drop_call x w.heap.size p _ HD.out HSM.out HEV.out HEL.out hl8 HCD.out HNF.out).mono ?_); rintro e w3 ⟨m3, cp3, rfl, ⟨j0, j1⟩, w4, hput, t4, u4⟩; have T4 := Lib.hid t4; have U4 := Lib.hid u4; clear t4 u4))
      all_goals
        go_wp2_with fail
        have hlone : l.filter (fun e => !(e.peer == p)) = s.lone p x := by unfold TS.lone; rw [HSE.out]
        have t5 := T4.out
        rw [hlone] at t5
        have hents : TS.ents { s.dropPart p ((s.I p).take k) with E := upd (s.dropPart p ((s.I p).take k)).E x (some (s.lone p x)) } x = s.lone p x := by show Option.getD (upd _ x _ x) [] = _; rw [upd_same]; rfl
        with_reducible refine (settle_any x _ t5 (upd_fine (drop_fine HF.out p hp _) (lone_fine HF.out p x).1 (lone_fine HF.out p x).2)).mono ?_
        rintro e w6 ⟨rfl, F6, it6, ev6, pv6, hit6, h6, t6, q6⟩
        have hn6 := step_none hit6
        subst hn6
        have HEND : Hid (∃ F' ev' pv', TrackAt w6 F' R none (s.dropPart p ((s.I p).take (k + 1))) b ev' pv' ∧ pv' p = pv p ∧ Turn F F' w w6 ∧ CellIs w.heap.size (.int .i64 p) w6 ∧ ¬ F' w.heap.size) := Lib.hid (by
          obtain ⟨s1, s2⟩ := drop_step (s := s) (p := p) HL.out HNC.out
          refine ⟨F6, ev6, pv6, ?_, ?_, (HU.out.trans (Turn.of_below ((Below.refl _ _).drew))).trans (U4.out.trans t6), ?_, fun hF => ?_⟩
          · have := h6.as (s' := s.dropPart p ((s.I p).take k ++ [x])) (by unfold TS.settle; split <;> rfl) s1 s2
            rw [← HX.out, ← List.take_succ_eq_append_getElem hkl] at this
            exact this
          · rw [q6 p (fun e he => by rw [hents] at he; have := (List.mem_filter.1 he).2; simpa using this)]
            exact HPV.out
          · have u6 := U4.out.trans t6
            exact (World.cell?_of_block (a := ⟨w.heap.size, 0, none⟩) (u6.block w.heap.size (show w.heap.size < wr.heap.size from hclt) HNF.out)).trans HCD.out
          · have u6 := U4.out.trans t6
            rcases u6.own _ hF with h1 | h1
            · exact HNF.out h1
            · have : wr.drew.heap.size = wr.heap.size := rfl
              omega)
        clear t5 hents hlone hit6 h6 t6 q6
        go_wp2_with fail
        obtain ⟨F7, ev7, pv7, z1, z2, z3, z4, z5⟩ := HEND.out
        go_roundw
        case rel => exact ⟨k + 1, F7, ev7, pv7, by omega, by go_num, Lib.hid z1, Lib.hid z2, Lib.hid z3, Lib.hid z4, Lib.hid z5⟩
        case measure => simp [intOf]; omega
    · have he : (s.I p).take k = s.I p := List.take_of_length_le (by omega)
      have HT' := HT.out
      rw [he] at HT'
      obtain ⟨wd, hwd⟩ : ∃ wd, wr.drew = wd := ⟨_, rfl⟩
      have hbd : Below wr.heap.size wr wd := hwd ▸ (Below.refl _ _).drew
      have HD := HT'.kept hbd
      have hRd := HD.lt
      have hcd : wd.cell? ⟨w.heap.size, 0, none⟩ = some (.int .i64 p) := cellIs_kept _ _ _ _ HC.out hbd
      have hwdl : w.heap.size < wd.heap.size := (cell_spot hcd).2
      obtain ⟨j0, j1⟩ := HD.idc p hp
      have hTd : Turn (fun _ => False) (fun _ => False) wd wd := ⟨rfl, rfl, rfl, Nat.le_refl _, fun _ _ _ => rfl, fun _ h => h.elim⟩
      obtain ⟨r1, r2⟩ := HD.setIds hp (v := .slice none 0 0) (l := []) (fun _ h => h.elim) hTd (World.ownsRow_nil _ _ _ _) (fun k hk => by cases hk)
      have HE : Hid (∃ F', TrackIn (wd.setCell ⟨R, 2 + p, none⟩ (.slice none 0 0)) F' R (s.drop p) ∧ Turn F F' w (wd.setCell ⟨R, 2 + p, none⟩ (.slice none 0 0))) := Lib.hid ⟨_, ⟨b, ev', _, r1⟩, (HU.out.trans (Turn.of_below hbd)).trans r2⟩
      have HWD := Lib.hid hwd
      clear hwd HD HT' he hbd hTd r1 r2
      go_wp2_with fail
      refine region_tail 5 (by kernel_rfl) (by kernel_rfl) HWD.out ?_
      simp only [List.take_succ_cons, List.take_zero, List.drop_succ_cons, List.drop_zero]
      repeat still_step
      refine wpStill_nil ?_
      go_wp2_with fail
      go_ret
      exact ⟨rfl, HE.out⟩
end Go.Proofs.Ytamiddnkgjfdhaa
