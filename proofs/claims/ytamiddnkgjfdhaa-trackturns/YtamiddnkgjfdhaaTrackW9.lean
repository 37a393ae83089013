/-
  The contract of Announce.
-/
import Derived.Test.YtamiddnkgjfdhaaTrackW8
import Derived.Shelf.SlMaps.Clone
import Derived.Deep.CutRange
namespace Go.Proofs.Ytamiddnkgjfdhaa
open Go.RowKit Go.Maps

variable {w w' : World} {F : Nat → Prop} {R : Nat} {it : Option It} {s : TS} {b : Nat} {ev : UInt64 → Option Value} {pv : Nat → Value}

theorem map_not_nil (w : World) (b : Nat) : (binOp .eql 65 (.map (some b)) (.map none)).run Try.prog w = .ok (.bool false) w := run_eql_map_nil_sl (P := Try.prog) w 65 _ _ (some b) Try.underlying65
theorem info_ent : (Try.prog.info? 73).map (fun i => (i.zero, i.size, i.bytes)) = some (some (.agg #[.int .i64 0, .int .u64 0, .bool false, .int .i64 0, .int .i64 0]), 5, 40) := by kernel_rfl
theorem announce_arg (p t : Int) (h : ¬ (0 ≤ p ∧ p < 8) ∨ ¬ goodT t) (x : UInt64) (f : Bool) (w : World) :
    Calls Try.prog 19 #[.pointer (some ⟨R, 0, none⟩), .int .i64 p, .int .u64 x.toNat, .int .i64 t, .bool f] w fun e w' => e = .returned (.int .i64 1) ∧ w = w' := by
  by_cases hp : 0 ≤ p ∧ p < 8
  · have ht : ¬ goodT t := h.resolve_left (fun hn => hn hp)
    obtain ⟨n, rfl⟩ : ∃ n : Nat, p = n := ⟨p.toNat, by omega⟩
    have hn8 : n < 8 := by omega
    have HT := Lib.hid ht
    clear h ht hp
    go_enter Try.func19, Try.ntmps19
    go_wp2_with fail
    with_reducible refine (isPeer_yes n n rfl hn8 _).mono ?_
    rintro e w1 ⟨rfl, rfl⟩
    go_wp2_with fail
    with_reducible refine (isTime_no t HT.out _).mono ?_
    rintro e w1 ⟨rfl, rfl⟩
    go_wp2_with fail
    go_ret
    exact ⟨rfl, rfl⟩
  · have HP := Lib.hid hp
    clear h hp
    go_enter Try.func19, Try.ntmps19
    go_wp2_with fail
    with_reducible refine (isPeer_no p HP.out _).mono ?_
    rintro e w1 ⟨rfl, rfl⟩
    go_wp2_with fail
    go_ret
    exact ⟨rfl, rfl⟩
/-- Announce, where its arguments are in their bounds. -/
def TS.announce (s : TS) (p : Nat) (x : UInt64) (t : Int) (f : Bool) : Int × TS :=
  match (s.ents x).findIdx? (fun e => e.peer == p) with
  | some _ => (6, s)
  | none => if 20 ≤ (s.I p).length then (2, s) else (0, ⟨s.salt, upd s.E x (some (s.ents x ++ [⟨p, x, f, 0, t⟩])), upd s.I p (s.I p ++ [x])⟩)
/-- The new entry is appended and put into the map. -/
theorem announce_put (h : TrackAt w F R none s b ev pv) (hs : s.Small) {x : UInt64} {e : TEnt} {g cap : Nat} {o : Obj} (hg : (w.alloc o).grownBy w' ((ev x).getD (.slice none 0 0)).ownBlock) (ho : w'.ownsRow 0 73 5 (.slice (some ⟨g, 0, none⟩) ((s.ents x).length + 1) cap) ((s.ents x).length + 1) (entsC (s.ents x) ++ entC e)) (hat : ((ev x).getD (.slice none 0 0)).ownBlock = some g ∨ g = w.heap.size + 1) :
    (w'.cell? ⟨R, 1, none⟩ = some (.map (some b)) ∧ R < w'.heap.size) ∧ ∃ w2, (Instr.mapUpdate 65 (.map (some b)) (.int .u64 x.toNat) (.slice (some ⟨g, 0, none⟩) ((s.ents x).length + 1) cap)).run Try.prog w' = .ok () w2 ∧
      ∃ F' ev', TrackAt w2 F' R none { s with E := upd s.E x (some (s.ents x ++ [e])) } b ev' pv ∧ Turn F F' w w2 := by
  have hG : ∀ k, ((ev x).getD (.slice none 0 0)).ownBlock = some k → ∃ u, ev x = some u ∧ u.ownBlock = some k := fun k hk => by
    cases hx : ev x with
    | none => rw [hx] at hk; cases hk
    | some u => rw [hx] at hk; exact ⟨u, rfl, hk⟩
  have ht : Turn (fun k => ((ev x).getD (.slice none 0 0)).ownBlock = some k) (fun k => ((ev x).getD (.slice none 0 0)).ownBlock = some k) w w' := (Turn.of_below (kept_new w o)).trans (Turn.of_grown hg (fun k hk => hk))
  have ho' : OwnEnts w' (.slice (some ⟨g, 0, none⟩) ((s.ents x).length + 1) cap) (s.ents x ++ [e]) := by
    unfold OwnEnts
    rw [List.length_append, entsC_append]
    have : entsC [e] = entC e := by simp [entsC]
    rw [this]
    exact ho
  obtain ⟨w2, hrun, h2, t2⟩ := h.put hs hG ht ho' (fun k hk => by
    have hk : g = k := by simpa [Value.ownBlock] using hk
    rcases hat with h1 | h1
    · exact .inl (hG k (by rw [← hk]; exact h1))
    · exact .inr (by omega))
  have hR := ht.block R h.lt (fun hk => by obtain ⟨u, h1, h2⟩ := hG R hk; exact (h.e_ne h1 h2).1 rfl)
  exact ⟨⟨(World.cell?_of_block (a := ⟨R, 1, none⟩) hR).trans h.mapc, Nat.lt_of_lt_of_le h.lt ht.size⟩, w2, hrun, _, _, h2, t2⟩
/-- The ID is appended to the peer's, and the slice is stored. -/
theorem announce_ids (h : TrackAt w F R none s b ev pv) {p : Nat} (hp : p < 8) {x : UInt64} {g cap : Nat} {o : Obj} (hg : (w.alloc o).grownBy w' (pv p).ownBlock) (ho : w'.ownsRow 0 22 1 (.slice (some ⟨g, 0, none⟩) ((s.I p).length + 1) cap) ((s.I p).length + 1) ((s.I p).map idV ++ [.int .u64 x.toNat])) (hat : (pv p).ownBlock = some g ∨ g = w.heap.size + 1) :
    (w'.cell? ⟨R, 2 + p, none⟩ = some (pv p) ∧ w'.frozen? ⟨R, 2 + p, none⟩ = false ∧ R < w'.heap.size) ∧
      ∃ F', TrackIn (w'.setCell ⟨R, 2 + p, none⟩ (.slice (some ⟨g, 0, none⟩) ((s.I p).length + 1) cap)) F' R { s with I := upd s.I p (s.I p ++ [x]) } ∧ Turn F F' w (w'.setCell ⟨R, 2 + p, none⟩ (.slice (some ⟨g, 0, none⟩) ((s.I p).length + 1) cap)) := by
  have ht : Turn (fun k => (pv p).ownBlock = some k) (fun k => (pv p).ownBlock = some k) w w' := (Turn.of_below (kept_new w o)).trans (Turn.of_grown hg (fun k hk => hk))
  have ho' : OwnIds w' 0 (.slice (some ⟨g, 0, none⟩) ((s.I p).length + 1) cap) (s.I p ++ [x]) := by
    unfold OwnIds
    rw [List.length_append, List.map_append]
    exact ho
  obtain ⟨h2, t2⟩ := h.setIds hp (fun k hk => hk) ht ho' (fun k hk => by
    have hk : g = k := by simpa [Value.ownBlock] using hk
    rcases hat with h1 | h1
    · exact .inl (by rw [← hk]; exact h1)
    · exact .inr (by omega))
  have hR := ht.block R h.lt (fun hk => (h.p_ne hp hk).1 rfl)
  exact ⟨⟨(World.cell?_of_block (a := ⟨R, 2 + p, none⟩) hR).trans (h.idc p hp).1, (World.frozen?_of_block (a := ⟨R, 2 + p, none⟩) hR).trans (h.idc p hp).2, Nat.lt_of_lt_of_le h.lt ht.size⟩, _, ⟨_, _, _, h2⟩, t2⟩
set_option maxRecDepth 20000 in
set_option maxHeartbeats 1600000 in
theorem announce_any (p : Nat) (hp : p < 8) (x : UInt64) (t : Int) (ht : goodT t) (f : Bool) (w : World) (h : TrackAt w F R none s b ev pv) (hf : s.Fine) (hs : s.Small) :
    Calls Try.prog 19 #[.pointer (some ⟨R, 0, none⟩), .int .i64 p, .int .u64 x.toNat, .int .i64 t, .bool f] w fun e w' => e = .returned (.int .i64 (s.announce p x t f).1) ∧ ∃ F', TrackIn w' F' R (s.announce p x t f).2 ∧ Turn F F' w w' := by
  have hpi : (p : Int) < 8 := by omega
  have H := Lib.hid h
  have HF := Lib.hid hf
  have HT := Lib.hid ht
  have HS := Lib.hid hs
  have hl8 := (hf.1 x).1
  have hl20 := hf.2 p hp
  clear h hf ht hs
  go_enter Try.func19, Try.ntmps19
  go_wp2_with fail
  with_reducible refine (isPeer_yes p p rfl hp _).mono ?_
  rintro e w1 ⟨rfl, rfl⟩
  go_wp2_with fail
  with_reducible refine (isTime_yes t HT.out _).mono ?_
  rintro e w1 ⟨rfl, rfl⟩
  go_wp2_with fail
  with_reducible refine (held_any p x _ H.out HF.out).mono ?_
  rintro e w1 ⟨r, rfl, hr, hb1⟩
  rcases hr with ⟨rfl, hr⟩ | ⟨g, n, cap, i, he, rfl, hr⟩
  · have H1 := H.out.kept hb1
    obtain ⟨i0, _⟩ := H1.idc p hp
    obtain ⟨a, cp, hv, hcp, hat, _⟩ := owns_idsAt (H1.ids p hp)
    rw [hv] at i0
    have hRlt := H1.lt
    by_cases hfull : 20 ≤ (s.I p).length
    · have HA : Hid (s.announce p x t f = (2, s)) := Lib.hid (by unfold TS.announce; rw [hr]; exact if_pos hfull)
      have hfi : ((s.I p).length : Int) ≥ 20 := by omega
      have HH1 := Lib.hid H1
      clear H1 hr hat hv
      go_wp2_with fail
      go_ret
      rw [HA.out]
      exact ⟨rfl, F, ⟨b, ev, pv, HH1.out⟩, Turn.of_below hb1⟩
    · have HA : Hid (s.announce p x t f = (0, ⟨s.salt, upd s.E x (some (s.ents x ++ [⟨p, x, f, 0, t⟩])), upd s.I p (s.I p ++ [x])⟩)) := Lib.hid (by unfold TS.announce; rw [hr]; exact if_neg hfull)
      have hfi : ¬ ((s.I p).length : Int) ≥ 20 := by omega
      have hmc := H1.mapc
      have hlk := (H1.kept (w' := w1.drew) ((Below.refl _ _).drew)).look x
      obtain ⟨v, hvx⟩ : ∃ v, (ev x).getD (.slice none 0 0) = v := ⟨_, rfl⟩
      have hlk2 := (H1.kept (w' := (w1.alloc (.cells #[.int .i64 p, .int .u64 x.toNat, .bool f, .int .i64 0, .int .i64 t] 73)).drew) ((kept_new _ _).drew)).look x
      rw [hvx] at hlk hlk2
      have HVX := Lib.hid hvx
      have HD := Lib.hid (H1.kept (w' := w1.drew) ((Below.refl _ _).drew))
      have HO : Hid (OwnEnts w1.drew v (s.ents x)) := Lib.hid (hvx ▸ HD.out.slice x)
      have hnn := map_not_nil
      obtain ⟨iE, hiE, hz0, hz1, hz2⟩ := info_parts info_ent
      obtain ⟨iU, hiU, hy0, hy1, hy2⟩ := info_parts info_u64
      have hone : ∀ u ∈ entC ⟨p, x, f, 0, t⟩, u.oneCell' = true := by simp [entC, Value.oneCell']
      have HH1 := Lib.hid H1
      clear H1 hr hat hv hvx
      go_upto_region 9 with fail
      go_cut [] from 44 to 61 (fun wx => Hid (∃ F4 ev4, TrackAt wx F4 R none { s with E := upd s.E x (some (s.ents x ++ [⟨p, x, f, 0, t⟩])) } b ev4 pv ∧ Turn F F4 w wx))
      case first =>
        go_region_law (first
          | (refine step_append_lies _ (by rfl) _ _ _ (by rfl) 0 73 iE _ 5 40 Try.underlying70 hiE hz0 hz1 hz2 rfl (by omega) v (s.ents x).length _ (by rfl) (HO.out.alloc _) ⟨w1.drew.heap.size, 0, none⟩ 1 1 (entC ⟨p, x, f, 0, t⟩) (by rfl) (by rfl) (cells_new w1.drew _ _) hone (by omega) (by unfold maxLen; omega) (by omega) (by omega) _ rfl ?_; intro g cap w3 hown3 hgrow3 hat3 hlt3; obtain ⟨⟨j0, j1⟩, w4, hput, F4, ev4, t4, u4⟩ := announce_put HD.out HS.out (x := x) (e := ⟨p, x, f, 0, t⟩) (by rw [HVX.out]; exact hgrow3) hown3 (by rw [HVX.out]; exact hat3.imp id (fun e => e.trans (by simp))); have T4 := Lib.hid t4; have U4 := Lib.hid u4; clear t4 u4 hown3 hgrow3 hat3 hlt3))
        all_goals
          go_wp2_with fail
          go_meet
          case rel => exact Lib.hid ⟨F4, ev4, T4.out, ((Turn.of_below hb1).trans (Turn.of_below ((Below.refl _ _).drew))).trans U4.out⟩
      case rest =>
        obtain ⟨F4, ev4, T4', U4'⟩ := hcut.out
        have T4 := Lib.hid T4'
        have U4 := Lib.hid U4'
        obtain ⟨k0, k1⟩ := T4.out.idc p hp
        have hR4 := T4.out.lt
        obtain ⟨a', cp', hv', hcp', _, _⟩ := owns_idsAt (T4.out.ids p hp)
        have hv' : pv p = .slice a' (s.I p).length cp' := hv'
        have HV' := Lib.hid hv'
        rw [hv'] at k0
        have HD4 := Lib.hid (T4.out.kept (w' := wc.drew) ((Below.refl _ _).drew))
        have HO4 : Hid (OwnIds wc.drew 0 (.slice a' (s.I p).length cp') (s.I p)) := Lib.hid (hv' ▸ HD4.out.ids p hp)
        have hone2 : ∀ u ∈ [Value.int .u64 x.toNat], u.oneCell' = true := by simp [Value.oneCell']
        clear hv' hlk hlk2 hnn hmc T4' U4'
        go_wp2_with fail
        go_region_law (first
          | (refine step_append_lies _ (by rfl) _ _ _ (by rfl) 0 22 iU _ 1 8 Try.underlying44 hiU hy0 hy1 hy2 rfl (by omega) (.slice a' (s.I p).length cp') (s.I p).length _ (by rfl) (HO4.out.alloc _) ⟨wc.drew.heap.size, 0, none⟩ 1 1 [.int .u64 x.toNat] (by rfl) (by rfl) (cells_new wc.drew _ _) hone2 (by omega) (by unfold maxLen; omega) (by omega) (by omega) _ rfl ?_; intro g5 cap5 w5 hown5 hgrow5 hat5 hlt5; obtain ⟨⟨l0, l1, l2⟩, F6, t6, u6⟩ := announce_ids HD4.out hp (x := x) (by rw [HV'.out]; exact hgrow5) hown5 (by rw [HV'.out]; exact hat5.imp id (fun e => e.trans (by simp))); have T6 := Lib.hid t6; have U6 := Lib.hid u6; clear t6 u6 hown5 hgrow5 hat5 hlt5))
        all_goals
          go_wp2_with fail
          go_ret
          rw [HA.out]
          exact ⟨rfl, F6, T6.out, U4.out.trans ((Turn.of_below ((Below.refl _ _).drew)).trans U6.out)⟩
  · have HA : Hid (s.announce p x t f = (6, s)) := Lib.hid (by unfold TS.announce; rw [hr])
    clear hr he
    go_wp2_with fail
    go_ret
    rw [HA.out]
    exact ⟨rfl, F, ⟨b, ev, pv, H.out.kept hb1⟩, Turn.of_below hb1⟩
end Go.Proofs.Ytamiddnkgjfdhaa
