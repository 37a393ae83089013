/-
  The contracts of Answer and Counts.
-/
import Derived.Test.YtamiddnkgjfdhaaTrackW5
namespace Go.Proofs.Ytamiddnkgjfdhaa
open Go.RowKit Go.Maps

variable {w : World} {F : Nat → Prop} {R : Nat} {it : Option It} {s : TS} {b : Nat} {ev : UInt64 → Option Value} {pv : Nat → Value}

theorem answer_arg (p : Int) (h : ¬ (0 ≤ p ∧ p < 8)) (x : UInt64) (w : World) :
    Calls Try.prog 35 #[.pointer (some ⟨R, 0, none⟩), .int .i64 p, .int .u64 x.toNat] w fun e w' => e = .returned (.int .i64 1) ∧ w = w' := by
  have HP := Lib.hid h
  clear h
  go_enter Try.func35, Try.ntmps35
  go_wp2_with fail
  with_reducible refine (isPeer_no p HP.out _).mono ?_
  rintro e w1 ⟨rfl, rfl⟩
  go_wp2_with fail
  go_ret
  exact ⟨rfl, rfl⟩
/-- Answer, where its argument is in its bounds. -/
def TS.answer (s : TS) (p : Nat) (x : UInt64) : Int × TS :=
  match (s.ents x).findIdx? (fun e => e.peer == p) with
  | none => (5, s)
  | some i => match (s.ents x)[i]? with
    | none => (5, s)
    | some e => (0, TS.settle { s with E := upd s.E x (some ((s.ents x).set i { e with st := 3 })) } x)
theorem set_peer {l : List TEnt} {i : Nat} {e : TEnt} (h : ∀ e ∈ l, e.peer < 8) (he : e.peer < 8) : ∀ e' ∈ l.set i e, e'.peer < 8 := fun e' h' => (List.mem_or_eq_of_mem_set h').elim (h e') (fun h => h ▸ he)
/-- A tracker somewhere. -/
def TrackIn (w : World) (F : Nat → Prop) (R : Nat) (s : TS) : Prop := ∃ b ev pv, TrackAt w F R none s b ev pv
theorem step_none {it' : Option It} {x : UInt64} (h : ItStep none it' x) : it' = none := by
  rcases h with h | ⟨n, _, h⟩
  · exact h
  · rw [h]; rfl
theorem answer_any (p : Nat) (hp : p < 8) (x : UInt64) (w : World) (h : TrackAt w F R none s b ev pv) (hf : s.Fine) :
    Calls Try.prog 35 #[.pointer (some ⟨R, 0, none⟩), .int .i64 p, .int .u64 x.toNat] w fun e w' => e = .returned (.int .i64 (s.answer p x).1) ∧ ∃ F', TrackIn w' F' R (s.answer p x).2 ∧ Turn F F' w w' := by
  have H := Lib.hid h
  have HF := Lib.hid hf
  clear h hf
  go_enter Try.func35, Try.ntmps35
  go_wp2_with fail
  with_reducible refine (isPeer_yes p p rfl hp _).mono ?_
  rintro e w1 ⟨rfl, rfl⟩
  go_wp2_with fail
  with_reducible refine (held_any p x _ H.out HF.out).mono ?_
  rintro e w1 ⟨r, rfl, hr, hb1⟩
  rcases hr with ⟨rfl, hr⟩ | ⟨g, n, cap, i, he, rfl, hr⟩
  · have HS : Hid (s.answer p x = (5, s)) := Lib.hid (by unfold TS.answer; rw [hr])
    clear hr
    go_wp2_with fail
    go_ret
    rw [HS.out]
    exact ⟨rfl, F, ⟨b, ev, pv, H.out.kept hb1⟩, Turn.of_below hb1⟩
  · obtain ⟨hi, hn, ho, hq, hE⟩ := found_own (H.out.kept hb1) he hr
    obtain ⟨⟨_, _, _, c3, c4⟩, hfr, hg⟩ := ownEnts_some ho i hi
    have f3 := hfr (i * 5 + 3)
    have hget : (s.ents x)[i]? = some (s.ents x)[i] := List.getElem?_eq_getElem hi
    have HS : Hid (s.answer p x = (0, TS.settle { s with E := upd s.E x (some ((s.ents x).set i { (s.ents x)[i] with st := 3 })) } x)) := Lib.hid (by
      unfold TS.answer; simp only [hr, hget])
    obtain ⟨q1, q2⟩ := st_stored ho hn i hi 3
    obtain ⟨q3, q4⟩ := (H.out.kept hb1).setEnts he rfl q2 q1
    have H3 := Lib.hid q3
    have T3 := Lib.hid q4
    obtain ⟨hl8, hp8⟩ := HF.out.1 x
    have HF3 := Lib.hid (upd_fine (x := x) HF.out (l := (s.ents x).set i { (s.ents x)[i] with st := 3 }) (by simpa using hl8) (set_peer hp8 (hp8 (s.ents x)[i] (List.getElem_mem hi))))
    clear hr he hq hfr c4 hn hE ho hget q1 q2 q3 q4 hp8
    go_wp2_with fail
    refine (settle_any x _ H3.out HF3.out).mono ?_
    rintro e w5 ⟨rfl, F5, it5, ev5, pv5, hit, h5, t5, _⟩
    have hn5 := step_none hit
    subst hn5
    have H5 := Lib.hid h5
    have T5 := Lib.hid t5
    clear hit h5 t5
    go_wp2_with fail
    go_ret
    rw [HS.out]
    exact ⟨rfl, F5, ⟨b, ev5, pv5, H5.out⟩, ((Turn.of_below hb1).trans T3.out).trans T5.out⟩

theorem counts_arg (p : Int) (h : ¬ (0 ≤ p ∧ p < 8)) (w : World) :
    Calls Try.prog 17 #[.pointer (some ⟨R, 0, none⟩), .int .i64 p] w fun e w' => e = .returned (.tuple #[.int .i64 0, .int .i64 0, .int .i64 1]) ∧ w = w' := by
  have HP := Lib.hid h
  clear h
  go_enter Try.func17, Try.ntmps17
  go_wp2_with fail
  with_reducible refine (isPeer_no p HP.out _).mono ?_
  rintro e w1 ⟨rfl, rfl⟩
  go_wp2_with fail
  go_ret3
  exact ⟨rfl, rfl⟩
/-- The first requested entry of an ID is the peer's. -/
def TS.flies (s : TS) (p : Nat) (x : UInt64) : Bool :=
  match (s.ents x).findIdx? (fun e => e.st == 2) with
  | none => false
  | some i => match (s.ents x)[i]? with
    | none => false
    | some e => e.peer == p
theorem count_step {q : UInt64 → Bool} {l : List UInt64} {k : Nat} (h : k < l.length) : ((l.take (k + 1)).filter q).length = ((l.take k).filter q).length + if q l[k] then 1 else 0 := by
  rw [List.take_succ_eq_append_getElem h, List.filter_append, List.length_append]
  cases hq : q l[k] <;> simp [hq]
theorem counts_any (p : Nat) (hp : p < 8) (w : World) (h : TrackAt w F R it s b ev pv) (hf : s.Fine) :
    Calls Try.prog 17 #[.pointer (some ⟨R, 0, none⟩), .int .i64 p] w fun e w' => e = .returned (.tuple #[.int .i64 (s.I p).length, .int .i64 ((s.I p).filter (s.flies p)).length, .int .i64 0]) ∧ Below w.heap.size w w' := by
  obtain ⟨i0, _⟩ := h.idc p hp
  obtain ⟨a, cp, hv, hcp, hat, _⟩ := owns_idsAt (h.ids p hp)
  rw [hv] at i0
  have hpi : (p : Int) < 8 := by omega
  have hlt := h.lt
  have hl20 := hf.2 p hp
  have H := Lib.hid h
  have HF := Lib.hid hf
  have HA := Lib.hid hat
  have HV := Lib.hid hv
  clear h hf hat hv
  go_enter Try.func17, Try.ntmps17
  go_wp2_with fail
  with_reducible refine (isPeer_yes p p rfl hp _).mono ?_
  rintro e w1 ⟨rfl, rfl⟩
  go_wp2_with fail
  go_loopw [7, 21] (fun f i wr => ∃ k : Nat, k ≤ (s.I p).length ∧ i = .int .i64 k ∧ f = .int .i64 (((s.I p).take k).filter (s.flies p)).length ∧ Below w.heap.size w wr) (fun _ i _ => (s.I p).length - (intOf i).toNat)
  case atStart => exact ⟨0, Nat.zero_le _, rfl, rfl, Below.refl _ _⟩
  case round =>
    obtain ⟨k, hk, rfl, rfl, hbel⟩ := hrel
    by_cases hkl : k < (s.I p).length
    · obtain ⟨g, o, rfl, hg, c0⟩ := idsAt_kept hbel HA.out k hkl
      have hstep := count_step (q := s.flies p) hkl
      have hle : (((s.I p).take k).filter (s.flies p)).length ≤ 20 := Nat.le_trans (List.length_filter_le _ _) (Nat.le_trans (List.length_take_le _ _) (by omega))
      have HST := Lib.hid hstep
      clear hstep
      go_wp2_with fail
      with_reducible refine (flight_any (s.I p)[k] _ (H.out.kept hbel) HF.out).mono ?_
      rintro e w2 ⟨r, rfl, hr, hb2⟩
      rcases hr with ⟨rfl, hr⟩ | ⟨g', n', cap', i', he', rfl, hr⟩
      · have HFL : Hid (s.flies p (s.I p)[k] = false) := Lib.hid (by unfold TS.flies; rw [hr])
        clear hr
        go_wp2_with fail
        go_roundw
        case rel => exact ⟨k + 1, by omega, by go_num, by rw [HST.out, HFL.out]; rfl, kept_trans hbel hb2⟩
        case measure => simp [intOf]; omega
      · obtain ⟨hi, hn, ho, hq, hE⟩ := found_own (H.out.kept (kept_trans hbel hb2)) he' hr
        obtain ⟨⟨d0, _, _, _, _⟩, _, hg2⟩ := ownEnts_some ho i' hi
        have HFL : Hid (s.flies p (s.I p)[k] = ((s.ents (s.I p)[k])[i'].peer == p)) := Lib.hid (by unfold TS.flies; simp only [hr, List.getElem?_eq_getElem hi])
        have hbq := beq_nat (s.ents (s.I p)[k])[i'].peer p
        cases hbb : (s.ents (s.I p)[k])[i'].peer == p with
        | true =>
          rw [hbb] at HFL hbq
          clear hr he' hq ho hE hn hbb
          go_wp2_with fail
          go_roundw
          case rel => exact ⟨k + 1, by omega, by go_num, by rw [HST.out, HFL.out]; simp only [if_true]; go_num, kept_trans hbel hb2⟩
          case measure => simp [intOf]; omega
        | false =>
          rw [hbb] at HFL hbq
          clear hr he' hq ho hE hn hbb
          go_wp2_with fail
          go_roundw
          case rel => exact ⟨k + 1, by omega, by go_num, by rw [HST.out, HFL.out]; rfl, kept_trans hbel hb2⟩
          case measure => simp [intOf]; omega
    · have he : (s.I p).take k = s.I p := List.take_of_length_le (by omega)
      have j0 := kept_cell hbel i0
      have hlt2 := (H.out.kept hbel).lt
      go_wp2_with fail
      go_ret3
      rw [he]
      exact ⟨rfl, hbel⟩
end Go.Proofs.Ytamiddnkgjfdhaa
