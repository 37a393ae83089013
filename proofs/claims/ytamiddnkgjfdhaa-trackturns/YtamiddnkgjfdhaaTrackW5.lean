/-
  The contracts of New, Ask, Answer and Counts.
-/
import Derived.Test.YtamiddnkgjfdhaaTrackW4
namespace Go.Proofs.Ytamiddnkgjfdhaa
open Go.RowKit Go.Maps

variable {w : World} {F : Nat → Prop} {R : Nat} {it : Option It} {s : TS} {b : Nat} {ev : UInt64 → Option Value} {pv : Nat → Value}

theorem isPeer_yes (p : Int) (n : Nat) (hp : p = n) (h : n < 8) (w : World) : Calls Try.prog 41 #[.int .i64 p] w fun e w' => e = .returned (.bool true) ∧ w = w' := by
  subst hp
  refine (isPeer_any _ w).mono fun e w' ⟨h1, h2⟩ => ⟨?_, h2⟩
  rw [h1, decide_eq_true (by omega)]
theorem isPeer_no (p : Int) (h : ¬ (0 ≤ p ∧ p < 8)) (w : World) : Calls Try.prog 41 #[.int .i64 p] w fun e w' => e = .returned (.bool false) ∧ w = w' := by
  refine (isPeer_any _ w).mono fun e w' ⟨h1, h2⟩ => ⟨?_, h2⟩
  rw [h1, decide_eq_false h]
/-- Times that there are. -/
def goodT (t : Int) : Prop := 0 ≤ t ∧ t ≤ 1099511627776
instance (t : Int) : Decidable (goodT t) := inferInstanceAs (Decidable (_ ∧ _))
theorem isTime_yes (p : Int) (h : goodT p) (w : World) : Calls Try.prog 44 #[.int .i64 p] w fun e w' => e = .returned (.bool true) ∧ w = w' := by
  have h' : 0 ≤ p ∧ p ≤ 1099511627776 := h
  refine (isTime_any _ w).mono fun e w' ⟨h1, h2⟩ => ⟨?_, h2⟩
  rw [h1, decide_eq_true h']
theorem isTime_no (p : Int) (h : ¬ goodT p) (w : World) : Calls Try.prog 44 #[.int .i64 p] w fun e w' => e = .returned (.bool false) ∧ w = w' := by
  have h' : ¬ (0 ≤ p ∧ p ≤ 1099511627776) := h
  refine (isTime_any _ w).mono fun e w' ⟨h1, h2⟩ => ⟨?_, h2⟩
  rw [h1, decide_eq_false h']

/-- A tracker without entries. -/
def TS.new (salt : UInt64) : TS := ⟨salt, fun _ => none, fun _ => []⟩
theorem track_made (w : World) (salt : UInt64) : TrackAt ((w.alloc (.map #[] 0)).alloc (.cells (trackC salt w.heap.size fun _ => .slice none 0 0) 68)) (fun k => k = w.heap.size ∨ k = w.heap.size + 1) (w.heap.size + 1) none (TS.new salt) w.heap.size (fun _ => none) (fun _ => .slice none 0 0) where
  head := by
    have := heap_alloc_new (w.alloc (.map #[] 0)) (.cells (trackC salt w.heap.size fun _ => .slice none 0 0) 68)
    simp only [World.size_alloc] at this
    exact this
  map := tmap_same (tmap_new w) (Below.heap_alloc _ _ _ (by simp)) (fun i hi => by cases hi)
  ents := fun x => .inl ⟨rfl, rfl⟩
  ids := fun p _ => World.ownsRow_nil _ _ _ _
  eapart := fun x y u v g h => by cases h
  papart := fun p q g _ _ h => by cases h
  fR := .inr rfl
  fb := .inl rfl
  fe := fun x v g h => by cases h
  fp := fun p g _ h => by cases h
  there := fun k hk => by simp; omega
  out := fun i hi => by cases hi
/-- A tracker that is new since the world w. -/
def NewAt (w w' : World) (R : Nat) (salt : UInt64) : Prop := ∃ F b ev pv, TrackAt w' F R none (TS.new salt) b ev pv ∧ (∀ k, F k → w.heap.size ≤ k) ∧ Below w.heap.size w w'
theorem new_any (salt : UInt64) (w : World) : Calls Try.prog 12 #[.int .u64 salt.toNat] w fun e w' => ∃ R, e = .returned (.pointer (some ⟨R, 0, none⟩)) ∧ NewAt w w' R salt := by
  have hmm := @run_makeMap Try.prog
  have HM := Lib.hid (track_made w salt)
  go_enter Try.func12, Try.ntmps12
  go_wp2
  go_ret
  exact ⟨w.heap.size + 1, rfl, _, _, _, _, HM.out, fun k hk => by omega, kept_alloc (kept_new _ _) _⟩

theorem ask_arg (p t : Int) (h : ¬ (0 ≤ p ∧ p < 8) ∨ ¬ goodT t) (x : UInt64) (w : World) :
    Calls Try.prog 26 #[.pointer (some ⟨R, 0, none⟩), .int .i64 p, .int .u64 x.toNat, .int .i64 t] w fun e w' => e = .returned (.int .i64 1) ∧ w = w' := by
  by_cases hp : 0 ≤ p ∧ p < 8
  · have ht : ¬ goodT t := h.resolve_left (fun hn => hn hp)
    obtain ⟨n, rfl⟩ : ∃ n : Nat, p = n := ⟨p.toNat, by omega⟩
    have hn8 : n < 8 := by omega
    have HT := Lib.hid ht
    clear h ht hp
    go_enter Try.func26, Try.ntmps26
    go_wp2_with fail
    with_reducible refine (isPeer_yes n n rfl hn8 _).mono ?_
    rintro e w1 ⟨rfl, rfl⟩
    go_wp2_with fail
    with_reducible refine (isTime_no t HT.out _).mono ?_
    rintro e w1 ⟨rfl, rfl⟩
    go_wp2_with fail
    go_ret
    exact ⟨rfl, rfl⟩
  · have HP := Lib.hid hp
    clear h hp
    go_enter Try.func26, Try.ntmps26
    go_wp2_with fail
    with_reducible refine (isPeer_no p HP.out _).mono ?_
    rintro e w1 ⟨rfl, rfl⟩
    go_wp2_with fail
    go_ret
    exact ⟨rfl, rfl⟩
/-- Ask, where its arguments are in their bounds. -/
def TS.ask (s : TS) (p : Nat) (x : UInt64) (t : Int) : Int × TS :=
  match (s.ents x).findIdx? (fun e => e.peer == p) with
  | none => (5, s)
  | some i => match (s.ents x)[i]? with
    | none => (5, s)
    | some e => if e.st = 1 ∧ (s.ents x).findIdx? (fun e => e.st == 2) = none then (0, { s with E := upd s.E x (some ((s.ents x).set i { e with st := 2, till := t })) }) else (7, s)
/-- What a pointer that was found points to. -/
theorem found_own (h : TrackAt w F R it s b ev pv) {x : UInt64} {q : TEnt → Bool} {g n cap i : Nat} (he : ev x = some (.slice (some ⟨g, 0, none⟩) n cap)) (hi : (s.ents x).findIdx? q = some i) :
    ∃ hi : i < (s.ents x).length, (s.ents x).length = n ∧ OwnEnts w (.slice (some ⟨g, 0, none⟩) n cap) (s.ents x) ∧ q (s.ents x)[i] = true ∧ s.E x = some (s.ents x) := by
  obtain ⟨l, hE, ho⟩ := h.row he
  have hl : s.ents x = l := by unfold TS.ents; rw [hE]; rfl
  obtain ⟨h1, h2, _⟩ := List.findIdx?_eq_some_iff_getElem.1 hi
  rw [← hl] at hE ho
  obtain ⟨a, c, e, _, _⟩ := ownEnts_form ho
  simp only [Value.slice.injEq] at e
  exact ⟨h1, e.2.1.symm, ho, h2, hE⟩
theorem ask_any (p : Nat) (hp : p < 8) (x : UInt64) (t : Int) (ht : goodT t) (w : World) (h : TrackAt w F R it s b ev pv) (hf : s.Fine) :
    Calls Try.prog 26 #[.pointer (some ⟨R, 0, none⟩), .int .i64 p, .int .u64 x.toNat, .int .i64 t] w fun e w' => e = .returned (.int .i64 (s.ask p x t).1) ∧ TrackAt w' F R it (s.ask p x t).2 b ev pv ∧ Turn F F w w' := by
  have H := Lib.hid h
  have HF := Lib.hid hf
  have HT := Lib.hid ht
  clear h hf ht
  go_enter Try.func26, Try.ntmps26
  go_wp2_with fail
  with_reducible refine (isPeer_yes p p rfl hp _).mono ?_
  rintro e w1 ⟨rfl, rfl⟩
  go_wp2_with fail
  with_reducible refine (isTime_yes t HT.out _).mono ?_
  rintro e w1 ⟨rfl, rfl⟩
  go_wp2_with fail
  with_reducible refine (held_any p x _ H.out HF.out).mono ?_
  rintro e w1 ⟨r, rfl, hr, hb1⟩
  rcases hr with ⟨rfl, hr⟩ | ⟨g, n, cap, i, he, rfl, hr⟩
  · have HS : Hid (s.ask p x t = (5, s)) := Lib.hid (by unfold TS.ask; rw [hr])
    clear hr
    go_wp2_with fail
    go_ret
    rw [HS.out]
    exact ⟨rfl, H.out.kept hb1, Turn.of_below hb1⟩
  · obtain ⟨hi, hn, ho, hq, hE⟩ := found_own (H.out.kept hb1) he hr
    obtain ⟨⟨_, _, _, c3, c4⟩, hfr, hg⟩ := ownEnts_some ho i hi
    have hget : (s.ents x)[i]? = some (s.ents x)[i] := List.getElem?_eq_getElem hi
    have HE := Lib.hid he
    by_cases hst : (s.ents x)[i].st = 1
    · have e1 : (((s.ents x)[i].st : Int) != 1) = false := by simp [bne, hst]
      have HS0 : Hid (s.ask p x t = if (s.ents x).findIdx? (fun e => e.st == 2) = none then (0, { s with E := upd s.E x (some ((s.ents x).set i { (s.ents x)[i] with st := 2, till := t })) }) else (7, s)) := Lib.hid (by
        unfold TS.ask; simp only [hr, hget, hst, true_and])
      have HO := Lib.hid ho
      have HN := Lib.hid hn
      rw [hst] at c3
      clear hr he hq hfr c4 hn hst hE ho hget e1
      go_wp2_with fail
      with_reducible refine (flight_any x _ (H.out.kept hb1) HF.out).mono ?_
      rintro e w2 ⟨r, rfl, hr, hb2⟩
      rcases hr with ⟨rfl, hr⟩ | ⟨g', n', cap', i', he', rfl, hr⟩
      · have HS := HS0.out
        rw [if_pos hr] at HS
        have HS := Lib.hid HS
        have ho2 := owns_below HO.out hb2
        obtain ⟨⟨_, _, _, d3, d4⟩, hfr2, hg2⟩ := ownEnts_some ho2 i hi
        have f3 := hfr2 (i * 5 + 3)
        have f4 := hfr2 (i * 5 + 4)
        have HEND : Hid (TrackAt ((w2.setCell ⟨g, i * 5 + 3, none⟩ (.int .i64 (2 : Nat))).setCell ⟨g, i * 5 + 4, none⟩ (.int .i64 t)) F R it { s with E := upd s.E x (some ((s.ents x).set i { (s.ents x)[i] with st := 2, till := t })) } b ev pv ∧ Turn F F w ((w2.setCell ⟨g, i * 5 + 3, none⟩ (.int .i64 (2 : Nat))).setCell ⟨g, i * 5 + 4, none⟩ (.int .i64 t))) := Lib.hid (by
          obtain ⟨q1, q2⟩ := st_stored ho2 HN.out i hi 2
          obtain ⟨q3, q4⟩ := till_stored q1 (by simpa using HN.out) i (by simpa using hi) t
          obtain ⟨q5, q6⟩ := (H.out.kept (kept_trans hb1 hb2)).setEnts HE.out rfl (q2.trans q4) q3
          refine ⟨?_, (Turn.of_below (kept_trans hb1 hb2)).trans q6⟩
          simp only [List.set_set, List.getElem_set_self] at q5
          exact q5)
        clear hr ho2 hfr2
        go_wp2_with fail
        go_ret
        rw [HS.out]
        exact ⟨rfl, HEND.out⟩
      · have HS := HS0.out
        rw [if_neg (by rw [hr]; simp)] at HS
        have HS := Lib.hid HS
        clear hr he'
        go_wp2_with fail
        go_ret
        rw [HS.out]
        exact ⟨rfl, H.out.kept (kept_trans hb1 hb2), Turn.of_below (kept_trans hb1 hb2)⟩
    · have e1 : (((s.ents x)[i].st : Int) != 1) = true := by simp only [bne, Bool.not_eq_true', beq_eq_false_iff_ne]; omega
      have HS : Hid (s.ask p x t = (7, s)) := Lib.hid (by unfold TS.ask; simp only [hr, hget, hst, false_and, if_false])
      clear hr he hq hfr c4 hn hst hE ho hget
      go_wp2_with fail
      go_ret
      rw [HS.out]
      exact ⟨rfl, H.out.kept hb1, Turn.of_below hb1⟩
end Go.Proofs.Ytamiddnkgjfdhaa
