/-
  The contract of Due: it ranges over the map, in whatever order.
-/
import Derived.Test.YtamiddnkgjfdhaaTrackW3
namespace Go.Proofs.Ytamiddnkgjfdhaa
open Go.RowKit Go.Maps

variable {w : World} {F : Nat → Prop} {R : Nat} {it : Option It} {s : TS} {b : Nat} {ev : UInt64 → Option Value} {pv : Nat → Value}

/-- All entries of an ID are done behind a time. -/
def TS.gone (s : TS) (now : Int) (y : UInt64) : Bool := (s.ents y).all fun e => (dueE now e).st == 3
/-- What a time makes of a tracker, but for the IDs that are to come. -/
def TS.part (s : TS) (now : Int) (lf : UInt64 → Bool) : TS where
  salt := s.salt
  E := fun x => if lf x then s.E x else if s.gone now x then none else (s.E x).map (List.map (dueE now))
  I := fun p => (s.I p).filter fun y => lf y || !s.gone now y
def TS.due (s : TS) (now : Int) : TS := s.part now fun _ => false
/-- Where a peer has an ID, the ID has an entry of the peer. -/
def TS.Linked (s : TS) : Prop := ∀ p, p < 8 → ∀ y ∈ s.I p, ∃ e ∈ s.ents y, e.peer = p
theorem dueE_peer (now : Int) (e : TEnt) : (dueE now e).peer = e.peer := by unfold dueE; split <;> (try split) <;> (try split) <;> rfl
theorem part_ents {now : Int} {lf : UInt64 → Bool} (x : UInt64) : (s.part now lf).ents x = if lf x then s.ents x else if s.gone now x then [] else (s.ents x).map (dueE now) := by
  show Option.getD (if lf x then s.E x else if s.gone now x then none else (s.E x).map (List.map (dueE now))) [] = _
  split
  · rfl
  · split
    · rfl
    · unfold TS.ents
      cases s.E x <;> rfl
theorem part_fine (hf : s.Fine) (now : Int) (lf : UInt64 → Bool) : (s.part now lf).Fine := by
  refine ⟨fun x => ?_, fun p hp => Nat.le_trans (List.length_filter_le _ _) (hf.2 p hp)⟩
  rw [part_ents]
  obtain ⟨h1, h2⟩ := hf.1 x
  split
  · exact ⟨h1, h2⟩
  · split
    · exact ⟨by simp, fun e he => by simp at he⟩
    · refine ⟨by simpa using h1, fun e he => ?_⟩
      obtain ⟨e', he', rfl⟩ := List.mem_map.1 he
      rw [dueE_peer]
      exact h2 e' he'
theorem upd_fine (hf : s.Fine) {x : UInt64} {l : List TEnt} (h1 : l.length ≤ 8) (h2 : ∀ e ∈ l, e.peer < 8) : TS.Fine { s with E := upd s.E x (some l) } := by
  refine ⟨fun y => ?_, hf.2⟩
  by_cases hy : y = x
  · have : TS.ents { s with E := upd s.E x (some l) } y = l := by show Option.getD (upd s.E x (some l) y) [] = _; rw [hy, upd_same]; rfl
    rw [this]
    exact ⟨h1, h2⟩
  · have : TS.ents { s with E := upd s.E x (some l) } y = s.ents y := by show Option.getD (upd s.E x (some l) y) [] = _; rw [upd_other _ _ hy]; rfl
    rw [this]
    exact hf.1 y
theorem cutIds_at {x : UInt64} {p : Nat} : ∀ {l : List TEnt} {I : Nat → List UInt64}, (x ∈ I p → ∃ e ∈ l, e.peer = p) → cutIds x I l p = (I p).filter fun y => !(y == x)
  | [], I, h => by
    show I p = _
    rw [List.filter_eq_self.2]
    intro y hy
    have : y ≠ x := fun e => by obtain ⟨_, he, _⟩ := h (e ▸ hy); simp at he
    simpa using this
  | a :: r, I, h => by
    show cutIds x (upd I a.peer _) r p = _
    by_cases hp : p = a.peer
    · subst hp
      rw [cutIds_at (l := r), upd_same, List.filter_filter]
      · congr 1
        funext y
        simp
      · intro hx
        rw [upd_same] at hx
        simp at hx
    · rw [cutIds_at (l := r), upd_other _ _ hp]
      intro hx
      rw [upd_other _ _ hp] at hx
      obtain ⟨e, he, hep⟩ := h hx
      rcases List.mem_cons.1 he with rfl | he
      · exact absurd hep.symm hp
      · exact ⟨e, he, hep⟩
/-- One ID more: its entries are due, then they go or stay. -/
theorem part_step (hl : s.Linked) {now : Int} {lf lf' : UInt64 → Bool} {x : UInt64} {l : List TEnt} (hx : lf x = true) (hlf : ∀ y, lf' y = (lf y && !(y == x))) (hE : s.E x = some l) :
    (∀ y, (TS.settle { s.part now lf with E := upd (s.part now lf).E x (some (l.map (dueE now))) } x).E y = (s.part now lf').E y) ∧ ∀ p, p < 8 → (TS.settle { s.part now lf with E := upd (s.part now lf).E x (some (l.map (dueE now))) } x).I p = (s.part now lf').I p := by
  have hents : TS.ents { s.part now lf with E := upd (s.part now lf).E x (some (l.map (dueE now))) } x = l.map (dueE now) := by show Option.getD (upd _ x _ x) [] = _; rw [upd_same]; rfl
  have hse : s.ents x = l := by unfold TS.ents; rw [hE]; rfl
  have hall : (l.map (dueE now)).all (fun e => e.st == 3) = s.gone now x := by unfold TS.gone; rw [hse, List.all_map]; rfl
  have hlx : lf' x = false := by rw [hlf]; simp
  have hoth : ∀ y, y ≠ x → lf' y = lf y := fun y hy => by rw [hlf]; simp [hy]
  unfold TS.settle
  rw [hents, hall]
  cases hg : s.gone now x with
  | true =>
    rw [if_pos rfl]
    refine ⟨fun y => ?_, fun p hp => ?_⟩
    · show upd (upd (s.part now lf).E x _) x none y = _
      by_cases hy : y = x
      · subst hy
        rw [upd_same]
        show _ = if lf' y then _ else if s.gone now y then none else _
        rw [hlx, hg]
        rfl
      · rw [upd_other _ _ hy, upd_other _ _ hy]
        show (if lf y then _ else _) = if lf' y then _ else _
        rw [hoth y hy]
    · show cutIds x (s.part now lf).I (TS.ents _ x) p = _
      rw [hents, cutIds_at]
      · show ((s.I p).filter _).filter _ = (s.I p).filter _
        rw [List.filter_filter]
        refine List.filter_congr fun y _ => ?_
        by_cases hy : y = x
        · subst hy
          rw [hlx, hg]
          simp
        · rw [hoth y hy]
          simp [hy]
      · intro hm
        have hm' : x ∈ s.I p := (List.mem_filter.1 hm).1
        obtain ⟨e, he, hep⟩ := hl p hp x hm'
        rw [hse] at he
        exact ⟨dueE now e, List.mem_map.2 ⟨e, he, rfl⟩, by rw [dueE_peer]; exact hep⟩
  | false =>
    rw [if_neg (by decide)]
    refine ⟨fun y => ?_, fun p _ => ?_⟩
    · show upd (s.part now lf).E x _ y = _
      by_cases hy : y = x
      · subst hy
        rw [upd_same]
        show _ = if lf' y then _ else if s.gone now y then none else _
        rw [hlx, hg, hE]
        rfl
      · rw [upd_other _ _ hy]
        show (if lf y then _ else _) = if lf' y then _ else _
        rw [hoth y hy]
    · show (s.I p).filter _ = (s.I p).filter _
      refine List.filter_congr fun y _ => ?_
      by_cases hy : y = x
      · subst hy
        rw [hlx, hg, hx]
        rfl
      · rw [hoth y hy]
theorem part_start (hl : s.Linked) {now : Int} {lf : UInt64 → Bool} (h : ∀ x, lf x = (s.E x).isSome) : (∀ y, s.E y = (s.part now lf).E y) ∧ ∀ p, p < 8 → s.I p = (s.part now lf).I p := by
  refine ⟨fun y => ?_, fun p hp => ?_⟩
  · show _ = if lf y then s.E y else if s.gone now y then none else (s.E y).map _
    cases hy : s.E y with
    | some l => rw [h, hy]; rfl
    | none => rw [h, hy]; simp
  · show _ = (s.I p).filter _
    rw [List.filter_eq_self.2]
    intro y hy
    obtain ⟨e, he, _⟩ := hl p hp y hy
    have : (s.E y).isSome = true := by
      cases hE : s.E y with
      | some l => rfl
      | none => unfold TS.ents at he; rw [hE] at he; simp at he
    rw [h, this]
    rfl
/-- The entries of an ID on the way. -/
def dueK (now : Int) (l : List TEnt) (k : Nat) : List TEnt := (l.take k).map (dueE now) ++ l.drop k
theorem dueK_length (now : Int) (l : List TEnt) (k : Nat) : (dueK now l k).length = l.length := by unfold dueK; simp; omega
theorem dueK_at (now : Int) (l : List TEnt) (k : Nat) (h : k < l.length) : (dueK now l k)[k]'(by rw [dueK_length]; exact h) = l[k] := by
  unfold dueK
  rw [List.getElem_append_right (by simp; omega)]
  simp [Nat.min_eq_left (Nat.le_of_lt h)]
theorem dueK_step (now : Int) (l : List TEnt) (k : Nat) (h : k < l.length) : (dueK now l k).set k (dueE now l[k]) = dueK now l (k + 1) := by
  unfold dueK
  rw [List.set_append_right _ _ (by simp; omega), List.take_succ_eq_append_getElem h, List.map_append, List.append_assoc]
  congr 1
  simp only [List.length_map, List.length_take, Nat.min_eq_left (Nat.le_of_lt h), Nat.sub_self]
  rw [List.drop_eq_getElem_cons h]
  rfl
theorem dueK_end (now : Int) (l : List TEnt) (k : Nat) (h : l.length ≤ k) : dueK now l k = l.map (dueE now) := by unfold dueK; rw [List.take_of_length_le h, List.drop_eq_nil_of_le h, List.append_nil]
theorem dueK_peer {now : Int} {l : List TEnt} {k : Nat} (h : ∀ e ∈ l, e.peer < 8) : ∀ e ∈ dueK now l k, e.peer < 8 := fun e he => by
  rcases List.mem_append.1 he with he | he
  · obtain ⟨e', he', rfl⟩ := List.mem_map.1 he
    rw [dueE_peer]
    exact h e' (List.mem_of_mem_take he')
  · exact h e (List.mem_of_mem_drop he)

set_option maxRecDepth 20000 in
set_option maxHeartbeats 1600000 in
theorem due_all (now : Int) (w : World) (h : TrackAt w F R none s b ev pv) (hf : s.Fine) (hl : s.Linked) :
    Calls Try.prog 30 #[.pointer (some ⟨R, 0, none⟩), .int .i64 now] w fun e w' => e = .returned (.tuple #[]) ∧ ∃ F' ev' pv', TrackAt w' F' R none (s.due now) b ev' pv' ∧ Turn F F' w w' := by
  have hmc := h.mapc
  have hlt := h.lt
  obtain ⟨D, ⟨n, hown⟩, hat, hhas⟩ := h.map
  have HAT := Lib.hid (And.intro hat hhas)
  have H := Lib.hid h
  have HF := Lib.hid hf
  have HL := Lib.hid hl
  clear h hf hl hat hhas
  go_enter Try.func30, Try.ntmps30
  go_wp2_with (first
    | (at_range; refine wpList_range_own _ rfl _ 65 rfl 22 70 u64_keyed Try.underlying65 _ b n D rfl hown ?_; intro w0 hrg0 hg0 hs0)
    | go_in)
  try go_frame
  have hb0 : Below w.heap.size w w0 := (Below.refl _ _).grown hg0 (Nat.le_refl _) (fun j hj => by cases hj)
  have HR0 : Hid (TrackAt w0 F R (some ⟨w.heap.size, Maps.has D, Maps.size D⟩) s b ev pv) := Lib.hid (by
    have hk := H.out.kept hb0
    exact ⟨hk.head, ⟨D, ⟨n, hrg0⟩, HAT.out.1, HAT.out.2⟩, hk.ents, hk.ids, hk.eapart, hk.papart, hk.fR, hk.fb, hk.fe, hk.fp, hk.there, fun i hi => by
      cases hi
      exact ⟨fun hF => absurd (H.out.there w.heap.size hF) (Nat.lt_irrefl _), by show w.heap.size < _; omega⟩⟩)
  clear hrg0 hg0 hs0 hown
  go_loopw [4] (fun _ wr => ∃ (F' : Nat → Prop) (left : Lit → Bool) (cnt : Nat) (ev' : UInt64 → Option Value) (pv' : Nat → Value), Hid (TrackAt wr F' R (some ⟨w.heap.size, left, cnt⟩) (s.part now fun y => left (.int .u64 y.toNat)) b ev' pv') ∧ Hid (Turn F F' w wr))
    (fun _ wr => wr.rangeLeft b w.heap.size)
  case atStart =>
    obtain ⟨q1, q2⟩ := part_start HL.out (now := now) (lf := fun y => Maps.has D (.int .u64 y.toNat)) (fun x => by
      rw [HAT.out.2 x]
      rcases H.out.ents x with ⟨h1, h2⟩ | ⟨v, l, h1, h2, _⟩
      · rw [h1, h2]; rfl
      · rw [h1, h2]; rfl)
    exact ⟨F, _, _, ev, pv, Lib.hid (HR0.out.as rfl q1 q2), Lib.hid (Turn.of_below hb0)⟩
  case round =>
    obtain ⟨F', left, cnt, ev', pv', HT, HU⟩ := hrel
    have hm := HT.out.map
    go_wp2_with (first
      | (at_next; refine next_tmap _ rfl _ rfl rfl b w.heap.size left cnt ev' rfl hm ?_ ?_)
      | go_in)
    · intro hc0 hl0
      have e0 : (fun y : UInt64 => left (.int .u64 y.toNat)) = fun _ => false := funext fun y => hl0 _
      have HE : Hid (∃ F' ev' pv', TrackAt wr F' R none (s.due now) b ev' pv' ∧ Turn F F' w wr) := Lib.hid ⟨F', ev', pv', by unfold TS.due; rw [← e0]; exact HT.out.ended, HU.out⟩
      clear hm hc0 hl0 e0
      go_wp2
      go_end0
      exact ⟨rfl, HE.out⟩
    · intro x v w1 cnt1 hlx hvx hm1 hlt1 hg1 hs1 hen
      have hrlt := (HT.out.out _ rfl).2
      have H1 := HT.out.stepped hm1 hg1
      have HU1 : Hid (Turn F F' w w1) := Lib.hid (by
        refine ⟨hg1.os.trans HU.out.os, hg1.tape.trans HU.out.tape, hg1.output.trans HU.out.output, Nat.le_trans HU.out.size hg1.size, fun k hk hn => (hg1.block k (Nat.lt_of_lt_of_le hk HU.out.size) (fun e => by cases e; omega)).trans (HU.out.block k hk hn), HU.out.own⟩)
      obtain ⟨l, hE, hown⟩ := H1.row hvx
      obtain ⟨a, cp, rfl, hcp, _⟩ := ownEnts_form hown
      have hEs : s.E x = some l := by
        have : (s.part now fun y => left (.int .u64 y.toNat)).E x = s.E x := if_pos hlx
        rw [← this]; exact hE
      have hse : s.ents x = l := by unfold TS.ents; rw [hEs]; rfl
      obtain ⟨hl8, hp8⟩ := HF.out.1 x
      rw [hse] at hl8 hp8
      have HP8 := Lib.hid hp8
      have HES := Lib.hid hEs
      have HLX := Lib.hid hlx
      have HLT := Lib.hid hlt1
      have HVX := Lib.hid hvx
      have HM := Lib.hid (tmap_left hm)
      have H2 : Hid (TrackAt w1 F' R (some ⟨w.heap.size, fun z => left z && !z.sameKey (.int .u64 x.toNat), cnt1⟩) { s.part now (fun y => left (.int .u64 y.toNat)) with E := upd (s.part now fun y => left (.int .u64 y.toNat)).E x (some (dueK now l 0)) } b ev' pv') := Lib.hid (H1.as rfl (fun y => by
        show _ = upd _ x _ y
        by_cases hy : y = x
        · subst hy; rw [upd_same]; exact hE
        · rw [upd_other _ _ hy]) (fun _ _ => rfl))
      clear hm hlx hvx hm1 hlt1 hg1 H1 hE hown hEs hse hp8
      go_wp2_with fail
      obtain ⟨wB, hwB⟩ : ∃ x, x = wr := ⟨_, rfl⟩
      subst hwB
      go_loopw [19] (fun i wr => ∃ k : Nat, k ≤ l.length ∧ i = .int .i64 k ∧ Hid (TrackAt wr F' R (some ⟨w.heap.size, fun z => left z && !z.sameKey (.int .u64 x.toNat), cnt1⟩) { s.part now (fun y => left (.int .u64 y.toNat)) with E := upd (s.part now fun y => left (.int .u64 y.toNat)).E x (some (dueK now l k)) } b ev' pv') ∧ Hid (Turn F F' w wr)) (fun i _ => l.length - (intOf i).toNat)
      case atStart => exact ⟨0, Nat.zero_le _, rfl, H2, HU1⟩
      case round =>
        obtain ⟨k, hk, rfl, HK, HUK⟩ := hrel
        by_cases hkl : k < l.length
        · obtain ⟨l', hE', hown'⟩ := HK.out.row HVX.out
          have hl' : dueK now l k = l' := by
            have : upd (s.part now fun y => left (.int .u64 y.toNat)).E x (some (dueK now l k)) x = some l' := hE'
            rw [upd_same] at this
            exact Option.some.inj this
          subst hl'
          obtain ⟨g, cap', hform, _⟩ := hown'.form (by rw [dueK_length]; omega)
          simp only [Value.slice.injEq] at hform
          obtain ⟨rfl, hjunk, rfl⟩ := hform
          clear hjunk
          have hown2 : OwnEnts wr (.slice (some ⟨g, 0, none⟩) l.length cp) (dueK now l k) := hown'
          have HO := Lib.hid hown2
          have hklK : k < (dueK now l k).length := by rw [dueK_length]; exact hkl
          clear hE' hown' hown2
          go_wp2_with fail
          with_reducible refine (due_any now g cp l.length (dueK now l k) (dueK_length _ _ _) k hklK _ HO.out).mono ?_
          rintro e w2 ⟨rfl, ho2, ht2⟩
          have HO2 := Lib.hid ho2
          have HT2 := Lib.hid ht2
          clear ho2 ht2
          go_wp2_with fail
          go_roundw
          case rel =>
            have h3 := HO2.out
            simp only [dueK_at now l k hkl, dueK_step now l k hkl] at h3
            obtain ⟨r1, r2⟩ := HK.out.setEnts HVX.out rfl HT2.out h3
            refine ⟨k + 1, by omega, by go_num, Lib.hid (r1.as rfl (fun y => ?_) (fun _ _ => rfl)), Lib.hid (HUK.out.trans r2)⟩
            show upd (upd _ x _) x _ y = upd _ x _ y
            by_cases hy : y = x
            · subst hy; rw [upd_same, upd_same]
            · rw [upd_other _ _ hy, upd_other _ _ hy, upd_other _ _ hy]
          case measure => simp [intOf]; omega
        · have h4 := HK.out
          rw [dueK_end now l k (by omega)] at h4
          have H4 := Lib.hid h4
          clear h4
          go_wp2_with fail
          with_reducible refine (settle_any x _ H4.out (upd_fine (part_fine HF.out now _) (by simpa using hl8) (fun e he => by
            obtain ⟨e', he', rfl⟩ := List.mem_map.1 he
            rw [dueE_peer]
            exact HP8.out e' he'))).mono ?_
          rintro e w5 ⟨rfl, F5, it5, ev5, pv5, hit, h5, t5, _⟩
          have HE5 : Hid (∃ (left5 : Lit → Bool) (cnt5 : Nat), cnt5 < cnt ∧ TrackAt w5 F5 R (some ⟨w.heap.size, left5, cnt5⟩) (s.part now fun y => left5 (.int .u64 y.toNat)) b ev5 pv5) := Lib.hid (by
            have q := fun (lf' : UInt64 → Bool) hq => part_step (s := s) (now := now) (lf := fun y => left (.int .u64 y.toNat)) (lf' := lf') HL.out HLX.out hq HES.out
            rcases hit with rfl | ⟨n5, hn5, rfl⟩
            · refine ⟨fun z => left z && !z.sameKey (.int .u64 x.toNat), cnt1, HLT.out, ?_⟩
              obtain ⟨q1, q2⟩ := q (fun y => left (.int .u64 y.toNat) && !(Lit.int .u64 y.toNat).sameKey (.int .u64 x.toNat)) (fun y => by rw [same_lit])
              exact h5.as (by unfold TS.settle; split <;> rfl) q1 q2
            · have := hn5 _ rfl
              refine ⟨fun z => (left z && !z.sameKey (.int .u64 x.toNat)) && !z.sameKey (.int .u64 x.toNat), n5, Nat.lt_of_le_of_lt this HLT.out, ?_⟩
              obtain ⟨q1, q2⟩ := q (fun y => (left (.int .u64 y.toNat) && !(Lit.int .u64 y.toNat).sameKey (.int .u64 x.toNat)) && !(Lit.int .u64 y.toNat).sameKey (.int .u64 x.toNat)) (fun y => by rw [same_lit]; cases left (.int .u64 y.toNat) <;> cases (y == x) <;> rfl)
              exact h5.as (by unfold TS.settle; split <;> rfl) q1 q2)
          have T5 := Lib.hid t5
          clear hit h5 t5
          go_wp2_with fail
          obtain ⟨left5, cnt5, hc5, h5⟩ := HE5.out
          go_roundw
          case rel => exact ⟨F5, left5, cnt5, ev5, pv5, Lib.hid h5, Lib.hid (HUK.out.trans T5.out)⟩
          case measure =>
            rw [tmap_left h5.map, HM.out]
            exact hc5
end Go.Proofs.Ytamiddnkgjfdhaa
