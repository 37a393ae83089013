/-
  A slice is put into the map; the contract of Drop.
-/
import Derived.Test.YtamiddnkgjfdhaaTrackW6
namespace Go.Proofs.Ytamiddnkgjfdhaa
open Go.RowKit Go.Maps

variable {w w' : World} {F : Nat → Prop} {R : Nat} {it : Option It} {s : TS} {b : Nat} {ev : UInt64 → Option Value} {pv : Nat → Value}

/-- There are not too many IDs. -/
def TS.Small (s : TS) : Prop := ∃ ks : List UInt64, ks.length ≤ 1000 ∧ ∀ x, (s.E x).isSome = true → x ∈ ks
theorem TrackAt.put (h : TrackAt w F R none s b ev pv) (hs : s.Small) {x : UInt64} {v : Value} {l : List TEnt} {G : Nat → Prop} (hG : ∀ k, G k → ∃ u, ev x = some u ∧ u.ownBlock = some k) (ht : Turn G G w w') (ho : OwnEnts w' v l) (hv : ∀ k, v.ownBlock = some k → (∃ u, ev x = some u ∧ u.ownBlock = some k) ∨ w.heap.size ≤ k) :
    ∃ w2, (Instr.mapUpdate 65 (.map (some b)) (.int .u64 x.toNat) v).run Try.prog w' = .ok () w2 ∧ TrackAt w2 (fun k => F k ∨ v.ownBlock = some k) R none { s with E := upd s.E x (some l) } b (upd ev x (some v)) pv ∧ Turn F (fun k => F k ∨ v.ownBlock = some k) w w2 := by
  have hGF : ∀ k, G k → F k := fun k hk => by obtain ⟨u, h1, h2⟩ := hG k hk; exact h.fe x u k h1 h2
  have hGR : ¬ G R := fun hk => by obtain ⟨u, h1, h2⟩ := hG R hk; exact (h.e_ne h1 h2).1 rfl
  have hGb : ¬ G b := fun hk => by obtain ⟨u, h1, h2⟩ := hG b hk; exact (h.e_ne h1 h2).2.1 rfl
  have hm1 : TMap w' b none ev := tmap_same h.map (ht.block b (h.there b h.fb) hGb) (fun i hi => by cases hi)
  obtain ⟨ks, hkl, hks⟩ := hs
  obtain ⟨w2, hrun, hm2, ht2⟩ := tmap_put hm1 ks (fun y hy => hks y (by
    rcases h.ents y with ⟨h1, h2⟩ | ⟨u, m, h1, h2, _⟩
    · rw [h1] at hy; cases hy
    · rw [h2]; rfl)) hkl x v
  have hold : ∀ k, k < w.heap.size → k ≠ b → ¬ G k → w2.heap[k]? = w.heap[k]? := fun k hk hkb hn => (ht2.block k (Nat.lt_of_lt_of_le hk ht.size) hkb).trans (ht.block k hk hn)
  have hvb : ∀ k, v.ownBlock = some k → k ≠ b := fun k hk => (hv k hk).elim (fun ⟨u, h1, h2⟩ => (h.e_ne h1 h2).2.1) (fun hle e => by have := h.there b h.fb; omega)
  refine ⟨w2, hrun, ⟨?_, hm2, fun y => ?_, fun p hp => own_same (h.ids p hp) fun g hg => hold g (h.there g (h.fp p g hp hg)) (h.p_ne hp hg).2.1 (fun hk => by obtain ⟨u, h1, h2⟩ := hG g hk; exact (h.p_ne hp hg).2.2 x u h1 h2), fun y z u t g h1 h2 h3 h4 => ?_, h.papart, .inl h.fR, .inl h.fb, fun y u g h1 h2 => ?_, fun p g hp hg => .inl (h.fp p g hp hg), fun k hk => ?_, fun i hi => by cases hi⟩, ?_⟩
  · exact (hold R h.lt h.R_ne hGR).trans h.head
  · by_cases hy : y = x
    · subst hy
      exact .inr ⟨v, l, upd_same _ _ _, upd_same _ _ _, own_turn ho ht2 (fun g hg e => hvb g hg e)⟩
    · rcases h.ents y with ⟨h1, h2⟩ | ⟨u, m, h1, h2, h3⟩
      · exact .inl ⟨(upd_other _ _ hy).trans h1, (upd_other _ _ hy).trans h2⟩
      · exact .inr ⟨u, m, (upd_other _ _ hy).trans h1, (upd_other _ _ hy).trans h2, own_same h3 fun g hg => hold g (h.there g (h.fe y u g h1 hg)) (h.e_ne h1 hg).2.1 (fun hk => by obtain ⟨t, t1, t2⟩ := hG g hk; exact hy (h.eapart y x u t g h1 t1 hg t2))⟩
  · have key : ∀ y u g, y ≠ x → upd ev x (some v) y = some u → u.ownBlock = some g → v.ownBlock ≠ some g := fun y u g hy h1 h2 h3 => by
      rw [upd_other _ _ hy] at h1
      exact (hv g h3).elim (fun ⟨t, t1, t2⟩ => hy (h.eapart y x u t g h1 t1 h2 t2)) (fun hle => by have := h.there g (h.fe y u g h1 h2); omega)
    by_cases hy : y = x
    · by_cases hz : z = x
      · rw [hy, hz]
      · rw [hy, upd_same] at h1
        cases h1
        exact absurd h3 (key z t g hz h2 h4)
    · by_cases hz : z = x
      · rw [hz, upd_same] at h2
        cases h2
        exact absurd h4 (key y u g hy h1 h3)
      · rw [upd_other _ _ hy] at h1
        rw [upd_other _ _ hz] at h2
        exact h.eapart y z u t g h1 h2 h3 h4
  · by_cases hy : y = x
    · rw [hy, upd_same] at h1
      cases h1
      exact .inr h2
    · rw [upd_other _ _ hy] at h1
      exact .inl (h.fe y u g h1 h2)
  · refine Nat.lt_of_lt_of_le ?_ ht2.size
    exact hk.elim (fun hf => Nat.lt_of_lt_of_le (h.there k hf) ht.size) (fun e => (ho.lt k e).2)
  · exact ⟨ht2.os.trans ht.os, ht2.tape.trans ht.tape, ht2.output.trans ht.output, Nat.le_trans ht.size ht2.size, fun k hk hn => hold k hk (fun e => hn (by rw [e]; exact h.fb)) (fun hg => hn (hGF k hg)), fun k hk => hk.elim .inl (fun e => (hv k e).elim (fun ⟨u, h1, h2⟩ => .inl (h.fe x u k h1 h2)) .inr)⟩

/-- The entries of an ID but those of one peer. -/
def TS.lone (s : TS) (p : Nat) (y : UInt64) : List TEnt := (s.ents y).filter fun e => !(e.peer == p)
def TS.loneDone (s : TS) (p : Nat) (y : UInt64) : Bool := (s.lone p y).all fun e => e.st == 3
/-- A tracker on the way of Drop: these IDs have been looked at. -/
def TS.dropPart (s : TS) (p : Nat) (xs : List UInt64) : TS where
  salt := s.salt
  E := fun y => if xs.contains y then (if s.loneDone p y then none else some (s.lone p y)) else s.E y
  I := fun q => if q = p then s.I p else (s.I q).filter fun y => !(xs.contains y && s.loneDone p y)
def TS.drop (s : TS) (p : Nat) : TS := { s.dropPart p (s.I p) with I := upd (s.dropPart p (s.I p)).I p [] }
theorem cutIds_none {x : UInt64} {p : Nat} : ∀ {l : List TEnt} {I : Nat → List UInt64}, (∀ e ∈ l, e.peer ≠ p) → cutIds x I l p = I p
  | [], _, _ => rfl
  | a :: r, I, h => by
    show cutIds x (upd I a.peer _) r p = _
    rw [cutIds_none (fun e he => h e (by simp [he])), upd_other _ _ (fun e => h a (by simp) e.symm)]
theorem drop_ents {p : Nat} {xs : List UInt64} {x : UInt64} (hx : xs.contains x = false) : (s.dropPart p xs).E x = s.E x ∧ (s.dropPart p xs).ents x = s.ents x := by
  have h1 : (s.dropPart p xs).E x = s.E x := by
    show (if xs.contains x then _ else _) = _
    rw [hx]
    rfl
  exact ⟨h1, by unfold TS.ents; rw [h1]⟩
theorem contains_snoc (xs : List UInt64) (x y : UInt64) : (xs ++ [x]).contains y = (xs.contains y || y == x) := by
  rw [Bool.eq_iff_iff]
  simp
theorem drop_step (hl : s.Linked) {p : Nat} {xs : List UInt64} {x : UInt64} (hx : xs.contains x = false) :
    (∀ y, (TS.settle { s.dropPart p xs with E := upd (s.dropPart p xs).E x (some (s.lone p x)) } x).E y = (s.dropPart p (xs ++ [x])).E y) ∧ ∀ q, q < 8 → (TS.settle { s.dropPart p xs with E := upd (s.dropPart p xs).E x (some (s.lone p x)) } x).I q = (s.dropPart p (xs ++ [x])).I q := by
  have hents : TS.ents { s.dropPart p xs with E := upd (s.dropPart p xs).E x (some (s.lone p x)) } x = s.lone p x := by show Option.getD (upd _ x _ x) [] = _; rw [upd_same]; rfl
  have hsame : (xs ++ [x]).contains x = true := by rw [contains_snoc]; simp
  have hoth : ∀ y, y ≠ x → (xs ++ [x]).contains y = xs.contains y := fun y hy => by rw [contains_snoc]; simp [hy]
  unfold TS.settle
  rw [hents]
  change (∀ y, (if s.loneDone p x = true then _ else _ : TS).E y = _) ∧ ∀ q, q < 8 → (if s.loneDone p x = true then _ else _ : TS).I q = _
  cases hg : s.loneDone p x with
  | true =>
    rw [if_pos rfl]
    refine ⟨fun y => ?_, fun q hq => ?_⟩
    · show upd (upd (s.dropPart p xs).E x _) x none y = if (xs ++ [x]).contains y then (if s.loneDone p y then none else _) else _
      by_cases hy : y = x
      · subst hy
        rw [upd_same, hsame, hg]
        rfl
      · rw [upd_other _ _ hy, upd_other _ _ hy, hoth y hy]
        rfl
    · show cutIds x (s.dropPart p xs).I (TS.ents _ x) q = if q = p then s.I p else _
      rw [hents]
      by_cases hqp : q = p
      · rw [if_pos hqp, cutIds_none (fun e he => by
          have := (List.mem_filter.1 he).2
          rw [hqp]
          simpa using this)]
        exact if_pos hqp
      · rw [if_neg hqp, cutIds_at]
        · show List.filter _ (if q = p then s.I p else _) = _
          rw [if_neg hqp, List.filter_filter]
          refine List.filter_congr fun y _ => ?_
          by_cases hy : y = x
          · subst hy
            rw [hsame, hg]
            simp
          · rw [hoth y hy]
            simp [hy]
        · intro hm
          have hm : x ∈ (if q = p then s.I p else (s.I q).filter fun y => !(xs.contains y && s.loneDone p y)) := hm
          rw [if_neg hqp] at hm
          obtain ⟨e, he, hep⟩ := hl q hq x (List.mem_filter.1 hm).1
          refine ⟨e, List.mem_filter.2 ⟨he, ?_⟩, hep⟩
          rw [hep]
          simpa using hqp
  | false =>
    rw [if_neg (by decide)]
    refine ⟨fun y => ?_, fun q _ => ?_⟩
    · show upd (s.dropPart p xs).E x _ y = if (xs ++ [x]).contains y then (if s.loneDone p y then none else _) else _
      by_cases hy : y = x
      · subst hy
        rw [upd_same, hsame, hg]
        rfl
      · rw [upd_other _ _ hy, hoth y hy]
        rfl
    · show (if q = p then s.I p else _) = if q = p then s.I p else _
      by_cases hqp : q = p
      · rw [if_pos hqp, if_pos hqp]
      · rw [if_neg hqp, if_neg hqp]
        refine List.filter_congr fun y _ => ?_
        by_cases hy : y = x
        · subst hy
          rw [hsame, hg, hx]
          rfl
        · rw [hoth y hy]
theorem lone_fine (hf : s.Fine) (p : Nat) (y : UInt64) : (s.lone p y).length ≤ 8 ∧ ∀ e ∈ s.lone p y, e.peer < 8 :=
  ⟨Nat.le_trans (List.length_filter_le _ _) (hf.1 y).1, fun e he => (hf.1 y).2 e (List.mem_filter.1 he).1⟩
theorem drop_fine (hf : s.Fine) (p : Nat) (hp : p < 8) (xs : List UInt64) : (s.dropPart p xs).Fine := by
  refine ⟨fun x => ?_, fun q hq => ?_⟩
  · have : (s.dropPart p xs).ents x = if xs.contains x then (if s.loneDone p x then [] else s.lone p x) else s.ents x := by
      show Option.getD (if xs.contains x then (if s.loneDone p x then none else some (s.lone p x)) else s.E x) [] = _
      split
      · split <;> rfl
      · rfl
    rw [this]
    split
    · split
      · exact ⟨by simp, fun e he => by simp at he⟩
      · exact lone_fine hf p x
    · exact hf.1 x
  · show List.length (if q = p then s.I p else _) ≤ 20
    split
    · exact hf.2 p hp
    · exact Nat.le_trans (List.length_filter_le _ _) (hf.2 q hq)
theorem drop_small (hs : s.Small) (hl : s.Linked) (p : Nat) (hp : p < 8) (xs : List UInt64) (hx : ∀ x ∈ xs, x ∈ s.I p) : (s.dropPart p xs).Small := by
  obtain ⟨ks, h1, h2⟩ := hs
  refine ⟨ks, h1, fun y hy => ?_⟩
  have hy : (if xs.contains y then (if s.loneDone p y then none else some (s.lone p y)) else s.E y).isSome = true := hy
  cases hc : xs.contains y with
  | false => rw [hc] at hy; exact h2 y hy
  | true =>
    obtain ⟨e, he, _⟩ := hl p hp y (hx y (List.contains_iff_mem.1 hc))
    refine h2 y ?_
    cases hE : s.E y with
    | some l => rfl
    | none => unfold TS.ents at he; rw [hE] at he; simp at he
/-- The call that takes a peer's entry out of an ID's, and what the store behind it makes of the tracker. -/
theorem drop_call (x : UInt64) (c p : Nat) (w : World) (h : TrackAt w F R none s b ev pv) (hs : s.Small) {g n cap : Nat} (hv : ev x = some (.slice (some ⟨g, 0, none⟩) n cap)) {l : List TEnt} (hE : s.E x = some l) (hl : l.length ≤ 8) (hc : CellIs c (.int .i64 p) w) (hcF : ¬ F c) :
    Calls Try.prog 51 #[.slice (some ⟨g, 0, none⟩) n cap, .func (.func 52) #[] #[.pointer (some ⟨c, 0, none⟩)]] w fun e w' => ∃ m cp, e = .returned (.slice (some ⟨g, 0, none⟩) m cp) ∧ (w'.cell? ⟨R, 1, none⟩ = some (.map (some b)) ∧ R < w'.heap.size) ∧
      ∃ w2, (Instr.mapUpdate 65 (.map (some b)) (.int .u64 x.toNat) (.slice (some ⟨g, 0, none⟩) m cp)).run Try.prog w' = .ok () w2 ∧ TrackAt w2 F R none { s with E := upd s.E x (some (l.filter fun e => !(e.peer == p))) } b (upd ev x (some (.slice (some ⟨g, 0, none⟩) m cp))) pv ∧ Turn F F w w2 := by
  obtain ⟨l', hE', ho⟩ := h.row hv
  obtain rfl : l = l' := Option.some.inj (hE.symm.trans hE')
  obtain ⟨a0, c0, e0, hc0, _⟩ := ownEnts_form ho
  simp only [Value.slice.injEq] at e0
  obtain ⟨_, rfl, _⟩ := e0
  refine (deleteFunc_any (CellIs c (.int .i64 p)) (cellIs_kept _ _) _ _ _ (picks_drop c p) l g cap w hc (fun a j u => cellIs_set _ (fun e => hcF (by rw [e]; exact h.fe x _ g hv rfl)) a j u) hl ho).mono ?_
  rintro e w' ⟨m, cp, rfl, ho', ht⟩
  have hgg : ∀ k, k = g → ∃ u, ev x = some u ∧ u.ownBlock = some k := fun k hk => ⟨_, hv, by rw [hk]; rfl⟩
  obtain ⟨w2, hrun, h2, t2⟩ := h.put hs hgg ht ho' (fun k hk => .inl (hgg k (by simpa [Value.ownBlock] using hk.symm)))
  have hR := ht.block R h.lt (fun e => (h.e_ne hv rfl).1 e.symm)
  have hsub : (fun k => F k ∨ Value.ownBlock (.slice (some ⟨g, 0, none⟩) m cp) = some k) = F := by
    funext k
    refine propext ⟨fun hk => hk.elim id (fun e => ?_), .inl⟩
    have : g = k := by simpa [Value.ownBlock] using e
    rw [← this]
    exact h.fe x _ g hv rfl
  rw [hsub] at h2 t2
  exact ⟨m, cp, rfl, ⟨(World.cell?_of_block (a := ⟨R, 1, none⟩) hR).trans h.mapc, Nat.lt_of_lt_of_le h.lt ht.size⟩, w2, hrun, h2, t2⟩
end Go.Proofs.Ytamiddnkgjfdhaa
