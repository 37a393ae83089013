/-
  TrackTurns: what it says of lists.
-/
import Derived.Test.YtamiddnkgjfdhaaNextMath
namespace Go.Proofs.Ytamiddnkgjfdhaa

/-- Entries of one ID, as they were announced: peers and whether they are preferred. -/
def onesE (x : UInt64) (st : Nat) (ps : List (Nat × Bool)) : List TEnt := ps.map fun q => ⟨q.1, x, q.2, st, 0⟩
def peersOf (ps : List (Nat × Bool)) : List Nat := ps.map fun q => q.1
def prefsOf (ps : List (Nat × Bool)) : List Nat := (ps.filter fun q => q.2).map fun q => q.1
def castL (l : List Nat) : List Int := l.map fun p : Nat => (p : Int)
theorem castL_append (a : List Nat) (p : Nat) : castL (a ++ [p]) = castL a ++ [(p : Int)] := by unfold castL; rw [List.map_append]; rfl
theorem castL_length (a : List Nat) : (castL a).length = a.length := List.length_map _
theorem castL_contains (a : List Nat) (p : Nat) : (castL a).contains (p : Int) = a.contains p := by
  rw [Bool.eq_iff_iff, List.contains_iff_mem, List.contains_iff_mem]
  unfold castL
  rw [List.mem_map]
  constructor
  · rintro ⟨q, hq, e⟩
    rw [← show q = p by omega]
    exact hq
  · exact fun h => ⟨p, h, rfl⟩
theorem peersOf_append (ps : List (Nat × Bool)) (p : Nat) (f : Bool) : peersOf (ps ++ [(p, f)]) = peersOf ps ++ [p] := by unfold peersOf; rw [List.map_append]; rfl
theorem prefsOf_append (ps : List (Nat × Bool)) (p : Nat) (f : Bool) : prefsOf (ps ++ [(p, f)]) = prefsOf ps ++ if f then [p] else [] := by
  unfold prefsOf
  rw [List.filter_append, List.map_append]
  cases f <;> rfl
theorem ones_ann {x : UInt64} {ps : List (Nat × Bool)} {p : Nat} (hp : p < 8) (hn : p ∉ peersOf ps) (f : Bool) : annC (onesE x 0 ps) p x 0 f = (0, onesE x 0 (ps ++ [(p, f)])) := by
  have h1 : ∀ e ∈ onesE x 0 ps, e.peer ≠ p := fun e he h => by
    obtain ⟨q, hq, rfl⟩ := List.mem_map.1 he
    exact hn (List.mem_map.2 ⟨q, hq, h⟩)
  unfold annC
  rw [if_pos ⟨⟨by omega, by omega⟩, by unfold goodT; omega⟩]
  unfold annL
  rw [if_neg, if_neg]
  · unfold onesE
    rw [List.map_append]
    rfl
  · rw [List.filter_eq_nil_iff.2 (fun e he => by simpa using h1 e he)]
    decide
  · rw [Bool.not_eq_true, List.any_eq_false]
    intro e he
    unfold isE
    simp [h1 e he]
theorem ones_due (x : UInt64) (ps : List (Nat × Bool)) : dueL 0 (onesE x 0 ps) = onesE x 1 ps := by
  have h1 : (onesE x 0 ps).map (dueE 0) = onesE x 1 ps := by
    unfold onesE
    rw [List.map_map]
    rfl
  unfold dueL
  rw [h1]
  unfold settleL
  rw [List.filter_eq_self]
  intro e he
  unfold openL
  rw [List.any_eq_true]
  refine ⟨e, he, ?_⟩
  obtain ⟨q, hq, rfl⟩ := List.mem_map.1 he
  simp
/-- T: who was asked, in order; L: the entries now. -/
structure TurnSt (ps : List (Nat × Bool)) (x : UInt64) (T : List Nat) (L : List TEnt) : Prop where
  nodup : T.Nodup
  sub : ∀ p ∈ T, p ∈ peersOf ps
  few : T.length ≤ ps.length
  pref : ∀ i (h : i < T.length), T[i] ∈ prefsOf ps ↔ i < (prefsOf ps).length
  more : T.length < ps.length → L.map (fun e => (e.peer, e.pref)) = ps ∧ ∀ e ∈ L, e.id = x ∧ (e.st = 3 ∧ e.peer ∈ T ∨ e.st = 1 ∧ e.peer ∉ T)
  less : ¬ T.length < ps.length → L = []
theorem turn_start (x : UInt64) (ps : List (Nat × Bool)) : TurnSt ps x [] (onesE x 1 ps) := by
  refine ⟨List.nodup_nil, by simp, Nat.zero_le _, fun i h => absurd h (by simp), fun _ => ⟨?_, fun e he => ?_⟩, fun h => ?_⟩
  · unfold onesE
    rw [List.map_map]
    exact List.map_id _
  · obtain ⟨q, hq, rfl⟩ := List.mem_map.1 he
    exact ⟨rfl, .inr ⟨rfl, by simp⟩⟩
  · have : ps = [] := List.length_eq_zero_iff.1 (by have h : ¬ 0 < ps.length := h; omega)
    rw [this]
    rfl
theorem some_left {a b : List Nat} (ha : a.Nodup) (h : b.length < a.length) : ∃ q ∈ a, q ∉ b := by
  refine Classical.byContradiction fun hn => ?_
  have := nodup_leN ha (b := b) (fun q hq => Classical.byContradiction fun hb => hn ⟨q, hq, hb⟩)
  omega
theorem nodup_inj {l : List Nat} (h : l.Nodup) {i j : Nat} (hi : i < l.length) (hj : j < l.length) (e : l[i] = l[j]) : i = j := by
  have hp := List.pairwise_iff_getElem.1 h
  refine Classical.byContradiction fun hn => ?_
  rcases Nat.lt_or_gt_of_ne hn with h1 | h1
  · exact hp i j hi hj h1 e
  · exact hp j i hj hi h1 e.symm
theorem prefs_nodup {ps : List (Nat × Bool)} (h : (peersOf ps).Nodup) : (prefsOf ps).Nodup := h.sublist (List.filter_sublist.map _)
theorem pref_mem {ps : List (Nat × Bool)} {p : Nat} : p ∈ prefsOf ps ↔ (p, true) ∈ ps := by
  unfold prefsOf
  rw [List.mem_map]
  constructor
  · rintro ⟨⟨q, f⟩, hq, rfl⟩
    obtain ⟨h1, h2⟩ := List.mem_filter.1 hq
    have h2 : f = true := h2
    subst h2
    exact h1
  · exact fun h => ⟨(p, true), List.mem_filter.2 ⟨h, rfl⟩, rfl⟩
theorem pref_one {ps : List (Nat × Bool)} (h : (peersOf ps).Nodup) {p : Nat} {f g : Bool} (h1 : (p, f) ∈ ps) (h2 : (p, g) ∈ ps) : f = g := by
  obtain ⟨i, hi, e1⟩ := List.getElem_of_mem h1
  obtain ⟨j, hj, e2⟩ := List.getElem_of_mem h2
  have hp := List.pairwise_iff_getElem.1 (List.pairwise_map.1 h)
  have this : i = j := by
    refine Classical.byContradiction fun hn => ?_
    rcases Nat.lt_or_gt_of_ne hn with h1 | h1
    · exact hp i j hi hj h1 (by rw [e1, e2])
    · exact hp j i hj hi h1 (by rw [e1, e2])
  subst this
  rw [e1] at e2
  exact congrArg Prod.snd e2
/-- The entry whose turn it is has been asked and did not answer. -/
theorem turn_map {L : List TEnt} {x : UInt64} {T : List Nat} {p : Nat} {now : Int} (h : ∀ e ∈ L, e.id = x ∧ (e.st = 3 ∧ e.peer ∈ T ∨ e.st = 1 ∧ e.peer ∉ T)) : (L.map (askE p x now)).map (dueE now) = L.map fun e => if e.peer = p then { e with st := 3, till := now } else e := by
  rw [List.map_map]
  refine List.map_congr_left fun e he => ?_
  obtain ⟨h1, h2⟩ := h e he
  show dueE now (askE p x now e) = _
  unfold askE isE
  by_cases hp : e.peer = p
  · rw [if_pos hp, if_pos (by simp [hp, h1])]
    unfold dueE
    rw [if_pos (Int.le_refl _), if_neg (by show ¬ (2 : Nat) = 0; decide), if_pos rfl]
  · rw [if_neg hp, if_neg (by simp [hp])]
    unfold dueE
    split
    · rw [if_neg (by rcases h2 with ⟨h, _⟩ | ⟨h, _⟩ <;> omega), if_neg (by rcases h2 with ⟨h, _⟩ | ⟨h, _⟩ <;> omega)]
    · rfl
theorem settle_one {M : List TEnt} {x : UInt64} (h : ∀ e ∈ M, e.id = x) : settleL M = if openL M x then M else [] := by
  unfold settleL
  cases ho : openL M x with
  | true => exact List.filter_eq_self.2 fun e he => by rw [h e he]; exact ho
  | false =>
    rw [if_neg (by decide)]
    exact List.filter_eq_nil_iff.2 fun e he => by rw [h e he, ho]; decide
theorem turn_step {ps : List (Nat × Bool)} {x : UInt64} {T : List Nat} {L : List TEnt} (salt : UInt64) (hg : Good L) (hps : (peersOf ps).Nodup) (h : TurnSt ps x T L) (hlt : T.length < ps.length) {now : Int} (hnow : goodT now) :
    ∃ p, p < 8 ∧ (∀ q, q ≠ p → nextL salt L q = []) ∧ x ∈ nextL salt L p ∧ ∃ L', askC L p x now = (0, L') ∧ TurnSt ps x (T ++ [p]) (dueL now L') := by
  obtain ⟨hmap, hall⟩ := h.more hlt
  have hpl : (peersOf ps).length = ps.length := List.length_map _
  have hmem : ∀ q ∈ peersOf ps, ∃ e ∈ L, e.peer = q := fun q hq => by
    obtain ⟨⟨q', f⟩, h1, rfl⟩ := List.mem_map.1 hq
    rw [← hmap] at h1
    obtain ⟨e, he, e1⟩ := List.mem_map.1 h1
    exact ⟨e, he, congrArg Prod.fst e1⟩
  have hin : ∀ e ∈ L, (e.peer, e.pref) ∈ ps := fun e he => by rw [← hmap]; exact List.mem_map.2 ⟨e, he, rfl⟩
  have hinp : ∀ e ∈ L, e.peer ∈ peersOf ps := fun e he => List.mem_map.2 ⟨_, hin e he, rfl⟩
  have hready : ∀ q ∈ peersOf ps, q ∉ T → ∃ e ∈ L, e.peer = q ∧ e.st = 1 := fun q hq hT => by
    obtain ⟨e, he, rfl⟩ := hmem q hq
    rcases (hall e he).2 with ⟨_, h1⟩ | ⟨h1, _⟩
    · exact absurd h1 hT
    · exact ⟨e, he, rfl, h1⟩
  have hno2 : ∀ y ∈ L, y.id = x → y.st ≠ 2 := fun y hy _ => by
    rcases (hall y hy).2 with ⟨h1, _⟩ | ⟨h1, _⟩ <;> omega
  obtain ⟨q0, hq0, hqT⟩ := some_left hps (b := T) (by omega)
  obtain ⟨e0, he0, _, hs0⟩ := hready q0 hq0 hqT
  obtain ⟨z, hz⟩ := best_there (salt := salt) he0 (hall e0 he0).1 hs0 hno2
  obtain ⟨z1, z2, _⟩ := best_some hz
  obtain ⟨z3, z4⟩ := ents_mem.1 z1
  have hzT : z.peer ∉ T := by
    rcases (hall z z3).2 with ⟨h1, _⟩ | ⟨_, h1⟩
    · omega
    · exact h1
  have hz8 := hg.peer z z3
  have hnodup : (T ++ [z.peer]).Nodup := by
    rw [List.nodup_append]
    exact ⟨h.nodup, by simp, fun a ha b hb => by rw [List.mem_singleton.1 hb]; exact fun e => hzT (e ▸ ha)⟩
  have hsub : ∀ p ∈ T ++ [z.peer], p ∈ peersOf ps := fun p hp => by
    rcases List.mem_append.1 hp with hp | hp
    · exact h.sub p hp
    · rw [List.mem_singleton.1 hp]; exact hinp z z3
  refine ⟨z.peer, hz8, fun q hq => ?_, ?_, L.map (askE z.peer x now), ?_, ?_⟩
  · unfold nextL
    rw [List.filter_eq_nil_iff]
    intro y hy
    obtain ⟨e, he, _, rfl⟩ := ids_mem.1 hy
    rw [(hall e he).1]
    unfold TS.isNext
    rw [hz]
    simpa using fun h => hq h.symm
  · unfold nextL
    refine List.mem_filter.2 ⟨ids_mem.2 ⟨z, z3, rfl, z4⟩, ?_⟩
    unfold TS.isNext
    rw [hz]
    simp
  · unfold askC
    rw [if_pos ⟨⟨by omega, by omega⟩, hnow⟩]
    unfold askL
    have ha : L.any (isE z.peer x) = true := List.any_eq_true.2 ⟨z, z3, by unfold isE; simp [z4]⟩
    have hm : mayAsk L z.peer x = true := by
      unfold mayAsk
      rw [Bool.and_eq_true, Bool.not_eq_true', List.any_eq_false]
      refine ⟨List.any_eq_true.2 ⟨z, z3, by unfold isE; simp [z4, z2]⟩, fun y hy hq => ?_⟩
      simp only [Bool.and_eq_true, beq_iff_eq] at hq
      exact hno2 y hy hq.1 hq.2
    rw [Int.toNat_natCast, if_pos ha, if_pos hm]
  · unfold dueL
    rw [turn_map hall]
    have hM : ∀ e ∈ L.map (fun e => if e.peer = z.peer then { e with st := 3, till := now } else e), e.id = x ∧ (e.st = 3 ∧ e.peer ∈ T ++ [z.peer] ∨ e.st = 1 ∧ e.peer ∉ T ++ [z.peer]) := fun e he => by
      obtain ⟨y, hy, rfl⟩ := List.mem_map.1 he
      obtain ⟨h1, h2⟩ := hall y hy
      by_cases hp : y.peer = z.peer
      · rw [if_pos hp]
        exact ⟨h1, .inl ⟨rfl, by show y.peer ∈ _; rw [hp]; simp⟩⟩
      · rw [if_neg hp]
        refine ⟨h1, ?_⟩
        rcases h2 with ⟨h2, h3⟩ | ⟨h2, h3⟩
        · exact .inl ⟨h2, List.mem_append_left _ h3⟩
        · exact .inr ⟨h2, by simp [h3, hp]⟩
    have hMm : (L.map (fun e => if e.peer = z.peer then { e with st := 3, till := now } else e)).map (fun e => (e.peer, e.pref)) = ps := by
      rw [List.map_map, ← hmap]
      refine List.map_congr_left fun e _ => ?_
      show ((if e.peer = z.peer then { e with st := 3, till := now } else e : TEnt).peer, (if e.peer = z.peer then { e with st := 3, till := now } else e : TEnt).pref) = (e.peer, e.pref)
      split <;> rfl
    generalize L.map (fun e => if e.peer = z.peer then { e with st := 3, till := now } else e) = M at hM hMm
    rw [settle_one fun e he => (hM e he).1]
    have hlen : (T ++ [z.peer]).length = T.length + 1 := by simp
    refine ⟨hnodup, hsub, by omega, fun i hi => ?_, fun hl => ?_, fun hl => ?_⟩
    · by_cases hiT : i < T.length
      · rw [List.getElem_append_left hiT]
        exact h.pref i hiT
      · have hie : i = T.length := by omega
        subst hie
        rw [List.getElem_concat_length rfl]
        have hzp : z.peer ∈ prefsOf ps ↔ z.pref = true := by
          rw [pref_mem]
          constructor
          · exact fun h1 => pref_one hps (hin z z3) h1
          · intro h1
            have := hin z z3
            rwa [h1] at this
        constructor
        · intro hzin
          refine Classical.byContradiction fun hge => ?_
          have hn2 : (T.take (prefsOf ps).length ++ [z.peer]).Nodup := by
            rw [List.nodup_append]
            exact ⟨h.nodup.sublist (List.take_sublist _ _), by simp, fun a ha b hb => by rw [List.mem_singleton.1 hb]; exact fun e => hzT (e ▸ List.mem_of_mem_take ha)⟩
          have := nodup_leN hn2 (b := prefsOf ps) (fun a ha => by
            rcases List.mem_append.1 ha with ha | ha
            · obtain ⟨j, hj, rfl⟩ := List.getElem_of_mem ha
              rw [List.length_take] at hj
              rw [List.getElem_take]
              exact (h.pref j (by omega)).2 (by omega)
            · rw [List.mem_singleton.1 ha]; exact hzin)
          rw [List.length_append, List.length_take] at this
          simp at this
          omega
        · intro hlt2
          obtain ⟨q, hq, hqT⟩ := some_left (prefs_nodup hps) (b := T) hlt2
          have hq' := pref_mem.1 hq
          rw [← hmap] at hq'
          obtain ⟨e, he, e1⟩ := List.mem_map.1 hq'
          have ep : e.peer = q := congrArg Prod.fst e1
          have ef : e.pref = true := congrArg Prod.snd e1
          have es : e.st = 1 := by
            rcases (hall e he).2 with ⟨_, h1⟩ | ⟨h1, _⟩
            · exact absurd (ep ▸ h1) hqT
            · exact h1
          have hb := best_is hz e he (hall e he).1 es
          rw [hzp]
          cases hzf : z.pref with
          | true => rfl
          | false =>
            rw [(beats_iff salt e z).2 (.inl ⟨ef, hzf⟩)] at hb
            cases hb
    · obtain ⟨q, hq, hqT⟩ := some_left hps (b := T ++ [z.peer]) (by omega)
      obtain ⟨⟨q', f⟩, h1, rfl⟩ := List.mem_map.1 hq
      rw [← hMm] at h1
      obtain ⟨e, he, e1⟩ := List.mem_map.1 h1
      have ep : e.peer = q' := congrArg Prod.fst e1
      have ho : openL M x = true := by
        unfold openL
        refine List.any_eq_true.2 ⟨e, he, ?_⟩
        obtain ⟨h2, h3⟩ := hM e he
        rcases h3 with ⟨_, h3⟩ | ⟨h3, _⟩
        · exact absurd (ep ▸ h3) hqT
        · simp [h2, h3]
      rw [ho, if_pos rfl]
      exact ⟨hMm, hM⟩
    · have ho : openL M x = false := by
        unfold openL
        rw [List.any_eq_false]
        intro e he hq
        rcases (hM e he).2 with ⟨h3, _⟩ | ⟨_, h3⟩
        · simp [h3] at hq
        · have hn2 : (T ++ [z.peer] ++ [e.peer]).Nodup := by
            rw [List.nodup_append]
            exact ⟨hnodup, by simp, fun a ha b hb => by rw [List.mem_singleton.1 hb]; exact fun e1 => h3 (e1 ▸ ha)⟩
          have hep : e.peer ∈ peersOf ps := by
            have : (e.peer, e.pref) ∈ ps := by rw [← hMm]; exact List.mem_map.2 ⟨e, he, rfl⟩
            exact List.mem_map.2 ⟨_, this, rfl⟩
          have := nodup_leN hn2 (b := peersOf ps) (fun a ha => by
            rcases List.mem_append.1 ha with ha | ha
            · exact hsub a ha
            · rw [List.mem_singleton.1 ha]; exact hep)
          rw [List.length_append, hlen] at this
          simp at this
          omega
      rw [ho, if_neg (by decide)]
end Go.Proofs.Ytamiddnkgjfdhaa
