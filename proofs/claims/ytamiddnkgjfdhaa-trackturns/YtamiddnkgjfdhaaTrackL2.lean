/-
  The calls of a tracker on its list of entries; each is what the tracker in memory does.
-/
import Derived.Test.YtamiddnkgjfdhaaTrackL
namespace Go.Proofs.Ytamiddnkgjfdhaa

/-- An entry of a peer and an ID. -/
def isE (p : Nat) (x : UInt64) (e : TEnt) : Bool := e.peer == p && e.id == x
def annL (L : List TEnt) (p : Nat) (x : UInt64) (t : Int) (f : Bool) : Int × List TEnt :=
  if L.any (isE p x) then (6, L) else if 20 ≤ (L.filter fun e => e.peer == p).length then (2, L) else (0, L ++ [⟨p, x, f, 0, t⟩])
def dueL (now : Int) (L : List TEnt) : List TEnt := settleL (L.map (dueE now))
def askE (p : Nat) (x : UInt64) (t : Int) (e : TEnt) : TEnt := if isE p x e then { e with st := 2, till := t } else e
/-- Ask finds an entry that may be asked. -/
def mayAsk (L : List TEnt) (p : Nat) (x : UInt64) : Bool := L.any (fun e => isE p x e && e.st == 1) && !L.any (fun e => e.id == x && e.st == 2)
def askL (L : List TEnt) (p : Nat) (x : UInt64) (t : Int) : Int × List TEnt :=
  if L.any (isE p x) then (if mayAsk L p x then (0, L.map (askE p x t)) else (7, L)) else (5, L)
def doneE (p : Nat) (x : UInt64) (e : TEnt) : TEnt := if isE p x e then { e with st := 3 } else e
def answerL (L : List TEnt) (p : Nat) (x : UInt64) : Int × List TEnt := if L.any (isE p x) then (0, settleL (L.map (doneE p x))) else (5, L)
def forgetL (L : List TEnt) (x : UInt64) : List TEnt := L.filter fun e => !(e.id == x)
def dropL (L : List TEnt) (p : Nat) : List TEnt := settleL (L.filter fun e => !(e.peer == p))

theorem dueE_id (now : Int) (e : TEnt) : (dueE now e).id = e.id := by unfold dueE; split <;> (try split) <;> (try split) <;> rfl
theorem dueE_two {now : Int} {e : TEnt} (h : (dueE now e).st = 2) : e.st = 2 := by
  unfold dueE at h
  split at h
  · split at h
    · simp at h
    · split at h
      · simp at h
      · exact h
  · exact h
theorem dueE_st {now : Int} {e : TEnt} (h : e.st ≤ 3) : (dueE now e).st ≤ 3 := by
  unfold dueE
  split
  · split
    · simp
    · split
      · simp
      · exact h
  · exact h
theorem askE_peer (p : Nat) (x : UInt64) (t : Int) (e : TEnt) : (askE p x t e).peer = e.peer := by unfold askE; split <;> rfl
theorem askE_id (p : Nat) (x : UInt64) (t : Int) (e : TEnt) : (askE p x t e).id = e.id := by unfold askE; split <;> rfl
theorem doneE_peer (p : Nat) (x : UInt64) (e : TEnt) : (doneE p x e).peer = e.peer := by unfold doneE; split <;> rfl
theorem doneE_id (p : Nat) (x : UInt64) (e : TEnt) : (doneE p x e).id = e.id := by unfold doneE; split <;> rfl

/-! ### they keep a good list good -/
theorem good_ann {L : List TEnt} (h : Good L) {p : Nat} (hp : p < 8) (x : UInt64) (t : Int) (f : Bool) : Good (annL L p x t f).2 := by
  unfold annL
  split
  · exact h
  · rename_i hn
    split
    · exact h
    · rename_i hf
      have hno : ∀ e ∈ L, ¬ (e.peer = p ∧ e.id = x) := fun e he hh => hn (List.any_eq_true.2 ⟨e, he, by simp [isE, hh.1, hh.2]⟩)
      have hop : ∀ y, openL L y = true → openL (L ++ [⟨p, x, f, 0, t⟩]) y = true := fun y hy => by
        unfold openL at hy ⊢
        rw [List.any_append, hy]
        rfl
      refine ⟨fun e he => ?_, ?_, fun q hq => ?_, fun e he => ?_, fun a ha b hb hab h2 h3 => ?_, fun e he => ?_⟩
      · rcases List.mem_append.1 he with he | he
        · exact h.peer e he
        · rw [List.mem_singleton.1 he]; exact hp
      · rw [List.pairwise_append]
        refine ⟨h.nodup, List.pairwise_singleton _ _, fun a ha b hb => ?_⟩
        rw [List.mem_singleton.1 hb]
        exact hno a ha
      · rw [List.filter_append, List.length_append]
        by_cases hqp : q = p
        · subst hqp
          simp
          omega
        · have : (p == q) = false := beq_eq_false_iff_ne.2 (fun e => hqp e.symm)
          simp [this]
          exact h.few q hq
      · rcases List.mem_append.1 he with he | he
        · exact hop _ (h.open' e he)
        · rw [List.mem_singleton.1 he]
          unfold openL
          rw [List.any_append]
          simp
      · rcases List.mem_append.1 ha with ha | ha
        · rcases List.mem_append.1 hb with hb | hb
          · exact h.one a ha b hb hab h2 h3
          · rw [List.mem_singleton.1 hb] at h3; simp at h3
        · rw [List.mem_singleton.1 ha] at h2; simp at h2
      · rcases List.mem_append.1 he with he | he
        · exact h.st e he
        · rw [List.mem_singleton.1 he]; simp
theorem good_due {L : List TEnt} (h : Good L) (now : Int) : Good (dueL now L) :=
  near_settle (near_map h.near (dueE now) (dueE_peer now) (dueE_id now) (fun e he => dueE_st (h.st e he)) (fun a ha b hb hab h2 h3 => h.one a ha b hb hab (dueE_two h2) (dueE_two h3)))
theorem may_none {L : List TEnt} {p : Nat} {x : UInt64} (h : mayAsk L p x = true) : (∃ e ∈ L, e.peer = p ∧ e.id = x ∧ e.st = 1) ∧ ∀ e ∈ L, e.id = x → e.st ≠ 2 := by
  unfold mayAsk at h
  rw [Bool.and_eq_true, Bool.not_eq_true', List.any_eq_true, List.any_eq_false] at h
  obtain ⟨⟨e, he, h1⟩, h2⟩ := h
  simp only [isE, Bool.and_eq_true, beq_iff_eq] at h1 h2
  exact ⟨⟨e, he, h1.1.1, h1.1.2, h1.2⟩, fun e he hx hs => h2 e he ⟨hx, hs⟩⟩
theorem good_ask {L : List TEnt} (h : Good L) (p : Nat) (x : UInt64) (t : Int) : Good (askL L p x t).2 := by
  unfold askL
  split
  · split
    · rename_i hm
      obtain ⟨_, hno⟩ := may_none hm
      have hask2 : ∀ e ∈ L, (askE p x t e).st = 2 → (e.peer = p ∧ e.id = x) ∨ e.st = 2 := fun e _ hs => by
        unfold askE at hs
        split at hs
        · rename_i hi
          simp only [isE, Bool.and_eq_true, beq_iff_eq] at hi
          exact .inl hi
        · exact .inr hs
      have hn := near_map h.near (askE p x t) (askE_peer p x t) (askE_id p x t) (fun e he => by
        unfold askE
        split
        · simp
        · exact h.st e he) (fun a ha b hb hab h2 h3 => by
        rcases hask2 a ha h2 with h4 | h4 <;> rcases hask2 b hb h3 with h5 | h5
        · rw [h4.1, h5.1]
        · exact absurd h5 (hno b hb (hab.symm.trans h4.2))
        · exact absurd h4 (hno a ha (hab.trans h5.2))
        · exact h.one a ha b hb hab h4 h5)
      refine ⟨hn.peer, hn.nodup, hn.few, fun e he => ?_, hn.one, hn.st⟩
      obtain ⟨a, ha, rfl⟩ := List.mem_map.1 he
      rw [askE_id]
      have := h.open' a ha
      unfold openL at this ⊢
      rw [List.any_eq_true] at this ⊢
      obtain ⟨c, hc, h1⟩ := this
      refine ⟨askE p x t c, List.mem_map.2 ⟨c, hc, rfl⟩, ?_⟩
      rw [Bool.and_eq_true] at h1 ⊢
      rw [askE_id]
      refine ⟨h1.1, ?_⟩
      unfold askE
      split
      · rfl
      · exact h1.2
    · exact h
  · exact h
theorem good_answer {L : List TEnt} (h : Good L) (p : Nat) (x : UInt64) : Good (answerL L p x).2 := by
  unfold answerL
  split
  · have hd2 : ∀ e : TEnt, (doneE p x e).st = 2 → e.st = 2 := fun e hs => by
      unfold doneE at hs
      split at hs
      · simp at hs
      · exact hs
    exact near_settle (near_map h.near (doneE p x) (doneE_peer p x) (doneE_id p x) (fun e he => by
      unfold doneE
      split
      · simp
      · exact h.st e he) (fun a ha b hb hab h2 h3 => h.one a ha b hb hab (hd2 a h2) (hd2 b h3)))
  · exact h
theorem good_forget {L : List TEnt} (h : Good L) (x : UInt64) : Good (forgetL L x) := good_filter h _ fun e he hq => by
  have := h.open' e he
  unfold openL at this ⊢
  rw [List.any_eq_true] at this ⊢
  obtain ⟨c, hc, h1⟩ := this
  refine ⟨c, List.mem_filter.2 ⟨hc, ?_⟩, h1⟩
  rw [Bool.and_eq_true, beq_iff_eq] at h1
  rw [h1.1]
  exact hq
theorem good_drop {L : List TEnt} (h : Good L) (p : Nat) : Good (dropL L p) := near_settle (near_filter h.near _)

/-! ### they are what the tracker in memory does -/
theorem find_any_eq {L : List TEnt} {p : Nat} {x : UInt64} : (entsOf L x).findIdx? (fun e => e.peer == p) = none ↔ L.any (isE p x) = false := by
  rw [List.findIdx?_eq_none_iff, List.any_eq_false]
  constructor
  · intro h e he hi
    simp only [isE, Bool.and_eq_true, beq_iff_eq] at hi
    have := h e (ents_mem.2 ⟨he, hi.2⟩)
    rw [hi.1] at this
    simp at this
  · intro h e he
    obtain ⟨h1, h2⟩ := ents_mem.1 he
    have := h e h1
    simp only [isE, h2, Bool.and_eq_true, beq_iff_eq, and_true] at this
    exact beq_eq_false_iff_ne.2 this
theorem eqv_ann (salt : UInt64) (L : List TEnt) (p : Nat) (x : UInt64) (t : Int) (f : Bool) : ((ofL salt L).announce p x t f).1 = (annL L p x t f).1 ∧ ((ofL salt L).announce p x t f).2.Eqv (ofL salt (annL L p x t f).2) := by
  unfold TS.announce annL
  rw [ofL_ents]
  cases hfi : (entsOf L x).findIdx? (fun e => e.peer == p) with
  | some i =>
    have : L.any (isE p x) = true := by
      rw [← Bool.not_eq_false]
      intro hc
      rw [find_any_eq.2 hc] at hfi
      cases hfi
    rw [if_pos this]
    exact ⟨rfl, rfl, fun _ => rfl, fun _ _ => rfl⟩
  | none =>
    have : ¬ L.any (isE p x) = true := by rw [find_any_eq.1 hfi]; decide
    rw [if_neg this]
    have hlen : ((ofL salt L).I p).length = (L.filter fun e => e.peer == p).length := ids_length L p
    show (if 20 ≤ ((ofL salt L).I p).length then _ else _ : Int × TS).1 = _ ∧ (if 20 ≤ ((ofL salt L).I p).length then _ else _ : Int × TS).2.Eqv _
    rw [hlen]
    split
    · exact ⟨rfl, rfl, fun _ => rfl, fun _ _ => rfl⟩
    · refine ⟨rfl, rfl, fun y => ?_, fun q _ => ?_⟩
      · show upd (ofL salt L).E x (some (entsOf L x ++ [⟨p, x, f, 0, t⟩])) y = if entsOf (L ++ [⟨p, x, f, 0, t⟩]) y = [] then none else some (entsOf (L ++ [⟨p, x, f, 0, t⟩]) y)
        have he : entsOf (L ++ [⟨p, x, f, 0, t⟩]) y = entsOf L y ++ if y = x then [⟨p, x, f, 0, t⟩] else [] := by
          unfold entsOf
          rw [List.filter_append]
          congr 1
          by_cases hy : y = x
          · rw [if_pos hy, hy]; simp
          · rw [if_neg hy]; have hy' : ¬ x = y := fun e => hy e.symm; simp [hy']
        rw [he]
        by_cases hy : y = x
        · subst hy
          rw [upd_same, if_pos rfl, if_neg (by simp)]
        · rw [upd_other _ _ hy, if_neg hy, List.append_nil]
          rfl
      · show upd (idsOf L) p (idsOf L p ++ [x]) q = idsOf (L ++ [⟨p, x, f, 0, t⟩]) q
        unfold idsOf
        rw [List.filter_append, List.map_append]
        by_cases hq : q = p
        · subst hq
          rw [upd_same]
          simp
        · rw [upd_other _ _ hq]
          have hq' : ¬ p = q := fun e => hq e.symm
          simp [hq']
theorem eqv_due (salt : UInt64) (L : List TEnt) (now : Int) : ((ofL salt L).due now).Eqv (ofL salt (dueL now L)) := by
  have hgone : ∀ y, (ofL salt L).gone now y = !openL (L.map (dueE now)) y := fun y => by
    rw [open_ents, map_ents _ _ (dueE_id now), Bool.not_not, List.all_map]
    unfold TS.gone
    rw [ofL_ents]
    rfl
  refine ⟨rfl, fun x => ?_, fun p _ => ?_⟩
  · show (if (ofL salt L).gone now x then none else ((ofL salt L).E x).map (List.map (dueE now))) = if entsOf (settleL (L.map (dueE now))) x = [] then none else some (entsOf (settleL (L.map (dueE now))) x)
    rw [hgone, settle_ents, map_ents _ _ (dueE_id now)]
    cases ho : openL (L.map (dueE now)) x with
    | false => simp
    | true =>
      simp only [Bool.not_true, Bool.false_eq_true, if_false, if_true]
      show Option.map _ (if entsOf L x = [] then none else some (entsOf L x)) = _
      by_cases he : entsOf L x = []
      · rw [if_pos he, he]; rfl
      · rw [if_neg he, if_neg (by simpa using he)]; rfl
  · show (idsOf L p).filter _ = idsOf (settleL (L.map (dueE now))) p
    rw [settle_ids, map_ids _ _ (dueE_peer now) (dueE_id now)]
    refine List.filter_congr fun y _ => ?_
    rw [hgone]
    simp
theorem peer_inj {l : List TEnt} (hn : (l.map fun e => e.peer).Nodup) {i k : Nat} (hi : i < l.length) (hk : k < l.length) (h : l[i].peer = l[k].peer) : i = k := by
  unfold List.Nodup at hn
  rw [List.pairwise_map] at hn
  rcases Nat.lt_trichotomy i k with h3 | h3 | h3
  · exact absurd h (List.pairwise_iff_getElem.1 hn i k hi hk h3)
  · exact h3
  · exact absurd h.symm (List.pairwise_iff_getElem.1 hn k i hk hi h3)
/-- One entry of an ID is changed in its place. -/
theorem set_map {l : List TEnt} {p i : Nat} (hn : (l.map fun e => e.peer).Nodup) (g : TEnt → TEnt) (hi : i < l.length) (hp : l[i].peer = p) : l.set i (g l[i]) = l.map fun e => if e.peer == p then g e else e := by
  apply List.ext_getElem (by simp)
  intro k h1 h2
  rw [List.getElem_set, List.getElem_map]
  have hk : k < l.length := by simpa using h1
  split
  · rename_i e
    subst e
    rw [if_pos (beq_iff_eq.2 hp)]
  · rename_i hne
    rw [if_neg]
    rw [beq_iff_eq]
    intro hpk
    exact hne (peer_inj hn hi hk (hp.trans hpk.symm))
/-- .. in the list of all entries. -/
theorem eqv_set (salt : UInt64) {L : List TEnt} (h : Good L) {p i : Nat} {x : UInt64} (g : TEnt → TEnt) (f : TEnt → TEnt) (hg : ∀ e, (f e).peer = e.peer ∧ (f e).id = e.id) (hf : ∀ e, f e = if isE p x e then g e else e) (hi : i < (entsOf L x).length) (hp : (entsOf L x)[i].peer = p) :
    TS.Eqv { ofL salt L with E := upd (ofL salt L).E x (some ((entsOf L x).set i (g (entsOf L x)[i]))) } (ofL salt (L.map f)) := by
  refine ⟨rfl, fun y => ?_, fun q _ => (map_ids L f (fun e => (hg e).1) (fun e => (hg e).2) q).symm⟩
  show upd (ofL salt L).E x _ y = if entsOf (L.map f) y = [] then none else some (entsOf (L.map f) y)
  rw [map_ents L f (fun e => (hg e).2)]
  by_cases hy : y = x
  · subst hy
    rw [upd_same, set_map (ents_pair h.nodup y) g hi hp, if_neg (by
      intro e
      have := congrArg List.length e
      rw [List.length_map] at this
      simp at this
      rw [this] at hi
      simp at hi)]
    congr 1
    refine List.map_congr_left fun e he => ?_
    rw [hf]
    simp [isE, (ents_mem.1 he).2]
  · rw [upd_other _ _ hy]
    have : (entsOf L y).map f = entsOf L y := by
      rw [List.map_congr_left (g := id) (fun e he => by
        rw [hf, if_neg]
        · rfl
        · simp only [isE, (ents_mem.1 he).2, Bool.and_eq_true, beq_iff_eq, not_and]
          exact fun _ e => hy e), List.map_id]
    rw [this]
    rfl
theorem eqv_ask (salt : UInt64) {L : List TEnt} (h : Good L) (p : Nat) (x : UInt64) (t : Int) : ((ofL salt L).ask p x t).1 = (askL L p x t).1 ∧ ((ofL salt L).ask p x t).2.Eqv (ofL salt (askL L p x t).2) := by
  unfold TS.ask askL
  rw [ofL_ents]
  cases hfi : (entsOf L x).findIdx? (fun e => e.peer == p) with
  | none =>
    rw [if_neg (by rw [find_any_eq.1 hfi]; decide)]
    exact ⟨rfl, rfl, fun _ => rfl, fun _ _ => rfl⟩
  | some i =>
    have hany : L.any (isE p x) = true := by
      rw [← Bool.not_eq_false]
      intro hc
      rw [find_any_eq.2 hc] at hfi
      cases hfi
    obtain ⟨hi, hp, _⟩ := List.findIdx?_eq_some_iff_getElem.1 hfi
    have hp : (entsOf L x)[i].peer = p := beq_iff_eq.1 hp
    rw [if_pos hany]
    simp only [List.getElem?_eq_getElem hi]
    have huniq : ∀ e ∈ L, e.peer = p → e.id = x → e = (entsOf L x)[i] := fun e he h1 h2 => by
      have hm : e ∈ entsOf L x := ents_mem.2 ⟨he, h2⟩
      obtain ⟨k, hk, rfl⟩ := List.mem_iff_getElem.1 hm
      have : k = i := peer_inj (ents_pair h.nodup x) hk hi (h1.trans hp.symm)
      subst this
      rfl
    have hmay : (((entsOf L x)[i].st = 1 ∧ (entsOf L x).findIdx? (fun e => e.st == 2) = none)) ↔ mayAsk L p x = true := by
      unfold mayAsk
      rw [Bool.and_eq_true, Bool.not_eq_true', List.any_eq_true, List.any_eq_false, List.findIdx?_eq_none_iff]
      constructor
      · rintro ⟨h1, h2⟩
        obtain ⟨h3, h4⟩ := ents_mem.1 (List.getElem_mem hi)
        refine ⟨⟨_, h3, by simp [isE, hp, h4, h1]⟩, fun e he hh => ?_⟩
        simp only [Bool.and_eq_true, beq_iff_eq] at hh
        have := h2 e (ents_mem.2 ⟨he, hh.1⟩)
        rw [hh.2] at this
        simp at this
      · rintro ⟨⟨e, he, h1⟩, h2⟩
        simp only [isE, Bool.and_eq_true, beq_iff_eq] at h1 h2
        refine ⟨by rw [← huniq e he h1.1.1 h1.1.2]; exact h1.2, fun e he => ?_⟩
        obtain ⟨h3, h4⟩ := ents_mem.1 he
        exact beq_eq_false_iff_ne.2 (fun hs => h2 e h3 ⟨h4, hs⟩)
    by_cases hm : mayAsk L p x = true
    · rw [if_pos hm, if_pos (hmay.2 hm)]
      exact ⟨rfl, eqv_set salt h (fun e => { e with st := 2, till := t }) (askE p x t) (fun e => ⟨askE_peer p x t e, askE_id p x t e⟩) (fun e => rfl) hi hp⟩
    · rw [if_neg hm, if_neg (fun hc => hm (hmay.1 hc))]
      exact ⟨rfl, rfl, fun _ => rfl, fun _ _ => rfl⟩
end Go.Proofs.Ytamiddnkgjfdhaa
