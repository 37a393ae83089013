/-
  Answer, Forget, Drop and Counts on the list of entries.
-/
import Derived.Test.YtamiddnkgjfdhaaTrackL2
namespace Go.Proofs.Ytamiddnkgjfdhaa

theorem TS.Eqv.ents {s t : TS} (h : s.Eqv t) (x : UInt64) : s.ents x = t.ents x := by unfold TS.ents; rw [h.2.1 x]
theorem open_other {L M : List TEnt} {x : UInt64} (h : ∀ e : TEnt, e.id ≠ x → (e ∈ L ↔ e ∈ M)) {y : UInt64} (hy : y ≠ x) : openL L y = openL M y := by
  rw [Bool.eq_iff_iff]
  unfold openL
  rw [List.any_eq_true, List.any_eq_true]
  constructor
  · rintro ⟨e, he, h1⟩
    have : e.id = y := by rw [Bool.and_eq_true, beq_iff_eq] at h1; exact h1.1
    exact ⟨e, (h e (by rw [this]; exact hy)).1 he, h1⟩
  · rintro ⟨e, he, h1⟩
    have : e.id = y := by rw [Bool.and_eq_true, beq_iff_eq] at h1; exact h1.1
    exact ⟨e, (h e (by rw [this]; exact hy)).2 he, h1⟩
theorem forget_ents (L : List TEnt) (x y : UInt64) : entsOf (forgetL L x) y = if y = x then [] else entsOf L y := by
  unfold entsOf forgetL
  rw [List.filter_filter]
  by_cases hy : y = x
  · rw [if_pos hy, List.filter_eq_nil_iff]
    intro e _
    rw [hy]
    cases e.id == x <;> simp
  · rw [if_neg hy]
    refine List.filter_congr fun e _ => ?_
    by_cases he : e.id = y
    · simp [he, hy]
    · simp [he]
theorem forget_ids (L : List TEnt) (x : UInt64) (p : Nat) : idsOf (forgetL L x) p = (idsOf L p).filter fun y => !(y == x) := by
  unfold idsOf forgetL
  rw [List.filter_filter, List.filter_map, List.filter_filter]
  congr 1
  refine List.filter_congr fun e _ => ?_
  exact Bool.and_comm _ _
theorem eqv_forget_of (salt : UInt64) {s : TS} {L : List TEnt} (h : s.Eqv (ofL salt L)) (x : UInt64) : (s.forget x).Eqv (ofL salt (forgetL L x)) := by
  refine ⟨h.1, fun y => ?_, fun p hp => ?_⟩
  · show upd s.E x none y = if entsOf (forgetL L x) y = [] then none else some (entsOf (forgetL L x) y)
    rw [forget_ents]
    by_cases hy : y = x
    · rw [hy, upd_same, if_pos rfl, if_pos rfl]
    · rw [upd_other _ _ hy, if_neg hy]
      exact h.2.1 y
  · show cutIds x s.I (s.ents x) p = idsOf (forgetL L x) p
    rw [h.ents, forget_ids, cutIds_at, h.2.2 p hp]
    · rfl
    · intro hm
      rw [h.2.2 p hp] at hm
      exact ofL_linked salt L p hp x hm
theorem eqv_forget (salt : UInt64) (L : List TEnt) (x : UInt64) : ((ofL salt L).forget x).Eqv (ofL salt (forgetL L x)) := eqv_forget_of salt ⟨rfl, fun _ => rfl, fun _ _ => rfl⟩ x
theorem eqv_settle (salt : UInt64) {s : TS} {M : List TEnt} (hs : s.Eqv (ofL salt M)) (x : UInt64) (h : ∀ e ∈ M, e.id ≠ x → openL M e.id = true) : (s.settle x).Eqv (ofL salt (settleL M)) := by
  have hents : s.ents x = entsOf M x := (hs.ents x).trans (ofL_ents salt M x)
  unfold TS.settle
  rw [hents]
  cases hd : (entsOf M x).all fun e => e.st == 3 with
  | true =>
    have hno : openL M x = false := by rw [open_ents, hd]; rfl
    have hM : settleL M = forgetL M x := by
      unfold settleL forgetL
      refine List.filter_congr fun e he => ?_
      by_cases hx : e.id = x
      · rw [hx, hno]; simp
      · rw [h e he hx]; simp [hx]
    rw [if_pos rfl, hM]
    exact eqv_forget_of salt hs x
  | false =>
    have hyes : openL M x = true := by rw [open_ents, hd]; rfl
    have hM : settleL M = M := by
      unfold settleL
      rw [List.filter_eq_self]
      intro e he
      by_cases hx : e.id = x
      · rw [hx]; exact hyes
      · exact h e he hx
    rw [if_neg (by decide), hM]
    exact hs
theorem eqv_answer (salt : UInt64) {L : List TEnt} (h : Good L) (p : Nat) (x : UInt64) : ((ofL salt L).answer p x).1 = (answerL L p x).1 ∧ ((ofL salt L).answer p x).2.Eqv (ofL salt (answerL L p x).2) := by
  unfold TS.answer answerL
  rw [ofL_ents]
  cases hfi : (entsOf L x).findIdx? (fun e => e.peer == p) with
  | none =>
    rw [if_neg (by rw [find_any_eq.1 hfi]; decide)]
    exact ⟨rfl, rfl, fun _ => rfl, fun _ _ => rfl⟩
  | some i =>
    have hany : L.any (isE p x) = true := by
      rw [← Bool.not_eq_false]
      intro hc
      rw [find_any_eq.2 hc] at hfi
      cases hfi
    obtain ⟨hi, hp, _⟩ := List.findIdx?_eq_some_iff_getElem.1 hfi
    have hp : (entsOf L x)[i].peer = p := beq_iff_eq.1 hp
    rw [if_pos hany]
    simp only [List.getElem?_eq_getElem hi]
    have he := eqv_set salt h (p := p) (x := x) (fun e => { e with st := 3 }) (doneE p x) (fun e => ⟨doneE_peer p x e, doneE_id p x e⟩) (fun e => rfl) hi hp
    refine ⟨trivial, eqv_settle salt he x fun e hm hx => ?_⟩
    obtain ⟨a, ha, rfl⟩ := List.mem_map.1 hm
    rw [doneE_id] at hx ⊢
    have hsame : doneE p x a = a := by unfold doneE; rw [if_neg]; simp [isE, hx]
    have ho := h.open' a ha
    unfold openL at ho ⊢
    rw [List.any_eq_true] at ho ⊢
    obtain ⟨c, hc, h1⟩ := ho
    have hci : c.id = a.id := by rw [Bool.and_eq_true, beq_iff_eq] at h1; exact h1.1
    refine ⟨doneE p x c, List.mem_map.2 ⟨c, hc, rfl⟩, ?_⟩
    have : doneE p x c = c := by unfold doneE; rw [if_neg]; simp [isE, hci, hx]
    rw [this]
    exact h1
theorem eqv_drop (salt : UInt64) {L : List TEnt} (h : Good L) (p : Nat) : ((ofL salt L).drop p).Eqv (ofL salt (dropL L p)) := by
  obtain ⟨M, hM⟩ : ∃ M, (L.filter fun e => !(e.peer == p)) = M := ⟨_, rfl⟩
  have hlone : ∀ y, (ofL salt L).lone p y = entsOf M y := fun y => by
    unfold TS.lone
    rw [ofL_ents, ← hM]
    unfold entsOf
    rw [List.filter_filter, List.filter_filter]
    exact List.filter_congr fun e _ => Bool.and_comm _ _
  have hld : ∀ y, (ofL salt L).loneDone p y = !openL M y := fun y => by
    unfold TS.loneDone
    rw [hlone, open_ents, Bool.not_not]
  have hnot : ∀ y, y ∉ idsOf L p → entsOf M y = entsOf L y := fun y hy => by
    rw [← hM]
    unfold entsOf
    rw [List.filter_filter]
    refine List.filter_congr fun e he => ?_
    by_cases hi : e.id = y
    · have : e.peer ≠ p := fun hp => hy (ids_mem.2 ⟨e, he, hp, hi⟩)
      simp [this]
    · simp [hi]
  have hop : ∀ y, y ∉ idsOf L p → entsOf L y ≠ [] → openL M y = true := fun y hy hne => by
    obtain ⟨e, he⟩ := List.exists_mem_of_ne_nil _ hne
    obtain ⟨h1, h2⟩ := ents_mem.1 he
    have ho := h.open' e h1
    rw [h2, open_ents] at ho
    rw [open_ents, hnot y hy]
    exact ho
  have hdl : dropL L p = settleL M := by unfold dropL; rw [hM]
  rw [hdl]
  refine ⟨rfl, fun y => ?_, fun q _ => ?_⟩
  · show (if (idsOf L p).contains y then (if (ofL salt L).loneDone p y then none else some ((ofL salt L).lone p y)) else (if entsOf L y = [] then none else some (entsOf L y))) = if entsOf (settleL M) y = [] then none else some (entsOf (settleL M) y)
    rw [settle_ents, hld, hlone]
    cases hc : (idsOf L p).contains y with
    | true =>
      cases ho : openL M y with
      | false => simp
      | true =>
        have : entsOf M y ≠ [] := fun e => by
          rw [open_ents, e] at ho
          simp at ho
        simp [this]
    | false =>
      have hy : y ∉ idsOf L p := fun hm => by rw [List.contains_iff_mem.2 hm] at hc; cases hc
      rw [if_neg (by decide)]
      by_cases he : entsOf L y = []
      · rw [if_pos he, hnot y hy, he]; simp
      · rw [if_neg he, hop y hy he, if_pos rfl, hnot y hy, if_neg he]
  · show upd (fun q => if q = p then idsOf L p else (idsOf L q).filter fun y => !((idsOf L p).contains y && (ofL salt L).loneDone p y)) p [] q = idsOf (settleL M) q
    rw [settle_ids]
    by_cases hq : q = p
    · subst hq
      rw [upd_same]
      have : idsOf M q = [] := by
        unfold idsOf
        rw [← hM, List.filter_filter, List.filter_eq_nil_iff.2]
        · rfl
        · intro e _
          cases e.peer == q <;> simp
      rw [this]
      rfl
    · rw [upd_other _ _ hq, if_neg hq]
      have : idsOf M q = idsOf L q := by
        unfold idsOf
        rw [← hM, List.filter_filter]
        congr 1
        refine List.filter_congr fun e _ => ?_
        by_cases he : e.peer = q
        · have : e.peer ≠ p := fun e' => hq (he.symm.trans e')
          simp [he, hq]
        · simp [he]
      rw [this]
      refine List.filter_congr fun y hy => ?_
      rw [hld]
      cases hc : (idsOf L p).contains y with
      | true => simp
      | false =>
        have hyn : y ∉ idsOf L p := fun hm => by rw [List.contains_iff_mem.2 hm] at hc; cases hc
        obtain ⟨e, he, _, hi⟩ := ids_mem.1 hy
        rw [hop y hyn (List.ne_nil_of_mem (ents_mem.2 ⟨he, hi⟩))]
        rfl
/-- The peer's requested entries. -/
theorem flies_eq (salt : UInt64) {L : List TEnt} (h : Good L) {e : TEnt} (he : e ∈ L) : (ofL salt L).flies e.peer e.id = (e.st == 2) := by
  unfold TS.flies
  rw [ofL_ents]
  cases hfi : (entsOf L e.id).findIdx? (fun e => e.st == 2) with
  | none =>
    have := List.findIdx?_eq_none_iff.1 hfi e (ents_mem.2 ⟨he, rfl⟩)
    rw [this]
  | some i =>
    obtain ⟨hi, hp, _⟩ := List.findIdx?_eq_some_iff_getElem.1 hfi
    have hp : (entsOf L e.id)[i].st = 2 := beq_iff_eq.1 hp
    obtain ⟨h1, h2⟩ := ents_mem.1 (List.getElem_mem hi)
    simp only [List.getElem?_eq_getElem hi]
    rw [Bool.eq_iff_iff, beq_iff_eq, beq_iff_eq]
    constructor
    · intro hpe
      obtain ⟨k, hk, hke⟩ := List.mem_iff_getElem.1 (ents_mem.2 ⟨he, rfl⟩ : e ∈ entsOf L e.id)
      have : i = k := peer_inj (ents_pair h.nodup e.id) hi hk (by rw [hpe, hke])
      subst this
      rw [← hke]
      exact hp
    · intro hs
      exact h.one _ h1 e he h2 hp hs
theorem counts_eq (salt : UInt64) {L : List TEnt} (h : Good L) (p : Nat) : ((idsOf L p).filter ((ofL salt L).flies p)).length = (L.filter fun e => e.peer == p && e.st == 2).length := by
  unfold idsOf
  rw [List.filter_map, List.length_map, List.filter_filter]
  congr 1
  refine List.filter_congr fun e he => ?_
  by_cases hp : e.peer = p
  · subst hp
    show ((ofL salt L).flies e.peer e.id && _) = _
    rw [flies_eq salt h he]
    exact Bool.and_comm _ _
  · have : (e.peer == p) = false := beq_eq_false_iff_ne.2 hp
    simp [this]
end Go.Proofs.Ytamiddnkgjfdhaa
