/-
  TrackOne: what it says of lists.
-/
import Derived.Test.YtamiddnkgjfdhaaTrackZ
namespace Go.Proofs.Ytamiddnkgjfdhaa

/-- The IDs that are to be asked for from a peer. -/
def nextL (salt : UInt64) (L : List TEnt) (p : Nat) : List UInt64 := (idsOf L p).filter ((ofL salt L).isNext p)
theorem best_some {salt : UInt64} {L : List TEnt} {x : UInt64} {m : TEnt} (h : (ofL salt L).best x = some m) : m ∈ entsOf L x ∧ m.st = 1 ∧ ∀ e ∈ entsOf L x, e.st ≠ 2 := by
  unfold TS.best at h
  rw [ofL_ents] at h
  split at h
  · rename_i h2
    rw [List.findIdx?_eq_none_iff] at h2
    split at h
    · cases h
    · rename_i a r hr
      cases h
      have hm : minE salt a r ∈ a :: r := by
        rcases minE_mem salt r a with h3 | h3
        · rw [h3]; simp
        · simp [h3]
      rw [show (ofL salt L).salt = salt from rfl]
      rw [← hr] at hm
      obtain ⟨h3, h4⟩ := List.mem_filter.1 hm
      refine ⟨h3, ?_, fun e he hs => ?_⟩
      · have h4 : (!(minE salt a r).st != 1) = true := h4
        simpa [bne] using h4
      · have := h2 e he
        rw [hs] at this
        simp at this
  · cases h
theorem next_mem {salt : UInt64} {L : List TEnt} {p : Nat} {x : UInt64} (h : x ∈ nextL salt L p) : ∃ m, (ofL salt L).best x = some m ∧ m.peer = p ∧ x ∈ idsOf L p := by
  obtain ⟨h1, h2⟩ := List.mem_filter.1 h
  unfold TS.isNext at h2
  cases hb : (ofL salt L).best x with
  | none => rw [hb] at h2; cases h2
  | some m =>
    rw [hb] at h2
    exact ⟨m, rfl, beq_iff_eq.1 h2, h1⟩
/-- No two peers are next for one ID. -/
theorem next_one {salt : UInt64} {L : List TEnt} {p q : Nat} {x : UInt64} (hp : x ∈ nextL salt L p) (hq : x ∈ nextL salt L q) : p = q := by
  obtain ⟨m, h1, h2, _⟩ := next_mem hp
  obtain ⟨m', h3, h4, _⟩ := next_mem hq
  rw [h1] at h3
  cases h3
  exact h2.symm.trans h4
theorem next_nodup {salt : UInt64} {L : List TEnt} (h : Good L) (p : Nat) : (nextL salt L p).Nodup := (ids_nodup h.nodup p).filter _
theorem next_len {salt : UInt64} {L : List TEnt} (h : Good L) {p : Nat} (hp : p < 8) : (nextL salt L p).length ≤ 20 := by
  refine Nat.le_trans (List.length_filter_le _ _) ?_
  rw [ids_length]
  exact h.few p hp
theorem next_holds {salt : UInt64} {L : List TEnt} {p : Nat} (hp : p < 8) {x : UInt64} (h : x ∈ nextL salt L p) : (holdersL L x).contains (p : Int) = true := by
  obtain ⟨_, _, _, hi⟩ := next_mem h
  obtain ⟨e, he, h1, h2⟩ := ids_mem.1 hi
  rw [List.contains_iff_mem]
  unfold holdersL
  refine List.mem_map.2 ⟨p, List.mem_filter.2 ⟨List.mem_range.2 hp, List.any_eq_true.2 ⟨e, he, by simp [isE, h1, h2]⟩⟩, rfl⟩
theorem holders_len (L : List TEnt) (x : UInt64) : (holdersL L x).length ≤ 8 := by
  unfold holdersL
  rw [List.length_map]
  exact Nat.le_trans (List.length_filter_le _ _) (by simp)
/-! ### asking -/
theorem ask_ents_other {L : List TEnt} {p : Nat} {x y : UInt64} {t : Int} (hy : y ≠ x) : entsOf (L.map (askE p x t)) y = entsOf L y := by
  rw [map_ents _ _ (askE_id p x t)]
  have : (entsOf L y).map (askE p x t) = (entsOf L y).map id := List.map_congr_left fun e he => by
    unfold askE
    rw [if_neg]
    · rfl
    · simp only [isE, (ents_mem.1 he).2, Bool.and_eq_true, beq_iff_eq, not_and]
      exact fun _ e => hy e
  rw [this, List.map_id]
theorem best_ents {salt : UInt64} {L M : List TEnt} {x : UInt64} (h : entsOf L x = entsOf M x) : (ofL salt L).best x = (ofL salt M).best x := by
  unfold TS.best
  rw [ofL_ents, ofL_ents, h]
  rfl
theorem best_req {salt : UInt64} {L : List TEnt} {x : UInt64} {e : TEnt} (he : e ∈ entsOf L x) (hs : e.st = 2) : (ofL salt L).best x = none := by
  cases hb : (ofL salt L).best x with
  | none => rfl
  | some m => exact absurd hs ((best_some hb).2.2 e he)
/-- Who is next may be asked. -/
theorem ask_next {salt : UInt64} {L : List TEnt} {p : Nat} (hp : p < 8) {x : UInt64} {m : TEnt} (hb : (ofL salt L).best x = some m) (hm : m.peer = p) : askC L p x 100 = (0, L.map (askE p x 100)) ∧ askC (L.map (askE p x 100)) p x 100 = (7, L.map (askE p x 100)) ∧ ∃ e ∈ entsOf (L.map (askE p x 100)) x, e.st = 2 := by
  obtain ⟨h1, h2, h3⟩ := best_some hb
  obtain ⟨h4, h5⟩ := ents_mem.1 h1
  have hany : L.any (isE p x) = true := List.any_eq_true.2 ⟨m, h4, by simp [isE, hm, h5]⟩
  have hmay : mayAsk L p x = true := by
    unfold mayAsk
    rw [Bool.and_eq_true, Bool.not_eq_true', List.any_eq_true, List.any_eq_false]
    refine ⟨⟨m, h4, by simp [isE, hm, h5, h2]⟩, fun e he hh => ?_⟩
    simp only [Bool.and_eq_true, beq_iff_eq] at hh
    exact h3 e (ents_mem.2 ⟨he, hh.1⟩) hh.2
  have hnew : askE p x 100 m ∈ L.map (askE p x 100) := List.mem_map.2 ⟨m, h4, rfl⟩
  have hst : (askE p x 100 m).st = 2 := by unfold askE; rw [if_pos (by simp [isE, hm, h5])]
  have hid : (askE p x 100 m).id = x := (askE_id p x 100 m).trans h5
  have hany2 : (L.map (askE p x 100)).any (isE p x) = true := List.any_eq_true.2 ⟨_, hnew, by simp [isE, askE_peer, hid, hm]⟩
  have hmay2 : mayAsk (L.map (askE p x 100)) p x = false := by
    unfold mayAsk
    rw [Bool.and_eq_false_iff]
    right
    rw [Bool.not_eq_false', List.any_eq_true]
    exact ⟨_, hnew, by simp [hid, hst]⟩
  have hgp : goodP (p : Int) ∧ goodT 100 := ⟨⟨by omega, by omega⟩, by decide⟩
  refine ⟨?_, ?_, _, ents_mem.2 ⟨hnew, hid⟩, hst⟩
  · unfold askC
    rw [if_pos hgp]
    show askL L (p : Int).toNat x 100 = _
    rw [Int.toNat_natCast]
    unfold askL
    rw [if_pos hany, if_pos hmay]
  · unfold askC
    rw [if_pos hgp]
    show askL _ (p : Int).toNat x 100 = _
    rw [Int.toNat_natCast]
    unfold askL
    rw [if_pos hany2, hmay2]
    rfl
/-- The entries of a peer's next IDs, some of which have been asked for. -/
structure Asked (salt : UInt64) (L M : List TEnt) (p : Nat) (k : Nat) : Prop where
  same : ∀ x, x ∉ (nextL salt L p).take k → entsOf M x = entsOf L x
  done : ∀ x ∈ (nextL salt L p).take k, ∃ e ∈ entsOf M x, e.st = 2
  ids : idsOf M p = idsOf L p
theorem asked_start (salt : UInt64) (L : List TEnt) (p : Nat) : Asked salt L L p 0 := ⟨fun _ _ => rfl, by simp, rfl⟩
theorem asked_step {salt : UInt64} {L M : List TEnt} (hL : Good L) {p : Nat} (hp : p < 8) {k : Nat} (h : Asked salt L M p k) (hk : k < (nextL salt L p).length) :
    askC M p (nextL salt L p)[k] 100 = (0, M.map (askE p (nextL salt L p)[k] 100)) ∧ askC (M.map (askE p (nextL salt L p)[k] 100)) p (nextL salt L p)[k] 100 = (7, M.map (askE p (nextL salt L p)[k] 100)) ∧ Asked salt L (M.map (askE p (nextL salt L p)[k] 100)) p (k + 1) := by
  obtain ⟨x, hx⟩ : ∃ x, (nextL salt L p)[k] = x := ⟨_, rfl⟩
  have hxm : x ∈ nextL salt L p := hx ▸ List.getElem_mem hk
  have hnt : x ∉ (nextL salt L p).take k := fun hm => by
    have h1 := take_contains_nodup (next_nodup (salt := salt) hL p) hk
    rw [hx, List.contains_iff_mem.2 hm] at h1
    cases h1
  have htk : (nextL salt L p).take (k + 1) = (nextL salt L p).take k ++ [x] := by rw [List.take_succ_eq_append_getElem hk, hx]
  obtain ⟨m, hb, hmp, _⟩ := next_mem hxm
  have hbM : (ofL salt M).best x = some m := (best_ents (h.same x hnt)).trans hb
  obtain ⟨h1, h2, h3⟩ := ask_next hp hbM hmp
  rw [hx]
  refine ⟨h1, h2, fun y hy => ?_, fun y hy => ?_, ?_⟩
  · rw [htk, List.mem_append, not_or] at hy
    rw [ask_ents_other (fun e => hy.2 (by simp [e]))]
    exact h.same y hy.1
  · rw [htk, List.mem_append] at hy
    rcases hy with hy | hy
    · rw [ask_ents_other (show y ≠ x from fun e => hnt (e ▸ hy))]
      exact h.done y hy
    · rw [List.mem_singleton.1 hy]
      exact h3
  · rw [map_ids _ _ (askE_peer p x 100) (askE_id p x 100)]
    exact h.ids
theorem asked_end {salt : UInt64} {L M : List TEnt} {p k : Nat} (h : Asked salt L M p k) (hk : (nextL salt L p).length ≤ k) : nextL salt M p = [] := by
  unfold nextL
  rw [h.ids, List.filter_eq_nil_iff]
  intro x hx hn
  have htk : (nextL salt L p).take k = nextL salt L p := List.take_of_length_le hk
  by_cases hm : x ∈ nextL salt L p
  · obtain ⟨e, he, hs⟩ := h.done x (by rw [htk]; exact hm)
    unfold TS.isNext at hn
    rw [best_req he hs] at hn
    cases hn
  · refine hm (List.mem_filter.2 ⟨hx, ?_⟩)
    unfold TS.isNext at hn ⊢
    rw [← best_ents (h.same x (by rw [htk]; exact hm))]
    exact hn
end Go.Proofs.Ytamiddnkgjfdhaa
