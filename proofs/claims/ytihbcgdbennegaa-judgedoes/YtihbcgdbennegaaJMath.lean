/-
  A ledger as a plain list of deeds: what its calls answer. No function of a program is named here.
-/
import Derived.Test.YtihbcgdbennegaaDeedID
import Derived.Test.YtihbcgdbennegaaOwns
namespace Go.Proofs.Ytihbcgdbennegaa
open Go.RowKit

/-- The deed with an ID. -/
def findL (L : List DeedD) (x : UInt64) : Option DeedD := L.find? fun d => idD d == x
/-- All Ins. -/
def insL (L : List DeedD) : List InD := L.flatMap fun d => d.ins
/-- The IDs of some Ins that are not found, each once. -/
def missL (M : UInt64 → Option DeedD) (l : List InD) : List UInt64 := l.foldl (fun m e => if (M e.1).isSome then m else if m.contains e.1 then m else m ++ [e.1]) []
/-- One In is of an output that there is not, or that is spent. -/
def badIn (M : UInt64 → Option DeedD) (sp : InD → Bool) (e : InD) : Bool := decide (e.2 ≥ ((M e.1).getD nod).outs) || sp e
def wickedL (M : UInt64 → Option DeedD) (sp : InD → Bool) (l : List InD) : Bool := l.any (badIn M sp)
def payI (fee weight : Int) : Int := if 10 * fee < weight then 1 else 0
/-- The state of a deed that may be. -/
def stateM (M : UInt64 → Option DeedD) (sp : InD → Bool) (d : DeedD) : Int := if missL M d.ins ≠ [] then 2 else if wickedL M sp d.ins = true then 3 else payI d.fee d.weight
abbrev spentL (L : List DeedD) : InD → Bool := fun e => (insL L).contains e
def stateL (L : List DeedD) (d : DeedD) : Int := stateM (findL L) (spentL L) d
/-- Judge's answers. -/
def judgeL (L : List DeedD) (d : DeedD) : Int × List UInt64 × Int := if checkD d ≠ 0 then (0, [], checkD d) else (stateL L d, missL (findL L) d.ins, 0)
/-- Accept's answer, and what the ledger is then. -/
def acceptL (L : List DeedD) (d : DeedD) : Int × List DeedD :=
  if checkD d ≠ 0 then (checkD d, L) else if (findL L (idD d)).isSome = true then (6, L) else if stateL L d ≥ 2 then (7, L) else (0, L ++ [d])
/-- What a ledger is, whatever was to be accepted. -/
structure GoodJ (L : List DeedD) : Prop where
  fine : ∀ d ∈ L, checkD d = 0
  nodup : (L.map idD).Nodup

theorem findL_mem {L : List DeedD} {x : UInt64} {d : DeedD} (h : findL L x = some d) : d ∈ L ∧ idD d = x :=
  ⟨List.mem_of_find?_eq_some h, by have := List.find?_some h; simpa using this⟩
theorem findL_some {L : List DeedD} {x : UInt64} : (findL L x).isSome = true ↔ ∃ d ∈ L, idD d = x := by
  unfold findL
  rw [List.find?_isSome]
  simp
theorem findL_none {L : List DeedD} {x : UInt64} : findL L x = none ↔ ∀ d ∈ L, idD d ≠ x := by
  unfold findL
  rw [List.find?_eq_none]
  simp
theorem findL_snoc (L : List DeedD) (d : DeedD) (x : UInt64) : findL (L ++ [d]) x = if (findL L x).isSome = true then findL L x else if idD d = x then some d else none := by
  unfold findL
  rw [List.find?_append]
  cases h : L.find? (fun d => idD d == x) with
  | some y => simp
  | none =>
    simp only [Option.none_or, Option.isSome_none, Bool.false_eq_true, if_false]
    by_cases e : idD d = x
    · rw [if_pos e]; simp [e]
    · rw [if_neg e]; simp [e]
theorem findL_new {L : List DeedD} {d : DeedD} (h : findL L (idD d) = none) : findL (L ++ [d]) = upd (findL L) (idD d) (some d) := by
  funext x
  rw [findL_snoc]
  by_cases e : x = idD d
  · rw [e, h, upd_same]
    simp
  · rw [upd_other _ _ e]
    cases hx : findL L x with
    | some y => simp
    | none => simp; exact fun e2 => e e2.symm
theorem findL_keys {L : List DeedD} {x : UInt64} (h : (findL L x).isSome = true) : x ∈ L.map idD := by
  obtain ⟨d, hd, e⟩ := findL_some.1 h
  exact List.mem_map.2 ⟨d, hd, e⟩
theorem insL_snoc (L : List DeedD) (d : DeedD) : insL (L ++ [d]) = insL L ++ d.ins := by unfold insL; simp
theorem missL_step {M : UInt64 → Option DeedD} {l : List InD} {k : Nat} (h : k < l.length) : missL M (l.take (k + 1)) = if (M l[k].1).isSome then missL M (l.take k) else if (missL M (l.take k)).contains l[k].1 then missL M (l.take k) else missL M (l.take k) ++ [l[k].1] := by
  unfold missL
  rw [List.take_succ_eq_append_getElem h, List.foldl_append]
  rfl
theorem missL_length (M : UInt64 → Option DeedD) : ∀ l : List InD, (missL M l).length ≤ l.length := fun l => by
  have : ∀ k, k ≤ l.length → (missL M (l.take k)).length ≤ k := fun k => by
    induction k with
    | zero => intro _; simp [missL]
    | succ k ih =>
      intro hk
      rw [missL_step (by omega)]
      have := ih (by omega)
      split
      · omega
      · split
        · omega
        · simp; omega
  have := this l.length (Nat.le_refl _)
  rwa [List.take_length] at this
/-- Who is missing: is not found; each once. -/
theorem missL_facts (M : UInt64 → Option DeedD) (l : List InD) : (∀ x ∈ missL M l, M x = none) ∧ (missL M l).Nodup ∧ (∀ e ∈ l, M e.1 = none → e.1 ∈ missL M l) := by
  have : ∀ k, k ≤ l.length → (∀ x ∈ missL M (l.take k), M x = none) ∧ (missL M (l.take k)).Nodup ∧ (∀ e ∈ l.take k, M e.1 = none → e.1 ∈ missL M (l.take k)) := fun k => by
    induction k with
    | zero => intro _; simp [missL]
    | succ k ih =>
      intro hk
      obtain ⟨h1, h2, h3⟩ := ih (by omega)
      have hlt : k < l.length := by omega
      rw [missL_step hlt, List.take_succ_eq_append_getElem hlt]
      cases hm : M l[k].1 with
      | some d =>
        simp only [Option.isSome_some, if_true]
        refine ⟨h1, h2, fun e he hn => ?_⟩
        rcases List.mem_append.1 he with he | he
        · exact h3 e he hn
        · rw [List.mem_singleton.1 he, hm] at hn; cases hn
      | none =>
        simp only [Option.isSome_none, Bool.false_eq_true, if_false]
        by_cases hc : (missL M (l.take k)).contains l[k].1 = true
        · rw [if_pos hc]
          refine ⟨h1, h2, fun e he hn => ?_⟩
          rcases List.mem_append.1 he with he | he
          · exact h3 e he hn
          · rw [List.mem_singleton.1 he]; exact List.contains_iff_mem.1 hc
        · rw [if_neg hc]
          have hc' : l[k].1 ∉ missL M (l.take k) := fun h => hc (List.contains_iff_mem.2 h)
          refine ⟨fun x hx => ?_, ?_, fun e he hn => ?_⟩
          · rcases List.mem_append.1 hx with hx | hx
            · exact h1 x hx
            · rw [List.mem_singleton.1 hx]; exact hm
          · rw [List.nodup_append]
            exact ⟨h2, by simp, fun a ha b hb e => hc' (by rw [← List.mem_singleton.1 hb, ← e]; exact ha)⟩
          · rcases List.mem_append.1 he with he | he
            · exact List.mem_append.2 (.inl (h3 e he hn))
            · rw [List.mem_singleton.1 he]; simp
  have := this l.length (Nat.le_refl _)
  rwa [List.take_length] at this
theorem missL_none {M : UInt64 → Option DeedD} {l : List InD} : missL M l = [] ↔ ∀ e ∈ l, (M e.1).isSome = true := by
  obtain ⟨h1, _, h3⟩ := missL_facts M l
  constructor
  · intro h e he
    cases hm : M e.1 with
    | some d => rfl
    | none =>
      have := h3 e he hm
      rw [h] at this
      cases this
  · intro h
    cases hm : missL M l with
    | nil => rfl
    | cons x r =>
      exfalso
      have hx := h1 x (by rw [hm]; simp)
      have : ∀ k, k ≤ l.length → missL M (l.take k) = [] := fun k => by
        induction k with
        | zero => intro _; simp [missL]
        | succ k ih => intro hk; rw [missL_step (by omega), if_pos (h _ (List.getElem_mem (by omega))), ih (by omega)]
      have h4 := this l.length (Nat.le_refl _)
      rw [List.take_length, hm] at h4
      cases h4
theorem payI_lt (f w : Int) : payI f w < 2 ∧ 0 ≤ payI f w := by unfold payI; split <;> omega
theorem stateM_lost {M : UInt64 → Option DeedD} {sp : InD → Bool} {d : DeedD} : stateM M sp d = 2 ↔ missL M d.ins ≠ [] := by
  unfold stateM
  have := payI_lt d.fee d.weight
  split
  · rename_i h; exact ⟨fun _ => h, fun _ => rfl⟩
  · rename_i h
    split
    · exact ⟨fun h => by omega, fun h' => absurd h' h⟩
    · exact ⟨fun h => by omega, fun h' => absurd h' h⟩
/-- A deed that may be accepted. -/
theorem stateM_may {M : UInt64 → Option DeedD} {sp : InD → Bool} {d : DeedD} : ¬ stateM M sp d ≥ 2 ↔ (∀ e ∈ d.ins, (M e.1).isSome = true ∧ e.2 < ((M e.1).getD nod).outs ∧ sp e = false) := by
  have hp := payI_lt d.fee d.weight
  unfold stateM
  constructor
  · intro h e he
    by_cases h1 : missL M d.ins ≠ []
    · rw [if_pos h1] at h; omega
    · rw [if_neg h1] at h
      by_cases h2 : wickedL M sp d.ins = true
      · rw [if_pos h2] at h; omega
      · have h3 := missL_none.1 (Classical.not_not.1 h1) e he
        rw [Bool.not_eq_true] at h2
        have h4 := (List.any_eq_false.1 h2) e he
        unfold badIn at h4
        simp only [Bool.not_eq_true, Bool.or_eq_false_iff, decide_eq_false_iff_not] at h4
        exact ⟨h3, by omega, h4.2⟩
  · intro h
    have h1 : missL M d.ins = [] := missL_none.2 fun e he => (h e he).1
    have h2 : wickedL M sp d.ins = false := by
      unfold wickedL
      rw [List.any_eq_false]
      intro e he
      obtain ⟨_, h3, h4⟩ := h e he
      unfold badIn
      simp only [Bool.not_eq_true, Bool.or_eq_false_iff, decide_eq_false_iff_not]
      exact ⟨by omega, h4⟩
    rw [if_neg (by rw [h1]; simp), if_neg (by rw [h2]; simp)]
    omega
theorem acceptL_good {L : List DeedD} (h : GoodJ L) (d : DeedD) : GoodJ (acceptL L d).2 := by
  unfold acceptL
  split
  · exact h
  · split
    · exact h
    · split
      · exact h
      · rename_i h1 h2 h3
        refine ⟨fun e he => ?_, ?_⟩
        · rcases List.mem_append.1 he with he | he
          · exact h.fine e he
          · rw [List.mem_singleton.1 he]; exact Classical.not_not.1 h1
        · rw [List.map_append, List.nodup_append]
          refine ⟨h.nodup, by simp, fun a ha b hb e => h2 ?_⟩
          simp only [List.map_cons, List.map_nil, List.mem_singleton] at hb
          obtain ⟨y, hy, e2⟩ := List.mem_map.1 ha
          exact findL_some.2 ⟨y, hy, by rw [e2, e, hb]⟩
theorem acceptL_length (L : List DeedD) (d : DeedD) : (acceptL L d).2.length ≤ L.length + 1 := by
  unfold acceptL
  split
  · simp
  · split
    · simp
    · split
      · simp
      · simp
/-- All of a list, one by one. -/
def acceptAll (l : List DeedD) : List DeedD := l.foldl (fun L d => (acceptL L d).2) []
theorem acceptAll_step {l : List DeedD} {k : Nat} (h : k < l.length) : acceptAll (l.take (k + 1)) = (acceptL (acceptAll (l.take k)) l[k]).2 := by
  unfold acceptAll
  rw [List.take_succ_eq_append_getElem h, List.foldl_append]
  rfl
theorem acceptAll_facts (l : List DeedD) : GoodJ (acceptAll l) ∧ (acceptAll l).length ≤ l.length := by
  have : ∀ k, k ≤ l.length → GoodJ (acceptAll (l.take k)) ∧ (acceptAll (l.take k)).length ≤ k := fun k => by
    induction k with
    | zero => intro _; exact ⟨⟨by simp [acceptAll], by simp [acceptAll]⟩, by simp [acceptAll]⟩
    | succ k ih =>
      intro hk
      obtain ⟨h1, h2⟩ := ih (by omega)
      rw [acceptAll_step (by omega)]
      exact ⟨acceptL_good h1 _, by have := acceptL_length (acceptAll (l.take k)) l[k]; omega⟩
  have := this l.length (Nat.le_refl _)
  rwa [List.take_length] at this
end Go.Proofs.Ytihbcgdbennegaa
