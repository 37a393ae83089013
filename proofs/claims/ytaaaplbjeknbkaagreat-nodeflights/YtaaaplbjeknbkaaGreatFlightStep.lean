/-
  An act, and what a law knows of requests behind it.
-/
import Derived.Test.YtaaaplbjeknbkaaGreatFlightMath
set_option maxRecDepth 20000
namespace Go.Proofs.YtaaaplbjeknbkaaGreat
open Go.RowKit Go.Maps

variable {s u : NS} {un un' : UInt64 → Option Int} {of : UInt64 → Option Nat}

/-- Whom a message asks for what. -/
def kidsOf (o : OutD) : List (UInt64 × Nat) := if (Ms.ansM o.bytes.data.toList).kind = 2 then (outIds o).map fun x => (x, o.peer) else []
theorem reqs_len (u : NS) : ∀ k, (u.reqs k).length ≤ 4 * k
  | 0 => Nat.le_refl _
  | k + 1 => by
    have := reqs_len u k
    have h2 := asks_few (s := (u.wait k).1) k
    simp only [NS.reqs, List.length_append, List.length_map]
    omega
structure FlyStep (s : NS) (a : ActD) (un : UInt64 → Option Int) (of : UInt64 → Option Nat) (l : List (UInt64 × Nat)) : Prop where
  size : ∀ o ∈ (s.did a).2.1, o.bytes.size ≤ maxLen
  reqs : (s.did a).2.1.flatMap kidsOf = l
  nodup : (l.map fun r => r.1).Nodup
  few : l.length ≤ 32
  lt : ∀ r ∈ l, r.2 < 8
  calm : ∀ r ∈ l, ∀ t, un r.1 = some t → ¬ (s.did a).1.now < t
  post : ∀ un' : UInt64 → Option Int, (∀ x t, un' x = some t → l.foldl (unStep ((s.did a).1.later 10)) un x = some t) →
    ((s.did a).2.2 = 0 → a.kind = 2 → ∀ x p, l.foldl whoStep of x = some p → (p : Int) = a.peer → un' x = none) →
    ((s.did a).2.2 = 0 → a.kind = 3 → ((Ms.ansM a.bytes.data.toList).kind = 4 → ∀ x ∈ (Ms.ansM a.bytes.data.toList).ids, ∀ p, l.foldl whoStep of x = some p → (p : Int) = a.peer → un' x = none) ∧ ((Ms.ansM a.bytes.data.toList).kind = 3 → ∀ x, un' x = none)) →
    FlyInv (s.did a).1 un' (l.foldl whoStep of)
/-- An act that asks nobody. -/
theorem step_none {a : ActD} (h1 : ∀ o ∈ (s.did a).2.1, o.bytes.size ≤ maxLen ∧ kidsOf o = [])
    (h2 : ∀ un' : UInt64 → Option Int, (∀ x t, un' x = some t → un x = some t) → ((s.did a).2.2 = 0 → a.kind = 2 → ∀ x p, of x = some p → (p : Int) = a.peer → un' x = none) →
      ((s.did a).2.2 = 0 → a.kind = 3 → ((Ms.ansM a.bytes.data.toList).kind = 4 → ∀ x ∈ (Ms.ansM a.bytes.data.toList).ids, ∀ p, of x = some p → (p : Int) = a.peer → un' x = none) ∧ ((Ms.ansM a.bytes.data.toList).kind = 3 → ∀ x, un' x = none)) →
      FlyInv (s.did a).1 un' of) : FlyStep s a un of [] :=
  ⟨fun o ho => (h1 o ho).1, List.flatMap_eq_nil_iff.2 fun o ho => (h1 o ho).2, List.nodup_nil, Nat.zero_le _, fun r hr => (by cases hr), fun r hr => (by cases hr), h2⟩
theorem err_step {a : ActD} (h : FlyInv s un of) (h0 : (s.did a).2.2 ≠ 0) : FlyStep s a un of [] :=
  step_none (fun o ho => by (rw [(did_err a h0).1] at ho; cases ho)) fun un' hs _ _ => h.err h0 |>.less hs
theorem did_flights (h : FlyInv s un of) (h0 : 0 ≤ s.now ∧ s.now ≤ 1099511627776) (hg : Tr.Good s.T) (a : ActD) : ∃ l, FlyStep s a un of l := by
  by_cases he : (s.did a).2.2 = 0
  · by_cases h1 : a.kind = 1
    · have e : s.did a = ((s.join a.peer a.flag).1, [], (s.join a.peer a.flag).2) := by unfold NS.did; rw [if_pos h1]
      exact ⟨[], step_none (fun o ho => by (rw [e] at ho; cases ho)) fun un' hs _ _ => by rw [e]; exact (h.less hs).join⟩
    · by_cases h2 : a.kind = 2
      · have e : s.did a = ((s.leave a.peer).1, [], (s.leave a.peer).2) := by unfold NS.did; rw [if_neg h1, if_pos h2]
        rw [e] at he
        have ht : s.thereE a.peer = 0 := by
          refine Classical.byContradiction fun hn => hn ?_
          have he : (s.leave a.peer).2 = 0 := he
          unfold NS.leave at he
          rw [if_pos hn] at he
          exact he
        refine ⟨[], step_none (fun o ho => by (rw [e] at ho; cases ho)) fun un' hs hl _ => ?_⟩
        rw [e]
        exact h.leave ht hs (hl (by rw [e]; exact he) h2)
      · by_cases h3 : a.kind = 3
        · have e : s.did a = s.send a.peer a.bytes := by unfold NS.did; rw [if_neg h1, if_neg h2, if_pos h3]
          refine ⟨[], step_none (fun o ho => ?_) fun un' hs _ hm => ?_⟩
          · have : ∃ p l, o ∈ s.fetch p l := by
              rw [e] at ho
              unfold NS.send at ho
              simp only at ho
              split at ho
              · cases ho
              · split at ho
                · cases ho
                · split at ho
                  · cases ho
                  · split at ho
                    · cases ho
                    · split at ho
                      · exact ⟨_, _, ho⟩
                      · split at ho
                        · cases ho
                        · cases ho
            obtain ⟨p, l, hf⟩ := this
            obtain ⟨m, hc, rfl, hk⟩ := fetch_outs _ _ _ hf
            refine ⟨bytes_small _, ?_⟩
            unfold kidsOf
            rw [if_neg]
            simp only
            unfold bytesM
            rw [if_pos hc, str_data, Ms.ansM_enc hc]
            omega
          · obtain ⟨m1, m2⟩ := hm he h3
            rw [e] at he ⊢
            exact h.send he hs m1 m2
        · by_cases h4 : a.kind = 4
          · have e : s.did a = s.pass a.n := by unfold NS.did; rw [if_neg h1, if_neg h2, if_neg h3, if_pos h4]
            rw [e] at he
            have hk : ¬ (a.n < 0 ∨ a.n > 1099511627776 - s.now) := fun hk => by (rw [pass_bad hk] at he; cases he)
            rw [pass_ok hk] at e
            have hr := wait_reqs (s.at a.n) (by show 0 ≤ s.now + a.n ∧ s.now + a.n ≤ 1099511627776; omega) (Tr.good_due hg _) 8 (Nat.le_refl _)
            have hlen := reqs_len (s.at a.n) 8
            obtain ⟨W, hW⟩ : ∃ W, (s.at a.n).wait 8 = W := ⟨_, rfl⟩
            obtain ⟨rq, hrq⟩ : ∃ rq, (s.at a.n).reqs 8 = rq := ⟨_, rfl⟩
            rw [hW, hrq] at hr
            rw [hW] at e
            rw [hrq] at hlen
            refine ⟨rq, fun o ho => ?_, ?_, hr.nodup, hlen, fun r hr' => (hr.fl r hr').1, fun r hr' t ht => ?_, fun un' hs _ _ => ?_⟩
            · rw [e] at ho
              exact (hr.form o ho).2.2
            · rw [e, ← hr.outs]
              unfold outsReqs
              have key : ∀ L : List OutD, (∀ o ∈ L, (Ms.ansM o.bytes.data.toList).kind = 2) → L.flatMap kidsOf = L.flatMap fun o => (outIds o).map fun x => (x, o.peer) := fun L => by
                induction L with
                | nil => intro _; rfl
                | cons o r ih =>
                  intro hL
                  rw [List.flatMap_cons, List.flatMap_cons, ih fun x hx => hL x (List.mem_cons_of_mem _ hx)]
                  congr 1
                  unfold kidsOf
                  rw [if_pos (hL o List.mem_cons_self)]
              exact key _ fun o ho => (hr.form o ho).2.1
            · rw [e]
              exact h.ask (by omega) hr r hr' t ht
            · rw [e] at hs ⊢
              exact (h.wait (by omega) hr).less hs
          · have e : s.did a = (s, [], 1) := by unfold NS.did; rw [if_neg h1, if_neg h2, if_neg h3, if_neg h4]
            rw [e] at he
            cases he
  · exact ⟨[], err_step h he⟩
end Go.Proofs.YtaaaplbjeknbkaaGreat
