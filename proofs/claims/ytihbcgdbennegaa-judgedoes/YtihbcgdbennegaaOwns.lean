/-
  Rows in blocks of their own, as a thing owns them; the Ins of a deed that passes the check.
-/
import Derived.Test.YtihbcgdbennegaaInsOwn
namespace Go.Proofs.Ytihbcgdbennegaa
open Go.RowKit

/-- A function with another value in one place. -/
def upd {α β : Type} [DecidableEq α] (f : α → β) (a : α) (v : β) : α → β := fun x => if x = a then v else f x
theorem upd_same {α β : Type} [DecidableEq α] (f : α → β) (a : α) (v : β) : upd f a v a = v := if_pos rfl
theorem upd_other {α β : Type} [DecidableEq α] (f : α → β) {a x : α} (v : β) (h : x ≠ a) : upd f a v x = f x := if_neg h
/-- The deed with nothing in it. -/
def nod : DeedD := ⟨[], 0, 0, 0⟩
theorem own_at {w : World} {B : Nat} {e : TypeId} {size n : Nat} {v : Value} {xs : List Value} {g : Nat} (h : w.ownsRow B e size v n xs) (hg : v.ownBlock = some g) : ∃ cur, w.heap[g]? = some (.cells cur e (0, 0)) := by
  rcases h.2 with ⟨hv, _⟩ | ⟨g', cap, cur, hv, _, hh, _⟩
  · rw [hv] at hg; cases hg
  · rw [hv] at hg
    simp only [Value.ownBlock, Option.some.injEq] at hg
    subst hg
    exact ⟨cur, hh⟩
theorem own_same {w w' : World} {B : Nat} {e : TypeId} {size n : Nat} {v : Value} {xs : List Value} (h : w.ownsRow B e size v n xs) (hs : ∀ g, v.ownBlock = some g → w'.heap[g]? = w.heap[g]?) : w'.ownsRow B e size v n xs := by
  refine ⟨h.1, ?_⟩
  rcases h.2 with hv | ⟨g, cap, cur, hv, hb, hh, r⟩
  · exact .inl hv
  · exact .inr ⟨g, cap, cur, hv, hb, (hs g (by rw [hv]; rfl)).trans hh, r⟩
theorem own_turn {w w' : World} {G G' : Nat → Prop} {B : Nat} {e : TypeId} {size n : Nat} {v : Value} {xs : List Value} (h : w.ownsRow B e size v n xs) (ht : Turn G G' w w') (hn : ∀ g, v.ownBlock = some g → ¬ G g) : w'.ownsRow B e size v n xs :=
  own_same h fun g hg => ht.block g ((h.lt g hg).2) (hn g hg)
theorem head_cell {w : World} {R : Nat} {cs : Array Value} {t : TypeId} {fr : Nat × Nat} (h : w.heap[R]? = some (.cells cs t fr)) (j : Nat) : w.cell? ⟨R, j, none⟩ = cs[j]? := by simp [World.cell?, h]
theorem ins_ok {d : DeedD} (h : checkD d = 0) : ∀ z ∈ d.ins, inOk z := fun z hz => by
  obtain ⟨k, hk, rfl⟩ := List.getElem_of_mem hz
  have := (check_ok h).2.1 k hk
  unfold inOk
  simp only [Lit.wf, Bool.and_eq_true, decide_eq_true_eq]
  exact ⟨by show (-9223372036854775808 : Int) ≤ _; omega, by show _ ≤ (9223372036854775807 : Int); omega⟩
theorem insAt_turn {w w' : World} {G G' : Nat → Prop} {a : Option Addr} {l : List InD} (h : InsAt w a l) (ht : Turn G G' w w') (hn : ∀ bb o, l ≠ [] → a = some ⟨bb, o, none⟩ → ¬ G bb) : InsAt w' a l := fun i hi => by
  obtain ⟨bb, o, e, hb, c0, c1, c2⟩ := h i hi
  have hG := hn bb o (fun e => by rw [e] at hi; simp at hi) e
  have hs := ht.block bb hb hG
  exact ⟨bb, o, e, Nat.lt_of_lt_of_le hb ht.size, (World.cell?_of_block (a := ⟨bb, o + i * 2, none⟩) hs).trans c0, (World.cell?_of_block (a := ⟨bb, o + i * 2 + 1, none⟩) hs).trans c1, c2⟩
theorem turn_set4 (w : World) (n : Nat) (u0 u1 u2 u3 : Value) : Turn (fun k => k = n) (fun k => k = n) w ((((w.setCell ⟨n, 0, none⟩ u0).setCell ⟨n, 1, none⟩ u1).setCell ⟨n, 2, none⟩ u2).setCell ⟨n, 3, none⟩ u3) :=
  (((Turn.set (F := fun k => k = n) w ⟨n, 0, none⟩ u0 rfl).trans (Turn.set _ ⟨n, 1, none⟩ u1 rfl)).trans (Turn.set _ ⟨n, 2, none⟩ u2 rfl)).trans (Turn.set _ ⟨n, 3, none⟩ u3 rfl)
/-- The answer of Deed. -/
def DeedAns (w : World) (m : Option DeedD) (e : Ending) (w' : World) : Prop :=
  ∃ a c, e = .returned (.tuple #[.agg #[.slice a (m.getD nod).ins.length c, .int .i64 (m.getD nod).outs, .int .i64 (m.getD nod).weight, .int .i64 (m.getD nod).fee], .int .i64 (if m.isSome then 0 else 5)]) ∧ (m.getD nod).ins.length ≤ 8 ∧ (m.getD nod).ins.length ≤ c ∧ InsAt w' a (m.getD nod).ins ∧ Below w.heap.size w w'
end Go.Proofs.Ytihbcgdbennegaa
