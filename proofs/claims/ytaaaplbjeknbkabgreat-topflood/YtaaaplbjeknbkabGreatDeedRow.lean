/-
  Deeds in a row of a law's own, each with its In in a block of its own.
-/
import Derived.Test.YtaaaplbjeknbkabGreatTopK2
import Derived.Test.YtaaaplbjeknbkabGreatJ5
set_option maxRecDepth 20000
namespace Go.Proofs.YtaaaplbjeknbkabGreat
open Go.RowKit Go.Maps

variable {w w' w0 : World}

def drC (q : DeedH) : List Value := [.slice q.ia q.d.ins.length q.ic, .int .i64 q.d.outs, .int .i64 q.d.weight, .int .i64 q.d.fee]
def drsC (l : List DeedH) : List Value := l.flatMap drC
theorem drC_length (q : DeedH) : (drC q).length = 4 := rfl
theorem drsC_length (l : List DeedH) : (drsC l).length = l.length * 4 := by
  induction l with
  | nil => rfl
  | cons a r ih => simp only [drsC, List.flatMap_cons, List.length_append, drC_length, List.length_cons] at ih ⊢; omega
theorem drsC_append (a b : List DeedH) : drsC (a ++ b) = drsC a ++ drsC b := by simp [drsC]
theorem drsC_at : ∀ (l : List DeedH) (i : Nat) (h : i < l.length) (j : Nat), j < 4 → (drsC l)[i * 4 + j]? = (drC l[i])[j]?
  | [], i, h, _, _ => absurd h (by simp)
  | a :: r, 0, _, j, hj => by
    show (drC a ++ drsC r)[0 * 4 + j]? = _
    rw [List.getElem?_append_left (by rw [drC_length]; omega)]
    simp
  | a :: r, i + 1, h, j, hj => by
    show (drC a ++ drsC r)[(i + 1) * 4 + j]? = _
    rw [List.getElem?_append_right (by rw [drC_length]; omega), drC_length, show (i + 1) * 4 + j - 4 = i * 4 + j by omega, drsC_at r i (by simpa using h) j hj]
    rfl
/-- The slice v holds these deeds, in a block of its own from block C on. -/
abbrev OwnDR (w : World) (C : Nat) (v : Value) (l : List DeedH) : Prop := w.ownsRow C 35 4 v l.length (drsC l)
theorem info_dr : (Tryz.prog.info? 35).map (fun i => (i.zero, i.size, i.bytes)) = some (some (.agg #[.slice none 0 0, .int .i64 0, .int .i64 0, .int .i64 0]), 4, 48) := by kernel_rfl
theorem append_deed {ops : Array Oper} {rest : List Oper} {o : Oper} {a : Act} {Q : Exit → Act → World → Prop} (hgd : o.guard = none) (s x : Operand) (ho : o.op = .call { callee := .builtin .append, args := #[s, x], argTypes := #[25, 25] })
    {B : Nat} {v : Value} {d : List DeedH} (q : DeedH) (hs : a.eval s = v) (hx : a.eval x = .slice (some ⟨w.heap.size, 0, none⟩) 1 1) (hown : OwnDR w B v d) (hlen : d.length ≤ 1000000) (hB : B ≤ w.heap.size)
    (h : ∀ g cap w', OwnDR w' B (.slice (some ⟨g, 0, none⟩) (d.length + 1) cap) (d ++ [q]) → w.grownBy w' v.ownBlock → wpList Tryz.prog ops Q rest (a.put o.dst (.slice (some ⟨g, 0, none⟩) (d.length + 1) cap)) w') :
    wpList Tryz.prog ops Q (o :: rest) a (w.alloc (.cells #[.slice q.ia q.d.ins.length q.ic, .int .i64 q.d.outs, .int .i64 q.d.weight, .int .i64 q.d.fee] 35)) := by
  obtain ⟨i0, hi0, hz0, hz1, hz2⟩ := info_parts info_dr
  refine wpList_append_lies _ hgd s x 25 ho B 35 i0 _ 4 48 Tryz.underlying25 hi0 hz0 hz1 hz2 rfl (by decide) v d.length (drsC d) hs (hown.alloc _) ⟨w.heap.size, 0, none⟩ 1 1 (drC q) hx rfl (cells_new w _ _) (by simp [drC, Value.oneCell']) (by decide) (by unfold maxLen; omega) (by omega) (by simp; omega) _ rfl ?_
  intro g cap w1 hown' hgrow _ _
  refine h g cap w1 ?_ ((World.grownBy_alloc w _ _).trans hgrow)
  unfold OwnDR
  rw [List.length_append, drsC_append]
  have : drsC [q] = drC q := by simp [drsC]
  rw [this]
  exact hown'
/-- A deed's Ins: none, or one in a block of its own. -/
def InsB (w : World) (q : DeedH) : Prop := (q.ia = none ∧ q.d.ins = []) ∨ ∃ g x, q.ia = some ⟨g, 0, none⟩ ∧ q.ic = 1 ∧ q.d.ins = [(x, 0)] ∧ w.heap[g]? = some (.cells #[.int .u64 x.toNat, .int .i64 0] 50 (0, 0))
variable {q : DeedH}
theorem InsB.at (h : InsB w q) : InsAt w q.ia q.d.ins := by
  rcases h with ⟨_, h2⟩ | ⟨g, x, h1, _, h3, h4⟩
  · intro i hi
    rw [h2] at hi
    exact absurd hi (by simp)
  · intro i hi
    rw [h3] at hi
    obtain rfl : i = 0 := by simpa using hi
    refine ⟨g, 0, h1, (Array.getElem?_eq_some_iff.1 h4).1, ?_, ?_, ?_⟩
    · rw [head_cell h4]
      simp [h3]
    · rw [head_cell h4]
      simp [h3]
    · simp only [h3, List.getElem_cons_zero]
      exact inOk_small x (by decide)
theorem InsB.cap (h : InsB w q) : q.d.ins.length ≤ q.ic := by
  rcases h with ⟨_, h2⟩ | ⟨g, x, _, h2, h3, _⟩
  · rw [h2]; exact Nat.zero_le _
  · rw [h2, h3]; exact Nat.le_refl _
theorem InsB.same (h : InsB w q) (e : ∀ (g : Nat) (cs : Array Value), w.heap[g]? = some (Obj.cells cs 50 (0, 0)) → w'.heap[g]? = w.heap[g]?) : InsB w' q :=
  h.imp id fun ⟨g, x, h1, h2, h3, h4⟩ => ⟨g, x, h1, h2, h3, (e g _ h4).trans h4⟩
theorem InsB.kept (h : InsB w q) (hb : Below w.heap.size w w') : InsB w' q := h.same fun g _ hg => hb.block g (Array.getElem?_eq_some_iff.1 hg).1
/-- The deeds of a row. -/
structure Deeds (w : World) (B : Nat) (v : Value) (H : List DeedH) : Prop where
  row : OwnDR w B v H
  ins : ∀ q ∈ H, InsB w q
variable {B : Nat} {v : Value} {H : List DeedH}
theorem Deeds.kept (h : Deeds w B v H) (hb : Below w.heap.size w w') : Deeds w' B v H := ⟨owns_below h.row hb, fun q hq => (h.ins q hq).kept hb⟩
theorem Deeds.form (h : Deeds w B v H) : ∃ a cap, v = .slice a H.length cap ∧ H.length ≤ cap ∧ DeedsAt w a H ∧ (∀ b o, a = some ⟨b, o, none⟩ → B ≤ b) := by
  rcases h.row.2 with ⟨hv, hn⟩ | ⟨g, cap, cur, hv, hB, hg, hc, _, _, _⟩
  · exact ⟨none, 0, by rw [hn]; exact hv, by omega, fun i hi => absurd hi (by omega), fun _ _ e => by cases e⟩
  · refine ⟨some ⟨g, 0, none⟩, cap, hv, hc, fun i hi => ⟨⟨g, 0, rfl, (Array.getElem?_eq_some_iff.1 hg).1, ?_⟩, (h.ins _ (List.getElem_mem _)).at, (h.ins _ (List.getElem_mem _)).cap⟩, fun _ _ e => by cases e; exact hB⟩
    have hh := h.row
    rw [hv] at hh
    have hat : ∀ j, j < 4 → w.cell? ⟨g, 0 + i * 4 + j, none⟩ = (drC H[i])[j]? := fun j hj => by
      rw [Nat.zero_add, hh.cellAt (i * 4 + j) (by omega)]
      exact drsC_at H i hi j hj
    exact ⟨hat 0 (by omega), hat 1 (by omega), hat 2 (by omega), hat 3 (by omega)⟩
theorem Deeds.nil (w : World) (B : Nat) : Deeds w B (.slice none 0 0) [] := ⟨World.ownsRow_nil w B _ 4, fun q hq => by cases hq⟩
/-- The row grows. -/
theorem Deeds.grown (h : Deeds w B v H) {u : Value} (hg : w.grownBy w' v.ownBlock) (hr : OwnDR w' B u (H ++ [q])) (hq : InsB w q) : Deeds w' B u (H ++ [q]) := by
  have hb : ∀ (g : Nat) (cs : Array Value), w.heap[g]? = some (Obj.cells cs 50 (0, 0)) → w'.heap[g]? = w.heap[g]? := fun g cs hgc => hg.block g (Array.getElem?_eq_some_iff.1 hgc).1 fun e => by
    obtain ⟨c1, h1⟩ := own_at h.row e.symm
    rw [h1] at hgc
    simp at hgc
  refine ⟨hr, fun p hp => ?_⟩
  rcases List.mem_append.1 hp with hp | hp
  · exact (h.ins p hp).same hb
  · rw [List.mem_singleton.1 hp]
    exact hq.same hb
theorem deedsAt_kept {a : Option Addr} {l : List DeedH} (hb : Below w.heap.size w w') (h : DeedsAt w a l) : DeedsAt w' a l := fun i hi => by
  obtain ⟨⟨b, o, e, hlt, c0, c1, c2, c3⟩, h2, h3⟩ := h i hi
  exact ⟨⟨b, o, e, Nat.lt_of_lt_of_le hlt hb.size, kept_cell hb c0, kept_cell hb c1, kept_cell hb c2, kept_cell hb c3⟩, insAt_kept hb h2, h3⟩
/-- The deeds of some fees, each of which spends of the one ahead. -/
def chainS (l : List DeedD) (f : Int) : List DeedD := l ++ [⟨match l.getLast? with | none => [] | some p => [(Ju.idD p, 0)], 1 + (l.length : Int) % 3, 10, 1 + f % 900⟩]
def chainD (fees : List Int) : List DeedD := fees.foldl chainS []
theorem chainS_length (l : List DeedD) (f : Int) : (chainS l f).length = l.length + 1 := by simp [chainS]
theorem chain_len : ∀ (fees : List Int) (l : List DeedD), (fees.foldl chainS l).length = l.length + fees.length
  | [], l => by simp
  | f :: r, l => by rw [List.foldl_cons, chain_len r, chainS_length, List.length_cons]; omega
theorem chainD_length (fees : List Int) : (chainD fees).length = fees.length := by unfold chainD; rw [chain_len]; simp
theorem chainD_step {fees : List Int} {k : Nat} (h : k < fees.length) : chainD (fees.take (k + 1)) = chainS (chainD (fees.take k)) fees[k] := by
  unfold chainD
  rw [List.take_succ_eq_append_getElem h, List.foldl_append]
  rfl
/-- What chained deeds are, one by one. -/
structure ChainF (l : List DeedD) : Prop where
  fine : ∀ i (h : i < l.length), checkD l[i] = 0
  first : ∀ h : 0 < l.length, l[0].ins = []
  next : ∀ i (h : i + 1 < l.length), l[i + 1].ins = [(Ju.idD l[i], 0)]
  pays : ∀ i (h : i < l.length), ¬ 10 * l[i].fee < l[i].weight
  weight : ∀ i (h : i < l.length), l[i].weight = 10
theorem chainS_good {l : List DeedD} (h : ChainF l) (f : Int) : ChainF (chainS l f) := by
  obtain ⟨n, hn⟩ : ∃ n : Nat, (l.length : Int) % 3 = n := ⟨((l.length : Int) % 3).toNat, by omega⟩
  obtain ⟨m, hm⟩ : ∃ m : Nat, f % 900 = m := ⟨(f % 900).toNat, by omega⟩
  have hl : ∀ ins : List InD, (ins = [] ∨ ∃ x, ins = [(x, 0)]) → checkD ⟨ins, 1 + (n : Int), 10, 1 + m⟩ = 0 := fun ins hi => by
    have h1 : atsB ins = true ∧ dupB ins = false ∧ ins.length ≤ 1 := by
      rcases hi with rfl | ⟨x, rfl⟩
      · exact ⟨rfl, rfl, by simp⟩
      · exact ⟨rfl, rfl, by simp⟩
    have h2 : restB (1 + (n : Int)) 10 (1 + m) = true := by
      unfold restB within
      simp
      omega
    unfold checkD
    simp only [h1.1, h1.2.1, h2]
    simp
    omega
  have e : ∀ i (hi : i < (chainS l f).length), (∃ h : i < l.length, (chainS l f)[i] = l[i]) ∨ (i = l.length ∧ (chainS l f)[i] = ⟨match l.getLast? with | none => [] | some p => [(Ju.idD p, 0)], 1 + (n : Int), 10, 1 + m⟩) := fun i hi => by
    unfold chainS
    by_cases hlt : i < l.length
    · exact .inl ⟨hlt, List.getElem_append_left hlt⟩
    · rw [chainS_length] at hi
      have : i = l.length := by omega
      subst this
      refine .inr ⟨rfl, ?_⟩
      have h3 : ∀ x : DeedD, ∀ h : l.length < (l ++ [x]).length, (l ++ [x])[l.length] = x := fun x h => by
        have h4 : (l ++ [x])[l.length]? = some x := by simp
        exact (List.getElem?_eq_some_iff.1 h4).2
      exact (h3 _ _).trans (by rw [hn, hm])
  refine ⟨fun i hi => ?_, fun h0 => ?_, fun i hi => ?_, fun i hi => ?_, fun i hi => ?_⟩
  · rcases e i hi with ⟨h1, h2⟩ | ⟨_, h2⟩
    · rw [h2]; exact h.fine i h1
    · rw [h2]
      refine hl _ ?_
      split
      · exact .inl rfl
      · exact .inr ⟨_, rfl⟩
  · rcases e 0 h0 with ⟨h1, h2⟩ | ⟨h1, h2⟩
    · rw [h2]; exact h.first h1
    · rw [h2]
      have : l = [] := List.length_eq_zero_iff.1 h1.symm
      rw [this]
      rfl
  · have hi' := hi
    rw [chainS_length] at hi'
    have e0 : (chainS l f)[i] = l[i]'(by omega) := by
      rcases e i (by omega) with ⟨_, h2⟩ | ⟨h1, _⟩
      · exact h2
      · omega
    rw [e0]
    rcases e (i + 1) hi with ⟨h1, h2⟩ | ⟨h1, h2⟩
    · rw [h2]; exact h.next i h1
    · rw [h2]
      have : l.getLast? = some (l[i]'(by omega)) := by
        rw [List.getLast?_eq_getElem?]
        have : l.length - 1 = i := by omega
        rw [this, List.getElem?_eq_getElem (by omega)]
      simp only [this]
  · rcases e i hi with ⟨h1, h2⟩ | ⟨_, h2⟩
    · rw [h2]; exact h.pays i h1
    · rw [h2]
      show ¬ 10 * (1 + (m : Int)) < 10
      omega
  · rcases e i hi with ⟨h1, h2⟩ | ⟨_, h2⟩
    · rw [h2]; exact h.weight i h1
    · rw [h2]
theorem chainF_all : ∀ (fees : List Int) (l : List DeedD), ChainF l → ChainF (fees.foldl chainS l)
  | [], _, h => h
  | f :: r, _, h => chainF_all r _ (chainS_good h f)
theorem chainD_good (fees : List Int) : ChainF (chainD fees) := chainF_all fees [] ⟨fun i h => absurd h (by simp), fun h => absurd h (by simp), fun i h => absurd h (by simp), fun i h => absurd h (by simp), fun i h => absurd h (by simp)⟩
end Go.Proofs.YtaaaplbjeknbkabGreat
