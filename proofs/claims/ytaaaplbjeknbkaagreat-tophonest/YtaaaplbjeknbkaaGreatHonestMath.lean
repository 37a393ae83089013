/-
  One peer announces a chain of deeds and answers whatever it is asked for.
-/
import Derived.Test.YtaaaplbjeknbkaaGreatChainMath
set_option maxRecDepth 20000
namespace Go.Proofs.YtaaaplbjeknbkaaGreat
open Go.RowKit Go.Maps

variable {u : NS} {l : List DeedD} {ids : List UInt64} {f : Bool} {m : Nat}

/-- The first m are accepted; of the others there are entries, none of which is requested. -/
structure Hon (l : List DeedD) (ids : List UInt64) (f : Bool) (m : Nat) (n : Int) (u : NS) : Prop where
  A : u.A = l.take m
  P : u.P = []
  W : u.W = Ri.RingS.none 50
  now : u.now = n
  T : ∃ st t, (st = 0 ∨ st = 1) ∧ t ≤ 3 ∧ u.T = entsP 5 f st t (ids.drop m)
/-- Four are requested, of which the first j came. -/
structure HonI (l : List DeedD) (ids : List UInt64) (f : Bool) (m j : Nat) (n : Int) (u : NS) : Prop where
  A : u.A = l.take (m + j)
  P : u.P = []
  W : u.W = Ri.RingS.none 50
  now : u.now = n
  T : ∃ t2 t, t ≤ 3 ∧ u.T = entsP 5 f 2 t2 (((ids.drop m).take 4).drop j) ++ entsP 5 f 1 t (ids.drop (m + 4))
theorem drop_cat (ids : List UInt64) (m j : Nat) (hj : j ≤ 4) : ((ids.drop m).take 4).drop j ++ ids.drop (m + 4) = ids.drop (m + j) := by
  have h1 : ids.drop (m + 4) = (ids.drop m).drop 4 := by rw [List.drop_drop]
  have h2 : ids.drop (m + j) = (ids.drop m).drop j := by rw [List.drop_drop]
  have h3 := List.take_append_drop 4 (ids.drop m)
  rw [h1, h2]
  conv => rhs; rw [← h3]
  by_cases h : j ≤ ((ids.drop m).take 4).length
  · rw [List.drop_append_of_le_length h]
  · rw [List.drop_append, List.drop_eq_nil_of_le (by omega)]
    have : (ids.drop m).drop 4 = [] := by
      rw [List.length_take] at h
      exact List.drop_eq_nil_of_le (by omega)
    rw [this]
    simp
theorem Hon.pass {n k : Int} (h : Hon l ids f m n u) (hn : ids.Nodup) (h0 : 0 ≤ n) (hk : 3 ≤ k) (hk2 : n + k ≤ 1000) : ∃ u', u.pass k = (u', message 5 ⟨2, (ids.drop m).take 4, ⟨#[]⟩⟩, 0) ∧ HonI l ids f m 0 (n + k) u' ∧ u'.peers = u.peers := by
  obtain ⟨st, t, hst, ht, hT⟩ := h.T
  have hp := ready_pass (p0 := 5) (by decide) (f := f) hst hT (hn.sublist (List.drop_sublist _ _)) (by rw [h.now]; exact h0) (k := k) (by rw [h.now]; omega) (by rw [h.now]; omega)
  refine ⟨_, hp, ⟨h.A, h.P, h.W, by show u.now + k = _; rw [h.now], min (u.now + k + 10) 1099511627776, t, ht, ?_⟩, rfl⟩
  show entsP 5 f 2 _ ((ids.drop m).take 4) ++ entsP 5 f 1 t ((ids.drop m).drop 4) = _
  rw [List.drop_zero, List.drop_drop]
theorem HonI.bring {j : Nat} {n : Int} (h : HonI l ids f m j n u) (hc : Chain l) (hi : l.map Ju.idD = ids) (hn : ids.Nodup) (hj : j < 4) (hm : m + j < l.length) : HonI l ids f m (j + 1) n (u.bring 5 (l[m + j])) := by
  obtain ⟨t2, t, ht, hT⟩ := h.T
  have hil : m + j < ids.length := by rw [← hi, List.length_map]; exact hm
  have hx : ids[m + j] = Ju.idD l[m + j] := by
    have h1 : ids[m + j]? = some (Ju.idD l[m + j]) := by rw [← hi, List.getElem?_map, List.getElem?_eq_getElem hm]; rfl
    exact (List.getElem?_eq_some_iff.1 h1).2
  obtain ⟨x, hxe⟩ : ∃ x, Ju.idD l[m + j] = x := ⟨_, rfl⟩
  rw [hxe] at hx
  have hd : ((ids.drop m).take 4).drop j = x :: ((ids.drop m).take 4).drop (j + 1) := by
    have hl : j < ((ids.drop m).take 4).length := by rw [List.length_take, List.length_drop]; omega
    rw [List.drop_eq_getElem_cons hl, List.getElem_take, List.getElem_drop, hx]
  have hcat := drop_cat ids m j (by omega)
  have hnd : (x :: (((ids.drop m).take 4).drop (j + 1) ++ ids.drop (m + 4))).Nodup := by
    have : (((ids.drop m).take 4).drop j ++ ids.drop (m + 4)).Nodup := by rw [hcat]; exact hn.sublist (List.drop_sublist _ _)
    rw [hd] at this
    exact this
  obtain ⟨hx1, hx2⟩ := List.nodup_cons.1 hnd
  rw [List.mem_append, not_or] at hx1
  have hlone : Lone 5 u.T := by
    rw [hT]
    refine ⟨fun e he => ?_, ?_⟩
    · rcases List.mem_append.1 he with he | he <;> rw [(entsP_mem he).1]
    · rw [List.map_append, entsP_ids, entsP_ids, hd]
      exact hnd
  have h3 : ∀ e ∈ u.T, e.st ≠ 3 := fun e he => by
    rw [hT] at he
    rcases List.mem_append.1 he with he | he
    · rw [(entsP_mem he).1]; show (2 : Nat) ≠ 3; decide
    · rw [(entsP_mem he).1]; show (1 : Nat) ≠ 3; decide
  have hb := chain_bring (p := 5) hc hm h.A h.P (by rw [h.W]; rfl)
  rw [hb, hxe, lone_answer (by decide) hlone h3 x, forget_filter]
  refine ⟨?_, h.P, h.W, h.now, t2, t, ht, ?_⟩
  · show l.take (m + j + 1) = _
    rfl
  · show u.T.filter (fun e => !(e.id == x)) = _
    rw [hT, List.filter_append, entsP_filter _ _ _ _ hx1.2, hd]
    have : entsP 5 f 2 t2 (x :: ((ids.drop m).take 4).drop (j + 1)) = ⟨5, x, f, 2, t2⟩ :: entsP 5 f 2 t2 (((ids.drop m).take 4).drop (j + 1)) := rfl
    rw [this, List.filter_cons_of_neg (by simp), entsP_filter _ _ _ _ hx1.1]
theorem HonI.done {j : Nat} {n : Int} (h : HonI l ids f m j n u) (hj : ((ids.drop m).take 4).length ≤ j) (hj4 : j ≤ 4) (hil : ids.length = l.length) : Hon l ids f (min (m + 4) ids.length) n u := by
  obtain ⟨t2, t, ht, hT⟩ := h.T
  rw [List.length_take, List.length_drop] at hj
  have hd : ((ids.drop m).take 4).drop j = [] := List.drop_eq_nil_of_le (by rw [List.length_take, List.length_drop]; exact hj)
  refine ⟨?_, h.P, h.W, h.now, 1, t, .inr rfl, ht, ?_⟩
  · rw [h.A]
    by_cases hc : m + 4 ≤ ids.length
    · have : j = 4 := by omega
      rw [this, Nat.min_eq_left hc]
    · rw [Nat.min_eq_right (by omega), List.take_of_length_le (by omega), List.take_of_length_le (by omega)]
  · rw [hT, hd]
    by_cases hc : m + 4 ≤ ids.length
    · rw [Nat.min_eq_left hc]
      rfl
    · rw [Nat.min_eq_right (by omega), List.drop_eq_nil_of_le (by omega), List.drop_eq_nil_of_le (Nat.le_refl _)]
      rfl
theorem Hon.fly {n : Int} (h : Hon l ids f m n u) : Fly u := fun p _ => by
  obtain ⟨st, t, hst, _, hT⟩ := h.T
  have : flies u.T p = 0 := by
    unfold flies
    rw [hT, List.length_eq_zero_iff, List.filter_eq_nil_iff]
    intro e he
    rw [(entsP_mem he).1]
    rcases hst with rfl | rfl <;> simp
  omega
theorem hon_start {salt : UInt64} (hl : ids.length ≤ 12) (hn : ids.Nodup) : Hon l ids f 0 0 (((NS.new salt).setPeer 5 (true, f)).announce 5 ids) ∧ (((NS.new salt).setPeer 5 (true, f)).announce 5 ids).peers = ((NS.new salt).setPeer 5 (true, f)).peers := by
  obtain ⟨t, ht⟩ : ∃ t : Int, (if f then (0 : Int) else 3) = t := ⟨_, rfl⟩
  have ht2 : 0 ≤ t ∧ t ≤ 3 := by rw [← ht]; split <;> omega
  have hpp : (((NS.new salt).setPeer 5 (true, f)).peers 5).2 = f := by show (if 5 = 5 then (true, f) else (false, false)).2 = f; rw [if_pos rfl]
  have hte : (if f then ((NS.new salt).setPeer 5 (true, f)).now else ((NS.new salt).setPeer 5 (true, f)).later 3) = t := by
    have hl : ((NS.new salt).setPeer 5 (true, f)).later 3 = 3 := by show min ((0 : Int) + 3) 1099511627776 = 3; decide
    rw [hl]
    exact ht
  have ha := lone_announce (p0 := 5) (by decide) (f := f) (t := t) ⟨ht2.1, by omega⟩ ids [] ((NS.new salt).setPeer 5 (true, f)) rfl (by simpa using hn) (by simp; omega) (fun _ _ => rfl) hpp hte
  rw [ha]
  exact ⟨⟨rfl, rfl, rfl, rfl, 0, t, .inl rfl, ht2.2, by simp⟩, rfl⟩
end Go.Proofs.YtaaaplbjeknbkaaGreat
