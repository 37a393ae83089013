/-
  A node whose entries are all of one peer: who is asked, and for what.
-/
import Derived.Test.YtaaaplbjeknbkabGreatJ33
set_option maxRecDepth 20000
namespace Go.Proofs.YtaaaplbjeknbkabGreat
open Go.RowKit Go.Maps

variable {w w' w0 : World} {F : Nat → Prop} {R : Nat} {s : NS}

/-- Entries of one peer. -/
def entsP (p : Nat) (f : Bool) (st : Nat) (t : Int) (l : List UInt64) : List Tr.TEnt := l.map fun x => ⟨p, x, f, st, t⟩
/-- All entries are of one peer, each of another ID. -/
structure Lone (p0 : Nat) (T : List Tr.TEnt) : Prop where
  peer : ∀ e ∈ T, e.peer = p0
  ids : (T.map fun e => e.id).Nodup
theorem entsP_append (p : Nat) (f : Bool) (st : Nat) (t : Int) (a b : List UInt64) : entsP p f st t (a ++ b) = entsP p f st t a ++ entsP p f st t b := by unfold entsP; rw [List.map_append]
theorem entsP_ids (p : Nat) (f : Bool) (st : Nat) (t : Int) (l : List UInt64) : ((entsP p f st t l).map fun e => e.id) = l := by
  unfold entsP
  rw [List.map_map]
  exact List.map_id' l
theorem entsP_mem {p : Nat} {f : Bool} {st : Nat} {t : Int} {l : List UInt64} {e : Tr.TEnt} (h : e ∈ entsP p f st t l) : e = ⟨p, e.id, f, st, t⟩ ∧ e.id ∈ l := by
  obtain ⟨x, hx, rfl⟩ := List.mem_map.1 h
  exact ⟨rfl, hx⟩
theorem entsP_lone (p : Nat) (f : Bool) (st : Nat) (t : Int) {l : List UInt64} (h : l.Nodup) : Lone p (entsP p f st t l) := ⟨fun e he => by rw [(entsP_mem he).1], by rw [entsP_ids]; exact h⟩
theorem lone_other {p0 : Nat} (h : Lone p0 s.T) {p : Nat} (hp : p ≠ p0) : s.asks p = [] := by
  unfold NS.asks Tr.idsOf
  have h1 : (s.T.filter fun e => e.peer == p) = [] := List.filter_eq_nil_iff.2 (fun e he => by rw [h.peer e he]; simpa using Ne.symm hp)
  rw [h1]
  simp
theorem lone_ids {p0 : Nat} {T : List Tr.TEnt} (h : Lone p0 T) : Tr.idsOf T p0 = T.map fun e => e.id := by
  unfold Tr.idsOf
  rw [List.filter_eq_self.2 (fun e he => by rw [h.peer e he]; simp)]
theorem ents_one : ∀ {T : List Tr.TEnt}, (T.map fun e => e.id).Nodup → ∀ {e : Tr.TEnt}, e ∈ T → Tr.entsOf T e.id = [e]
  | a :: r, hn, e, he => by
    rw [List.map_cons, List.nodup_cons] at hn
    unfold Tr.entsOf
    rcases List.mem_cons.1 he with rfl | he
    · rw [List.filter_cons_of_pos (by simp), List.filter_eq_nil_iff.2]
      intro b hb
      simp only [beq_iff_eq]
      exact fun h => hn.1 (List.mem_map.2 ⟨b, hb, h⟩)
    · rw [List.filter_cons_of_neg]
      · exact ents_one hn.2 he
      · simp only [beq_iff_eq]
        exact fun h => hn.1 (List.mem_map.2 ⟨e, he, h.symm⟩)
theorem lone_next {p0 : Nat} {T : List Tr.TEnt} (h : Lone p0 T) (salt : UInt64) {e : Tr.TEnt} (he : e ∈ T) : (Tr.ofL salt T).isNext p0 e.id = decide (e.st = 1) := by
  unfold Tr.TS.isNext Tr.TS.best
  rw [Tr.ofL_ents, ents_one h.ids he]
  have hp := h.peer e he
  by_cases h1 : e.st = 1
  · simp [h1, List.findIdx?_cons, Tr.minE, hp]
  · by_cases h2 : e.st = 2
    · simp [h2, List.findIdx?_cons]
    · simp [h1, h2, List.findIdx?_cons]
theorem lone_asks {p0 : Nat} (h : Lone p0 s.T) : s.asks p0 = ((s.T.filter fun e => decide (e.st = 1)).map fun e => e.id).take (4 - (s.T.filter fun e => e.st == 2).length) := by
  unfold NS.asks
  have h2 : (s.T.filter fun e => e.peer == p0 && e.st == 2) = s.T.filter fun e => e.st == 2 := List.filter_congr fun e he => by rw [h.peer e he]; simp
  have h3 : (Tr.idsOf s.T p0).filter ((Tr.ofL s.salt s.T).isNext p0) = (s.T.filter fun e => decide (e.st = 1)).map fun e => e.id := by
    rw [lone_ids h, List.filter_map]
    congr 1
    exact List.filter_congr fun e he => lone_next h s.salt he
  rw [h2, h3]
theorem ready_asks {p0 : Nat} {f : Bool} {t : Int} {l : List UInt64} (hT : s.T = entsP p0 f 1 t l) (hn : l.Nodup) : s.asks p0 = l.take 4 := by
  rw [lone_asks (by rw [hT]; exact entsP_lone p0 f 1 t hn), hT]
  have h1 : ((entsP p0 f 1 t l).filter fun e => decide (e.st = 1)) = entsP p0 f 1 t l := List.filter_eq_self.2 fun e he => by rw [(entsP_mem he).1]; rfl
  have h2 : ((entsP p0 f 1 t l).filter fun e => e.st == 2) = [] := List.filter_eq_nil_iff.2 fun e he => by rw [(entsP_mem he).1]; simp
  rw [h1, h2, entsP_ids]
  rfl
theorem ask_step {p0 : Nat} (hp : p0 < 8) {f : Bool} {t t' : Int} (ht : 0 ≤ t' ∧ t' ≤ 1099511627776) {a r : List UInt64} {x : UInt64} (hn : (a ++ x :: r).Nodup) : (Tr.askC (entsP p0 f 2 t' a ++ entsP p0 f 1 t (x :: r)) (p0 : Int) x t').2 = entsP p0 f 2 t' (a ++ [x]) ++ entsP p0 f 1 t r := by
  rw [List.nodup_append] at hn
  obtain ⟨_, h2, h3⟩ := hn
  rw [List.nodup_cons] at h2
  have hxa : x ∉ a := fun h => h3 x h x List.mem_cons_self rfl
  unfold Tr.askC
  rw [if_pos ⟨⟨by omega, by omega⟩, ht⟩, Int.toNat_natCast]
  unfold Tr.askL
  have hany : (entsP p0 f 2 t' a ++ entsP p0 f 1 t (x :: r)).any (Tr.isE p0 x) = true := by
    rw [List.any_append, Bool.or_eq_true]
    right
    rw [List.any_eq_true]
    exact ⟨⟨p0, x, f, 1, t⟩, List.mem_map.2 ⟨x, List.mem_cons_self, rfl⟩, by simp [Tr.isE]⟩
  have hmay : Tr.mayAsk (entsP p0 f 2 t' a ++ entsP p0 f 1 t (x :: r)) p0 x = true := by
    unfold Tr.mayAsk
    rw [Bool.and_eq_true, Bool.not_eq_true']
    constructor
    · rw [List.any_eq_true]
      exact ⟨⟨p0, x, f, 1, t⟩, List.mem_append.2 (.inr (List.mem_map.2 ⟨x, List.mem_cons_self, rfl⟩)), by simp [Tr.isE]⟩
    · rw [List.any_eq_false]
      intro e he
      rcases List.mem_append.1 he with he | he
      · have := (entsP_mem he).2
        have : e.id ≠ x := fun h => hxa (h ▸ this)
        simp [this]
      · rw [(entsP_mem he).1]
        simp
  rw [if_pos hany, if_pos hmay]
  show (entsP p0 f 2 t' a ++ entsP p0 f 1 t (x :: r)).map (Tr.askE p0 x t') = _
  have e1 : (entsP p0 f 2 t' a).map (Tr.askE p0 x t') = entsP p0 f 2 t' a := by
    rw [List.map_congr_left (g := id)]
    · simp
    · intro e he
      have h1 := (entsP_mem he).2
      have : e.id ≠ x := fun h => hxa (h ▸ h1)
      simp [Tr.askE, Tr.isE, this]
  have e2 : (entsP p0 f 1 t r).map (Tr.askE p0 x t') = entsP p0 f 1 t r := by
    rw [List.map_congr_left (g := id)]
    · simp
    · intro e he
      have h1 := (entsP_mem he).2
      have : e.id ≠ x := fun h => h2.1 (h ▸ h1)
      simp [Tr.askE, Tr.isE, this]
  have e3 : entsP p0 f 1 t (x :: r) = ⟨p0, x, f, 1, t⟩ :: entsP p0 f 1 t r := rfl
  have e4 : Tr.askE p0 x t' ⟨p0, x, f, 1, t⟩ = ⟨p0, x, f, 2, t'⟩ := by simp [Tr.askE, Tr.isE]
  rw [List.map_append, e1, e3, List.map_cons, e2, e4, entsP_append]
  simp [entsP]
theorem ask_all {p0 : Nat} (hp : p0 < 8) {f : Bool} {t t' : Int} (ht : 0 ≤ t' ∧ t' ≤ 1099511627776) : ∀ (m a b : List UInt64) (u : NS), u.later 10 = t' → u.T = entsP p0 f 2 t' a ++ entsP p0 f 1 t (m ++ b) → (a ++ (m ++ b)).Nodup → m.foldl (fun s x => { s with T := (Tr.askC s.T (p0 : Int) x (s.later 10)).2 }) u = { u with T := entsP p0 f 2 t' (a ++ m) ++ entsP p0 f 1 t b }
  | [], a, b, u, _, hT, _ => by
    rw [List.foldl_nil, List.append_nil]
    rw [List.nil_append] at hT
    rw [← hT]
  | x :: r, a, b, u, hl, hT, hn => by
    have e1 : ({ u with T := (Tr.askC u.T (p0 : Int) x (u.later 10)).2 } : NS) = { u with T := entsP p0 f 2 t' (a ++ [x]) ++ entsP p0 f 1 t (r ++ b) } := by
      rw [hl, hT, List.cons_append, ask_step hp ht (by simpa using hn)]
    rw [List.foldl_cons, e1, ask_all hp ht r (a ++ [x]) b { u with T := entsP p0 f 2 t' (a ++ [x]) ++ entsP p0 f 1 t (r ++ b) } hl rfl (by simpa using hn)]
    simp
/-- Some entries of one peer are ready: what Wait sends, and what is left. -/
theorem ready_wait {p0 : Nat} (hp : p0 < 8) {f : Bool} {t : Int} {l : List UInt64} (hT : s.T = entsP p0 f 1 t l) (hn : l.Nodup) (h0 : 0 ≤ s.now ∧ s.now ≤ 1099511627776) : s.wait 8 = ({ s with T := entsP p0 f 2 (s.later 10) (l.take 4) ++ entsP p0 f 1 t (l.drop 4) }, message p0 ⟨2, l.take 4, ⟨#[]⟩⟩) := by
  have hlone : Lone p0 s.T := by rw [hT]; exact entsP_lone p0 f 1 t hn
  have hbefore : ∀ k, k ≤ p0 → s.wait k = (s, []) := fun k => by
    induction k with
    | zero => exact fun _ => rfl
    | succ k ih =>
      intro hk
      have e := lone_other hlone (p := k) (by omega)
      simp only [NS.wait, ih (by omega)]
      unfold NS.request
      rw [e, message_none]
      rfl
  have ha : s.asks p0 = l.take 4 := ready_asks hT hn
  have hlt : 0 ≤ s.later 10 ∧ s.later 10 ≤ 1099511627776 := by unfold NS.later; omega
  have hr : s.request p0 = { s with T := entsP p0 f 2 (s.later 10) (l.take 4) ++ entsP p0 f 1 t (l.drop 4) } := by
    unfold NS.request
    rw [ha]
    have := ask_all hp hlt (f := f) (t := t) (l.take 4) [] (l.drop 4) s rfl (by rw [List.take_append_drop, hT]; rfl) (by rw [List.take_append_drop]; simpa using hn)
    rw [this]
    simp
  have h1 : s.wait (p0 + 1) = ({ s with T := entsP p0 f 2 (s.later 10) (l.take 4) ++ entsP p0 f 1 t (l.drop 4) }, message p0 ⟨2, l.take 4, ⟨#[]⟩⟩) := by
    rw [NS.wait, hbefore p0 (Nat.le_refl _)]
    simp only [hr, ha, List.nil_append]
  have hl2 : Lone p0 (entsP p0 f 2 (s.later 10) (l.take 4) ++ entsP p0 f 1 t (l.drop 4)) := ⟨fun e he => by
    rcases List.mem_append.1 he with he | he
    · rw [(entsP_mem he).1]
    · rw [(entsP_mem he).1], by rw [List.map_append, entsP_ids, entsP_ids, List.take_append_drop]; exact hn⟩
  have h8 := wait_more h1 (fun p hq => lone_other hl2 (by omega)) (7 - p0)
  rw [show p0 + 1 + (7 - p0) = 8 from by omega] at h8
  exact h8
theorem settle_all {T : List Tr.TEnt} (h : ∀ e ∈ T, e.st ≠ 3) : Tr.settleL T = T := by
  unfold Tr.settleL
  rw [List.filter_eq_self]
  intro e he
  unfold Tr.openL
  rw [List.any_eq_true]
  exact ⟨e, he, by simp [h e he]⟩
theorem due_ready (p0 : Nat) (f : Bool) (st : Nat) (hst : st = 0 ∨ st = 1) (t now : Int) (ht : t ≤ now) (l : List UInt64) : Tr.dueL now (entsP p0 f st t l) = entsP p0 f 1 t l := by
  have hm : (entsP p0 f st t l).map (Tr.dueE now) = entsP p0 f 1 t l := by
    unfold entsP
    rw [List.map_map]
    refine List.map_congr_left fun x _ => ?_
    rcases hst with rfl | rfl
    · simp [Tr.dueE, ht]
    · simp [Tr.dueE]
  unfold Tr.dueL
  rw [hm]
  exact settle_all fun e he => by rw [(entsP_mem he).1]; show (1 : Nat) ≠ 3; decide
/-- Time passes, and the first four of one peer are asked for. -/
theorem ready_pass {p0 : Nat} (hp : p0 < 8) {f : Bool} {st : Nat} (hst : st = 0 ∨ st = 1) {t k : Int} {l : List UInt64} (hT : s.T = entsP p0 f st t l) (hn : l.Nodup) (h0 : 0 ≤ s.now) (hk : 0 ≤ k ∧ k ≤ 1099511627776 - s.now) (ht : t ≤ s.now + k) : s.pass k = ({ s with now := s.now + k, T := entsP p0 f 2 (min (s.now + k + 10) 1099511627776) (l.take 4) ++ entsP p0 f 1 t (l.drop 4) }, message p0 ⟨2, l.take 4, ⟨#[]⟩⟩, 0) := by
  unfold NS.pass
  rw [if_neg (by omega)]
  have he : ({ s with now := s.now + k, T := Tr.dueL (s.now + k) s.T } : NS) = { s with now := s.now + k, T := entsP p0 f 1 t l } := by rw [hT, due_ready p0 f st hst t _ ht]
  rw [he, ready_wait hp (s := ({ s with now := s.now + k, T := entsP p0 f 1 t l } : NS)) rfl hn ⟨by show 0 ≤ s.now + k; omega, by show s.now + k ≤ _; omega⟩]
  rfl
/-- An entry is answered: it goes. -/
theorem lone_answer {p0 : Nat} (hp : p0 < 8) {T : List Tr.TEnt} (h : Lone p0 T) (h3 : ∀ e ∈ T, e.st ≠ 3) (x : UInt64) : (Tr.answerC T (p0 : Int) x).2 = T.filter fun e => !(e.id == x) := by
  unfold Tr.answerC
  rw [if_pos ⟨by omega, by omega⟩, Int.toNat_natCast]
  unfold Tr.answerL
  split
  · show Tr.settleL (T.map (Tr.doneE p0 x)) = _
    unfold Tr.settleL
    rw [List.filter_map]
    have e1 : (T.filter ((fun e => Tr.openL (T.map (Tr.doneE p0 x)) e.id) ∘ Tr.doneE p0 x)) = T.filter fun e => !(e.id == x) := by
      refine List.filter_congr fun e he => ?_
      show Tr.openL (T.map (Tr.doneE p0 x)) (Tr.doneE p0 x e).id = _
      have hid : (Tr.doneE p0 x e).id = e.id := by unfold Tr.doneE; split <;> rfl
      rw [hid]
      by_cases hx : e.id = x
      · have : Tr.openL (T.map (Tr.doneE p0 x)) e.id = false := by
          unfold Tr.openL
          rw [List.any_eq_false]
          intro b hb
          obtain ⟨c, hc, rfl⟩ := List.mem_map.1 hb
          by_cases hcx : c.id = x
          · have : Tr.isE p0 x c = true := by simp [Tr.isE, hcx, h.peer c hc]
            simp [Tr.doneE, this]
          · have : Tr.isE p0 x c = false := by simp [Tr.isE, hcx]
            simp [Tr.doneE, this, hx, hcx]
        rw [this]
        simp [hx]
      · have : Tr.openL (T.map (Tr.doneE p0 x)) e.id = true := by
          unfold Tr.openL
          rw [List.any_eq_true]
          refine ⟨Tr.doneE p0 x e, List.mem_map_of_mem he, ?_⟩
          have hne : Tr.isE p0 x e = false := by simp [Tr.isE, hx]
          simp [Tr.doneE, hne, h3 e he]
        rw [this]
        simp [hx]
    rw [e1]
    rw [List.map_congr_left (g := id)]
    · simp
    · intro e he
      have hx : e.id ≠ x := by simpa using (List.mem_filter.1 he).2
      have hne : Tr.isE p0 x e = false := by simp [Tr.isE, hx]
      simp [Tr.doneE, hne]
  · rename_i hany
    refine (List.filter_eq_self.2 fun e he => ?_).symm
    have : e.id ≠ x := fun hx => hany (List.any_eq_true.2 ⟨e, he, by simp [Tr.isE, hx, h.peer e he]⟩)
    simpa using this
theorem forget_filter (T : List Tr.TEnt) (x : UInt64) : Tr.forgetL (T.filter fun e => !(e.id == x)) x = T.filter fun e => !(e.id == x) := by
  unfold Tr.forgetL
  rw [List.filter_filter]
  simp
theorem entsP_filter (p : Nat) (f : Bool) (st : Nat) (t : Int) {x : UInt64} {l : List UInt64} (h : x ∉ l) : (entsP p f st t l).filter (fun e => !(e.id == x)) = entsP p f st t l := by
  rw [List.filter_eq_self]
  intro e he
  have h1 := (entsP_mem he).2
  have : e.id ≠ x := fun hx => h (hx ▸ h1)
  simpa using this
/-- One ID more is announced. -/
theorem lone_ann {p0 : Nat} (hp : p0 < 8) {f : Bool} {t : Int} (ht : 0 ≤ t ∧ t ≤ 1099511627776) {m : List UInt64} {x : UInt64} (h : x ∉ m) (hl : m.length < 20) : (Tr.annC (entsP p0 f 0 t m) (p0 : Int) x t f).2 = entsP p0 f 0 t (m ++ [x]) := by
  unfold Tr.annC
  rw [if_pos ⟨⟨by omega, by omega⟩, ht⟩, Int.toNat_natCast]
  unfold Tr.annL
  have h1 : (entsP p0 f 0 t m).any (Tr.isE p0 x) = false := by
    rw [← Bool.not_eq_true, List.any_eq_true]
    rintro ⟨e, he, h2⟩
    obtain ⟨y, hy, rfl⟩ := List.mem_map.1 he
    simp only [Tr.isE, Bool.and_eq_true, beq_iff_eq] at h2
    exact h (h2.2 ▸ hy)
  have h3 : ((entsP p0 f 0 t m).filter fun e => e.peer == p0).length = m.length := by
    rw [List.filter_eq_self.2 (fun e he => by rw [(entsP_mem he).1]; simp)]
    unfold entsP
    rw [List.length_map]
  rw [h1, h3]
  simp only [Bool.false_eq_true, if_false]
  rw [if_neg (by omega)]
  unfold entsP
  simp
/-- IDs that are not known are announced. -/
theorem lone_announce {p0 : Nat} (hp : p0 < 8) {f : Bool} {t : Int} (ht : 0 ≤ t ∧ t ≤ 1099511627776) : ∀ (l m : List UInt64) (u : NS), u.T = entsP p0 f 0 t m → (m ++ l).Nodup → (m ++ l).length ≤ 20 → (∀ x ∈ l, u.knows x = false) → (u.peers p0).2 = f → (if f then u.now else u.later 3) = t → u.announce p0 l = { u with T := entsP p0 f 0 t (m ++ l) }
  | [], m, u, hT, _, _, _, _, _ => by
    rw [List.append_nil, ← hT]
    rfl
  | x :: r, m, u, hT, hn, hl, hk, hf, htt => by
    have hx : x ∉ m := fun hm => by
      rw [List.nodup_append] at hn
      exact hn.2.2 x hm x List.mem_cons_self rfl
    have e1 : u.announce1 p0 x = { u with T := entsP p0 f 0 t (m ++ [x]) } := by
      rw [ann1_new (hk x List.mem_cons_self), hf, htt, hT, lone_ann hp ht hx (by simp at hl; omega)]
    have e2 : u.announce p0 (x :: r) = (u.announce1 p0 x).announce p0 r := rfl
    rw [e2, e1, lone_announce hp ht r (m ++ [x]) { u with T := entsP p0 f 0 t (m ++ [x]) } rfl (by simpa using hn) (by simpa using hl) (fun y hy => hk y (List.mem_cons_of_mem _ hy)) hf htt]
    simp
end Go.Proofs.YtaaaplbjeknbkabGreat
