/-
  Requests under way: what is asked for is not asked for again within its time.
-/
import Derived.Test.YtaaaplbjeknbkaaGreatOutsMath
set_option maxRecDepth 20000
namespace Go.Proofs.YtaaaplbjeknbkaaGreat
open Go.RowKit Go.Maps

variable {s u : NS} {T : List Tr.TEnt} {x y : UInt64} {p q : Nat} {t now : Int}

/-- A request for x to p is under way until t. -/
def Fl (T : List Tr.TEnt) (x : UInt64) (p : Nat) (t : Int) : Prop := ∃ e ∈ T, e.id = x ∧ e.peer = p ∧ e.st = 2 ∧ e.till = t
/-- None for x is. -/
def NoFl (T : List Tr.TEnt) (x : UInt64) : Prop := ∀ e ∈ T, e.id = x → e.st ≠ 2
theorem fl_settle (h : Fl T x p t) : Fl (Tr.settleL T) x p t := by
  obtain ⟨e, he, h1, h2, h3, h4⟩ := h
  refine ⟨e, List.mem_filter.2 ⟨he, ?_⟩, h1, h2, h3, h4⟩
  unfold Tr.openL
  rw [List.any_eq_true]
  exact ⟨e, he, by simp [h3]⟩
theorem fl_due (h : Fl T x p t) (hn : now < t) : Fl (Tr.dueL now T) x p t := by
  obtain ⟨e, he, h1, h2, h3, h4⟩ := h
  have : Tr.dueE now e = e := by unfold Tr.dueE; rw [if_neg (by omega)]
  exact fl_settle ⟨e, List.mem_map.2 ⟨e, he, this⟩, h1, h2, h3, h4⟩
theorem fl_ask (h : Fl T x p t) (q : Int) (y : UInt64) (t' : Int) : Fl (Tr.askC T q y t').2 x p t := by
  obtain ⟨e, he, h1, h2, h3, h4⟩ := h
  unfold Tr.askC
  split
  · unfold Tr.askL
    split
    · split
      · rename_i hm
        have hk : Tr.askE q.toNat y t' e = e := by
          unfold Tr.askE
          rw [if_neg]
          intro hi
          unfold Tr.isE at hi
          simp only [Bool.and_eq_true, beq_iff_eq] at hi
          exact (Tr.may_none hm).2 e he hi.2 h3
        exact ⟨e, List.mem_map.2 ⟨e, he, hk⟩, h1, h2, h3, h4⟩
      · exact ⟨e, he, h1, h2, h3, h4⟩
    · exact ⟨e, he, h1, h2, h3, h4⟩
  · exact ⟨e, he, h1, h2, h3, h4⟩
theorem fl_answer (h : Fl T x p t) {q : Nat} {y : UInt64} (hne : ¬ (q = p ∧ y = x)) : Fl (Tr.answerC T (q : Int) y).2 x p t := by
  obtain ⟨e, he, h1, h2, h3, h4⟩ := h
  unfold Tr.answerC
  split
  · unfold Tr.answerL
    rw [Int.toNat_natCast]
    split
    · have hk : Tr.doneE q y e = e := by
        unfold Tr.doneE
        rw [if_neg]
        intro hi
        unfold Tr.isE at hi
        simp only [Bool.and_eq_true, beq_iff_eq] at hi
        exact hne ⟨hi.1.symm.trans h2, hi.2.symm.trans h1⟩
      exact fl_settle ⟨e, List.mem_map.2 ⟨e, he, hk⟩, h1, h2, h3, h4⟩
    · exact ⟨e, he, h1, h2, h3, h4⟩
  · exact ⟨e, he, h1, h2, h3, h4⟩
theorem fl_ann (h : Fl T x p t) (q : Int) (y : UInt64) (t' : Int) (f : Bool) : Fl (Tr.annC T q y t' f).2 x p t := by
  obtain ⟨e, he, h1⟩ := h
  unfold Tr.annC
  split
  · unfold Tr.annL
    split
    · exact ⟨e, he, h1⟩
    · split
      · exact ⟨e, he, h1⟩
      · exact ⟨e, List.mem_append_left _ he, h1⟩
  · exact ⟨e, he, h1⟩
theorem fl_drop (h : Fl T x p t) {q : Nat} (hne : p ≠ q) : Fl (Tr.dropL T q) x p t := by
  obtain ⟨e, he, h1, h2, h3, h4⟩ := h
  exact fl_settle ⟨e, List.mem_filter.2 ⟨he, by simp [h2, hne]⟩, h1, h2, h3, h4⟩
theorem fl_announce : ∀ (l : List UInt64) {u : NS}, Fl u.T x p t → Fl (u.announce q l).T x p t
  | [], _, h => h
  | y :: r, u, h => by
    refine fl_announce r (u := u.announce1 q y) ?_
    unfold NS.announce1
    split
    · exact h
    · exact fl_ann h _ _ _ _
theorem fl_missing : ∀ (l : List UInt64) {u : NS}, Fl u.T x p t → (x ∈ l → q ≠ p) → Fl (u.missing q l).T x p t
  | [], _, h, _ => h
  | y :: r, u, h, hne => by
    refine fl_missing r (u := { u with T := (Tr.answerC u.T q y).2 }) ?_ (fun hx => hne (List.mem_cons_of_mem _ hx))
    exact fl_answer h fun ⟨h1, h2⟩ => hne (by rw [h2]; exact List.mem_cons_self) h1
/-- What a peer is asked for now: it has an entry that is ready, and nobody is asked. -/
theorem next_free {salt : UInt64} (h : (Tr.ofL salt T).isNext p x = true) : (∃ e ∈ T, Tr.isE p x e = true ∧ e.st = 1) ∧ NoFl T x := by
  unfold Tr.TS.isNext Tr.TS.best at h
  rw [Tr.ofL_ents] at h
  by_cases h2 : (Tr.entsOf T x).findIdx? (fun e => e.st == 2) = none
  · rw [if_pos h2] at h
    rw [List.findIdx?_eq_none_iff] at h2
    cases hr : (Tr.entsOf T x).filter (fun e => !(e.st != 1)) with
    | nil => rw [hr] at h; cases h
    | cons a r =>
      rw [hr] at h
      simp only at h
      have hm : Tr.minE (Tr.ofL salt T).salt a r ∈ a :: r := by
        rcases Tr.minE_mem (Tr.ofL salt T).salt r a with h3 | h3
        · rw [h3]; simp
        · simp [h3]
      rw [← hr] at hm
      obtain ⟨h3, h4⟩ := List.mem_filter.1 hm
      obtain ⟨h5, h6⟩ := Tr.ents_mem.1 h3
      have hp := beq_iff_eq.1 h
      refine ⟨⟨_, h5, by unfold Tr.isE; rw [hp, h6]; simp, by simpa [bne] using h4⟩, fun e he hx hs => ?_⟩
      have := h2 e (Tr.ents_mem.2 ⟨he, hx⟩)
      rw [hs] at this
      simp at this
  · rw [if_neg h2] at h
    cases h
theorem goodT_later (hn : 0 ≤ u.now ∧ u.now ≤ 1099511627776) : Tr.goodT (u.later 10) := by unfold Tr.goodT NS.later; omega
/-- Asking for some IDs, each of which may be asked for. -/
theorem asks_fl (hp : p < 8) : ∀ (l : List UInt64) (u : NS), 0 ≤ u.now ∧ u.now ≤ 1099511627776 → l.Nodup → (∀ x ∈ l, (∃ e ∈ u.T, Tr.isE p x e = true ∧ e.st = 1) ∧ NoFl u.T x) →
    ∀ v : NS, l.foldl (fun s x => { s with T := (Tr.askC s.T p x (s.later 10)).2 }) u = v →
    v.now = u.now ∧ (∀ x ∈ l, Fl v.T x p (u.later 10)) ∧ ∀ y q t, Fl u.T y q t → Fl v.T y q t
  | [], u, _, _, _, v, hv => by
    subst hv
    exact ⟨rfl, fun x hx => (by cases hx), fun y q t h => h⟩
  | x :: r, u, h0, hn, hl, v, hv => by
    obtain ⟨u1, hu1⟩ : ∃ u1 : NS, ({ u with T := (Tr.askC u.T p x (u.later 10)).2 } : NS) = u1 := ⟨_, rfl⟩
    rw [List.foldl_cons, hu1] at hv
    obtain ⟨⟨e, he, h1, h2⟩, h3⟩ := hl x List.mem_cons_self
    have hid : e.id = x := by unfold Tr.isE at h1; simp only [Bool.and_eq_true, beq_iff_eq] at h1; exact h1.2
    have hpe : e.peer = p := by unfold Tr.isE at h1; simp only [Bool.and_eq_true, beq_iff_eq] at h1; exact h1.1
    have hT : u1.T = u.T.map (Tr.askE p x (u.later 10)) := by
      rw [← hu1]
      show (Tr.askC u.T (p : Int) x (u.later 10)).2 = _
      unfold Tr.askC
      rw [if_pos ⟨⟨by omega, by omega⟩, goodT_later h0⟩]
      unfold Tr.askL
      rw [Int.toNat_natCast, if_pos (List.any_eq_true.2 ⟨e, he, h1⟩), if_pos]
      unfold Tr.mayAsk
      rw [Bool.and_eq_true, Bool.not_eq_true', List.any_eq_true, List.any_eq_false]
      refine ⟨⟨e, he, by simp [h1, h2]⟩, fun d hd hh => ?_⟩
      simp only [Bool.and_eq_true, beq_iff_eq] at hh
      exact h3 d hd hh.1 hh.2
    have hnow : u1.now = u.now := by rw [← hu1]
    have hlat : u1.later 10 = u.later 10 := by unfold NS.later; rw [hnow]
    obtain ⟨hx, hr⟩ := List.nodup_cons.1 hn
    have hkeep : ∀ (y : UInt64) (d : Tr.TEnt), y ≠ x → d.id = y → Tr.askE p x (u.later 10) d = d := fun y d hy hd => by
      unfold Tr.askE
      rw [if_neg]
      intro hi
      unfold Tr.isE at hi
      simp only [Bool.and_eq_true, beq_iff_eq] at hi
      exact hy (hd.symm.trans hi.2)
    have hsame : ∀ y, y ≠ x → ∀ d, d ∈ u1.T → d.id = y → d ∈ u.T := fun y hy d hd hdy => by
      rw [hT] at hd
      obtain ⟨c, hc, rfl⟩ := List.mem_map.1 hd
      rw [Tr.askE_id] at hdy
      rw [hkeep y c hy hdy]
      exact hc
    obtain ⟨g1, g2, g3⟩ := asks_fl hp r u1 (hnow ▸ h0) hr (fun y hy => by
      have hyx : y ≠ x := fun e => hx (e ▸ hy)
      obtain ⟨⟨d, hd, k1, k2⟩, k3⟩ := hl y (List.mem_cons_of_mem _ hy)
      have kd : d.id = y := by unfold Tr.isE at k1; simp only [Bool.and_eq_true, beq_iff_eq] at k1; exact k1.2
      exact ⟨⟨d, by rw [hT]; exact List.mem_map.2 ⟨d, hd, hkeep y d hyx kd⟩, k1, k2⟩, fun c hc hcy => k3 c (hsame y hyx c hc hcy) hcy⟩) v hv
    refine ⟨g1.trans hnow, fun y hy => ?_, fun y q t hf => g3 y q t ?_⟩
    · rcases List.mem_cons.1 hy with e1 | h4
      · rw [e1]
        refine g3 x p _ ⟨Tr.askE p x (u.later 10) e, by rw [hT]; exact List.mem_map.2 ⟨e, he, rfl⟩, by rw [Tr.askE_id]; exact hid, by rw [Tr.askE_peer]; exact hpe, ?_, ?_⟩
        · unfold Tr.askE; rw [if_pos h1]
        · unfold Tr.askE; rw [if_pos h1]
      · rw [← hlat]; exact g2 y h4
    · rw [← hu1]
      exact fl_ask hf _ _ _
theorem asks_nodup (hg : Tr.Good s.T) (p : Nat) : (s.asks p).Nodup := ((Tr.ids_nodup hg.nodup p).filter _).sublist (List.take_sublist _ _)
theorem asks_free {x : UInt64} (h : x ∈ s.asks p) : (∃ e ∈ s.T, Tr.isE p x e = true ∧ e.st = 1) ∧ NoFl s.T x := by
  unfold NS.asks at h
  exact next_free (List.mem_filter.1 (List.mem_of_mem_take h)).2
/-- What is asked for by Wait, of whom, in order. -/
def NS.reqs (u : NS) : Nat → List (UInt64 × Nat)
  | 0 => []
  | k + 1 => u.reqs k ++ ((u.wait k).1.asks k).map fun x => (x, k)
/-- The IDs in a message. -/
def outIds (o : OutD) : List UInt64 := (Ms.ansM o.bytes.data.toList).ids
def outsReqs (l : List OutD) : List (UInt64 × Nat) := l.flatMap fun o => (outIds o).map fun x => (x, o.peer)
structure Reqs (u v : NS) (O : List OutD) (l : List (UInt64 × Nat)) : Prop where
  now : v.now = u.now
  good : Tr.Good v.T
  fl : ∀ r ∈ l, r.2 < 8 ∧ Fl v.T r.1 r.2 (u.later 10)
  kept : ∀ y q t, Fl u.T y q t → Fl v.T y q t
  nodup : (l.map fun r => r.1).Nodup
  free : ∀ r ∈ l, NoFl u.T r.1
  outs : outsReqs O = l
  form : ∀ o ∈ O, Ms.errM o.bytes.data.toList = 0 ∧ (Ms.ansM o.bytes.data.toList).kind = 2 ∧ o.bytes.size ≤ maxLen
theorem outIds_message (p : Nat) {l : List UInt64} (hl : l.length ≤ 4) (hn : l.Nodup) : outsReqs (message p ⟨2, l, ⟨#[]⟩⟩) = l.map (fun x => (x, p)) ∧ ∀ o ∈ message p ⟨2, l, ⟨#[]⟩⟩, Ms.errM o.bytes.data.toList = 0 ∧ (Ms.ansM o.bytes.data.toList).kind = 2 ∧ o.bytes.size ≤ maxLen := by
  by_cases h0 : l = []
  · subst h0
    have : message p ⟨2, [], ⟨#[]⟩⟩ = [] := by unfold message; rw [if_neg (by decide)]
    rw [this]
    exact ⟨rfl, fun o ho => by cases ho⟩
  · have hc : Ms.checkM ⟨2, l, ⟨#[]⟩⟩ = 0 := ids_ok 2 (by decide) (by decide) l (List.length_pos_iff.2 h0) (by omega) hn
    have hm : message p ⟨2, l, ⟨#[]⟩⟩ = [⟨p, str (Ms.encM ⟨2, l, ⟨#[]⟩⟩)⟩] := by unfold message; rw [if_pos hc]
    have hb := bytes_small ⟨2, l, ⟨#[]⟩⟩
    unfold bytesM at hb
    rw [if_pos hc] at hb
    rw [hm]
    refine ⟨?_, fun o ho => ?_⟩
    · unfold outsReqs outIds
      simp only [List.flatMap_cons, List.flatMap_nil, List.append_nil]
      rw [str_data, Ms.ansM_enc hc]
    · rw [List.mem_singleton.1 ho]
      simp only
      rw [str_data]
      exact ⟨Ms.errM_enc hc, by rw [Ms.ansM_enc hc], hb⟩
theorem wait_reqs (u : NS) (h0 : 0 ≤ u.now ∧ u.now ≤ 1099511627776) (hg : Tr.Good u.T) : ∀ k, k ≤ 8 → Reqs u (u.wait k).1 (u.wait k).2 (u.reqs k)
  | 0, _ => ⟨rfl, hg, fun r hr => (by cases hr), fun y q t h => h, List.nodup_nil, fun r hr => (by cases hr), rfl, fun o ho => by cases ho⟩
  | k + 1, hk => by
    have ih := wait_reqs u h0 hg k (by omega)
    obtain ⟨v, hv⟩ : ∃ v, (u.wait k).1 = v := ⟨_, rfl⟩
    rw [hv] at ih
    obtain ⟨l, hl⟩ : ∃ l, v.asks k = l := ⟨_, rfl⟩
    have hlat : v.later 10 = u.later 10 := by unfold NS.later; rw [ih.now]
    have hnd : l.Nodup := hl ▸ asks_nodup ih.good k
    have hfew : l.length ≤ 4 := hl ▸ asks_few k
    have hfree : ∀ x ∈ l, (∃ e ∈ v.T, Tr.isE k x e = true ∧ e.st = 1) ∧ NoFl v.T x := fun x hx => asks_free (hl ▸ hx)
    obtain ⟨z, hz⟩ : ∃ z, l.foldl (fun s x => { s with T := (Tr.askC s.T k x (s.later 10)).2 }) v = z := ⟨_, rfl⟩
    obtain ⟨g1, g2, g3⟩ := asks_fl (by omega) l v (ih.now ▸ h0) hnd hfree z hz
    obtain ⟨m1, m2⟩ := outIds_message k hfew hnd
    have hreq : (u.wait (k + 1)).1 = z := by
      simp only [NS.wait]
      rw [hv]
      unfold NS.request
      rw [hl]
      exact hz
    have hout : (u.wait (k + 1)).2 = (u.wait k).2 ++ message k ⟨2, l, ⟨#[]⟩⟩ := by
      simp only [NS.wait]
      rw [hv, hl]
    have hrq : u.reqs (k + 1) = u.reqs k ++ l.map fun x => (x, k) := by
      simp only [NS.reqs]
      rw [hv, hl]
    rw [hreq, hout, hrq]
    refine ⟨g1.trans ih.now, hz ▸ asks_good k l v ih.good, fun r hr => ?_, fun y q t h => g3 y q t (ih.kept y q t h), ?_, fun r hr => ?_, ?_, fun o ho => ?_⟩
    · rcases List.mem_append.1 hr with hr | hr
      · exact ⟨(ih.fl r hr).1, g3 _ _ _ (ih.fl r hr).2⟩
      · obtain ⟨x, hx, rfl⟩ := List.mem_map.1 hr
        exact ⟨by show k < 8; omega, hlat ▸ g2 x hx⟩
    · rw [List.map_append, List.map_map, List.nodup_append]
      refine ⟨ih.nodup, ?_, fun a ha b hb e => ?_⟩
      · have : (l.map ((fun r : UInt64 × Nat => r.1) ∘ fun x => (x, k))) = l := by
          conv => rhs; rw [← List.map_id l]
          exact List.map_congr_left fun x _ => rfl
        rw [this]
        exact hnd
      · obtain ⟨r, hr, rfl⟩ := List.mem_map.1 ha
        obtain ⟨x, hx, rfl⟩ := List.mem_map.1 hb
        obtain ⟨d, hd, h1, _, h3, _⟩ := (ih.fl r hr).2
        exact (hfree x hx).2 d hd (h1.trans e) h3
    · rcases List.mem_append.1 hr with hr | hr
      · exact ih.free r hr
      · obtain ⟨x, hx, rfl⟩ := List.mem_map.1 hr
        intro e he hex hs
        obtain ⟨d, hd, h1, _, h3, _⟩ := ih.kept x e.peer e.till ⟨e, he, hex, rfl, hs, rfl⟩
        exact (hfree x hx).2 d hd h1 h3
    · unfold outsReqs at m1 ⊢
      rw [List.flatMap_append, m1]
      have := ih.outs
      unfold outsReqs at this
      rw [this]
    · rcases List.mem_append.1 ho with ho | ho
      · exact ih.form o ho
      · exact m2 o ho
/-- What the law knows of requests is so. -/
def FlyInv (u : NS) (un : UInt64 → Option Int) (of : UInt64 → Option Nat) : Prop := ∀ x t, un x = some t → u.now < t → ∃ p, of x = some p ∧ Fl u.T x p t
theorem flyInv_none (u : NS) (of : UInt64 → Option Nat) : FlyInv u (fun _ => none) of := fun x t h => by cases h
variable {un un' : UInt64 → Option Int} {of : UInt64 → Option Nat}
theorem FlyInv.less (h : FlyInv u un of) (hs : ∀ x t, un' x = some t → un x = some t) : FlyInv u un' of := fun x t hx hn => h x t (hs x t hx) hn
/-- Wait. -/
def NS.at (s : NS) (k : Int) : NS := { s with now := s.now + k, T := Tr.dueL (s.now + k) s.T }
theorem pass_ok {k : Int} (hk : ¬ (k < 0 ∨ k > 1099511627776 - s.now)) : s.pass k = (((s.at k).wait 8).1, ((s.at k).wait 8).2, 0) := by unfold NS.pass; rw [if_neg hk]; rfl
theorem pass_bad {k : Int} (hk : k < 0 ∨ k > 1099511627776 - s.now) : s.pass k = (s, [], 1) := by unfold NS.pass; rw [if_pos hk]
/-- What is asked for now was not under way, for the law. -/
theorem FlyInv.ask {k : Int} (h : FlyInv s un of) (hk : 0 ≤ k) {v : NS} {O : List OutD} {l : List (UInt64 × Nat)} (hr : Reqs (s.at k) v O l) : ∀ r ∈ l, ∀ t, un r.1 = some t → ¬ v.now < t := fun r hm t ht hlt => by
  have hnow : v.now = s.now + k := hr.now
  obtain ⟨p, _, hf⟩ := h r.1 t ht (by omega)
  obtain ⟨e, he, h1, _, h3, _⟩ := fl_due (now := s.now + k) hf (by omega)
  exact hr.free r hm e he h1 h3
/-- The law's maps behind a request. -/
def unStep (t : Int) (f : UInt64 → Option Int) (r : UInt64 × Nat) : UInt64 → Option Int := fun x => if x = r.1 then some t else f x
def whoStep (f : UInt64 → Option Nat) (r : UInt64 × Nat) : UInt64 → Option Nat := fun x => if x = r.1 then some r.2 else f x
theorem unStep_other {t : Int} : ∀ (l : List (UInt64 × Nat)) (f : UInt64 → Option Int) (x : UInt64), x ∉ l.map (fun r => r.1) → l.foldl (unStep t) f x = f x
  | [], _, _, _ => rfl
  | r :: l, f, x, h => by
    rw [List.map_cons, List.mem_cons, not_or] at h
    rw [List.foldl_cons, unStep_other l _ x h.2]
    unfold unStep
    rw [if_neg h.1]
theorem unStep_in {t : Int} : ∀ (l : List (UInt64 × Nat)) (f : UInt64 → Option Int) (x : UInt64), x ∈ l.map (fun r => r.1) → l.foldl (unStep t) f x = some t
  | r :: l, f, x, h => by
    rw [List.foldl_cons]
    by_cases hx : x ∈ l.map (fun r => r.1)
    · exact unStep_in l _ x hx
    · rw [unStep_other l _ x hx]
      rw [List.map_cons, List.mem_cons] at h
      unfold unStep
      rw [if_pos (h.resolve_right hx)]
theorem whoStep_other : ∀ (l : List (UInt64 × Nat)) (f : UInt64 → Option Nat) (x : UInt64), x ∉ l.map (fun r => r.1) → l.foldl whoStep f x = f x
  | [], _, _, _ => rfl
  | r :: l, f, x, h => by
    rw [List.map_cons, List.mem_cons, not_or] at h
    rw [List.foldl_cons, whoStep_other l _ x h.2]
    unfold whoStep
    rw [if_neg h.1]
theorem whoStep_in : ∀ (l : List (UInt64 × Nat)) (f : UInt64 → Option Nat), (l.map fun r => r.1).Nodup → ∀ r ∈ l, l.foldl whoStep f r.1 = some r.2
  | a :: l, f, hn, r, h => by
    rw [List.map_cons, List.nodup_cons] at hn
    rw [List.foldl_cons]
    rcases List.mem_cons.1 h with e | h1
    · subst e
      rw [whoStep_other l _ _ hn.1]
      unfold whoStep
      rw [if_pos rfl]
    · exact whoStep_in l _ hn.2 r h1
theorem FlyInv.wait {k : Int} (h : FlyInv s un of) (hk : 0 ≤ k) {v : NS} {O : List OutD} {l : List (UInt64 × Nat)} (hr : Reqs (s.at k) v O l) : FlyInv v (l.foldl (unStep (v.later 10)) un) (l.foldl whoStep of) := fun x t hx hn => by
  have hnow : v.now = s.now + k := hr.now
  have hlat : v.later 10 = (s.at k).later 10 := by unfold NS.later; rw [hr.now]
  by_cases hm : x ∈ l.map fun r => r.1
  · rw [unStep_in l un x hm] at hx
    obtain ⟨r, hr1, rfl⟩ := List.mem_map.1 hm
    refine ⟨r.2, whoStep_in l of hr.nodup r hr1, ?_⟩
    rw [← Option.some.inj hx, hlat]
    exact (hr.fl r hr1).2
  · rw [unStep_other l un x hm] at hx
    rw [whoStep_other l of x hm]
    obtain ⟨p, h1, h2⟩ := h x t hx (by omega)
    exact ⟨p, h1, hr.kept _ _ _ (fl_due h2 (by omega))⟩
theorem FlyInv.leave {q : Int} (h : FlyInv s un of) (ht : s.thereE q = 0) (hs : ∀ x t, un' x = some t → un x = some t) (hq : ∀ x p, of x = some p → (p : Int) = q → un' x = none) : FlyInv (s.leave q).1 un' of := fun x t hx hn => by
  have e : s.leave q = ({ s.setPeer q.toNat (false, false) with T := Tr.dropL s.T q.toNat, P := Ho.dropL s.P q.toNat }, 0) := by unfold NS.leave; rw [if_neg (not_not_intro ht)]
  rw [e] at hn ⊢
  obtain ⟨p, h1, h2⟩ := h x t (hs x t hx) hn
  obtain ⟨n, hn', _, _⟩ := there_zero ht
  refine ⟨p, h1, fl_drop h2 fun e1 => ?_⟩
  have := hq x p h1 (by omega)
  rw [this] at hx
  cases hx
theorem FlyInv.join {q : Int} {f : Bool} (h : FlyInv s un of) : FlyInv (s.join q f).1 un of := by
  unfold NS.join
  split
  · exact h
  · split
    · exact h
    · exact h
theorem announce_now : ∀ (l : List UInt64) (s : NS), (s.announce p l).now = s.now
  | [], _ => rfl
  | x :: r, s => by
    have e : s.announce p (x :: r) = (s.announce1 p x).announce p r := rfl
    rw [e, announce_now r (s.announce1 p x)]
    unfold NS.announce1
    split <;> rfl
theorem missing_now : ∀ (l : List UInt64) (s : NS), (s.missing p l).now = s.now
  | [], _ => rfl
  | x :: r, s => missing_now r { s with T := (Tr.answerC s.T p x).2 }
theorem kind_four (b : ByteArray) (m : Int) (h : (Ms.ansM b.data.toList).kind = m) : m = 1 ∨ m = 2 ∨ m = 3 ∨ m = 4 ∨ Ms.errM b.data.toList ≠ 0 := by
  by_cases he : Ms.errM b.data.toList = 0
  · obtain ⟨_, h2⟩ := Ms.errM_zero he
    have h3 : Ms.readM b.data.toList = Ms.ansM b.data.toList := by unfold Ms.ansM; rw [if_pos he]
    rw [h3] at h2
    have h4 := (Ms.checkM_ok h2).1
    unfold within at h4
    simp only [decide_eq_true_eq] at h4
    omega
  · exact .inr (.inr (.inr (.inr he)))
/-- Send without an error. -/
theorem FlyInv.send {q : Int} {b : ByteArray} (h : FlyInv s un of) (h0 : (s.send q b).2.2 = 0) (hs : ∀ x t, un' x = some t → un x = some t)
    (hm : (Ms.ansM b.data.toList).kind = 4 → ∀ x ∈ (Ms.ansM b.data.toList).ids, ∀ p, of x = some p → (p : Int) = q → un' x = none) (hb : (Ms.ansM b.data.toList).kind = 3 → ∀ x, un' x = none) : FlyInv (s.send q b).1 un' of := by
  have hl := h.less hs
  unfold NS.send at h0 ⊢
  simp only at h0 ⊢
  split at h0
  · rename_i ht; exact absurd h0 ht
  · rename_i ht
    have ht := Classical.not_not.1 ht
    obtain ⟨n, hn, _, _⟩ := there_zero ht
    rw [if_neg (not_not_intro ht)]
    split at h0
    · rename_i he; exact absurd h0 he
    · rename_i he
      rw [if_neg he]
      split at h0
      · rename_i hk
        rw [if_pos hk]
        intro x t hx hlt
        rw [announce_now] at hlt
        obtain ⟨p, h1, h2⟩ := hl x t hx hlt
        exact ⟨p, h1, fl_announce _ h2⟩
      · rename_i hk1
        rw [if_neg hk1]
        split at h0
        · rename_i hk
          rw [if_pos hk]
          intro x t hx hlt
          rw [missing_now] at hlt
          obtain ⟨p, h1, h2⟩ := hl x t hx hlt
          refine ⟨p, h1, fl_missing _ h2 fun hxm e => ?_⟩
          have := hm hk x hxm p h1 (by omega)
          rw [this] at hx
          cases hx
        · rename_i hk4
          rw [if_neg hk4]
          split at h0
          · rename_i hk
            rw [if_pos hk]
            exact hl
          · rename_i hk2
            rw [if_neg hk2]
            split at h0
            · rename_i hd; exact absurd h0 hd
            · rename_i hd
              rw [if_neg hd]
              have hk3 : (Ms.ansM b.data.toList).kind = 3 := by
                rcases kind_four b _ rfl with h5 | h5 | h5 | h5 | h5
                · exact absurd h5 hk1
                · exact absurd h5 hk2
                · exact h5
                · exact absurd h5 hk4
                · exact absurd (Classical.not_not.1 he) h5
              intro x t hx
              rw [hb hk3 x] at hx
              cases hx
/-- An error changes nothing. -/
theorem FlyInv.err {a : ActD} (h : FlyInv s un of) (h0 : (s.did a).2.2 ≠ 0) : FlyInv (s.did a).1 un of := by rw [(did_err a h0).2]; exact h
end Go.Proofs.YtaaaplbjeknbkaaGreat
