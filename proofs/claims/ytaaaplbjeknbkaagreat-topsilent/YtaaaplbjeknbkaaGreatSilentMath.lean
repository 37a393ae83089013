/-
  A node whose entries are all of one ID, each of another peer: who is asked.
-/
import Derived.Test.YtaaaplbjeknbkaaGreatLoneMath
set_option maxRecDepth 20000
namespace Go.Proofs.YtaaaplbjeknbkaaGreat
open Go.RowKit Go.Maps

variable {s u : NS} {x : UInt64} {T : List Tr.TEnt}

/-- All entries are of one ID, each of another peer. -/
structure OneId (x : UInt64) (T : List Tr.TEnt) : Prop where
  id : ∀ e ∈ T, e.id = x
  peers : (T.map fun e => e.peer).Nodup
theorem OneId.ents (h : OneId x T) : Tr.entsOf T x = T := List.filter_eq_self.2 fun e he => by rw [h.id e he]; simp
theorem peer_filter : ∀ {T : List Tr.TEnt}, (T.map fun e => e.peer).Nodup → ∀ {e : Tr.TEnt}, e ∈ T → (T.filter fun d => d.peer == e.peer) = [e]
  | a :: r, hn, e, he => by
    rw [List.map_cons, List.nodup_cons] at hn
    rcases List.mem_cons.1 he with rfl | he
    · rw [List.filter_cons_of_pos (by simp), List.filter_eq_nil_iff.2]
      intro b hb
      simp only [beq_iff_eq]
      exact fun h => hn.1 (List.mem_map.2 ⟨b, hb, h⟩)
    · rw [List.filter_cons_of_neg]
      · exact peer_filter hn.2 he
      · simp only [beq_iff_eq]
        exact fun h => hn.1 (List.mem_map.2 ⟨e, he, h.symm⟩)
/-- Who is next. -/
theorem one_best (h : OneId x T) (salt : UInt64) (h2 : ∀ e ∈ T, e.st ≠ 2) (h1 : ∃ e ∈ T, e.st = 1) : ∃ q ∈ T, q.st = 1 ∧ ∀ p, (Tr.ofL salt T).isNext p x = (q.peer == p) := by
  have hf : (T.findIdx? fun e => e.st == 2) = none := by
    rw [List.findIdx?_eq_none_iff]
    intro e he
    simpa using h2 e he
  cases hm : T.filter (fun e => !(e.st != 1)) with
  | nil =>
    obtain ⟨e, he, h1⟩ := h1
    have : e ∈ T.filter (fun e => !(e.st != 1)) := List.mem_filter.2 ⟨he, by simp [h1]⟩
    rw [hm] at this
    cases this
  | cons m r =>
    have hq : Tr.minE salt m r ∈ T.filter (fun e => !(e.st != 1)) := by
      rw [hm]
      rcases Tr.minE_mem salt r m with e | e
      · rw [e]; simp
      · exact List.mem_cons_of_mem _ e
    have hq' := List.mem_filter.1 hq
    refine ⟨_, hq'.1, by simpa using hq'.2, fun p => ?_⟩
    unfold Tr.TS.isNext Tr.TS.best
    rw [Tr.ofL_ents, h.ents, hf, if_pos rfl, hm]
    rfl
theorem one_none (h : OneId x T) (salt : UInt64) (h2 : (∃ e ∈ T, e.st = 2) ∨ ∀ e ∈ T, e.st ≠ 1) (p : Nat) : (Tr.ofL salt T).isNext p x = false := by
  unfold Tr.TS.isNext Tr.TS.best
  rw [Tr.ofL_ents, h.ents]
  by_cases hf : (T.findIdx? fun e => e.st == 2) = none
  · rw [if_pos hf]
    rcases h2 with ⟨e, he, h2⟩ | h2
    · rw [List.findIdx?_eq_none_iff] at hf
      have := hf e he
      simp [h2] at this
    · rw [List.filter_eq_nil_iff.2 (fun e he => by simpa using h2 e he)]
  · rw [if_neg hf]
theorem one_ids (h : OneId x T) (p : Nat) : (∀ y ∈ Tr.idsOf T p, y = x) ∧ (Tr.idsOf T p).length ≤ 1 := by
  constructor
  · intro y hy
    obtain ⟨e, he, rfl⟩ := List.mem_map.1 hy
    exact h.id e (List.mem_filter.1 he).1
  · unfold Tr.idsOf
    rw [List.length_map]
    by_cases hp : ∃ e ∈ T, e.peer = p
    · obtain ⟨e, he, rfl⟩ := hp
      rw [peer_filter h.peers he]
      simp
    · rw [List.filter_eq_nil_iff.2 (fun e he => by simpa using fun e2 => hp ⟨e, he, e2⟩)]
      simp
theorem one_asks_none (h : OneId x s.T) (h2 : (∃ e ∈ s.T, e.st = 2) ∨ ∀ e ∈ s.T, e.st ≠ 1) (p : Nat) : s.asks p = [] := by
  unfold NS.asks
  have e : (Tr.idsOf s.T p).filter ((Tr.ofL s.salt s.T).isNext p) = [] := List.filter_eq_nil_iff.2 (fun y hy => by rw [(one_ids h p).1 y hy, one_none h _ h2]; simp)
  rw [e]
  simp
theorem one_asks_best (h : OneId x s.T) (h2 : ∀ e ∈ s.T, e.st ≠ 2) {q : Tr.TEnt} (hq : q ∈ s.T) (hn : ∀ p, (Tr.ofL s.salt s.T).isNext p x = (q.peer == p)) (p : Nat) : s.asks p = if p = q.peer then [x] else [] := by
  unfold NS.asks
  by_cases hp : p = q.peer
  · subst hp
    rw [if_pos rfl]
    have hi : Tr.idsOf s.T q.peer = [x] := by
      unfold Tr.idsOf
      rw [peer_filter h.peers hq, List.map_cons, List.map_nil, h.id q hq]
    have hfl : (s.T.filter fun e => e.peer == q.peer && e.st == 2) = [] := List.filter_eq_nil_iff.2 fun e he => by simp [h2 e he]
    rw [hi, hfl, List.filter_cons_of_pos (by rw [hn]; simp)]
    rfl
  · have e : (Tr.idsOf s.T p).filter ((Tr.ofL s.salt s.T).isNext p) = [] := List.filter_eq_nil_iff.2 (fun y hy => by rw [(one_ids h p).1 y hy, hn]; simpa using fun e => hp e.symm)
    rw [if_neg hp, e]
    simp
theorem ask_map (h : OneId x T) {q : Tr.TEnt} (hq : q ∈ T) (h1 : q.st = 1) (h2 : ∀ e ∈ T, e.st ≠ 2) (hp : q.peer < 8) {t : Int} (ht : 0 ≤ t ∧ t ≤ 1099511627776) : (Tr.askC T (q.peer : Int) x t).2 = T.map (Tr.askE q.peer x t) := by
  unfold Tr.askC
  rw [if_pos ⟨⟨by omega, by omega⟩, ht⟩, Int.toNat_natCast]
  unfold Tr.askL
  have ha : T.any (Tr.isE q.peer x) = true := List.any_eq_true.2 ⟨q, hq, by simp [Tr.isE, h.id q hq]⟩
  have hm : Tr.mayAsk T q.peer x = true := by
    unfold Tr.mayAsk
    rw [List.any_eq_true.2 ⟨q, hq, by simp [Tr.isE, h.id q hq, h1]⟩]
    have : (T.any fun e => e.id == x && e.st == 2) = false := by
      rw [← Bool.not_eq_true, List.any_eq_true]
      rintro ⟨e, he, h3⟩
      simp only [Bool.and_eq_true, beq_iff_eq] at h3
      exact h2 e he h3.2
    rw [this]
    rfl
  rw [ha, hm]
  rfl
theorem askE_one (h : OneId x T) (p : Nat) (t : Int) : OneId x (T.map (Tr.askE p x t)) := by
  refine ⟨fun e he => ?_, ?_⟩
  · obtain ⟨d, hd, rfl⟩ := List.mem_map.1 he
    unfold Tr.askE
    split
    · exact h.id d hd
    · exact h.id d hd
  · rw [List.map_map]
    have : ((fun e : Tr.TEnt => e.peer) ∘ Tr.askE p x t) = fun e => e.peer := by
      funext e
      simp only [Function.comp_apply, Tr.askE]
      split <;> rfl
    rw [this]
    exact h.peers
/-- Nobody is asked. -/
theorem one_wait_none (h : OneId x s.T) (h2 : (∃ e ∈ s.T, e.st = 2) ∨ ∀ e ∈ s.T, e.st ≠ 1) : s.wait 8 = (s, []) := by
  have h0 : s.wait 0 = (s, []) := rfl
  exact wait_more h0 (fun p _ => one_asks_none h h2 p) 8
/-- One is asked. -/
theorem one_wait (h : OneId x s.T) (h2 : ∀ e ∈ s.T, e.st ≠ 2) (h1 : ∃ e ∈ s.T, e.st = 1) (h8 : ∀ e ∈ s.T, e.peer < 8) (h0 : 0 ≤ s.now ∧ s.now ≤ 1099511627776) : ∃ q ∈ s.T, q.st = 1 ∧ s.wait 8 = ({ s with T := s.T.map (Tr.askE q.peer x (s.later 10)) }, message q.peer ⟨2, [x], ⟨#[]⟩⟩) := by
  obtain ⟨q, hq, hq1, hn⟩ := one_best h s.salt h2 h1
  refine ⟨q, hq, hq1, ?_⟩
  have ha := one_asks_best h h2 hq hn
  have hp := h8 q hq
  have hw : ∀ k, k ≤ q.peer → s.wait k = (s, []) := fun k => by
    induction k with
    | zero => intro _; rfl
    | succ k ih =>
      intro hk
      have e := ih (by omega)
      simp only [NS.wait, e]
      have hak : s.asks k = [] := by rw [ha, if_neg (by omega)]
      unfold NS.request
      rw [hak, message_none]
      rfl
  have hl : 0 ≤ s.later 10 ∧ s.later 10 ≤ 1099511627776 := by unfold NS.later; omega
  have hr : s.request q.peer = { s with T := s.T.map (Tr.askE q.peer x (s.later 10)) } := by
    unfold NS.request
    rw [ha, if_pos rfl, List.foldl_cons, List.foldl_nil, ask_map h hq hq1 h2 hp hl]
  have hw1 : s.wait (q.peer + 1) = ({ s with T := s.T.map (Tr.askE q.peer x (s.later 10)) }, message q.peer ⟨2, [x], ⟨#[]⟩⟩) := by
    simp only [NS.wait, hw q.peer (Nat.le_refl _)]
    rw [ha, if_pos rfl, hr]
    rfl
  have ho := askE_one h q.peer (s.later 10)
  have hmore := wait_more hw1 (fun p _ => one_asks_none (s := ({ s with T := s.T.map (Tr.askE q.peer x (s.later 10)) } : NS)) ho (.inl ⟨Tr.askE q.peer x (s.later 10) q, List.mem_map.2 ⟨q, hq, rfl⟩, by simp [Tr.askE, Tr.isE, h.id q hq]⟩) p) (8 - (q.peer + 1))
  have e : q.peer + 1 + (8 - (q.peer + 1)) = 8 := by omega
  rw [e] at hmore
  exact hmore
/-- What the node is while the one that is not silent was not asked: k were asked. -/
structure Sil (x : UInt64) (own asked : List Nat) (k : Nat) (u : NS) : Prop where
  A : u.A = []
  P : u.P = []
  W : u.W = Ri.RingS.none 50
  now : u.now = 10 * k
  one : OneId x u.T
  own' : u.T.map (fun e => e.peer) = own
  small : ∀ p ∈ own, p < 8
  len : asked.length = k
  sub : ∀ p ∈ asked, p ∈ own
  nodup : asked.Nodup
  done : ∀ e ∈ u.T, e.peer ∈ asked → (e.st = 2 ∨ e.st = 3) ∧ (e.st = 2 → e.till ≤ 10 * k + 10)
  open' : ∀ e ∈ u.T, e.peer ∉ asked → (e.st = 0 ∧ e.till ≤ 10 ∧ k = 0) ∨ e.st = 1
theorem Sil.ownN {own asked : List Nat} {k : Nat} (h : Sil x own asked k u) : own.Nodup := h.own' ▸ h.one.peers
theorem nat_nodup_le : ∀ {a b : List Nat}, a.Nodup → (∀ x ∈ a, x ∈ b) → a.length ≤ b.length
  | [], _, _, _ => Nat.zero_le _
  | x :: r, b, hn, hs => by
    obtain ⟨hx, hr⟩ := List.nodup_cons.1 hn
    have hxb : x ∈ b := hs x (by simp)
    have := nat_nodup_le hr (b := b.erase x) (fun y hy => (List.mem_erase_of_ne (show y ≠ x from fun e => hx (e ▸ hy))).2 (hs y (by simp [hy])))
    rw [List.length_erase_of_mem hxb] at this
    have h1 : 0 < b.length := List.length_pos_of_mem hxb
    simp only [List.length_cons]
    omega
theorem due_oneId {now : Int} (h : OneId x T) : OneId x (T.map (Tr.dueE now)) := by
  have hd : ∀ e : Tr.TEnt, (Tr.dueE now e).id = e.id ∧ (Tr.dueE now e).peer = e.peer := fun e => by unfold Tr.dueE; split <;> (try split) <;> (try split) <;> exact ⟨rfl, rfl⟩
  refine ⟨fun e he => ?_, ?_⟩
  · obtain ⟨d, hd', rfl⟩ := List.mem_map.1 he
    rw [(hd d).1]
    exact h.id d hd'
  · rw [List.map_map]
    have : ((fun e : Tr.TEnt => e.peer) ∘ Tr.dueE now) = fun e => e.peer := by
      funext e
      exact (hd e).2
    rw [this]
    exact h.peers
/-- Ten pass: one more is asked. -/
theorem Sil.pass {own asked : List Nat} {k : Nat} (h : Sil x own asked k u) {g : Nat} (hg : g ∈ own) (hga : g ∉ asked) : ∃ q u', q ∈ own ∧ q ∉ asked ∧ u.pass 10 = (u', message q ⟨2, [x], ⟨#[]⟩⟩, 0) ∧ Sil x own (asked ++ [q]) (k + 1) u' ∧ u'.peers = u.peers := by
  have hk8 : k ≤ 8 := by
    have h1 : asked.length ≤ (List.range 8).length := nat_nodup_le h.nodup fun p hp => List.mem_range.2 (h.small p (h.sub p hp))
    rw [h.len, List.length_range] at h1
    exact h1
  have hpk : u.pass 10 = ((({ u with now := u.now + 10, T := Tr.dueL (u.now + 10) u.T } : NS).wait 8).1, (({ u with now := u.now + 10, T := Tr.dueL (u.now + 10) u.T } : NS).wait 8).2, 0) := by
    unfold NS.pass
    rw [if_neg (by rw [h.now]; omega)]
  obtain ⟨n, hn⟩ : ∃ n : Int, u.now + 10 = n := ⟨_, rfl⟩
  have hn' : n = 10 * k + 10 := by rw [← hn, h.now]
  have hst : ∀ e ∈ u.T, (e.peer ∈ asked → (Tr.dueE n e).st = 3) ∧ (e.peer ∉ asked → (Tr.dueE n e).st = 1) := fun e he => by
    constructor
    · intro ha
      obtain ⟨h1, h2⟩ := h.done e he ha
      unfold Tr.dueE
      rcases h1 with h1 | h1
      · rw [if_pos (by have := h2 h1; omega), if_neg (by omega), if_pos h1]
      · split
        · rw [if_neg (by omega), if_neg (by omega)]
          exact h1
        · exact h1
    · intro ha
      unfold Tr.dueE
      rcases h.open' e he ha with ⟨h1, h2, h3⟩ | h1
      · rw [if_pos (by omega), if_pos h1]
      · split
        · rw [if_neg (by omega), if_neg (by omega)]
          exact h1
        · exact h1
  have hpe : ∀ e : Tr.TEnt, (Tr.dueE n e).peer = e.peer ∧ (Tr.dueE n e).id = e.id := fun e => by unfold Tr.dueE; split <;> (try split) <;> (try split) <;> exact ⟨rfl, rfl⟩
  have hg' : g ∈ u.T.map fun e => e.peer := by rw [h.own']; exact hg
  obtain ⟨eg, heg, hegp⟩ := List.mem_map.1 hg'
  have hgs := (hst eg heg).2 (by rw [hegp]; exact hga)
  have hset : Tr.dueL n u.T = u.T.map (Tr.dueE n) := by
    unfold Tr.dueL Tr.settleL
    rw [List.filter_eq_self]
    intro e he
    obtain ⟨d, hd, rfl⟩ := List.mem_map.1 he
    unfold Tr.openL
    rw [List.any_eq_true]
    exact ⟨Tr.dueE n eg, List.mem_map.2 ⟨eg, heg, rfl⟩, by simp [(hpe eg).2, (hpe d).2, h.one.id eg heg, h.one.id d hd, hgs]⟩
  obtain ⟨v, hv⟩ : ∃ v : NS, ({ u with now := u.now + 10, T := Tr.dueL (u.now + 10) u.T } : NS) = v := ⟨_, rfl⟩
  have hvT : v.T = u.T.map (Tr.dueE n) := by rw [← hv, hn]; exact hset
  have hvn : v.now = n := by rw [← hv]; exact hn
  have hone : OneId x v.T := hvT ▸ due_oneId h.one
  have hmem : ∀ e ∈ v.T, ∃ d ∈ u.T, e = Tr.dueE n d := fun e he => by
    rw [hvT] at he
    obtain ⟨d, hd, rfl⟩ := List.mem_map.1 he
    exact ⟨d, hd, rfl⟩
  have hno2 : ∀ e ∈ v.T, e.st ≠ 2 := fun e he => by
    obtain ⟨d, hd, rfl⟩ := hmem e he
    by_cases ha : d.peer ∈ asked
    · rw [(hst d hd).1 ha]; decide
    · rw [(hst d hd).2 ha]; decide
  have hin : ∀ d ∈ u.T, d.peer ∈ own := fun d hd => by rw [← h.own']; exact List.mem_map.2 ⟨d, hd, rfl⟩
  obtain ⟨q, hq, hq1, hw⟩ := one_wait hone hno2 ⟨Tr.dueE n eg, by rw [hvT]; exact List.mem_map.2 ⟨eg, heg, rfl⟩, hgs⟩ (fun e he => by
    obtain ⟨d, hd, rfl⟩ := hmem e he
    rw [(hpe d).1]
    exact h.small _ (hin d hd)) (by rw [hvn]; omega)
  rw [hv, hw] at hpk
  obtain ⟨dq, hdq, rfl⟩ := hmem q hq
  have hqa : dq.peer ∉ asked := fun ha => by rw [(hst dq hdq).1 ha] at hq1; cases hq1
  rw [(hpe dq).1] at hpk
  have hlat : v.later 10 = n + 10 := by unfold NS.later; rw [hvn]; omega
  have hask : ∀ e : Tr.TEnt, (Tr.askE dq.peer x (n + 10) e).peer = e.peer := fun e => by unfold Tr.askE; split <;> rfl
  refine ⟨dq.peer, _, hin dq hdq, hqa, hpk, ⟨?_, ?_, ?_, ?_, ?_, ?_, h.small, ?_, ?_, ?_, ?_, ?_⟩, ?_⟩
  · show v.A = []
    rw [← hv]
    exact h.A
  · show v.P = []
    rw [← hv]
    exact h.P
  · show v.W = _
    rw [← hv]
    exact h.W
  · show v.now = _
    rw [hvn]
    omega
  · exact askE_one hone _ _
  · show (v.T.map (Tr.askE dq.peer x (v.later 10))).map _ = own
    rw [hvT, hlat, List.map_map, List.map_map, ← h.own']
    refine List.map_congr_left fun e _ => ?_
    simp only [Function.comp_apply]
    rw [hask, (hpe e).1]
  · rw [List.length_append, h.len]
    rfl
  · intro p hp
    rcases List.mem_append.1 hp with hp | hp
    · exact h.sub p hp
    · rw [List.mem_singleton.1 hp]
      exact hin dq hdq
  · rw [List.nodup_append]
    exact ⟨h.nodup, by simp, fun a ha b hb e => hqa (by rw [← List.mem_singleton.1 hb, ← e]; exact ha)⟩
  · intro e he ha
    have he : e ∈ v.T.map (Tr.askE dq.peer x (v.later 10)) := he
    rw [hlat] at he
    obtain ⟨d1, hd1, rfl⟩ := List.mem_map.1 he
    obtain ⟨d, hd, rfl⟩ := hmem d1 hd1
    rw [hask, (hpe d).1] at ha
    by_cases hp : d.peer = dq.peer
    · have : Tr.isE dq.peer x (Tr.dueE n d) = true := by simp [Tr.isE, (hpe d).1, (hpe d).2, hp, h.one.id d hd]
      unfold Tr.askE
      rw [if_pos this]
      exact ⟨.inl rfl, fun _ => by show n + 10 ≤ _; omega⟩
    · have : Tr.isE dq.peer x (Tr.dueE n d) = false := by simp [Tr.isE, (hpe d).1, hp]
      unfold Tr.askE
      rw [this]
      have ha' : d.peer ∈ asked := by
        rcases List.mem_append.1 ha with h1 | h1
        · exact h1
        · exact absurd (List.mem_singleton.1 h1) hp
      have h3 := (hst d hd).1 ha'
      exact ⟨.inr h3, fun h2 => by have h2 : (Tr.dueE n d).st = 2 := h2; rw [h3] at h2; cases h2⟩
  · intro e he ha
    have he : e ∈ v.T.map (Tr.askE dq.peer x (v.later 10)) := he
    rw [hlat] at he
    obtain ⟨d1, hd1, rfl⟩ := List.mem_map.1 he
    obtain ⟨d, hd, rfl⟩ := hmem d1 hd1
    rw [hask, (hpe d).1] at ha
    have hp : d.peer ≠ dq.peer := fun e => ha (by rw [e]; simp)
    have : Tr.isE dq.peer x (Tr.dueE n d) = false := by simp [Tr.isE, (hpe d).1, hp]
    unfold Tr.askE
    rw [this]
    exact .inr ((hst d hd).2 (fun h1 => ha (List.mem_append.2 (.inl h1))))
  · show v.peers = u.peers
    rw [← hv]
/-- What the node is while peers join and announce the one ID. -/
structure SilJ (x : UInt64) (own : List Nat) (u : NS) : Prop where
  A : u.A = []
  P : u.P = []
  W : u.W = Ri.RingS.none 50
  Q : u.Q = Ri.RingS.none 20
  now : u.now = 0
  one : OneId x u.T
  own' : u.T.map (fun e => e.peer) = own
  small : ∀ p ∈ own, p < 8
  st : ∀ e ∈ u.T, e.st = 0 ∧ e.till ≤ 10
  there : ∀ p, p < 8 → ((u.peers p).1 = true ↔ p ∈ own)
theorem silJ_new (x : UInt64) (salt : UInt64) : SilJ x [] (NS.new salt) := ⟨rfl, rfl, rfl, rfl, rfl, ⟨fun e he => (by cases he), List.nodup_nil⟩, rfl, fun p hp => (by cases hp), fun e he => (by cases he), fun p _ => ⟨fun h => Bool.noConfusion h, fun h => (by cases h)⟩⟩
theorem SilJ.join_old {own : List Nat} (h : SilJ x own u) {p : Nat} (hp : p ∈ own) (f : Bool) : u.join p f = (u, 6) := by
  have h8 := h.small p hp
  unfold NS.join
  rw [if_neg (not_not_intro ⟨by omega, by omega⟩), Int.toNat_natCast, if_pos ((h.there p h8).2 hp)]
theorem SilJ.join_new {own : List Nat} (h : SilJ x own u) {p : Nat} (h8 : p < 8) (hp : p ∉ own) (f : Bool) : u.join p f = (u.setPeer p (true, f), 0) := by
  unfold NS.join
  rw [if_neg (not_not_intro ⟨by omega, by omega⟩), Int.toNat_natCast, if_neg (fun e => hp ((h.there p h8).1 e))]
theorem SilJ.announce {own : List Nat} (h : SilJ x own u) {p : Nat} (h8 : p < 8) (hp : p ∉ own) (f : Bool) : SilJ x (own ++ [p]) ((u.setPeer p (true, f)).announce p [x]) := by
  obtain ⟨t, ht⟩ : ∃ t : Int, (if f then (0 : Int) else 3) = t := ⟨_, rfl⟩
  have ht2 : 0 ≤ t ∧ t ≤ 10 := by rw [← ht]; split <;> omega
  have hk : (u.setPeer p (true, f)).knows x = false := by
    unfold NS.knows
    show ((Ju.findL u.A x).isSome || (Ho.deedOf u.P x).isSome || u.W.has x || u.Q.has x) = false
    rw [h.A, h.P, h.W, h.Q]
    rfl
  have hno : ∀ e ∈ u.T, e.peer ≠ p := fun e he hep => hp (by rw [← h.own']; exact List.mem_map.2 ⟨e, he, hep⟩)
  have hT : (Tr.annC u.T (p : Int) x t f).2 = u.T ++ [⟨p, x, f, 0, t⟩] := by
    unfold Tr.annC
    rw [if_pos ⟨⟨by omega, by omega⟩, ⟨by omega, by omega⟩⟩, Int.toNat_natCast]
    unfold Tr.annL
    have h1 : u.T.any (Tr.isE p x) = false := by
      rw [← Bool.not_eq_true, List.any_eq_true]
      rintro ⟨e, he, h2⟩
      simp only [Tr.isE, Bool.and_eq_true, beq_iff_eq] at h2
      exact hno e he h2.1
    have h3 : (u.T.filter fun e => e.peer == p) = [] := List.filter_eq_nil_iff.2 fun e he => by simpa using hno e he
    rw [h1, h3]
    simp
  have e1 : (u.setPeer p (true, f)).announce p [x] = { u.setPeer p (true, f) with T := u.T ++ [⟨p, x, f, 0, t⟩] } := by
    show (u.setPeer p (true, f)).announce1 p x = _
    rw [ann1_new hk]
    have hpp : ((u.setPeer p (true, f)).peers p).2 = f := by show (if p = p then (true, f) else u.peers p).2 = f; rw [if_pos rfl]
    have hl : (u.setPeer p (true, f)).later 3 = 3 := by show min (u.now + 3) 1099511627776 = 3; rw [h.now]; decide
    have hn : (u.setPeer p (true, f)).now = 0 := h.now
    have hte : (if f then (u.setPeer p (true, f)).now else (u.setPeer p (true, f)).later 3) = t := by rw [hl, hn]; exact ht
    have hT' : (Tr.annC (u.setPeer p (true, f)).T (p : Int) x t f).2 = u.T ++ [⟨p, x, f, 0, t⟩] := hT
    rw [hpp, hte, hT']
  rw [e1]
  refine ⟨h.A, h.P, h.W, h.Q, h.now, ⟨fun e he => ?_, ?_⟩, ?_, fun q hq => ?_, fun e he => ?_, fun q hq => ?_⟩
  · rcases List.mem_append.1 he with he | he
    · exact h.one.id e he
    · rw [List.mem_singleton.1 he]
  · show ((u.T ++ [(⟨p, x, f, 0, t⟩ : Tr.TEnt)]).map fun e => e.peer).Nodup
    rw [List.map_append, h.own', List.nodup_append]
    exact ⟨h.own' ▸ h.one.peers, by simp, fun a ha b hb e => hp (by rw [List.map_cons, List.map_nil, List.mem_singleton] at hb; subst e; rw [hb] at ha; exact ha)⟩
  · show ((u.T ++ [(⟨p, x, f, 0, t⟩ : Tr.TEnt)]).map fun e => e.peer) = _
    rw [List.map_append, h.own']
    rfl
  · rcases List.mem_append.1 hq with hq | hq
    · exact h.small q hq
    · rw [List.mem_singleton.1 hq]
      exact h8
  · rcases List.mem_append.1 he with he | he
    · exact h.st e he
    · rw [List.mem_singleton.1 he]
      exact ⟨rfl, ht2.2⟩
  · show (if q = p then (true, f) else u.peers q).1 = true ↔ _
    by_cases e : q = p
    · rw [if_pos e, e]
      simp
    · rw [if_neg e, h.there q hq, List.mem_append, List.mem_singleton]
      exact ⟨.inl, fun h => h.resolve_right e⟩
theorem SilJ.start {own : List Nat} (h : SilJ x own u) : Sil x own [] 0 u :=
  ⟨h.A, h.P, h.W, by rw [h.now]; rfl, h.one, h.own', h.small, rfl, fun p hp => (by cases hp), List.nodup_nil, fun e _ hm => (by cases hm), fun e he _ => .inl ⟨(h.st e he).1, (h.st e he).2, rfl⟩⟩
theorem one_fly (h : OneId x u.T) : Fly u := fun p _ => by
  have h1 := (one_ids h p).2
  unfold Tr.idsOf at h1
  rw [List.length_map] at h1
  have h2 : flies u.T p ≤ (u.T.filter fun e => e.peer == p).length := by
    unfold flies
    rw [← List.filter_filter]
    have e : (u.T.filter fun a => a.st == 2).filter (fun a => a.peer == p) = (u.T.filter fun a => a.peer == p).filter fun a => a.st == 2 := by rw [List.filter_filter, List.filter_filter]; exact List.filter_congr fun a _ => Bool.and_comm _ _
    first
      | exact List.length_filter_le _ _
      | (rw [e]; exact List.length_filter_le _ _)
  omega
/-- The deed comes. -/
theorem Sil.bring {own asked : List Nat} {k : Nat} (h : Sil x own asked k u) {d : DeedD} (hx : Ju.idD d = x) (hj : Ju.judgeL [] d = (0, [], 0)) (ha : Ju.acceptL [] d = (0, [d])) (p : Nat) : (u.bring p d).A = [d] ∧ (u.bring p d).P = [] ∧ (u.bring p d).T = [] ∧ (u.bring p d).W = Ri.RingS.none 50 ∧ (u.bring p d).now = 10 * k := by
  have hb := bring_plain (s := u) (p := p) (d := d) h.P (by rw [h.A]; rfl) (by rw [h.W]; rfl) (by rw [h.A]; exact hj) (by rw [h.A]; exact ha)
  rw [hb, h.A]
  refine ⟨rfl, h.P, ?_, h.W, h.now⟩
  show Tr.forgetL (Tr.answerC u.T p (Ju.idD d)).2 (Ju.idD d) = []
  rw [hx]
  unfold Tr.forgetL
  rw [List.filter_eq_nil_iff]
  intro e he
  have : e.id = x := by
    unfold Tr.answerC at he
    split at he
    · unfold Tr.answerL at he
      split at he
      · have he' := (List.mem_filter.1 he).1
        obtain ⟨b, hb, rfl⟩ := List.mem_map.1 he'
        unfold Tr.doneE
        split <;> exact h.one.id b hb
      · exact h.one.id e he
    · exact h.one.id e he
  simp [this]
end Go.Proofs.YtaaaplbjeknbkaaGreat
