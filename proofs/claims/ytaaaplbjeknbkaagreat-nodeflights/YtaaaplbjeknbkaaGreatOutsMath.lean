/-
  What goes out: valid messages, to peers that are there.
-/
import Derived.Test.YtaaaplbjeknbkaaGreatJ33
set_option maxRecDepth 20000
namespace Go.Proofs.YtaaaplbjeknbkaaGreat
open Go.RowKit Go.Maps

variable {s : NS} {Φ : List Tr.TEnt → Prop} {p : Nat}

/-- What forgetting, answering and announcing of one peer leave true of the entries. -/
structure TKeeps (Φ : List Tr.TEnt → Prop) (p : Nat) : Prop where
  forget : ∀ T x, Φ T → Φ (Tr.forgetL T x)
  answer : ∀ T x, Φ T → Φ (Tr.answerC T (p : Int) x).2
  ann : ∀ T x t f, Φ T → Φ (Tr.annC T (p : Int) x t f).2
theorem keeps_seek (h : TKeeps Φ p) (x : UInt64) (d : DeedD) (hs : Φ s.T) : Φ (s.seek x d).1.T := by
  unfold NS.seek
  split
  · exact hs
  · exact h.forget _ _ (h.forget _ _ hs)
theorem keeps_examine (h : TKeeps Φ p) (x : UInt64) (d : DeedD) (hs : Φ s.T) : Φ (s.examine x d).1.T := by
  unfold NS.examine
  split
  · exact h.forget _ _ hs
  · split
    · exact keeps_seek (s := ({ s with Q := s.Q.put x } : NS).settle x) h x d (h.forget _ _ hs)
    · split
      · exact h.forget _ _ hs
      · exact hs
theorem keeps_follow (h : TKeeps Φ p) (s : NS) (q : List UInt64) (hs : Φ s.T) : Φ (s.follow q).T := by
  induction s, q using NS.follow.induct with
  | case1 s => rw [follow_nil]; exact hs
  | case2 s x r h1 ih => rw [follow_none _ _ _ h1]; exact ih hs
  | case3 s x r d h1 ih => rw [follow_some _ _ _ _ h1]; exact ih (keeps_examine h x d hs)
theorem keeps_wants (h : TKeeps Φ p) : ∀ (l : List UInt64) (s : NS), Φ s.T → Φ (l.foldl (fun s m => s.want p m) s).T
  | [], _, hs => hs
  | x :: r, s, hs => by
    refine keeps_wants h r (s.want p x) ?_
    unfold NS.want
    split
    · exact hs
    · exact h.ann _ _ _ _ hs
theorem keeps_adopt (h : TKeeps Φ p) (x : UInt64) (d : DeedD) (ms : List UInt64) (hs : Φ s.T) : Φ (s.adopt p x d ms).T := by
  unfold NS.adopt
  simp only
  split
  · exact keeps_wants h ms _ (h.forget _ _ hs)
  · exact h.forget _ _ hs
theorem keeps_bring (h : TKeeps Φ p) (d : DeedD) (hs : Φ s.T) : Φ (s.bring p d).T := by
  by_cases hk : ((Ju.findL s.A (Ju.idD d)).isSome || s.W.has (Ju.idD d)) = true
  · rw [bring_known hk]
    exact h.answer _ _ hs
  · rw [Bool.not_eq_true, Bool.or_eq_false_iff] at hk
    rw [bring_new rfl hk.1 hk.2]
    have h0 : Φ ({ s with T := (Tr.answerC s.T p (Ju.idD d)).2 } : NS).T := h.answer _ _ hs
    refine keeps_follow h _ _ ?_
    split
    · exact keeps_adopt h _ _ _ (keeps_examine h _ _ h0)
    · exact keeps_examine h _ _ h0
theorem keeps_announce (h : TKeeps Φ p) : ∀ (l : List UInt64) (s : NS), Φ s.T → Φ (s.announce p l).T
  | [], _, hs => hs
  | x :: r, s, hs => by
    refine keeps_announce h r (s.announce1 p x) ?_
    unfold NS.announce1
    split
    · exact hs
    · exact h.ann _ _ _ _ hs
theorem keeps_missing (h : TKeeps Φ p) : ∀ (l : List UInt64) (s : NS), Φ s.T → Φ (s.missing p l).T
  | [], _, hs => hs
  | x :: r, s, hs => keeps_missing h r { s with T := (Tr.answerC s.T p x).2 } (h.answer _ _ hs)
theorem keeps_send {q : Int} (h : s.thereE q = 0 → TKeeps Φ q.toNat) (b : ByteArray) (hs : Φ s.T) : Φ (s.send q b).1.T := by
  unfold NS.send
  simp only
  split
  · exact hs
  · rename_i ht
    have h := h (Classical.not_not.1 ht)
    split
    · exact hs
    · split
      · exact keeps_announce h _ _ hs
      · split
        · exact keeps_missing h _ _ hs
        · split
          · exact hs
          · split
            · exact hs
            · exact keeps_bring h _ hs
/-- Each entry is of a peer of Q. -/
def Among (Q : Nat → Prop) (T : List Tr.TEnt) : Prop := ∀ e ∈ T, Q e.peer
variable {Q : Nat → Prop} {T : List Tr.TEnt}
theorem Among.filter (h : Among Q T) (f : Tr.TEnt → Bool) : Among Q (T.filter f) := fun e he => h e (List.mem_filter.1 he).1
theorem Among.map (h : Among Q T) {f : Tr.TEnt → Tr.TEnt} (hf : ∀ e, (f e).peer = e.peer) : Among Q (T.map f) := fun e he => by
  obtain ⟨d, hd, rfl⟩ := List.mem_map.1 he
  rw [hf]
  exact h d hd
theorem Among.answer (h : Among Q T) (p : Int) (x : UInt64) : Among Q (Tr.answerC T p x).2 := by
  unfold Tr.answerC
  split
  · unfold Tr.answerL
    split
    · exact (h.map (fun e => by unfold Tr.doneE; split <;> rfl)).filter _
    · exact h
  · exact h
theorem Among.ask (h : Among Q T) (p : Int) (x : UInt64) (t : Int) : Among Q (Tr.askC T p x t).2 := by
  unfold Tr.askC
  split
  · unfold Tr.askL
    split
    · split
      · exact h.map (fun e => by unfold Tr.askE; split <;> rfl)
      · exact h
    · exact h
  · exact h
theorem Among.ann (h : Among Q T) {p : Nat} (hp : Q p) (x : UInt64) (t : Int) (f : Bool) : Among Q (Tr.annC T (p : Int) x t f).2 := by
  unfold Tr.annC
  split
  · unfold Tr.annL
    split
    · exact h
    · split
      · exact h
      · intro e he
        rcases List.mem_append.1 he with he | he
        · exact h e he
        · rw [List.mem_singleton.1 he]
          exact hp
  · exact h
theorem Among.due (h : Among Q T) (now : Int) : Among Q (Tr.dueL now T) := (h.map (fun e => by unfold Tr.dueE; split <;> (try split) <;> (try split) <;> rfl)).filter _
theorem among_keeps {p : Nat} (hp : Q p) : TKeeps (Among Q) p := ⟨fun _ _ h => h.filter _, fun _ _ h => h.answer _ _, fun _ _ _ _ h => h.ann hp _ _ _⟩
/-- The peers that are there. -/
abbrev NS.isT (s : NS) : Nat → Prop := fun p => (s.peers p).1 = true
theorem among_asks (p : Nat) : ∀ (l : List UInt64) (u : NS), Among Q u.T → Among Q (l.foldl (fun s x => { s with T := (Tr.askC s.T p x (s.later 10)).2 }) u).T
  | [], _, h => h
  | x :: r, u, h => among_asks p r { u with T := (Tr.askC u.T p x (u.later 10)).2 } (h.ask _ _ _)
theorem among_wait (u : NS) (h : Among Q u.T) : ∀ k, Among Q (u.wait k).1.T
  | 0 => h
  | k + 1 => by
    simp only [NS.wait]
    exact among_asks k _ _ (among_wait u h k)
theorem among_did (h : Among s.isT s.T) (a : ActD) : Among (s.did a).1.isT (s.did a).1.T := by
  unfold NS.did
  split
  · unfold NS.join
    split
    · exact h
    · split
      · exact h
      · intro e he
        show (if e.peer = a.peer.toNat then (true, a.flag) else s.peers e.peer).1 = true
        split
        · rfl
        · exact h e he
  · split
    · unfold NS.leave
      split
      · exact h
      · intro e he
        have he : e ∈ Tr.dropL s.T a.peer.toNat := he
        have h1 := drop_gone s.T a.peer.toNat e he
        show (if e.peer = a.peer.toNat then (false, false) else s.peers e.peer).1 = true
        rw [if_neg h1]
        exact h e (List.mem_filter.1 (List.mem_filter.1 he).1).1
    · split
      · have hp : (s.send a.peer a.bytes).1.isT = s.isT := by unfold NS.isT; rw [send_peers]
        rw [hp]
        refine keeps_send (fun ht => among_keeps ?_) _ h
        obtain ⟨n, hn, _, h2⟩ := there_zero ht
        show (s.peers a.peer.toNat).1 = true
        rw [hn, Int.toNat_natCast]
        exact h2
      · split
        · have hp : (s.pass a.n).1.isT = s.isT := by unfold NS.isT; rw [pass_peers]
          rw [hp]
          by_cases hk : a.n < 0 ∨ a.n > 1099511627776 - s.now
          · have he : s.pass a.n = (s, [], 1) := by unfold NS.pass; rw [if_pos hk]
            rw [he]
            exact h
          · obtain ⟨u, hu⟩ : ∃ u : NS, ({ s with now := s.now + a.n, T := Tr.dueL (s.now + a.n) s.T } : NS) = u := ⟨_, rfl⟩
            have he : s.pass a.n = ((u.wait 8).1, (u.wait 8).2, 0) := by unfold NS.pass; rw [if_neg hk, hu]
            have hT : Among s.isT u.T := by rw [← hu]; exact h.due _
            have hw := among_wait u hT 8
            obtain ⟨r, hr⟩ : ∃ r, u.wait 8 = r := ⟨_, rfl⟩
            rw [hr] at he hw
            rw [he]
            exact hw
        · exact h
theorem among_new (salt : UInt64) : Among (NS.new salt).isT (NS.new salt).T := fun e he => by cases he
/-- A message of a node's. -/
theorem mem_message {p : Nat} {m : Ms.MsgD} {o : OutD} (h : o ∈ message p m) : Ms.checkM m = 0 ∧ o = ⟨p, bytesM m⟩ := by
  unfold message at h
  split at h
  · rename_i hc
    refine ⟨hc, ?_⟩
    rw [List.mem_singleton.1 h]
    unfold bytesM
    rw [if_pos hc]
  · cases h
/-- What goes out of an act. -/
structure OutOk (a : ActD) (u : NS) (o : OutD) (m : Ms.MsgD) : Prop where
  check : Ms.checkM m = 0
  bytes : o.bytes = bytesM m
  there : (u.peers o.peer).1 = true
  lt : o.peer < 8
  kind : (m.kind = 2 ∧ a.kind = 4 ∧ m.ids.length ≤ 4) ∨ ((m.kind = 3 ∨ m.kind = 4) ∧ a.kind = 3 ∧ a.peer = o.peer)
theorem asks_few (p : Nat) : (s.asks p).length ≤ 4 := by
  unfold NS.asks
  rw [List.length_take]
  omega
theorem asks_there (h : Among Q s.T) {p : Nat} (h0 : s.asks p ≠ []) : Q p := by
  obtain ⟨x, hx⟩ := List.exists_mem_of_ne_nil _ h0
  unfold NS.asks at hx
  have h1 := (List.mem_filter.1 (List.mem_of_mem_take hx)).1
  unfold Tr.idsOf at h1
  obtain ⟨e, he, _⟩ := List.mem_map.1 h1
  have h2 := List.mem_filter.1 he
  have h3 : e.peer = p := by simpa using h2.2
  exact h3 ▸ h e h2.1
theorem ids_some {m : Ms.MsgD} (h : Ms.checkM m = 0) (h3 : m.kind ≠ 3) : m.ids ≠ [] := by
  rcases (Ms.checkM_ok h).2 with ⟨h1, _⟩ | ⟨_, _, h1, _⟩
  · exact absurd h1 h3
  · intro e
    rw [e] at h1
    simp at h1
theorem wait_outs (u : NS) (h : Among u.isT u.T) : ∀ (k : Nat), k ≤ 8 → ∀ (o : OutD), o ∈ (u.wait k).2 → ∃ m, Ms.checkM m = 0 ∧ o.bytes = bytesM m ∧ (u.peers o.peer).1 = true ∧ o.peer < 8 ∧ m.kind = 2 ∧ m.ids.length ≤ 4
  | 0, _, _, ho => by cases ho
  | k + 1, hk8, o, ho => by
    simp only [NS.wait] at ho
    rcases List.mem_append.1 ho with ho | ho
    · exact wait_outs u h k (by omega) o ho
    · obtain ⟨hc, rfl⟩ := mem_message ho
      refine ⟨_, hc, rfl, ?_, by show k < 8; omega, rfl, asks_few _⟩
      have hn := ids_some hc (by show (2 : Int) ≠ 3; decide)
      exact asks_there (among_wait u h k) hn
theorem fetch_outs (p : Nat) (l : List UInt64) (o : OutD) (h : o ∈ s.fetch p l) : ∃ m, Ms.checkM m = 0 ∧ o = ⟨p, bytesM m⟩ ∧ (m.kind = 3 ∨ m.kind = 4) := by
  unfold NS.fetch at h
  rcases List.mem_append.1 h with h | h
  · obtain ⟨x, _, hx⟩ := List.mem_flatMap.1 h
    split at hx
    · cases hx
    · obtain ⟨h1, h2⟩ := mem_message hx
      exact ⟨_, h1, h2, .inl rfl⟩
  · obtain ⟨h1, h2⟩ := mem_message h
    exact ⟨_, h1, h2, .inr rfl⟩
theorem did_outs (h : Among s.isT s.T) (a : ActD) (o : OutD) (ho : o ∈ (s.did a).2.1) : ∃ m, OutOk a (s.did a).1 o m := by
  unfold NS.did at ho ⊢
  split at ho
  · cases ho
  · rename_i h1
    rw [if_neg h1]
    split at ho
    · cases ho
    · rename_i h2
      rw [if_neg h2]
      split at ho
      · rename_i h3
        rw [if_pos h3]
        have hp := send_peers s a.peer a.bytes
        have : ∃ l, s.thereE a.peer = 0 ∧ o ∈ s.fetch a.peer.toNat l := by
          unfold NS.send at ho
          simp only at ho
          split at ho
          · cases ho
          · rename_i ht
            split at ho
            · cases ho
            · split at ho
              · cases ho
              · split at ho
                · cases ho
                · split at ho
                  · exact ⟨_, Classical.not_not.1 ht, ho⟩
                  · split at ho
                    · cases ho
                    · cases ho
        obtain ⟨l, ht, hl⟩ := this
        obtain ⟨m, hc, rfl, hk⟩ := fetch_outs _ _ _ hl
        obtain ⟨n, hn, h8, h2⟩ := there_zero ht
        refine ⟨m, hc, rfl, ?_, by show a.peer.toNat < 8; omega, .inr ⟨hk, h3, ?_⟩⟩
        · rw [hp, hn, Int.toNat_natCast]
          exact h2
        · show a.peer = (a.peer.toNat : Int)
          rw [hn, Int.toNat_natCast]
      · rename_i h3
        rw [if_neg h3]
        split at ho
        · rename_i h4
          rw [if_pos h4]
          have hp := pass_peers s a.n
          have : ∃ u : NS, u.peers = s.peers ∧ Among u.isT u.T ∧ o ∈ (u.wait 8).2 := by
            by_cases hk : a.n < 0 ∨ a.n > 1099511627776 - s.now
            · have he : s.pass a.n = (s, [], 1) := by unfold NS.pass; rw [if_pos hk]
              rw [he] at ho
              cases ho
            · obtain ⟨u, hu⟩ : ∃ u : NS, ({ s with now := s.now + a.n, T := Tr.dueL (s.now + a.n) s.T } : NS) = u := ⟨_, rfl⟩
              have he : s.pass a.n = ((u.wait 8).1, (u.wait 8).2, 0) := by unfold NS.pass; rw [if_neg hk, hu]
              have hA : Among u.isT u.T := by rw [← hu]; exact h.due _
              refine ⟨u, by rw [← hu], hA, ?_⟩
              obtain ⟨r, hr⟩ : ∃ r, u.wait 8 = r := ⟨_, rfl⟩
              rw [hr] at he ⊢
              rw [he] at ho
              exact ho
          obtain ⟨u, hu, hA, hk⟩ := this
          obtain ⟨m, hc, hb, hth, hlt, h2, hl⟩ := wait_outs u hA 8 (Nat.le_refl _) o hk
          rw [hu] at hth
          exact ⟨m, hc, hb, by rw [hp]; exact hth, hlt, .inl ⟨h2, h4, hl⟩⟩
        · cases ho
end Go.Proofs.YtaaaplbjeknbkaaGreat
