/-
  An act on a node: what stays below its bounds, whatever was done.
  Acts one by one; NodeLeft: the walk.
  NodeDelay: the walk.
  Two nodes; NodeErrors: the walk.
-/
import Derived.Test.YtaaaplbjeknbkaaGreatJ31
import Derived.Test.YtaaaplbjeknbkaaGreatJ2
import Derived.Test.YtaaaplbjeknbkaaGreatJ5
set_option maxRecDepth 20000
namespace Go.Proofs.YtaaaplbjeknbkaaGreat
open Go.RowKit Go.Maps

variable {w w' : World} {F : Nat → Prop} {R : Nat} {s : NS}

/-- No more requests are under way than were. -/
def Calm (T T' : List Tr.TEnt) : Prop := ∀ p, flies T' p ≤ flies T p
theorem Calm.refl (T : List Tr.TEnt) : Calm T T := fun _ => Nat.le_refl _
theorem Calm.trans {a b c : List Tr.TEnt} (h : Calm a b) (k : Calm b c) : Calm a c := fun p => Nat.le_trans (k p) (h p)
theorem calm_forget (T : List Tr.TEnt) (x : UInt64) : Calm T (Tr.forgetL T x) := fun p => flies_sub List.filter_sublist p
theorem calm_answer (T : List Tr.TEnt) (p : Int) (x : UInt64) : Calm T (Tr.answerC T p x).2 := fun q => by
  unfold Tr.answerC
  split
  · unfold Tr.answerL
    split
    · refine Nat.le_trans (flies_settle _ q) (flies_map q fun e _ h => ?_)
      unfold Tr.doneE at h
      split at h
      · simp at h
      · exact h
    · exact Nat.le_refl _
  · exact Nat.le_refl _
theorem calm_ann (T : List Tr.TEnt) (p : Int) (x : UInt64) (t : Int) (f : Bool) : Calm T (Tr.annC T p x t f).2 := fun q => by
  unfold Tr.annC
  split
  · unfold Tr.annL
    split
    · exact Nat.le_refl _
    · split
      · exact Nat.le_refl _
      · unfold flies
        rw [List.filter_append]
        simp
  · exact Nat.le_refl _
theorem calm_drop (T : List Tr.TEnt) (p : Nat) : Calm T (Tr.dropL T p) := fun q => Nat.le_trans (flies_settle _ q) (flies_sub List.filter_sublist q)
/-- What is accepted and kept grows by at most n; requests do not grow. -/
structure Grow (n : Nat) (s t : NS) : Prop where
  sum : t.A.length + t.P.length ≤ s.A.length + s.P.length + n
  calm : Calm s.T t.T
theorem Grow.refl (s : NS) : Grow 0 s s := ⟨Nat.le_refl _, Calm.refl _⟩
theorem Grow.trans {a b : Nat} {s t u : NS} (h : Grow a s t) (k : Grow b t u) : Grow (a + b) s u := ⟨by have := h.sum; have := k.sum; omega, h.calm.trans k.calm⟩
theorem Grow.mono {a b : Nat} {s t : NS} (h : Grow a s t) (hab : a ≤ b) : Grow b s t := ⟨by have := h.sum; omega, h.calm⟩
theorem settle_T (s : NS) (x : UInt64) : Calm s.T (s.settle x).T := calm_forget _ _
theorem accept_T (s : NS) (x : UInt64) (d : DeedD) : Calm s.T (s.accept x d).T := calm_forget _ _
theorem seek_T (s : NS) (x : UInt64) (d : DeedD) : Calm s.T (s.seek x d).1.T := by
  unfold NS.seek
  split
  · exact Calm.refl _
  · exact (accept_T _ _ _).trans (accept_T _ _ _)
theorem examine_T (s : NS) (x : UInt64) (d : DeedD) : Calm s.T (s.examine x d).1.T := by
  unfold NS.examine
  split
  · exact accept_T _ _ _
  · split
    · exact (settle_T { s with Q := s.Q.put x } x).trans (seek_T _ x d)
    · split
      · exact settle_T { s with W := s.W.put x } x
      · exact Calm.refl _
theorem follow_grow (s : NS) (q : List UInt64) : Grow 0 s (s.follow q) := by
  induction s, q using NS.follow.induct with
  | case1 s => rw [follow_nil]; exact Grow.refl _
  | case2 s x r h ih => rw [follow_none _ _ _ h]; exact ih
  | case3 s x r d h ih =>
    rw [follow_some _ _ _ _ h]
    have h1 : Grow 0 s (s.examine x d).1 := ⟨examine_sum' s x d d h, examine_T s x d⟩
    exact h1.trans ih
theorem want_grow (s : NS) (p : Nat) (x : UInt64) : Grow 0 s (s.want p x) := by
  unfold NS.want
  split
  · exact Grow.refl _
  · exact ⟨Nat.le_refl _, calm_ann _ _ _ _ _⟩
theorem wants_grow (p : Nat) : ∀ (l : List UInt64) (s : NS), Grow 0 s (l.foldl (fun s m => s.want p m) s)
  | [], _ => Grow.refl _
  | x :: r, s => (want_grow s p x).trans (wants_grow p r _)
theorem add_len (L : List Ho.LinkD) (p : Int) (x : UInt64) (d : DeedD) : (Ho.addC L p x d).2.length ≤ L.length + 1 := by
  unfold Ho.addC
  split
  · simp
  · split
    · simp
    · split
      · simp
      · have := (Ho.room_sub (Ho.newL L p.toNat x d)).length_le
        refine Nat.le_trans this ?_
        unfold Ho.newL
        simp
theorem adopt_grow (s : NS) (p : Nat) (x : UInt64) (d : DeedD) (ms : List UInt64) : Grow 1 s (s.adopt p x d ms) := by
  have h1 : Grow 1 s { s with T := Tr.forgetL s.T x, P := (Ho.addC s.P p x d).2 } := ⟨by have := add_len s.P p x d; show s.A.length + (Ho.addC s.P p x d).2.length ≤ _; omega, calm_forget _ _⟩
  unfold NS.adopt
  simp only
  split
  · exact h1.trans (wants_grow p ms _)
  · exact h1
/-- What is missing is Lost. -/
theorem miss_lost {L : List DeedD} {d : DeedD} (h : (Ju.judgeL L d).2.1 ≠ []) : (Ju.judgeL L d).1 = 2 := by
  unfold Ju.judgeL at h ⊢
  split at h
  · exact absurd rfl h
  · rename_i hc
    rw [if_neg hc]
    show Ju.stateL L d = 2
    unfold Ju.stateL Ju.stateM
    rw [if_pos h]
theorem bring_grow (s : NS) (p : Nat) (d : DeedD) : Grow 1 s (s.bring p d) := by
  have h0 : Grow 0 s { s with T := (Tr.answerC s.T p (Ju.idD d)).2 } := ⟨Nat.le_refl _, calm_answer _ _ _⟩
  by_cases hk : ((Ju.findL s.A (Ju.idD d)).isSome || s.W.has (Ju.idD d)) = true
  · rw [bring_known hk]
    exact h0.mono (by omega)
  · rw [Bool.not_eq_true, Bool.or_eq_false_iff] at hk
    rw [bring_new rfl hk.1 hk.2]
    refine h0.trans (Grow.trans (a := 1) ?_ (follow_grow _ _))
    split
    · rename_i hm
      have hl := miss_lost hm
      have he := examine_lost (s := ({ s with T := (Tr.answerC s.T p (Ju.idD d)).2 } : NS)) (x := Ju.idD d) (d := d) (by rw [hl]; decide) (by rw [hl]; decide) (by rw [hl]; decide)
      rw [he]
      exact adopt_grow _ _ _ _ _
    · exact ⟨examine_sum _ _ _, examine_T _ _ _⟩
theorem ann1_grow (s : NS) (p : Nat) (x : UInt64) : Grow 0 s (s.announce1 p x) := by
  unfold NS.announce1
  split
  · exact Grow.refl _
  · exact ⟨Nat.le_refl _, calm_ann _ _ _ _ _⟩
theorem announce_grow (p : Nat) : ∀ (l : List UInt64) (s : NS), Grow 0 s (s.announce p l)
  | [], _ => Grow.refl _
  | x :: r, s => (ann1_grow s p x).trans (announce_grow p r _)
theorem missing_grow (p : Nat) : ∀ (l : List UInt64) (s : NS), Grow 0 s (s.missing p l)
  | [], _ => Grow.refl _
  | x :: r, s => (show Grow 0 s { s with T := (Tr.answerC s.T p x).2 } from ⟨Nat.le_refl _, calm_answer _ _ _⟩).trans (missing_grow p r _)
theorem send_grow (s : NS) (p : Int) (b : ByteArray) : Grow 1 s (s.send p b).1 := by
  unfold NS.send
  simp only
  split
  · exact (Grow.refl _).mono (by omega)
  · split
    · exact (Grow.refl _).mono (by omega)
    · split
      · exact (announce_grow _ _ _).mono (by omega)
      · split
        · exact (missing_grow _ _ _).mono (by omega)
        · split
          · exact (Grow.refl _).mono (by omega)
          · split
            · exact (Grow.refl _).mono (by omega)
            · exact bring_grow _ _ _
theorem asks_good (p : Nat) : ∀ (l : List UInt64) (u : NS), Tr.Good u.T → Tr.Good (l.foldl (fun s x => { s with T := (Tr.askC s.T p x (s.later 10)).2 }) u).T
  | [], _, h => h
  | x :: r, u, h => asks_good p r { u with T := (Tr.askC u.T p x (u.later 10)).2 } (askC_good h p x _)
theorem asks_rest (p : Nat) : ∀ (l : List UInt64) (u : NS), (l.foldl (fun s x => { s with T := (Tr.askC s.T p x (s.later 10)).2 }) u).A = u.A ∧ (l.foldl (fun s x => { s with T := (Tr.askC s.T p x (s.later 10)).2 }) u).P = u.P
  | [], _ => ⟨rfl, rfl⟩
  | x :: r, u => asks_rest p r { u with T := (Tr.askC u.T p x (u.later 10)).2 }
theorem wait_keeps (u : NS) (hf : Fly u) (hg : Tr.Good u.T) : ∀ k, Fly (u.wait k).1 ∧ Tr.Good (u.wait k).1.T ∧ (u.wait k).1.A = u.A ∧ (u.wait k).1.P = u.P
  | 0 => ⟨hf, hg, rfl, rfl⟩
  | k + 1 => by
    obtain ⟨h1, h2, h3, h4⟩ := wait_keeps u hf hg k
    simp only [NS.wait]
    refine ⟨fly_request h1 h2 k, asks_good k _ _ h2, ?_, ?_⟩
    · unfold NS.request
      rw [(asks_rest k _ _).1, h3]
    · unfold NS.request
      rw [(asks_rest k _ _).2, h4]
theorem pass_keeps (hf : Fly s) (hg : Tr.Good s.T) (k : Int) : Fly (s.pass k).1 ∧ (s.pass k).1.A = s.A ∧ (s.pass k).1.P = s.P := by
  by_cases hk : k < 0 ∨ k > 1099511627776 - s.now
  · have : s.pass k = (s, [], 1) := by unfold NS.pass; rw [if_pos hk]
    rw [this]
    exact ⟨hf, rfl, rfl⟩
  · obtain ⟨u, hu⟩ : ∃ u : NS, ({ s with now := s.now + k, T := Tr.dueL (s.now + k) s.T } : NS) = u := ⟨_, rfl⟩
    have he : s.pass k = ((u.wait 8).1, (u.wait 8).2, 0) := by unfold NS.pass; rw [if_neg hk, hu]
    have hA : u.A = s.A := by rw [← hu]
    have hP : u.P = s.P := by rw [← hu]
    have hF : Fly u := by rw [← hu]; exact fun p hp => Nat.le_trans (flies_due _ _ p) (hf p hp)
    have hG : Tr.Good u.T := by rw [← hu]; exact Tr.good_due hg _
    have hk := wait_keeps u hF hG 8
    obtain ⟨r, hr⟩ : ∃ r, u.wait 8 = r := ⟨_, rfl⟩
    rw [hr] at hk he
    obtain ⟨h1, _, h3, h4⟩ := hk
    rw [he]
    exact ⟨h1, h3.trans hA, h4.trans hP⟩
/-- What is so of a node behind n acts. -/
structure NInv (n : Nat) (s : NS) : Prop where
  fly : Fly s
  sum : s.A.length + s.P.length ≤ n
theorem Grow.inv {n : Nat} {t : NS} (h : Grow 1 s t) (hi : NInv n s) : NInv (n + 1) t := ⟨fun p hp => Nat.le_trans (h.calm p) (hi.fly p hp), by have := h.sum; have := hi.sum; omega⟩
theorem inv_new (salt : UInt64) : NInv 0 (NS.new salt) := ⟨fly_none rfl, Nat.le_refl _⟩
/-- An act. -/
def NS.did (s : NS) (a : ActD) : NS × List OutD × Int :=
  if a.kind = 1 then ((s.join a.peer a.flag).1, [], (s.join a.peer a.flag).2)
  else if a.kind = 2 then ((s.leave a.peer).1, [], (s.leave a.peer).2)
  else if a.kind = 3 then s.send a.peer a.bytes
  else if a.kind = 4 then s.pass a.n
  else (s, [], 1)
theorem join_grow (s : NS) (p : Int) (f : Bool) : Grow 1 s (s.join p f).1 := by
  unfold NS.join
  split
  · exact (Grow.refl _).mono (by omega)
  · split
    · exact (Grow.refl _).mono (by omega)
    · exact ⟨by show s.A.length + s.P.length ≤ _; omega, Calm.refl _⟩
theorem leave_grow (s : NS) (p : Int) : Grow 1 s (s.leave p).1 := by
  unfold NS.leave
  split
  · exact (Grow.refl _).mono (by omega)
  · refine ⟨?_, calm_drop _ _⟩
    have : (Ho.dropL s.P p.toNat).length ≤ s.P.length := List.length_filter_le _ _
    show s.A.length + (Ho.dropL s.P p.toNat).length ≤ _
    omega
theorem did_inv {n : Nat} (hi : NInv n s) (hg : Tr.Good s.T) (a : ActD) : NInv (n + 1) (s.did a).1 := by
  unfold NS.did
  split
  · exact (join_grow s _ _).inv hi
  · split
    · exact (leave_grow s _).inv hi
    · split
      · exact (send_grow s _ _).inv hi
      · split
        · obtain ⟨h1, h2, h3⟩ := pass_keeps hi.fly hg a.n
          exact ⟨h1, by rw [h2, h3]; have := hi.sum; omega⟩
        · exact ((Grow.refl s).mono (by omega)).inv hi
theorem turns_sent {v : Int} {s' : NS} {e : Ending} (h : TurnsN w F R (.int .i64 v) s' e w') : e = .returned (.int .i64 v) ∧ SentN w F R (s', [], v) (.returned (.tuple #[.slice none 0 0, .int .i64 v])) w' := by
  obtain ⟨he, F', h1, h2⟩ := h
  exact ⟨he, sent_none h1 h2⟩
set_option maxRecDepth 20000 in
set_option maxHeartbeats 1000000 in
theorem did_any (a : ActD) (n : Nat) (hn : n ≤ 2950000000000) (hi : NInv n s) (hs : a.bytes.size ≤ maxLen) (q : NS × List OutD × Int) (hq : s.did a = q) (w : World) (h : NodeAt w F R s) :
    Calls Tryz.prog 17 #[.pointer (some ⟨R, 0, none⟩), .agg #[.int .i64 a.kind, .int .i64 a.peer, .int .i64 a.n, .bool a.flag, .string a.bytes]] w (SentN w F R q) := by
  obtain ⟨kd, pe, nn, fl, by'⟩ := a
  simp only at hs
  unfold NS.did at hq
  simp only at hq ⊢
  obtain ⟨wb, hwb⟩ : ∃ wb, w.alloc (.cells #[.int .i64 kd, .int .i64 pe, .int .i64 nn, .bool fl, .string by'] 29) = wb := ⟨_, rfl⟩
  have hk0 : Below w.heap.size w wb := hwb ▸ kept_new _ _
  have b0 : wb.cell? ⟨w.heap.size, 0, none⟩ = some (.int .i64 kd) := by rw [← hwb]; simp [go_sem]
  have b1 : wb.cell? ⟨w.heap.size, 1, none⟩ = some (.int .i64 pe) := by rw [← hwb]; simp [go_sem]
  have b2 : wb.cell? ⟨w.heap.size, 2, none⟩ = some (.int .i64 nn) := by rw [← hwb]; simp [go_sem]
  have b3 : wb.cell? ⟨w.heap.size, 3, none⟩ = some (.bool fl) := by rw [← hwb]; simp [go_sem]
  have b4 : wb.cell? ⟨w.heap.size, 4, none⟩ = some (.string by') := by rw [← hwb]; simp [go_sem]
  have l0 := (cell_spot b0).2
  have HK := Lib.hid hk0
  have H := Lib.hid (h.kept hk0)
  have HB : Hid (∀ (q : NS × List OutD × Int) (v : Value) (w' : World), SentN wb F R q (.returned v) w' → SentN w F R q (.returned v) w') := Lib.hid fun q v w' ⟨u, F', h1, h2, h3, h4, h5⟩ => ⟨u, F', h1, ⟨h2.1, h2.2.imp id fun ⟨g, cap, cur, q1, q2, q3⟩ => ⟨g, cap, cur, q1, Nat.le_trans hk0.size q2, q3⟩⟩, h3, (Turn.of_below hk0).trans h4, h5⟩
  have HFL := Lib.hid hi.fly
  have hA : s.A.length ≤ 2950000000000 := by have := hi.sum; omega
  clear h hk0 hi
  by_cases h1 : kd = 1
  · subst h1
    rw [if_pos rfl] at hq
    have HQ := Lib.hid hq
    clear hq
    go_enter Tryz.func17, Tryz.ntmps17
    go_wp2_with fail
    with_reducible refine (join_any pe fl _ rfl _ H.out).mono ?_
    rintro e w1 h1
    obtain ⟨rfl, h2⟩ := turns_sent h1
    have H2 := Lib.hid h2
    clear h1 h2
    go_wp2_with fail
    go_ret2
    rw [← HQ.out]
    exact HB.out _ _ _ H2.out
  · rw [if_neg h1] at hq
    by_cases h2 : kd = 2
    · subst h2
      rw [if_pos rfl] at hq
      have HQ := Lib.hid hq
      clear hq
      go_enter Tryz.func17, Tryz.ntmps17
      go_wp2_with fail
      with_reducible refine (leave_any pe _ rfl _ H.out).mono ?_
      rintro e w1 h1
      obtain ⟨rfl, h2⟩ := turns_sent h1
      have H2 := Lib.hid h2
      clear h1 h2
      go_wp2_with fail
      go_ret2
      rw [← HQ.out]
      exact HB.out _ _ _ H2.out
    · rw [if_neg h2] at hq
      by_cases h3 : kd = 3
      · subst h3
        rw [if_pos rfl] at hq
        have HQ := Lib.hid hq
        clear hq
        go_enter Tryz.func17, Tryz.ntmps17
        go_wp2_with fail
        with_reducible refine (send_any pe by' hs hA _ HQ.out _ H.out).mono ?_
        rintro e w1 h1
        have h1' := h1
        obtain ⟨v, F', rfl, ho, _, _, _⟩ := h1
        obtain ⟨a5, c5, rfl, _⟩ := outs_form ho
        have H2 := Lib.hid h1'
        clear h1' ho
        obtain ⟨m, hm⟩ : ∃ m, q.2.1.length = m := ⟨_, rfl⟩
        obtain ⟨r, hr⟩ : ∃ r, q.2.2 = r := ⟨_, rfl⟩
        rw [hm, hr] at H2 ⊢
        clear hm hr
        go_wp2_with fail
        go_ret2
        exact HB.out _ _ _ H2.out
      · rw [if_neg h3] at hq
        by_cases h4 : kd = 4
        · subst h4
          rw [if_pos rfl] at hq
          have HQ := Lib.hid hq
          clear hq
          go_enter Tryz.func17, Tryz.ntmps17
          go_wp2_with fail
          with_reducible refine (wait_any nn HFL.out _ HQ.out _ H.out).mono ?_
          rintro e w1 h1
          have h1' := h1
          obtain ⟨v, F', rfl, ho, _, _, _⟩ := h1
          obtain ⟨a5, c5, rfl, _⟩ := outs_form ho
          have H2 := Lib.hid h1'
          clear h1' ho
          obtain ⟨m, hm⟩ : ∃ m, q.2.1.length = m := ⟨_, rfl⟩
          obtain ⟨r, hr⟩ : ∃ r, q.2.2 = r := ⟨_, rfl⟩
          rw [hm, hr] at H2 ⊢
          clear hm hr
          go_wp2_with fail
          go_ret2
          exact HB.out _ _ _ H2.out
        · rw [if_neg h4] at hq
          have HQ := Lib.hid hq
          clear hq
          go_enter Tryz.func17, Tryz.ntmps17
          go_wp2_with fail
          go_ret2
          rw [← HQ.out]
          exact sent_none (H.out) (Turn.of_below HK.out)
end Go.Proofs.YtaaaplbjeknbkaaGreat
namespace Go.Proofs.YtaaaplbjeknbkaaGreat
open Go.RowKit Go.Maps

variable {w w' : World} {F : Nat → Prop} {R : Nat} {s : NS}

/-- What acts make of a node. -/
def NS.run (s : NS) (l : List ActD) : NS := l.foldl (fun s a => (s.did a).1) s
theorem run_step {l : List ActD} {k : Nat} (h : k < l.length) : s.run (l.take (k + 1)) = ((s.run (l.take k)).did l[k]).1 := by
  unfold NS.run
  rw [List.take_add_one, List.getElem?_eq_getElem h, List.foldl_append]
  rfl
/-- A boxed act. -/
theorem box_act (w : World) (a : ActD) : (w.alloc (.cells #[.int .i64 a.kind, .int .i64 a.peer, .int .i64 a.n, .bool a.flag, .string a.bytes] 29)).cell? ⟨w.heap.size, 0, none⟩ = some (.int .i64 a.kind) ∧ (w.alloc (.cells #[.int .i64 a.kind, .int .i64 a.peer, .int .i64 a.n, .bool a.flag, .string a.bytes] 29)).cell? ⟨w.heap.size, 1, none⟩ = some (.int .i64 a.peer) ∧ (w.alloc (.cells #[.int .i64 a.kind, .int .i64 a.peer, .int .i64 a.n, .bool a.flag, .string a.bytes] 29)).cell? ⟨w.heap.size, 2, none⟩ = some (.int .i64 a.n) ∧ (w.alloc (.cells #[.int .i64 a.kind, .int .i64 a.peer, .int .i64 a.n, .bool a.flag, .string a.bytes] 29)).cell? ⟨w.heap.size, 3, none⟩ = some (.bool a.flag) ∧ (w.alloc (.cells #[.int .i64 a.kind, .int .i64 a.peer, .int .i64 a.n, .bool a.flag, .string a.bytes] 29)).cell? ⟨w.heap.size, 4, none⟩ = some (.string a.bytes) :=
  ⟨by simp [go_sem], by simp [go_sem], by simp [go_sem], by simp [go_sem], by simp [go_sem]⟩
theorem join_there (s : NS) (p : Nat) (hp : p < 8) (f : Bool) : (s.join p f).1.thereE p = 0 := by
  unfold NS.join
  rw [if_neg (not_not_intro ⟨by omega, by omega⟩), Int.toNat_natCast]
  split
  · rename_i h
    unfold NS.thereE
    rw [if_pos ⟨by omega, by omega⟩, Int.toNat_natCast, h]
    rfl
  · unfold NS.thereE NS.setPeer
    rw [if_pos ⟨by omega, by omega⟩]
    simp
theorem leave_zero {p : Nat} (h : s.thereE p = 0) : s.leave p = ({ s.setPeer p (false, false) with T := Tr.dropL s.T p, P := Ho.dropL s.P p }, 0) := by
  unfold NS.leave
  rw [if_neg (not_not_intro h), Int.toNat_natCast]
theorem there_left {p : Nat} (hp : p < 8) {s' : NS} (h : s'.peers p = (false, false)) : s'.thereE p = 5 := by
  unfold NS.thereE
  rw [if_pos ⟨by omega, by omega⟩, Int.toNat_natCast, h]
  rfl
theorem drop_gone (T : List Tr.TEnt) (p : Nat) : ∀ e ∈ Tr.dropL T p, ¬ e.peer = p := fun e he => by
  unfold Tr.dropL Tr.settleL at he
  have h1 := (List.mem_filter.1 he).1
  have h2 := (List.mem_filter.1 h1).2
  simpa using h2
theorem count_gone (T : List Tr.TEnt) (p : Nat) (hp : p < 8) : (if Tr.goodP (p : Int) then ((((Tr.dropL T p).filter fun e => e.peer == (p : Int).toNat).length : Int), (((Tr.dropL T p).filter fun e => e.peer == (p : Int).toNat && e.st == 2).length : Int), (0 : Int)) else (0, 0, 1)) = (0, 0, 0) := by
  rw [if_pos ⟨by omega, by omega⟩, Int.toNat_natCast]
  rw [List.filter_eq_nil_iff.2 (fun e he => by simpa using drop_gone T p e he), List.filter_eq_nil_iff.2 (fun e he => by simp [drop_gone T p e he])]
  rfl
theorem join_left {p : Nat} (hp : p < 8) {s' : NS} (h : s'.peers p = (false, false)) (f : Bool) : s'.join p f = (s'.setPeer p (true, f), 0) := by
  unfold NS.join
  rw [if_neg (not_not_intro ⟨by omega, by omega⟩), Int.toNat_natCast, h]
  rfl
theorem join_again {p : Nat} (hp : p < 8) (s' : NS) (f : Bool) : (s'.setPeer p (true, f)).join p f = (s'.setPeer p (true, f), 6) := by
  unfold NS.join
  rw [if_neg (not_not_intro ⟨by omega, by omega⟩), Int.toNat_natCast]
  simp [NS.setPeer]
end Go.Proofs.YtaaaplbjeknbkaaGreat
namespace Go.Proofs.YtaaaplbjeknbkaaGreat
open Go.RowKit Go.Maps

variable {w w' w0 : World} {F : Nat → Prop} {R : Nat} {s : NS}

/-- Peers that are not to be asked. -/
theorem wait_more {u x : NS} {ou : List OutD} {k0 : Nat} (h : u.wait k0 = (x, ou)) (ha : ∀ p, k0 ≤ p → x.asks p = []) : ∀ j, u.wait (k0 + j) = (x, ou)
  | 0 => h
  | j + 1 => by
    have ih := wait_more h ha j
    have e := ha (k0 + j) (by omega)
    show NS.wait u (k0 + j + 1) = _
    simp only [NS.wait, ih]
    unfold NS.request
    rw [e, message_none]
    simp
theorem one_asks (s : NS) (x : UInt64) (f : Bool) (st : Nat) (t : Int) (p : Nat) : ({ s with T := [⟨3, x, f, st, t⟩] } : NS).asks p = if p = 3 ∧ st = 1 then [x] else [] := by
  unfold NS.asks
  by_cases hp : p = 3
  · subst hp
    have hi : Tr.idsOf [⟨3, x, f, st, t⟩] 3 = [x] := rfl
    have he : Tr.entsOf [⟨3, x, f, st, t⟩] x = [⟨3, x, f, st, t⟩] := by unfold Tr.entsOf; simp
    have hn : (Tr.ofL s.salt [⟨3, x, f, st, t⟩]).isNext 3 x = decide (st = 1) := by
      unfold Tr.TS.isNext Tr.TS.best
      rw [Tr.ofL_ents, he]
      by_cases h1 : st = 1
      · subst h1
        rfl
      · by_cases h2 : st = 2
        · subst h2
          rfl
        · simp [h1, h2]
    by_cases h1 : st = 1
    · subst h1
      have e1 : (Tr.idsOf [⟨3, x, f, 1, t⟩] 3).filter ((Tr.ofL s.salt [⟨3, x, f, 1, t⟩]).isNext 3) = [x] := by rw [hi, List.filter_cons_of_pos (by rw [hn]; rfl)]; rfl
      show ((Tr.idsOf [⟨3, x, f, 1, t⟩] 3).filter ((Tr.ofL s.salt [⟨3, x, f, 1, t⟩]).isNext 3)).take _ = _
      rw [e1]
      rfl
    · have e1 : (Tr.idsOf [⟨3, x, f, st, t⟩] 3).filter ((Tr.ofL s.salt [⟨3, x, f, st, t⟩]).isNext 3) = [] := by rw [hi, List.filter_cons_of_neg (by rw [hn]; simpa using h1)]; rfl
      show ((Tr.idsOf [⟨3, x, f, st, t⟩] 3).filter ((Tr.ofL s.salt [⟨3, x, f, st, t⟩]).isNext 3)).take _ = _
      rw [e1, if_neg (fun h => h1 h.2)]
      simp
  · rw [if_neg (fun h => hp h.1)]
    have hi : Tr.idsOf [⟨3, x, f, st, t⟩] p = [] := by
      unfold Tr.idsOf
      have : ¬ (3 == p) = true := by simpa using fun h : 3 = p => hp h.symm
      simp [this]
    show ((Tr.idsOf [⟨3, x, f, st, t⟩] p).filter _).take _ = _
    rw [hi]
    simp
theorem ids_ok (k : Int) (hk : within k 1 4 = true) (h3 : k ≠ 3) (l : List UInt64) (h0 : 0 < l.length) (h20 : l.length ≤ 20) (hn : l.Nodup) : Ms.checkM ⟨k, l, ⟨#[]⟩⟩ = 0 := by
  have hz : (⟨#[]⟩ : ByteArray).size = 0 := rfl
  rw [Ms.checkM_rest hk (by
    rintro (⟨h, _⟩ | ⟨_, h⟩)
    · exact h3 h
    · simp only [hz] at h
      omega) (by
    rintro (h | h)
    · simp only at h
      omega
    · simp only [hz] at h
      omega) (by
    rintro ⟨h, _⟩
    simp only at h
    omega), if_pos hn]
theorem message_one (p : Nat) (x : UInt64) : (message p ⟨2, [x], ⟨#[]⟩⟩).length = 1 := by
  have h : Ms.checkM ⟨2, [x], ⟨#[]⟩⟩ = 0 := ids_ok 2 (by decide) (by decide) [x] (by simp) (by simp) (by simp)
  unfold message
  rw [if_pos h]
  rfl
theorem ask_one (x : UInt64) (f : Bool) (t t' : Int) (ht : 0 ≤ t' ∧ t' ≤ 1099511627776) : (Tr.askC [⟨3, x, f, 1, t⟩] (3 : Nat) x t').2 = [⟨3, x, f, 2, t'⟩] := by
  unfold Tr.askC
  rw [if_pos ⟨⟨by decide, by decide⟩, ht⟩]
  simp [Tr.askL, Tr.isE, Tr.mayAsk, Tr.askE]
/-- One entry: who is asked. -/
theorem wait_one (s : NS) (hn : 0 ≤ s.now ∧ s.now ≤ 1099511627776) (x : UInt64) (f : Bool) (st : Nat) (t : Int) : (({ s with T := [⟨3, x, f, st, t⟩] } : NS).wait 8).2.length = if st = 1 then 1 else 0 := by
  by_cases h1 : st = 1
  · subst h1
    rw [if_pos rfl]
    obtain ⟨u, hu⟩ : ∃ u : NS, ({ s with T := [⟨3, x, f, 1, t⟩] } : NS) = u := ⟨_, rfl⟩
    rw [hu]
    have ha : ∀ p, u.asks p = if p = 3 then [x] else [] := fun p => by rw [← hu, one_asks]; simp
    have h3 : u.wait 3 = (u, []) := by
      simp only [NS.wait, NS.request, ha]
      simp [message_none, ha]
    have hr : u.request 3 = { s with T := [⟨3, x, f, 2, s.later 10⟩] } := by
      unfold NS.request
      rw [ha, if_pos rfl, List.foldl_cons, List.foldl_nil, ← hu]
      have : s.later 10 = (({ s with T := [⟨3, x, f, 1, t⟩] } : NS)).later 10 := rfl
      rw [← this]
      have e := ask_one x f t (s.later 10) (by unfold NS.later; omega)
      show ({ s with T := (Tr.askC [⟨3, x, f, 1, t⟩] (3 : Nat) x (s.later 10)).2 } : NS) = _
      rw [e]
    have h4 : u.wait 4 = ({ s with T := [⟨3, x, f, 2, s.later 10⟩] }, message 3 ⟨2, [x], ⟨#[]⟩⟩) := by
      show NS.wait u (3 + 1) = _
      rw [NS.wait, h3]
      simp only [hr, ha, if_true, List.nil_append]
    have h8 := wait_more h4 (fun p _ => by rw [one_asks]; simp) 4
    rw [show 4 + 4 = 8 from rfl] at h8
    rw [h8]
    exact message_one 3 x
  · rw [if_neg h1]
    have h8 := wait_more (u := ({ s with T := [⟨3, x, f, st, t⟩] } : NS)) (k0 := 0) rfl (fun p _ => by rw [one_asks, if_neg (fun h => h1 h.2)]) 8
    rw [show 0 + 8 = 8 from rfl] at h8
    rw [h8]
    rfl
theorem announce_one (salt id : UInt64) (f : Bool) : ((NS.new salt).setPeer 3 (true, f)).announce 3 [id] = { (NS.new salt).setPeer 3 (true, f) with T := [⟨3, id, f, 0, if f then 0 else 3⟩] } := by
  unfold NS.announce
  rw [List.foldl_cons, List.foldl_nil, ann1_new rfl]
  have hp : (((NS.new salt).setPeer 3 (true, f)).peers 3).2 = f := by simp [NS.setPeer]
  rw [hp]
  have hl : ((NS.new salt).setPeer 3 (true, f)).later 3 = 3 := rfl
  have hn : ((NS.new salt).setPeer 3 (true, f)).now = 0 := rfl
  rw [hl, hn]
  have : (Tr.annC ((NS.new salt).setPeer 3 (true, f)).T (3 : Nat) id (if f = true then 0 else 3) f).2 = [⟨3, id, f, 0, if f then 0 else 3⟩] := by
    unfold Tr.annC
    rw [if_pos ⟨⟨by decide, by decide⟩, by cases f <;> exact ⟨by decide, by decide⟩⟩]
    rfl
  rw [this]
  rfl
theorem due_one (id : UInt64) (f : Bool) (t k : Int) : Tr.dueL k [⟨3, id, f, 0, t⟩] = [⟨3, id, f, if t ≤ k then 1 else 0, t⟩] := by
  unfold Tr.dueL Tr.settleL Tr.openL Tr.dueE
  by_cases h : t ≤ k <;> simp [h]
theorem bytes_ann (id : UInt64) : Ms.checkM ⟨1, [id], ⟨#[]⟩⟩ = 0 := ids_ok 1 (by decide) (by decide) [id] (by simp) (by simp) (by simp)
theorem send_ann {p : Nat} {l : List UInt64} (hm : Ms.checkM ⟨1, l, ⟨#[]⟩⟩ = 0) (ht : s.thereE p = 0) : s.send p (bytesM ⟨1, l, ⟨#[]⟩⟩) = (s.announce p l, [], 0) := by
  unfold NS.send bytesM
  rw [if_neg (not_not_intro ht), if_pos hm, str_data, if_neg (not_not_intro (Ms.errM_enc hm)), Ms.ansM_enc hm]
  simp only [Int.toNat_natCast, if_true]
theorem bytesOf_ann (l : List UInt64) (a : Option Addr) (cap : Nat) (B : ByteArray) (hB : bytesM ⟨1, l, ⟨#[]⟩⟩ = B) (w : World) (hi : IdsAt w a l) : Calls Tryz.prog 40 #[.agg #[.int .i64 1, .slice a l.length cap, .string ⟨#[]⟩]] w fun e w' => e = .returned (.string B) ∧ Below w.heap.size w w' :=
  bytesOf_any ⟨1, l, ⟨#[]⟩⟩ a cap w hi B hB
theorem bytesOf_one (id : UInt64) (a : Option Addr) (cap : Nat) (B : ByteArray) (hB : bytesM ⟨1, [id], ⟨#[]⟩⟩ = B) (w : World) (hi : IdsAt w a [id]) : Calls Tryz.prog 40 #[.agg #[.int .i64 1, .slice a 1 cap, .string ⟨#[]⟩]] w fun e w' => e = .returned (.string B) ∧ Below w.heap.size w w' :=
  bytesOf_any ⟨1, [id], ⟨#[]⟩⟩ a cap w hi B hB
theorem bytes_small (m : Ms.MsgD) : (bytesM m).size ≤ maxLen := by
  unfold bytesM
  split
  · rename_i h
    have hs : (str (Ms.encM m)).size = (Ms.encM m).length := by rw [← str_list (Ms.encM m)]; simp [str]; rfl
    have : (Ms.encM m).length ≤ 1000 := by
      rcases (Ms.checkM_ok h).2 with ⟨h1, h2, h3, h4⟩ | ⟨h1, h2, h3, h4, h5⟩
      · rw [Ms.encM_bring h1]
        simp
        have : m.body.data.toList.length = m.body.size := by simp
        omega
      · rw [(Ms.ids_enc h h1).2.2.1]
        omega
    have : maxLen = 9223372036854775807 := rfl
    omega
  · decide
theorem new_ann (salt id : UInt64) (f : Bool) (B : ByteArray) (hB : bytesM ⟨1, [id], ⟨#[]⟩⟩ = B) (w : World) (h : NodeAt w F R ((NS.new salt).setPeer 3 (true, f))) : Calls Tryz.prog 36 #[.pointer (some ⟨R, 0, none⟩), .int .i64 3, .string B] w (SentN w F R ({ (NS.new salt).setPeer 3 (true, f) with T := [⟨3, id, f, 0, if f then 0 else 3⟩] }, [], 0)) :=
  send_any 3 B (hB ▸ bytes_small _) (by show (0 : Nat) ≤ _; omega) _ (by rw [← hB, ← announce_one]; exact send_ann (p := 3) (bytes_ann id) (new_there salt 3 (by decide) f)) w h
theorem join3 (salt : UInt64) (f : Bool) (w : World) (h : NodeAt w F R (NS.new salt)) : Calls Tryz.prog 35 #[.pointer (some ⟨R, 0, none⟩), .int .i64 3, .bool f] w (TurnsN w F R (.int .i64 0) ((NS.new salt).setPeer 3 (true, f))) := join_any 3 f _ (join_new salt 3 (by decide) f) w h
theorem delay_pass (salt id : UInt64) (f : Bool) (k : Nat) (hk : k < 8) : ∃ u ou, (({ (NS.new salt).setPeer 3 (true, f) with T := [⟨3, id, f, 0, if f then 0 else 3⟩] } : NS).pass k) = (u, ou, 0) ∧ ou.length = if (f || decide (3 ≤ k)) then 1 else 0 := by
  have hb : ¬ ((k : Int) < 0 ∨ (k : Int) > 1099511627776 - (({ (NS.new salt).setPeer 3 (true, f) with T := [⟨3, id, f, 0, if f then 0 else 3⟩] } : NS)).now) := by
    have : (({ (NS.new salt).setPeer 3 (true, f) with T := [⟨3, id, f, 0, if f then 0 else 3⟩] } : NS)).now = 0 := rfl
    rw [this]
    omega
  have hw := wait_one ({ (NS.new salt).setPeer 3 (true, f) with now := k } : NS) ⟨by show (0 : Int) ≤ k; omega, by show (k : Int) ≤ _; omega⟩ id f (if (if f = true then (0 : Int) else 3) ≤ (k : Int) then 1 else 0) (if f then 0 else 3)
  have he : ({ ({ (NS.new salt).setPeer 3 (true, f) with T := [⟨3, id, f, 0, if f then 0 else 3⟩] } : NS) with now := (({ (NS.new salt).setPeer 3 (true, f) with T := [⟨3, id, f, 0, if f then 0 else 3⟩] } : NS)).now + (k : Int), T := Tr.dueL ((({ (NS.new salt).setPeer 3 (true, f) with T := [⟨3, id, f, 0, if f then 0 else 3⟩] } : NS)).now + (k : Int)) [⟨3, id, f, 0, if f then 0 else 3⟩] } : NS) = ({ ({ (NS.new salt).setPeer 3 (true, f) with now := k } : NS) with T := [⟨3, id, f, if (if f = true then (0 : Int) else 3) ≤ (k : Int) then 1 else 0, if f then 0 else 3⟩] } : NS) := by
    have h0 : (({ (NS.new salt).setPeer 3 (true, f) with T := [⟨3, id, f, 0, if f then 0 else 3⟩] } : NS)).now + (k : Int) = k := by show (0 : Int) + k = k; omega
    rw [h0, due_one]
  unfold NS.pass
  rw [if_neg hb]
  simp only at he ⊢
  rw [he]
  refine ⟨_, _, rfl, hw.trans ?_⟩
  cases f
  · by_cases h3 : 3 ≤ k
    · have : (3 : Int) ≤ k := by omega
      simp [h3, this]
    · have : ¬ (3 : Int) ≤ k := by omega
      simp [h3, this]
  · have : (0 : Int) ≤ k := by omega
    simp [this]
end Go.Proofs.YtaaaplbjeknbkaaGreat
namespace Go.Proofs.YtaaaplbjeknbkaaGreat
open Go.RowKit Go.Maps

variable {w w' : World} {F F' : Nat → Prop} {R R' : Nat} {s s' : NS}

/-- The memory behind a slice's address holds these messages. -/
def OutsAt (w : World) (a : Option Addr) (l : List OutD) : Prop := ∀ i (h : i < l.length), ∃ b o, a = some ⟨b, o, none⟩ ∧ b < w.heap.size ∧ w.cell? ⟨b, o + i * 2, none⟩ = some (.int .i64 l[i].peer) ∧ w.cell? ⟨b, o + i * 2 + 1, none⟩ = some (.string l[i].bytes)
theorem outsAt_kept {a : Option Addr} {l : List OutD} (hb : Below w.heap.size w w') (h : OutsAt w a l) : OutsAt w' a l := fun i hi => by
  obtain ⟨b, o, e, hlt, c0, c1⟩ := h i hi
  exact ⟨b, o, e, Nat.lt_of_lt_of_le hlt hb.size, kept_cell hb c0, kept_cell hb c1⟩
theorem outsC_at : ∀ (l : List OutD) (i : Nat) (h : i < l.length), (outsC l)[i * 2]? = some (.int .i64 l[i].peer) ∧ (outsC l)[i * 2 + 1]? = some (.string l[i].bytes)
  | o :: r, 0, _ => ⟨rfl, rfl⟩
  | o :: r, i + 1, h => by
    have := outsC_at r i (by simpa using h)
    have e1 : (i + 1) * 2 = i * 2 + 1 + 1 := by omega
    rw [e1]
    exact this
theorem owns_outsAt {B : Nat} {v : Value} {l : List OutD} (h : OwnOuts w B v l) : ∃ a cap, v = .slice a l.length cap ∧ l.length ≤ cap ∧ OutsAt w a l := by
  rcases h.2 with ⟨hv, hn⟩ | ⟨g, cap, cur, hv, hB, hg, hc, _, _, _⟩
  · exact ⟨none, 0, by rw [hn]; exact hv, by omega, fun i hi => absurd hi (by omega)⟩
  · refine ⟨some ⟨g, 0, none⟩, cap, hv, hc, fun i hi => ⟨g, 0, rfl, (Array.getElem?_eq_some_iff.1 hg).1, ?_, ?_⟩⟩
    · have a0 := h.cells (g := g) (by rw [hv]; rfl) (i * 2) _ (outsC_at l i hi).1
      have f0 : (⟨g, 0, none⟩ : Addr).add (i * 2) = ⟨g, 0 + i * 2, none⟩ := by unfold Addr.add; split <;> simp_all
      rw [f0] at a0
      exact a0
    · have a0 := h.cells (g := g) (by rw [hv]; rfl) (i * 2 + 1) _ (outsC_at l i hi).2
      have f0 : (⟨g, 0, none⟩ : Addr).add (i * 2 + 1) = ⟨g, 0 + i * 2 + 1, none⟩ := by unfold Addr.add; split <;> simp_all
      rw [f0] at a0
      exact a0
set_option maxRecDepth 20000 in
set_option maxHeartbeats 1000000 in
theorem eqOut_same (l : List OutD) (a b : Option Addr) (ca cb : Nat) (w : World) (hl : l.length ≤ 1000000) (ha : OutsAt w a l) (hb : OutsAt w b l) : Calls Tryz.prog 50 #[.slice a l.length ca, .slice b l.length cb] w fun e w' => e = .returned (.bool true) ∧ Below w.heap.size w w' := by
  have HA := Lib.hid ha
  have HB := Lib.hid hb
  clear ha hb
  go_enter Tryz.func50, Tryz.ntmps50
  go_wp2_with fail
  go_loopw [14] (fun i wr => ∃ k : Nat, k ≤ l.length ∧ i = .int .i64 k ∧ Hid (Below w.heap.size w wr)) (fun i _ => l.length - (intOf i).toNat)
  case atStart => exact ⟨0, Nat.zero_le _, rfl, Lib.hid (Below.refl _ _)⟩
  case round =>
    obtain ⟨k, hk, rfl, HBW⟩ := hrel
    by_cases hkl : k < l.length
    · obtain ⟨g, o, rfl, hg, c0, c1⟩ := outsAt_kept HBW.out HA.out k hkl
      obtain ⟨g', o', rfl, hg', d0, d1⟩ := outsAt_kept HBW.out HB.out k hkl
      obtain ⟨y, hy⟩ : ∃ y, l[k] = y := ⟨_, rfl⟩
      rw [hy] at c0 c1 d0 d1
      obtain ⟨wy, hwy⟩ : ∃ wy, wr.alloc (.cells #[.int .i64 y.peer, .string y.bytes] 35) = wy := ⟨_, rfl⟩
      have hby : Below wr.heap.size wr wy := hwy ▸ kept_new _ _
      have y0 : wy.cell? ⟨wr.heap.size, 0, none⟩ = some (.int .i64 y.peer) := by rw [← hwy]; simp [go_sem]
      have y1 : wy.cell? ⟨wr.heap.size, 1, none⟩ = some (.string y.bytes) := by rw [← hwy]; simp [go_sem]
      have e0 := kept_cell hby d0
      have e1 := kept_cell hby d1
      have l1 := (cell_spot y0).2
      have l2 := (cell_spot e0).2
      have l3 : g < wr.heap.size := hg
      have hki : (k : Int) < l.length := by omega
      have HBY := Lib.hid (kept_trans HBW.out hby)
      clear hy hby
      go_wp2_with fail
      go_quiet (fail)
      generalize hw2 : World.drewN wy nq = w2
      have HB2 : Hid (Below w.heap.size w w2) := Lib.hid (by rw [← hw2]; exact below_drewN HBY.out _)
      go_wp2_with fail
      go_roundw
      case rel => exact ⟨k + 1, by omega, by go_num, HB2⟩
      case measure => simp [intOf]; omega
    · go_wp2_with fail
      go_ret
      exact ⟨rfl, HBW.out⟩
/-- An error changes nothing, and nothing goes out. -/
theorem did_err (a : ActD) (h : (s.did a).2.2 ≠ 0) : (s.did a).2.1 = [] ∧ (s.did a).1 = s := by
  unfold NS.did at h ⊢
  split at h
  · rename_i h1
    rw [if_pos h1]
    refine ⟨rfl, ?_⟩
    unfold NS.join at h ⊢
    simp only at h ⊢
    split
    · rfl
    · rename_i h2
      rw [if_neg h2] at h
      split
      · rfl
      · rename_i h3
        rw [if_neg h3] at h
        exact absurd rfl h
  · rename_i h1
    rw [if_neg h1]
    split at h
    · rename_i h2
      rw [if_pos h2]
      refine ⟨rfl, ?_⟩
      unfold NS.leave at h ⊢
      simp only at h ⊢
      split
      · rfl
      · rename_i h3
        rw [if_neg h3] at h
        exact absurd rfl h
    · rename_i h2
      rw [if_neg h2]
      split at h
      · rename_i h3
        rw [if_pos h3]
        unfold NS.send at h ⊢
        simp only at h ⊢
        split
        · exact ⟨rfl, rfl⟩
        · rename_i k1
          rw [if_neg k1] at h
          split
          · exact ⟨rfl, rfl⟩
          · rename_i k2
            rw [if_neg k2] at h
            split at h
            · exact absurd rfl h
            · rename_i k3
              rw [if_neg k3]
              split at h
              · exact absurd rfl h
              · rename_i k4
                rw [if_neg k4]
                split at h
                · exact absurd rfl h
                · rename_i k5
                  rw [if_neg k5]
                  split at h
                  · rename_i k6
                    rw [if_pos k6]
                    exact ⟨rfl, rfl⟩
                  · exact absurd rfl h
      · rename_i h3
        rw [if_neg h3]
        split at h
        · rename_i h4
          rw [if_pos h4]
          unfold NS.pass at h ⊢
          split
          · exact ⟨rfl, rfl⟩
          · rename_i h5
            rw [if_neg h5] at h
            exact absurd rfl h
        · rename_i h4
          rw [if_neg h4]
          exact ⟨rfl, rfl⟩
theorem fetch_few (p : Nat) (l : List UInt64) : (s.fetch p l).length ≤ l.length + 1 := by
  have h1 := flat_len (s := s) p l
  have h2 := message_len p ⟨4, l.filter (fun x => (Ju.findL s.A x).isNone), ⟨#[]⟩⟩
  show (l.flatMap (s.fetch1 p) ++ message p ⟨4, l.filter (fun x => (Ju.findL s.A x).isNone), ⟨#[]⟩⟩).length ≤ _
  rw [List.length_append]
  omega
theorem ans_few {l : List UInt8} (h : Ms.errM l = 0) : (Ms.ansM l).ids.length ≤ 20 := by
  obtain ⟨_, h2⟩ := Ms.errM_zero h
  have : Ms.ansM l = Ms.readM l := by unfold Ms.ansM; rw [if_pos h]
  rw [this]
  rcases (Ms.checkM_ok h2).2 with ⟨_, h1, _⟩ | ⟨_, _, _, h1, _⟩
  · rw [h1]; simp
  · exact h1
theorem did_few {a : ActD} {q1 : NS} {q2 : List OutD} {q3 : Int} (h : s.did a = (q1, q2, q3)) : q2.length ≤ 1000000 := by
  have e : q2 = (s.did a).2.1 := by rw [h]
  rw [e]
  unfold NS.did
  split
  · simp
  · split
    · simp
    · split
      · unfold NS.send
        simp only
        split
        · simp
        · split
          · simp
          · rename_i k2
            have hz := ans_few (Classical.not_not.1 k2)
            split
            · simp
            · split
              · simp
              · split
                · have := fetch_few (s := s) a.peer.toNat (Ms.ansM a.bytes.data.toList).ids
                  simp only
                  omega
                · split
                  · simp
                  · simp
      · split
        · by_cases hk : a.n < 0 ∨ a.n > 1099511627776 - s.now
          · have : s.pass a.n = (s, [], 1) := by unfold NS.pass; rw [if_pos hk]
            rw [this]
            simp
          · obtain ⟨u, hu⟩ : ∃ u : NS, ({ s with now := s.now + a.n, T := Tr.dueL (s.now + a.n) s.T } : NS) = u := ⟨_, rfl⟩
            have he : s.pass a.n = ((u.wait 8).1, (u.wait 8).2, 0) := by unfold NS.pass; rw [if_neg hk, hu]
            have h8 := wait_len u 8
            obtain ⟨r, hr⟩ : ∃ r, u.wait 8 = r := ⟨_, rfl⟩
            rw [hr] at h8 he
            rw [he]
            simp only
            omega
        · simp
/-- Two nodes that a law has made since the world w0. -/
structure Mine2 (w0 w : World) (F : Nat → Prop) (R : Nat) (s : NS) (F' : Nat → Prop) (R' : Nat) (s' : NS) : Prop where
  one : NodeAt w F R s
  two : NodeAt w F' R' s'
  apart : Apart F F'
  above1 : ∀ k, F k → w0.heap.size ≤ k
  above2 : ∀ k, F' k → w0.heap.size ≤ k
  below : Below w0.heap.size w0 w
variable {w0 : World}
theorem Mine2.kept (h : Mine2 w0 w F R s F' R' s') (hb : Below w.heap.size w w') : Mine2 w0 w' F R s F' R' s' := ⟨h.one.kept hb, h.two.kept hb, h.apart, h.above1, h.above2, kept_trans h.below hb⟩
theorem Mine2.turn1 {G : Nat → Prop} {t : NS} (h : Mine2 w0 w F R s F' R' s') (hn : NodeAt w' G R t) (ht : Turn F G w w') : Mine2 w0 w' G R t F' R' s' :=
  ⟨hn, h.two.turn ht h.apart.symm, ht.apart h.apart h.two.there, ht.above h.above1 h.below.size, h.above2, h.below.trans (ht.below h.above1 h.below.size)⟩
theorem Mine2.turn2 {G : Nat → Prop} {t : NS} (h : Mine2 w0 w F R s F' R' s') (hn : NodeAt w' G R' t) (ht : Turn F' G w w') : Mine2 w0 w' F R s G R' t :=
  ⟨h.one.turn ht h.apart, hn, (ht.apart h.apart.symm h.one.there).symm, h.above1, ht.above h.above2 h.below.size, h.below.trans (ht.below h.above2 h.below.size)⟩
end Go.Proofs.YtaaaplbjeknbkaaGreat
