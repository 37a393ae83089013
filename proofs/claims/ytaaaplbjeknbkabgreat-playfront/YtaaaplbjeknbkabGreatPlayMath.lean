/-
  A script as plain data: what is sent, the errors, the node behind k acts; what a longer script keeps of a shorter one.
-/
import Derived.Test.YtaaaplbjeknbkabGreatJ32
set_option maxRecDepth 20000
namespace Go.Proofs.YtaaaplbjeknbkabGreat
open Go.RowKit Go.Maps

variable {s t u : NS}

theorem did_out (s : NS) (a : ActD) : (s.did a).2.1.length ≤ 100 := by
  unfold NS.did
  split
  · simp
  · split
    · simp
    · split
      · unfold NS.send
        simp only
        split
        · simp
        · split
          · simp
          · rename_i k2
            have hz := ans_few (Classical.not_not.1 k2)
            split
            · simp
            · split
              · simp
              · split
                · have := fetch_few (s := s) a.peer.toNat (Ms.ansM a.bytes.data.toList).ids
                  simp only
                  omega
                · split
                  · simp
                  · simp
      · split
        · by_cases hk : a.n < 0 ∨ a.n > 1099511627776 - s.now
          · have : s.pass a.n = (s, [], 1) := by unfold NS.pass; rw [if_pos hk]
            rw [this]
            simp
          · obtain ⟨u, hu⟩ : ∃ u : NS, ({ s with now := s.now + a.n, T := Tr.dueL (s.now + a.n) s.T } : NS) = u := ⟨_, rfl⟩
            have he : s.pass a.n = ((u.wait 8).1, (u.wait 8).2, 0) := by unfold NS.pass; rw [if_neg hk, hu]
            have h8 := wait_len u 8
            rw [he]
            simp only
            omega
        · simp

/-- What is accepted stays, in its order. -/
def Keeps (s t : NS) : Prop := ∃ r, t.A = s.A ++ r
theorem Keeps.refl (s : NS) : Keeps s s := ⟨[], by simp⟩
theorem Keeps.trans (h : Keeps s t) (k : Keeps t u) : Keeps s u := by
  obtain ⟨r, h⟩ := h
  obtain ⟨q, k⟩ := k
  exact ⟨r ++ q, by rw [k, h, List.append_assoc]⟩
theorem Keeps.of (h : t.A = s.A) : Keeps s t := ⟨[], by simp [h]⟩
theorem keeps_accept (s : NS) (x : UInt64) (d : DeedD) : Keeps s (s.accept x d) := by
  show ∃ r, (Ju.acceptL s.A d).2 = s.A ++ r
  unfold Ju.acceptL
  split
  · exact ⟨[], by simp⟩
  · split
    · exact ⟨[], by simp⟩
    · split
      · exact ⟨[], by simp⟩
      · exact ⟨[d], rfl⟩
theorem keeps_seek (s : NS) (x : UInt64) (d : DeedD) : Keeps s (s.seek x d).1 := by
  unfold NS.seek
  split
  · exact Keeps.refl _
  · exact (keeps_accept _ _ _).trans (keeps_accept _ _ _)
theorem keeps_examine (s : NS) (x : UInt64) (d : DeedD) : Keeps s (s.examine x d).1 := by
  unfold NS.examine
  split
  · exact keeps_accept _ _ _
  · split
    · exact (Keeps.of (s := s) (t := ({ s with Q := s.Q.put x } : NS).settle x) rfl).trans (keeps_seek _ x d)
    · split
      · exact Keeps.of rfl
      · exact Keeps.refl _
theorem keeps_follow (s : NS) (q : List UInt64) : Keeps s (s.follow q) := by
  induction s, q using NS.follow.induct with
  | case1 s => rw [follow_nil]; exact Keeps.refl _
  | case2 s x r h ih => rw [follow_none _ _ _ h]; exact ih
  | case3 s x r d h ih =>
    rw [follow_some _ _ _ _ h]
    exact (keeps_examine s x d).trans ih
theorem keeps_wants (p : Nat) : ∀ (l : List UInt64) (s : NS), Keeps s (l.foldl (fun s m => s.want p m) s)
  | [], _ => Keeps.refl _
  | x :: r, s => (Keeps.of (s := s) (t := s.want p x) (by unfold NS.want; split <;> rfl)).trans (keeps_wants p r _)
theorem keeps_adopt (s : NS) (p : Nat) (x : UInt64) (d : DeedD) (ms : List UInt64) : Keeps s (s.adopt p x d ms) := by
  unfold NS.adopt
  simp only
  split
  · exact (Keeps.of (s := s) (t := { s with T := Tr.forgetL s.T x, P := (Ho.addC s.P p x d).2 }) rfl).trans (keeps_wants p ms _)
  · exact Keeps.of rfl
theorem keeps_bring (s : NS) (p : Nat) (d : DeedD) : Keeps s (s.bring p d) := by
  unfold NS.bring
  simp only
  split
  · exact Keeps.of rfl
  · refine (Keeps.of (s := s) (t := { s with T := (Tr.answerC s.T p (Ju.idD d)).2 }) rfl).trans (Keeps.trans ?_ (keeps_follow _ _))
    split
    · exact (keeps_examine _ _ _).trans (keeps_adopt _ _ _ _ _)
    · exact keeps_examine _ _ _
theorem keeps_announce (p : Nat) : ∀ (l : List UInt64) (s : NS), Keeps s (s.announce p l)
  | [], _ => Keeps.refl _
  | x :: r, s => (Keeps.of (s := s) (t := s.announce1 p x) (by unfold NS.announce1; split <;> rfl)).trans (keeps_announce p r _)
theorem keeps_missing (p : Nat) : ∀ (l : List UInt64) (s : NS), Keeps s (s.missing p l)
  | [], _ => Keeps.refl _
  | x :: r, s => (Keeps.of (s := s) (t := { s with T := (Tr.answerC s.T p x).2 }) rfl).trans (keeps_missing p r _)
theorem wait_A (u : NS) : ∀ k, (u.wait k).1.A = u.A
  | 0 => rfl
  | k + 1 => by
    simp only [NS.wait]
    unfold NS.request
    rw [(asks_rest k _ _).1, wait_A u k]
theorem keeps_join (s : NS) (p : Int) (f : Bool) : Keeps s (s.join p f).1 := by
  unfold NS.join
  split
  · exact Keeps.refl _
  · split
    · exact Keeps.refl _
    · exact Keeps.of (t := s.setPeer p.toNat (true, f)) rfl
theorem keeps_leave (s : NS) (p : Int) : Keeps s (s.leave p).1 := by
  unfold NS.leave
  split
  · exact Keeps.refl _
  · exact Keeps.of (t := { s.setPeer p.toNat (false, false) with T := Tr.dropL s.T p.toNat, P := Ho.dropL s.P p.toNat }) rfl
theorem keeps_send (s : NS) (p : Int) (b : ByteArray) : Keeps s (s.send p b).1 := by
  unfold NS.send
  simp only
  split
  · exact Keeps.refl _
  · split
    · exact Keeps.refl _
    · split
      · exact keeps_announce _ _ _
      · split
        · exact keeps_missing _ _ _
        · split
          · exact Keeps.refl _
          · split
            · exact Keeps.refl _
            · exact keeps_bring _ _ _
theorem keeps_pass (s : NS) (k : Int) : Keeps s (s.pass k).1 := by
  by_cases hk : k < 0 ∨ k > 1099511627776 - s.now
  · have : s.pass k = (s, [], 1) := by unfold NS.pass; rw [if_pos hk]
    rw [this]
    exact Keeps.refl _
  · obtain ⟨u, hu⟩ : ∃ u : NS, ({ s with now := s.now + k, T := Tr.dueL (s.now + k) s.T } : NS) = u := ⟨_, rfl⟩
    have he : s.pass k = ((u.wait 8).1, (u.wait 8).2, 0) := by unfold NS.pass; rw [if_neg hk, hu]
    have hA : u.A = s.A := by rw [← hu]
    have h8 := wait_A u 8
    rw [he]
    exact ⟨[], by simp [h8, hA]⟩
theorem keeps_did (s : NS) (a : ActD) : Keeps s (s.did a).1 := by
  unfold NS.did
  split
  · exact keeps_join _ _ _
  · split
    · exact keeps_leave _ _
    · split
      · exact keeps_send _ _ _
      · split
        · exact keeps_pass _ _
        · exact Keeps.refl _

/-- The node behind the first k acts. -/
def stK (s : NS) (l : List ActD) : Nat → NS
  | 0 => s
  | k + 1 => ((stK s l k).did (l.getD k default)).1
/-- What was sent till then. -/
def outK (s : NS) (l : List ActD) : Nat → List OutD
  | 0 => []
  | k + 1 => outK s l k ++ ((stK s l k).did (l.getD k default)).2.1
/-- The error of act i. -/
def errK (s : NS) (l : List ActD) (i : Nat) : Int := ((stK s l i).did (l.getD i default)).2.2
theorem getD_front {l m : List ActD} {k : Nat} (h : k < l.length) : (l ++ m).getD k default = l.getD k default := by
  rw [List.getD_eq_getElem?_getD, List.getD_eq_getElem?_getD, List.getElem?_append_left h]
theorem st_front {l m : List ActD} : ∀ k, k ≤ l.length → stK s (l ++ m) k = stK s l k
  | 0, _ => rfl
  | k + 1, h => by simp only [stK]; rw [st_front k (by omega), getD_front (by omega)]
theorem out_front {l m : List ActD} : ∀ k, k ≤ l.length → outK s (l ++ m) k = outK s l k
  | 0, _ => rfl
  | k + 1, h => by simp only [outK]; rw [out_front k (by omega), st_front k (by omega), getD_front (by omega)]
theorem err_front {l m : List ActD} {i : Nat} (h : i < l.length) : errK s (l ++ m) i = errK s l i := by
  unfold errK
  rw [st_front i (by omega), getD_front h]
theorem out_more (l : List ActD) (k : Nat) : ∀ j, ∃ r, outK s l (k + j) = outK s l k ++ r
  | 0 => ⟨[], by simp⟩
  | j + 1 => by
    obtain ⟨r, h⟩ := out_more l k j
    exact ⟨_, by rw [← Nat.add_assoc]; simp only [outK]; rw [h, List.append_assoc]⟩
theorem st_more (l : List ActD) (k : Nat) : ∀ j, Keeps (stK s l k) (stK s l (k + j))
  | 0 => Keeps.refl _
  | j + 1 => (st_more l k j).trans (keeps_did _ _)
theorem out_len (l : List ActD) : ∀ k, (outK s l k).length ≤ 100 * k
  | 0 => by simp [outK]
  | k + 1 => by
    have h1 := out_len l k
    have h2 := did_out (stK s l k) (l.getD k default)
    simp only [outK, List.length_append]
    omega
theorem act_at {l : List ActD} {k : Nat} (h : k < l.length) : l.getD k default = l[k] := by
  rw [List.getD_eq_getElem?_getD, List.getElem?_eq_getElem h]; rfl
end Go.Proofs.YtaaaplbjeknbkabGreat
