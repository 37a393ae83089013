/-
  A filter of recent IDs as plain data: its two generations as lists, what Put, Has and Count make of them, and what follows (P8). No program is named here.
-/
namespace Go.Proofs.Ytagbcgbngdfapaa

structure RingS where
  size : Nat
  cur : List UInt64
  prev : List UInt64

def RingS.put (s : RingS) (x : UInt64) : RingS :=
  if s.cur.contains x = true then s else if s.size ≤ s.cur.length then ⟨s.size, [x], s.cur⟩ else ⟨s.size, s.cur ++ [x], s.prev⟩
def RingS.has (s : RingS) (x : UInt64) : Bool := s.cur.contains x || s.prev.contains x
def RingS.count (s : RingS) : Nat := s.cur.length + (s.prev.filter fun x => !s.cur.contains x).length
def RingS.none (n : Nat) : RingS := ⟨n, [], []⟩
def RingS.puts (s : RingS) (l : List UInt64) : RingS := l.foldl RingS.put s
def RingS.Good (s : RingS) : Prop := 1 ≤ s.size ∧ s.size ≤ 50 ∧ s.cur.length ≤ s.size ∧ s.prev.length ≤ s.size ∧ s.cur.Nodup ∧ s.prev.Nodup

theorem put_there {s : RingS} {x : UInt64} (h : s.cur.contains x = true) : s.put x = s := by unfold RingS.put; rw [if_pos h]
theorem put_full {s : RingS} {x : UInt64} (h : s.cur.contains x = false) (hf : s.size ≤ s.cur.length) : s.put x = ⟨s.size, [x], s.cur⟩ := by
  unfold RingS.put; rw [if_neg (by rw [h]; decide), if_pos hf]
theorem put_room {s : RingS} {x : UInt64} (h : s.cur.contains x = false) (hf : s.cur.length < s.size) : s.put x = ⟨s.size, s.cur ++ [x], s.prev⟩ := by
  unfold RingS.put; rw [if_neg (by rw [h]; decide), if_neg (by omega)]
/-- The three ways of Put. -/
theorem put_ways (s : RingS) (x : UInt64) : (x ∈ s.cur ∧ s.put x = s) ∨ (x ∉ s.cur ∧ s.size ≤ s.cur.length ∧ s.put x = ⟨s.size, [x], s.cur⟩) ∨ (x ∉ s.cur ∧ s.cur.length < s.size ∧ s.put x = ⟨s.size, s.cur ++ [x], s.prev⟩) := by
  by_cases h : x ∈ s.cur
  · exact .inl ⟨h, put_there (List.contains_iff_mem.2 h)⟩
  · have h' : s.cur.contains x = false := by rw [← Bool.not_eq_true, List.contains_iff_mem]; exact h
    rcases Nat.lt_or_ge s.cur.length s.size with hl | hl
    · exact .inr (.inr ⟨h, hl, put_room h' hl⟩)
    · exact .inr (.inl ⟨h, hl, put_full h' hl⟩)
theorem put_size (s : RingS) (x : UInt64) : (s.put x).size = s.size := by
  rcases put_ways s x with ⟨_, e⟩ | ⟨_, _, e⟩ | ⟨_, _, e⟩ <;> rw [e]
theorem nodup_snoc' {l : List UInt64} {x : UInt64} (h : l.Nodup) (hx : x ∉ l) : (l ++ [x]).Nodup := by
  rw [List.nodup_append]
  exact ⟨h, by simp, fun a ha b hb => by rw [List.mem_singleton.1 hb]; exact fun e => hx (e ▸ ha)⟩
theorem put_good {s : RingS} (h : s.Good) (x : UInt64) : (s.put x).Good := by
  obtain ⟨h1, h2, h3, h4, h5, h6⟩ := h
  rcases put_ways s x with ⟨_, e⟩ | ⟨_, hl, e⟩ | ⟨hx, hl, e⟩ <;> rw [e]
  · exact ⟨h1, h2, h3, h4, h5, h6⟩
  · exact ⟨h1, h2, by simpa using h1, h3, by simp, h5⟩
  · exact ⟨h1, h2, by simp; omega, h4, nodup_snoc' h5 hx, h6⟩
theorem none_good {n : Nat} (h1 : 1 ≤ n) (h2 : n ≤ 50) : (RingS.none n).Good := ⟨h1, h2, Nat.zero_le _, Nat.zero_le _, List.nodup_nil, List.nodup_nil⟩
theorem puts_good {s : RingS} (h : s.Good) (l : List UInt64) : (s.puts l).Good := by
  induction l generalizing s with
  | nil => exact h
  | cons x r ih => exact ih (put_good h x)
theorem puts_size (s : RingS) (l : List UInt64) : (s.puts l).size = s.size := by
  induction l generalizing s with
  | nil => rfl
  | cons x r ih => exact (ih (s.put x)).trans (put_size s x)
theorem puts_snoc (s : RingS) (l : List UInt64) (x : UInt64) : s.puts (l ++ [x]) = (s.puts l).put x := by unfold RingS.puts; rw [List.foldl_append]; rfl
theorem puts_take {l : List UInt64} {k : Nat} (s : RingS) (h : k < l.length) : s.puts (l.take (k + 1)) = (s.puts (l.take k)).put l[k] := by
  rw [List.take_succ_eq_append_getElem h, puts_snoc]
theorem has_iff {s : RingS} {x : UInt64} : s.has x = true ↔ x ∈ s.cur ∨ x ∈ s.prev := by
  unfold RingS.has
  rw [Bool.or_eq_true, List.contains_iff_mem, List.contains_iff_mem]
theorem count_le {s : RingS} (h : s.Good) : s.count ≤ 2 * s.size := by
  obtain ⟨_, _, h3, h4, _⟩ := h
  have := List.length_filter_le (fun x => !s.cur.contains x) s.prev
  unfold RingS.count
  omega
theorem put_mem (s : RingS) (x : UInt64) : x ∈ (s.put x).cur := by
  rcases put_ways s x with ⟨h, e⟩ | ⟨_, _, e⟩ | ⟨_, _, e⟩ <;> rw [e]
  · exact h
  · simp
  · simp
theorem put_put (s : RingS) (x : UInt64) : (s.put x).put x = s.put x := put_there (List.contains_iff_mem.2 (put_mem s x))
theorem put_from {s : RingS} {x y : UInt64} (h : (s.put x).has y = true) : s.has y = true ∨ y = x := by
  rw [has_iff] at h ⊢
  rcases put_ways s x with ⟨_, e⟩ | ⟨_, _, e⟩ | ⟨_, _, e⟩ <;> rw [e] at h
  · exact .inl h
  · rcases h with h | h
    · exact .inr (by simpa using h)
    · exact .inl (.inl h)
  · rcases h with h | h
    · rcases List.mem_append.1 h with h | h
      · exact .inl (.inl h)
      · exact .inr (by simpa using h)
    · exact .inl (.inr h)
/-- What was never put is not there. -/
theorem puts_from {s : RingS} {l : List UInt64} {y : UInt64} (h : (s.puts l).has y = true) : s.has y = true ∨ y ∈ l := by
  induction l generalizing s with
  | nil => exact .inl h
  | cons x r ih =>
    rcases ih (s := s.put x) h with h1 | h1
    · rcases put_from h1 with h2 | h2
      · exact .inl h2
      · exact .inr (by rw [h2]; exact List.mem_cons_self)
    · exact .inr (List.mem_cons_of_mem _ h1)
theorem none_has (n : Nat) (y : UInt64) : (RingS.none n).has y = false := rfl
theorem none_count (n : Nat) : (RingS.none n).count = 0 := rfl

theorem nodup_len : ∀ {a d : List UInt64}, a.Nodup → (∀ y ∈ a, y ∈ d) → a.length ≤ d.length
  | [], _, _, _ => Nat.zero_le _
  | x :: a, d, hn, hs => by
    obtain ⟨hx, hn'⟩ := List.nodup_cons.1 hn
    have hm : x ∈ d := hs x List.mem_cons_self
    have h1 : a.length ≤ (d.erase x).length := nodup_len hn' (fun y hy => (List.mem_erase_of_ne (fun e : y = x => hx (e ▸ hy))).2 (hs y (List.mem_cons_of_mem _ hy)))
    have h2 : 0 < d.length := List.length_pos_of_mem hm
    rw [List.length_erase_of_mem hm] at h1
    simp only [List.length_cons]
    omega

/-- Behind all that was put: a tail of it lies in the current generation, or holds that generation; and a tail of no more IDs than the size is there. -/
def Late (n : Nat) (l : List UInt64) (s : RingS) : Prop :=
  (∀ i, (∀ y ∈ l.drop i, y ∈ s.cur) ∨ (∀ y ∈ s.cur, y ∈ l.drop i)) ∧ ∀ i (d : List UInt64), (∀ y ∈ l.drop i, y ∈ d) → d.length ≤ n → ∀ y ∈ l.drop i, s.has y = true
theorem drop_snoc (l : List UInt64) (x : UInt64) (i : Nat) : ((l ++ [x]).drop i = l.drop i ++ [x]) ∨ (l ++ [x]).drop i = [] := by
  rcases Nat.lt_or_ge l.length i with h | h
  · exact .inr (List.drop_eq_nil_of_le (by simp; omega))
  · exact .inl (by rw [List.drop_append_of_le_length h])
theorem late_put {n : Nat} {l : List UInt64} {s : RingS} {x : UInt64} (hg : s.Good) (hn : s.size = n) (h : Late n l s) : Late n (l ++ [x]) (s.put x) := by
  obtain ⟨ha, hb⟩ := h
  refine ⟨fun i => ?_, fun i d hd hlen y hy => ?_⟩
  · rcases drop_snoc l x i with e | e <;> rw [e]
    · rcases put_ways s x with ⟨hx, e⟩ | ⟨_, _, e⟩ | ⟨_, _, e⟩ <;> rw [e]
      · rcases ha i with h | h
        · exact .inl fun y hy => (List.mem_append.1 hy).elim (h y) (fun hy => by rw [List.mem_singleton.1 hy]; exact hx)
        · exact .inr fun y hy => List.mem_append.2 (.inl (h y hy))
      · exact .inr fun y hy => List.mem_append.2 (.inr hy)
      · rcases ha i with h | h
        · exact .inl fun y hy => (List.mem_append.1 hy).elim (fun hy => List.mem_append.2 (.inl (h y hy))) (fun hy => List.mem_append.2 (.inr hy))
        · exact .inr fun y hy => (List.mem_append.1 hy).elim (fun hy => List.mem_append.2 (.inl (h y hy))) (fun hy => List.mem_append.2 (.inr hy))
    · exact .inl fun y hy => absurd hy (by simp)
  · rcases drop_snoc l x i with e | e <;> rw [e] at hd hy
    · rw [has_iff]
      rcases List.mem_append.1 hy with hy | hy
      · have hold := has_iff.1 (hb i d (fun z hz => hd z (List.mem_append.2 (.inl hz))) hlen y hy)
        rcases put_ways s x with ⟨hx, e⟩ | ⟨hx, hl, e⟩ | ⟨_, _, e⟩ <;> rw [e]
        · exact hold
        · rcases ha i with h | h
          · exact .inr (h y hy)
          · have : (s.cur ++ [x]).length ≤ d.length := nodup_len (nodup_snoc' hg.2.2.2.2.1 hx) (fun z hz => hd z ((List.mem_append.1 hz).elim (fun hz => List.mem_append.2 (.inl (h z hz))) (fun hz => List.mem_append.2 (.inr hz))))
            rw [List.length_append] at this
            simp only [List.length_cons, List.length_nil] at this
            omega
        · exact hold.elim (fun h => .inl (List.mem_append.2 (.inl h))) .inr
      · rw [List.mem_singleton.1 hy]
        exact .inl (put_mem s x)
    · exact absurd hy (by simp)
theorem late_puts {n : Nat} (l : List UInt64) (h1 : 1 ≤ n) (h2 : n ≤ 50) (k : Nat) (hk : k ≤ l.length) : Late n (l.take k) ((RingS.none n).puts (l.take k)) := by
  induction k with
  | zero => exact ⟨fun i => .inl fun y hy => absurd hy (by simp), fun i d _ _ y hy => absurd hy (by simp)⟩
  | succ k ih =>
    rw [puts_take _ hk, List.take_succ_eq_append_getElem hk]
    exact late_put (puts_good (none_good h1 h2) _) (puts_size _ _) (ih (by omega))
/-- The last IDs, as many as the size, are there. -/
theorem late_has {n : Nat} (l : List UInt64) (h1 : 1 ≤ n) (h2 : n ≤ 50) (i : Nat) (d : List UInt64) (hd : ∀ y ∈ l.drop i, y ∈ d) (hlen : d.length ≤ n) : ∀ y ∈ l.drop i, ((RingS.none n).puts l).has y = true := by
  have := (late_puts l h1 h2 l.length (Nat.le_refl _)).2 i d
  rw [List.take_length] at this
  exact this hd hlen

/-- Behind twice as many new IDs as the size an ID is gone. -/
theorem rolls {s : RingS} (hg : s.Good) (x : UInt64) (hx : x ∈ s.cur) (o : List UInt64) (ho : o.Nodup) (hn : ∀ y ∈ o, s.has y = false) (hl : o.length = 2 * s.size) : (s.puts o).has x = false := by
  have hc : 1 ≤ s.cur.length := List.length_pos_of_mem hx
  obtain ⟨h1, h2, h3, h4, h5, h6⟩ := hg
  have key : ∀ k, k ≤ o.length → (∀ z ∈ (s.puts (o.take k)).cur, z ∈ s.cur ∨ z ∈ o.take k) ∧
      ((k + s.cur.length ≤ s.size ∧ (s.puts (o.take k)).cur.length = s.cur.length + k) ∨
       (s.size < k + s.cur.length ∧ k + s.cur.length ≤ 2 * s.size ∧ x ∉ (s.puts (o.take k)).cur ∧ (s.puts (o.take k)).cur.length + s.size = s.cur.length + k) ∨
       (2 * s.size < k + s.cur.length ∧ x ∉ (s.puts (o.take k)).cur ∧ x ∉ (s.puts (o.take k)).prev)) := by
    intro k
    induction k with
    | zero => intro _; exact ⟨fun z hz => .inl hz, .inl ⟨by omega, rfl⟩⟩
    | succ k ih =>
      intro hk
      obtain ⟨ih1, ih2⟩ := ih (by omega)
      rw [puts_take s hk, List.take_succ_eq_append_getElem hk]
      have hsz := puts_size s (o.take k)
      have hyo : o[k] ∈ o := List.getElem_mem hk
      have hys : o[k] ∉ s.cur := fun h => by have := hn _ hyo; rw [has_iff.2 (.inl h)] at this; cases this
      have hyx : x ≠ o[k] := fun e => hys (e ▸ hx)
      have hyt : o[k] ∉ o.take k := fun h => by
        have hnd : (o.take (k + 1)).Nodup := ho.sublist (List.take_sublist _ _)
        rw [List.take_succ_eq_append_getElem hk, List.nodup_append] at hnd
        exact hnd.2.2 _ h _ (List.mem_singleton.2 rfl) rfl
      have hyc : o[k] ∉ (s.puts (o.take k)).cur := fun h => (ih1 _ h).elim hys hyt
      rcases put_ways (s.puts (o.take k)) o[k] with ⟨h, _⟩ | ⟨_, hf, e⟩ | ⟨_, hf, e⟩
      · exact absurd h hyc
      · rw [e]
        refine ⟨fun z hz => .inr (List.mem_append.2 (.inr hz)), ?_⟩
        rcases ih2 with ⟨a1, a2⟩ | ⟨a1, a2, a3, a4⟩ | ⟨a1, a2, a3⟩
        · exact .inr (.inl ⟨by omega, by omega, by simpa using hyx, by simp; omega⟩)
        · exact .inr (.inr ⟨by omega, by simpa using hyx, a3⟩)
        · exact .inr (.inr ⟨by omega, by simpa using hyx, a2⟩)
      · rw [e]
        refine ⟨fun z hz => (List.mem_append.1 hz).elim (fun hz => (ih1 z hz).elim .inl (fun hz => .inr (List.mem_append.2 (.inl hz)))) (fun hz => .inr (List.mem_append.2 (.inr hz))), ?_⟩
        rcases ih2 with ⟨a1, a2⟩ | ⟨a1, a2, a3, a4⟩ | ⟨a1, a2, a3⟩
        · exact .inl ⟨by omega, by simp; omega⟩
        · exact .inr (.inl ⟨by omega, by omega, by simp [a3, hyx], by simp; omega⟩)
        · exact .inr (.inr ⟨by omega, by simp [a2, hyx], a3⟩)
  obtain ⟨_, k2⟩ := key o.length (Nat.le_refl _)
  rw [List.take_length] at k2
  rw [← Bool.not_eq_true, has_iff, not_or]
  rcases k2 with ⟨a1, _⟩ | ⟨_, a2, _⟩ | ⟨_, a2, a3⟩
  · omega
  · omega
  · exact ⟨a2, a3⟩
end Go.Proofs.Ytagbcgbngdfapaa
