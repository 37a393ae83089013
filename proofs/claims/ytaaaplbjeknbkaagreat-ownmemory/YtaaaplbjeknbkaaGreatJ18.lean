/-
  A filter of recent IDs as plain data: its two generations as lists, what Put, Has and Count make of them, and what follows (P8). No program is named here.
  A generation of a filter: a map of IDs to true (or no map yet), as the list of its keys in the order in which they were put.
  A filter in memory, and the contracts of package ring: New, turn, Put, Has, Reset, Count.
  The contracts of package ring that write: maps.Clone, turn, Put, Reset.
-/
import Derived.Test.YtaaaplbjeknbkaaGreatJ1
import Derived.Maps.OwnOps
import Derived.Maps.OwnSet
import Derived.Maps.RangeWalk
import Derived.BigQuiet
import Derived.Shelf.SlMaps.Clone
set_option maxRecDepth 20000
namespace Go.Proofs.YtaaaplbjeknbkaaGreat.Ri

structure RingS where
  size : Nat
  cur : List UInt64
  prev : List UInt64

def RingS.put (s : RingS) (x : UInt64) : RingS :=
  if s.cur.contains x = true then s else if s.size ≤ s.cur.length then ⟨s.size, [x], s.cur⟩ else ⟨s.size, s.cur ++ [x], s.prev⟩
def RingS.has (s : RingS) (x : UInt64) : Bool := s.cur.contains x || s.prev.contains x
def RingS.count (s : RingS) : Nat := s.cur.length + (s.prev.filter fun x => !s.cur.contains x).length
def RingS.none (n : Nat) : RingS := ⟨n, [], []⟩
def RingS.puts (s : RingS) (l : List UInt64) : RingS := l.foldl RingS.put s
def RingS.Good (s : RingS) : Prop := 1 ≤ s.size ∧ s.size ≤ 50 ∧ s.cur.length ≤ s.size ∧ s.prev.length ≤ s.size ∧ s.cur.Nodup ∧ s.prev.Nodup

theorem put_there {s : RingS} {x : UInt64} (h : s.cur.contains x = true) : s.put x = s := by unfold RingS.put; rw [if_pos h]
theorem put_full {s : RingS} {x : UInt64} (h : s.cur.contains x = false) (hf : s.size ≤ s.cur.length) : s.put x = ⟨s.size, [x], s.cur⟩ := by
  unfold RingS.put; rw [if_neg (by rw [h]; decide), if_pos hf]
theorem put_room {s : RingS} {x : UInt64} (h : s.cur.contains x = false) (hf : s.cur.length < s.size) : s.put x = ⟨s.size, s.cur ++ [x], s.prev⟩ := by
  unfold RingS.put; rw [if_neg (by rw [h]; decide), if_neg (by omega)]
/-- The three ways of Put. -/
theorem put_ways (s : RingS) (x : UInt64) : (x ∈ s.cur ∧ s.put x = s) ∨ (x ∉ s.cur ∧ s.size ≤ s.cur.length ∧ s.put x = ⟨s.size, [x], s.cur⟩) ∨ (x ∉ s.cur ∧ s.cur.length < s.size ∧ s.put x = ⟨s.size, s.cur ++ [x], s.prev⟩) := by
  by_cases h : x ∈ s.cur
  · exact .inl ⟨h, put_there (List.contains_iff_mem.2 h)⟩
  · have h' : s.cur.contains x = false := by rw [← Bool.not_eq_true, List.contains_iff_mem]; exact h
    rcases Nat.lt_or_ge s.cur.length s.size with hl | hl
    · exact .inr (.inr ⟨h, hl, put_room h' hl⟩)
    · exact .inr (.inl ⟨h, hl, put_full h' hl⟩)
theorem put_size (s : RingS) (x : UInt64) : (s.put x).size = s.size := by
  rcases put_ways s x with ⟨_, e⟩ | ⟨_, _, e⟩ | ⟨_, _, e⟩ <;> rw [e]
theorem nodup_snoc' {l : List UInt64} {x : UInt64} (h : l.Nodup) (hx : x ∉ l) : (l ++ [x]).Nodup := by
  rw [List.nodup_append]
  exact ⟨h, by simp, fun a ha b hb => by rw [List.mem_singleton.1 hb]; exact fun e => hx (e ▸ ha)⟩
theorem put_good {s : RingS} (h : s.Good) (x : UInt64) : (s.put x).Good := by
  obtain ⟨h1, h2, h3, h4, h5, h6⟩ := h
  rcases put_ways s x with ⟨_, e⟩ | ⟨_, hl, e⟩ | ⟨hx, hl, e⟩ <;> rw [e]
  · exact ⟨h1, h2, h3, h4, h5, h6⟩
  · exact ⟨h1, h2, by simpa using h1, h3, by simp, h5⟩
  · exact ⟨h1, h2, by simp; omega, h4, nodup_snoc' h5 hx, h6⟩
theorem none_good {n : Nat} (h1 : 1 ≤ n) (h2 : n ≤ 50) : (RingS.none n).Good := ⟨h1, h2, Nat.zero_le _, Nat.zero_le _, List.nodup_nil, List.nodup_nil⟩
theorem puts_good {s : RingS} (h : s.Good) (l : List UInt64) : (s.puts l).Good := by
  induction l generalizing s with
  | nil => exact h
  | cons x r ih => exact ih (put_good h x)
theorem puts_size (s : RingS) (l : List UInt64) : (s.puts l).size = s.size := by
  induction l generalizing s with
  | nil => rfl
  | cons x r ih => exact (ih (s.put x)).trans (put_size s x)
theorem puts_snoc (s : RingS) (l : List UInt64) (x : UInt64) : s.puts (l ++ [x]) = (s.puts l).put x := by unfold RingS.puts; rw [List.foldl_append]; rfl
theorem puts_take {l : List UInt64} {k : Nat} (s : RingS) (h : k < l.length) : s.puts (l.take (k + 1)) = (s.puts (l.take k)).put l[k] := by
  rw [List.take_succ_eq_append_getElem h, puts_snoc]
theorem has_iff {s : RingS} {x : UInt64} : s.has x = true ↔ x ∈ s.cur ∨ x ∈ s.prev := by
  unfold RingS.has
  rw [Bool.or_eq_true, List.contains_iff_mem, List.contains_iff_mem]
theorem count_le {s : RingS} (h : s.Good) : s.count ≤ 2 * s.size := by
  obtain ⟨_, _, h3, h4, _⟩ := h
  have := List.length_filter_le (fun x => !s.cur.contains x) s.prev
  unfold RingS.count
  omega
theorem put_mem (s : RingS) (x : UInt64) : x ∈ (s.put x).cur := by
  rcases put_ways s x with ⟨h, e⟩ | ⟨_, _, e⟩ | ⟨_, _, e⟩ <;> rw [e]
  · exact h
  · simp
  · simp
theorem put_put (s : RingS) (x : UInt64) : (s.put x).put x = s.put x := put_there (List.contains_iff_mem.2 (put_mem s x))
theorem put_from {s : RingS} {x y : UInt64} (h : (s.put x).has y = true) : s.has y = true ∨ y = x := by
  rw [has_iff] at h ⊢
  rcases put_ways s x with ⟨_, e⟩ | ⟨_, _, e⟩ | ⟨_, _, e⟩ <;> rw [e] at h
  · exact .inl h
  · rcases h with h | h
    · exact .inr (by simpa using h)
    · exact .inl (.inl h)
  · rcases h with h | h
    · rcases List.mem_append.1 h with h | h
      · exact .inl (.inl h)
      · exact .inr (by simpa using h)
    · exact .inl (.inr h)
/-- What was never put is not there. -/
theorem puts_from {s : RingS} {l : List UInt64} {y : UInt64} (h : (s.puts l).has y = true) : s.has y = true ∨ y ∈ l := by
  induction l generalizing s with
  | nil => exact .inl h
  | cons x r ih =>
    rcases ih (s := s.put x) h with h1 | h1
    · rcases put_from h1 with h2 | h2
      · exact .inl h2
      · exact .inr (by rw [h2]; exact List.mem_cons_self)
    · exact .inr (List.mem_cons_of_mem _ h1)
theorem none_has (n : Nat) (y : UInt64) : (RingS.none n).has y = false := rfl
theorem none_count (n : Nat) : (RingS.none n).count = 0 := rfl

theorem nodup_len : ∀ {a d : List UInt64}, a.Nodup → (∀ y ∈ a, y ∈ d) → a.length ≤ d.length
  | [], _, _, _ => Nat.zero_le _
  | x :: a, d, hn, hs => by
    obtain ⟨hx, hn'⟩ := List.nodup_cons.1 hn
    have hm : x ∈ d := hs x List.mem_cons_self
    have h1 : a.length ≤ (d.erase x).length := nodup_len hn' (fun y hy => (List.mem_erase_of_ne (fun e : y = x => hx (e ▸ hy))).2 (hs y (List.mem_cons_of_mem _ hy)))
    have h2 : 0 < d.length := List.length_pos_of_mem hm
    rw [List.length_erase_of_mem hm] at h1
    simp only [List.length_cons]
    omega

/-- Behind all that was put: a tail of it lies in the current generation, or holds that generation; and a tail of no more IDs than the size is there. -/
def Late (n : Nat) (l : List UInt64) (s : RingS) : Prop :=
  (∀ i, (∀ y ∈ l.drop i, y ∈ s.cur) ∨ (∀ y ∈ s.cur, y ∈ l.drop i)) ∧ ∀ i (d : List UInt64), (∀ y ∈ l.drop i, y ∈ d) → d.length ≤ n → ∀ y ∈ l.drop i, s.has y = true
theorem drop_snoc (l : List UInt64) (x : UInt64) (i : Nat) : ((l ++ [x]).drop i = l.drop i ++ [x]) ∨ (l ++ [x]).drop i = [] := by
  rcases Nat.lt_or_ge l.length i with h | h
  · exact .inr (List.drop_eq_nil_of_le (by simp; omega))
  · exact .inl (by rw [List.drop_append_of_le_length h])
theorem late_put {n : Nat} {l : List UInt64} {s : RingS} {x : UInt64} (hg : s.Good) (hn : s.size = n) (h : Late n l s) : Late n (l ++ [x]) (s.put x) := by
  obtain ⟨ha, hb⟩ := h
  refine ⟨fun i => ?_, fun i d hd hlen y hy => ?_⟩
  · rcases drop_snoc l x i with e | e <;> rw [e]
    · rcases put_ways s x with ⟨hx, e⟩ | ⟨_, _, e⟩ | ⟨_, _, e⟩ <;> rw [e]
      · rcases ha i with h | h
        · exact .inl fun y hy => (List.mem_append.1 hy).elim (h y) (fun hy => by rw [List.mem_singleton.1 hy]; exact hx)
        · exact .inr fun y hy => List.mem_append.2 (.inl (h y hy))
      · exact .inr fun y hy => List.mem_append.2 (.inr hy)
      · rcases ha i with h | h
        · exact .inl fun y hy => (List.mem_append.1 hy).elim (fun hy => List.mem_append.2 (.inl (h y hy))) (fun hy => List.mem_append.2 (.inr hy))
        · exact .inr fun y hy => (List.mem_append.1 hy).elim (fun hy => List.mem_append.2 (.inl (h y hy))) (fun hy => List.mem_append.2 (.inr hy))
    · exact .inl fun y hy => absurd hy (by simp)
  · rcases drop_snoc l x i with e | e <;> rw [e] at hd hy
    · rw [has_iff]
      rcases List.mem_append.1 hy with hy | hy
      · have hold := has_iff.1 (hb i d (fun z hz => hd z (List.mem_append.2 (.inl hz))) hlen y hy)
        rcases put_ways s x with ⟨hx, e⟩ | ⟨hx, hl, e⟩ | ⟨_, _, e⟩ <;> rw [e]
        · exact hold
        · rcases ha i with h | h
          · exact .inr (h y hy)
          · have : (s.cur ++ [x]).length ≤ d.length := nodup_len (nodup_snoc' hg.2.2.2.2.1 hx) (fun z hz => hd z ((List.mem_append.1 hz).elim (fun hz => List.mem_append.2 (.inl (h z hz))) (fun hz => List.mem_append.2 (.inr hz))))
            rw [List.length_append] at this
            simp only [List.length_cons, List.length_nil] at this
            omega
        · exact hold.elim (fun h => .inl (List.mem_append.2 (.inl h))) .inr
      · rw [List.mem_singleton.1 hy]
        exact .inl (put_mem s x)
    · exact absurd hy (by simp)
theorem late_puts {n : Nat} (l : List UInt64) (h1 : 1 ≤ n) (h2 : n ≤ 50) (k : Nat) (hk : k ≤ l.length) : Late n (l.take k) ((RingS.none n).puts (l.take k)) := by
  induction k with
  | zero => exact ⟨fun i => .inl fun y hy => absurd hy (by simp), fun i d _ _ y hy => absurd hy (by simp)⟩
  | succ k ih =>
    rw [puts_take _ hk, List.take_succ_eq_append_getElem hk]
    exact late_put (puts_good (none_good h1 h2) _) (puts_size _ _) (ih (by omega))
/-- The last IDs, as many as the size, are there. -/
theorem late_has {n : Nat} (l : List UInt64) (h1 : 1 ≤ n) (h2 : n ≤ 50) (i : Nat) (d : List UInt64) (hd : ∀ y ∈ l.drop i, y ∈ d) (hlen : d.length ≤ n) : ∀ y ∈ l.drop i, ((RingS.none n).puts l).has y = true := by
  have := (late_puts l h1 h2 l.length (Nat.le_refl _)).2 i d
  rw [List.take_length] at this
  exact this hd hlen

/-- Behind twice as many new IDs as the size an ID is gone. -/
theorem rolls {s : RingS} (hg : s.Good) (x : UInt64) (hx : x ∈ s.cur) (o : List UInt64) (ho : o.Nodup) (hn : ∀ y ∈ o, s.has y = false) (hl : o.length = 2 * s.size) : (s.puts o).has x = false := by
  have hc : 1 ≤ s.cur.length := List.length_pos_of_mem hx
  obtain ⟨h1, h2, h3, h4, h5, h6⟩ := hg
  have key : ∀ k, k ≤ o.length → (∀ z ∈ (s.puts (o.take k)).cur, z ∈ s.cur ∨ z ∈ o.take k) ∧
      ((k + s.cur.length ≤ s.size ∧ (s.puts (o.take k)).cur.length = s.cur.length + k) ∨
       (s.size < k + s.cur.length ∧ k + s.cur.length ≤ 2 * s.size ∧ x ∉ (s.puts (o.take k)).cur ∧ (s.puts (o.take k)).cur.length + s.size = s.cur.length + k) ∨
       (2 * s.size < k + s.cur.length ∧ x ∉ (s.puts (o.take k)).cur ∧ x ∉ (s.puts (o.take k)).prev)) := by
    intro k
    induction k with
    | zero => intro _; exact ⟨fun z hz => .inl hz, .inl ⟨by omega, rfl⟩⟩
    | succ k ih =>
      intro hk
      obtain ⟨ih1, ih2⟩ := ih (by omega)
      rw [puts_take s hk, List.take_succ_eq_append_getElem hk]
      have hsz := puts_size s (o.take k)
      have hyo : o[k] ∈ o := List.getElem_mem hk
      have hys : o[k] ∉ s.cur := fun h => by have := hn _ hyo; rw [has_iff.2 (.inl h)] at this; cases this
      have hyx : x ≠ o[k] := fun e => hys (e ▸ hx)
      have hyt : o[k] ∉ o.take k := fun h => by
        have hnd : (o.take (k + 1)).Nodup := ho.sublist (List.take_sublist _ _)
        rw [List.take_succ_eq_append_getElem hk, List.nodup_append] at hnd
        exact hnd.2.2 _ h _ (List.mem_singleton.2 rfl) rfl
      have hyc : o[k] ∉ (s.puts (o.take k)).cur := fun h => (ih1 _ h).elim hys hyt
      rcases put_ways (s.puts (o.take k)) o[k] with ⟨h, _⟩ | ⟨_, hf, e⟩ | ⟨_, hf, e⟩
      · exact absurd h hyc
      · rw [e]
        refine ⟨fun z hz => .inr (List.mem_append.2 (.inr hz)), ?_⟩
        rcases ih2 with ⟨a1, a2⟩ | ⟨a1, a2, a3, a4⟩ | ⟨a1, a2, a3⟩
        · exact .inr (.inl ⟨by omega, by omega, by simpa using hyx, by simp; omega⟩)
        · exact .inr (.inr ⟨by omega, by simpa using hyx, a3⟩)
        · exact .inr (.inr ⟨by omega, by simpa using hyx, a2⟩)
      · rw [e]
        refine ⟨fun z hz => (List.mem_append.1 hz).elim (fun hz => (ih1 z hz).elim .inl (fun hz => .inr (List.mem_append.2 (.inl hz)))) (fun hz => .inr (List.mem_append.2 (.inr hz))), ?_⟩
        rcases ih2 with ⟨a1, a2⟩ | ⟨a1, a2, a3, a4⟩ | ⟨a1, a2, a3⟩
        · exact .inl ⟨by omega, by simp; omega⟩
        · exact .inr (.inl ⟨by omega, by omega, by simp [a3, hyx], by simp; omega⟩)
        · exact .inr (.inr ⟨by omega, by simp [a2, hyx], a3⟩)
  obtain ⟨_, k2⟩ := key o.length (Nat.le_refl _)
  rw [List.take_length] at k2
  rw [← Bool.not_eq_true, has_iff, not_or]
  rcases k2 with ⟨a1, _⟩ | ⟨_, a2, _⟩ | ⟨_, a2, a3⟩
  · omega
  · omega
  · exact ⟨a2, a3⟩
end Go.Proofs.YtaaaplbjeknbkaaGreat.Ri
namespace Go.Proofs.YtaaaplbjeknbkaaGreat.Ri
open Go.RowKit Go.Maps

theorem u64_keyed : Maps.Keyed Tryz.prog 22 := int_keyed Tryz.underlying22
theorem u64_key (x : UInt64) : keyOf Tryz.prog 22 (.int .u64 x.toNat) = some (.int .u64 x.toNat) := keyOf_int_mk Tryz.underlying22 (wf_u64_of x)
theorem lit_ne {x y : UInt64} (h : x ≠ y) : Lit.int .u64 x.toNat ≠ Lit.int .u64 y.toNat := fun e => h (by simp only [Lit.int.injEq, true_and] at e; exact u64_inj e)

/-- Block b is a map whose keys are just these, each with true. -/
def MapAt (w : World) (b : Nat) (ks : List UInt64) : Prop :=
  ∃ D : DataW Unit, w.ownsMap Tryz.prog 22 (plainElem Tryz.prog 4) b ks.length D ∧ Maps.size D = ks.length ∧ (∀ x : UInt64, Maps.has D (.int .u64 x.toNat) = ks.contains x) ∧
    ∀ x : UInt64, D.atKey (.int .u64 x.toNat) (.lit (.bool false)) = .lit (.bool (ks.contains x))
/-- A generation: a map, or none. -/
def GenAt (w : World) (p : Option Nat) (ks : List UInt64) : Prop := (p = none ∧ ks = []) ∨ ∃ b, p = some b ∧ MapAt w b ks

theorem map_lt {w : World} {b : Nat} {ks : List UInt64} (h : MapAt w b ks) : b < w.heap.size := by
  obtain ⟨D, hD, _⟩ := h
  exact hD.lt
theorem map_same {w w' : World} {b : Nat} {ks : List UInt64} (h : MapAt w b ks) (e : w'.heap[b]? = w.heap[b]?) : MapAt w' b ks := by
  obtain ⟨D, ⟨es, clock, hb, r⟩, r2⟩ := h
  exact ⟨D, ⟨es, clock, e.trans hb, r⟩, r2⟩
theorem gen_same {w w' : World} {p : Option Nat} {ks : List UInt64} (h : GenAt w p ks) (e : ∀ b, p = some b → w'.heap[b]? = w.heap[b]?) : GenAt w' p ks := by
  rcases h with h | ⟨b, hp, h⟩
  · exact .inl h
  · exact .inr ⟨b, hp, map_same h (e b hp)⟩
theorem gen_lt {w : World} {p : Option Nat} {ks : List UInt64} (h : GenAt w p ks) : ∀ b, p = some b → b < w.heap.size := fun b hp => by
  rcases h with ⟨h, _⟩ | ⟨b', hp', h⟩
  · rw [h] at hp; cases hp
  · rw [hp'] at hp; cases hp; exact map_lt h
theorem map_new (w : World) : MapAt (w.alloc (.map #[] 0)) w.heap.size [] := ⟨.map [], World.ownsMap_made w _ _ _, rfl, fun _ => rfl, fun _ => rfl⟩
theorem map_look {w : World} {b : Nat} {ks : List UInt64} (h : MapAt w b ks) (x : UInt64) : (Instr.lookup 175 (.map (some b)) (.int .u64 x.toNat) false).run Tryz.prog w = .ok (.bool (ks.contains x)) w := by
  obtain ⟨D, hD, _, _, hat⟩ := h
  obtain ⟨u, ps, hrun, hu⟩ := hD.lookup u64_keyed Tryz.underlying175 (zero_bool w) (plainElem_bool Tryz.underlying4 false) (u64_key x)
  rw [hat x] at hu
  rw [hrun]
  unfold plainElem at hu
  rw [Tryz.underlying4] at hu
  cases u <;> simp at hu
  rw [hu.1]
  simp
theorem gen_look {w : World} {p : Option Nat} {ks : List UInt64} (h : GenAt w p ks) (x : UInt64) : (Instr.lookup 175 (.map p) (.int .u64 x.toNat) false).run Tryz.prog w = .ok (.bool (ks.contains x)) w := by
  rcases h with ⟨rfl, rfl⟩ | ⟨b, rfl, h⟩
  · exact Maps.look_nil false u64_keyed Tryz.underlying175 (zero_bool w) (u64_key x)
  · exact map_look h x
theorem map_len {w : World} {b : Nat} {ks : List UInt64} (h : MapAt w b ks) (ty : TypeId) : (Builtin.len_ #[175] ty #[.map (some b)]).run Tryz.prog w = .ok (.int .i64 ks.length) w := by
  obtain ⟨D, hD, hs, _⟩ := h
  have := hD.len Tryz.underlying175 ty
  rw [hs] at this
  exact this
theorem map_put {w : World} {b : Nat} {ks : List UInt64} (h : MapAt w b ks) (x : UInt64) (hx : ks.contains x = false) (hn : ks.length < maxLen) :
    ∃ w', (Instr.mapUpdate 175 (.map (some b)) (.int .u64 x.toNat) (.bool true)).run Tryz.prog w = .ok () w' ∧ MapAt w' b (ks ++ [x]) ∧ w.grownBy w' (some b) := by
  obtain ⟨D, hD, hs, hat, hv⟩ := h
  obtain ⟨w', hrun, hown, hg⟩ := hD.update u64_keyed Tryz.underlying175 hn (u64_key x) (plainElem_bool Tryz.underlying4 true)
  have hsz := size_put (hD.tidy u64_keyed) (k := .int .u64 x.toNat) (.lit (.bool true))
  rw [hat, hs, if_neg (by rw [hx]; decide)] at hsz
  have hl : (ks ++ [x]).length = ks.length + 1 := by simp
  have hc : ∀ y, (ks ++ [x]).contains y = (ks.contains y || y == x) := fun y => by
    rw [Bool.eq_iff_iff]
    simp
  refine ⟨w', hrun, ⟨_, by rw [hl]; exact hown, by rw [hl]; exact hsz, fun y => ?_, fun y => ?_⟩, hg⟩
  · rw [hc]
    by_cases hyx : y = x
    · rw [hyx, has_put_same hD.isMap (u64_keyed.key (u64_key _))]
      simp
    · rw [has_put_other (lit_ne hyx), hat y]
      simp [hyx]
  · rw [hc]
    by_cases hyx : y = x
    · rw [hyx, atKey_put_same hD.isMap (u64_keyed.key (u64_key _))]
      simp
    · rw [atKey_put_other (lit_ne hyx), hv y]
      simp [hyx]
theorem map_clear {w : World} {b : Nat} {ks : List UInt64} (h : MapAt w b ks) :
    ∃ w', (∀ ty, (Builtin.clear_ #[175] ty #[.map (some b)]).run Tryz.prog w = .ok (.tuple #[]) w') ∧ MapAt w' b [] ∧ w.grownBy w' (some b) := by
  obtain ⟨D, ⟨es, clock, hb, F, _⟩, _⟩ := h
  refine ⟨ChangeMaps.setBlock w b (.map #[] clock), fun ty => ?_, ⟨.map [], ⟨#[], clock, ChangeMaps.heap_setBlock_same hb _, ⟨by simp, MapKept.stamped_empty clock, by simp⟩, Nat.le_refl _, rfl⟩, rfl, fun _ => rfl, fun _ => rfl⟩,
    ⟨rfl, rfl, rfl, by simp [ChangeMaps.setBlock], fun i _ hi => ChangeMaps.heap_setBlock_other hb _ (fun e => hi (by rw [e]))⟩⟩
  simp [Builtin.clear_, run_underlying Tryz.underlying175, MapKept.run_getObj_map hb, MapKept.run_setObj_map _ hb, Result.andThen, ChangeMaps.setBlock]
theorem gen_clear {w : World} {p : Option Nat} {ks : List UInt64} (h : GenAt w p ks) :
    ∃ w', (∀ ty, (Builtin.clear_ #[175] ty #[.map p]).run Tryz.prog w = .ok (.tuple #[]) w') ∧ GenAt w' p [] ∧ w.grownBy w' p := by
  rcases h with ⟨rfl, rfl⟩ | ⟨b, rfl, h⟩
  · exact ⟨w, fun ty => by simp [Builtin.clear_, run_underlying Tryz.underlying175, Result.andThen], .inl ⟨rfl, rfl⟩, ⟨rfl, rfl, rfl, Nat.le_refl _, fun _ _ _ => rfl⟩⟩
  · obtain ⟨w', h1, h2, h3⟩ := map_clear h
    exact ⟨w', h1, .inr ⟨b, rfl, h2⟩, h3⟩
/-- A copy. -/
theorem map_clone {w : World} {b : Nat} {ks : List UInt64} (h : MapAt w b ks) : ∃ es clock, w.heap[b]? = some (.map es clock) ∧ MapAt (w.alloc (.map es clock)) w.heap.size ks := by
  obtain ⟨D, ⟨es, clock, hb, r⟩, r2⟩ := h
  exact ⟨es, clock, hb, D, ⟨es, clock, (MapKept.heap_alloc w _).1, r⟩, r2⟩

/-- How many of a list are at hand: those that are no longer to come and that the other generation lacks. -/
def come (ks cs : List UInt64) (left : Lit → Bool) : Nat := (ks.filter fun x => !left (.int .u64 x.toNat) && !cs.contains x).length
theorem come_start {ks cs : List UInt64} {left : Lit → Bool} (h : ∀ x : UInt64, left (.int .u64 x.toNat) = ks.contains x) : come ks cs left = 0 := by
  unfold come
  rw [List.filter_eq_nil_iff.2, List.length_nil]
  intro x hx
  rw [h x, List.contains_iff_mem.2 hx]
  simp
theorem come_end {ks cs : List UInt64} {left : Lit → Bool} (h : ∀ kl, left kl = false) : come ks cs left = (ks.filter fun x => !cs.contains x).length := by
  unfold come
  congr 1
  exact List.filter_congr fun x _ => by rw [h]; rfl
theorem come_le (ks cs : List UInt64) (left : Lit → Bool) : come ks cs left ≤ ks.length := List.length_filter_le _ _
theorem same_lit (x y : UInt64) : (Lit.int .u64 x.toNat).sameKey (.int .u64 y.toNat) = (x == y) := by
  rw [Bool.eq_iff_iff]
  constructor
  · intro h
    have := WideAt.sameKey_eq h
    simp only [Lit.int.injEq, true_and] at this
    exact beq_iff_eq.2 (u64_inj this)
  · intro h
    rw [beq_iff_eq.1 h]
    exact WideAt.sameKey_self (u64_keyed.key (u64_key y))
theorem come_step : ∀ {ks cs : List UInt64} {left : Lit → Bool} {y : UInt64}, ks.Nodup → y ∈ ks → left (.int .u64 y.toNat) = true →
    come ks cs (fun z => left z && !z.sameKey (.int .u64 y.toNat)) = come ks cs left + (if cs.contains y = true then 0 else 1)
  | [], _, _, _, _, hy, _ => absurd hy (by simp)
  | a :: ks, cs, left, y, hn, hy, hl => by
    obtain ⟨ha, hn'⟩ := List.nodup_cons.1 hn
    have hcons : ∀ f : Lit → Bool, come (a :: ks) cs f = (if (!f (.int .u64 a.toNat) && !cs.contains a) = true then 1 else 0) + come ks cs f := fun f => by
      unfold come
      rw [List.filter_cons]
      split <;> simp [Nat.add_comm]
    rw [hcons, hcons]
    by_cases hay : a = y
    · subst hay
      have hrest : come ks cs (fun z => left z && !z.sameKey (.int .u64 a.toNat)) = come ks cs left := by
        unfold come
        congr 1
        refine List.filter_congr fun x hx => ?_
        have : (x == a) = false := beq_eq_false_iff_ne.2 fun e => ha (e ▸ hx)
        simp only [same_lit, this]
        simp
      simp only [hrest, same_lit, hl]
      cases cs.contains a <;> simp <;> omega
    · have hm : y ∈ ks := (List.mem_cons.1 hy).resolve_left (fun e => hay e.symm)
      have : (a == y) = false := beq_eq_false_iff_ne.2 hay
      rw [come_step hn' hm hl]
      simp only [same_lit, this, Bool.not_false, Bool.and_true]
      omega
end Go.Proofs.YtaaaplbjeknbkaaGreat.Ri
namespace Go.Proofs.YtaaaplbjeknbkaaGreat.Ri
open Go.RowKit Go.Maps

/-- Block R is a filter: its size and its two maps; F: the blocks that it owns. -/
def RingAt (w : World) (F : Nat → Prop) (R : Nat) (s : RingS) : Prop :=
  ∃ c p, (w.cell? ⟨R, 0, none⟩ = some (.int .i64 s.size) ∧ w.cell? ⟨R, 1, none⟩ = some (.map (some c)) ∧ w.cell? ⟨R, 2, none⟩ = some (.map p) ∧ w.frozen? ⟨R, 2, none⟩ = false) ∧ MapAt w c s.cur ∧ GenAt w p s.prev ∧
    (c ≠ R ∧ ∀ b, p = some b → b ≠ R ∧ b ≠ c) ∧ (F R ∧ F c ∧ ∀ b, p = some b → F b) ∧ There w F
theorem ringAt_same {w w' : World} {F : Nat → Prop} {R : Nat} {s : RingS} (h : RingAt w F R s) (e : ∀ k, k < w.heap.size → F k → w'.heap[k]? = w.heap[k]?) (hs : w.heap.size ≤ w'.heap.size) : RingAt w' F R s := by
  obtain ⟨c, p, ⟨c0, c1, c2, f2⟩, hc, hp, hn, ⟨hFR, hFc, hFp⟩, ht⟩ := h
  have hR := e R (ht R hFR) hFR
  refine ⟨c, p, ⟨?_, ?_, ?_, ?_⟩, map_same hc (e c (ht c hFc) hFc), gen_same hp (fun b hb => e b (ht b (hFp b hb)) (hFp b hb)), hn, ⟨hFR, hFc, hFp⟩, ht.later hs⟩
  · exact (World.cell?_of_block (w := w) (a := ⟨R, 0, none⟩) hR).trans c0
  · exact (World.cell?_of_block (w := w) (a := ⟨R, 1, none⟩) hR).trans c1
  · exact (World.cell?_of_block (w := w) (a := ⟨R, 2, none⟩) hR).trans c2
  · exact (World.frozen?_of_block (w := w) (a := ⟨R, 2, none⟩) hR).trans f2
theorem ringAt_kept {w w' : World} {F : Nat → Prop} {R : Nat} {s : RingS} (h : RingAt w F R s) (hb : Below w.heap.size w w') : RingAt w' F R s := ringAt_same h (fun k hk _ => hb.block k hk) hb.size
theorem ringAt_turn {w w' : World} {F G G' : Nat → Prop} {R : Nat} {s : RingS} (h : RingAt w F R s) (ht : Turn G G' w w') (ha : Apart F G) : RingAt w' F R s := ringAt_same h (fun k hk hf => ht.block k hk (ha k hf)) ht.size
theorem ringAt_there {w : World} {F : Nat → Prop} {R : Nat} {s : RingS} (h : RingAt w F R s) : There w F := by
  obtain ⟨_, _, _, _, _, _, _, h⟩ := h
  exact h
theorem ringAt_block {w : World} {F : Nat → Prop} {R : Nat} {s : RingS} (h : RingAt w F R s) : F R := by
  obtain ⟨_, _, _, _, _, _, h, _⟩ := h
  exact h.1

theorem ring_made (w : World) (n : Nat) : RingAt ((w.alloc (.map #[] 0)).alloc (.cells #[.int .i64 n, .map (some w.heap.size), .map none] 177)) (fun k => k = w.heap.size ∨ k = w.heap.size + 1) (w.heap.size + 1) (RingS.none n) := by
  refine ⟨w.heap.size, none, ⟨by simp [go_sem, RingS.none], by simp [go_sem], by simp [go_sem], by simp [go_sem]⟩, map_same (map_new w) (Below.heap_alloc _ _ _ (by simp)), .inl ⟨rfl, rfl⟩, ⟨by omega, fun b hb => by cases hb⟩, ⟨.inr rfl, .inl rfl, fun b hb => by cases hb⟩, fun k hk => ?_⟩
  simp
  omega
theorem ring_new (n : Nat) (w : World) (h1 : 1 ≤ n) (h2 : n ≤ 50) :
    Calls Tryz.prog 85 #[.int .i64 n] w fun e w' => e = .returned (.tuple #[.pointer (some ⟨w.heap.size + 1, 0, none⟩), .int .i64 0]) ∧
      RingAt w' (fun k => k = w.heap.size ∨ k = w.heap.size + 1) (w.heap.size + 1) (RingS.none n) ∧ Below w.heap.size w w' := by
  have hmm := @run_makeMap Tryz.prog
  have HM := Lib.hid (ring_made w n)
  have ha : ¬ (n : Int) < 1 := by omega
  have hb : ¬ (n : Int) > 50 := by omega
  go_enter Tryz.func85, Tryz.ntmps85
  go_wp2
  go_ret2
  exact ⟨rfl, HM.out, kept_alloc (kept_new _ _) _⟩
theorem ring_new_bad (n : Int) (w : World) (h : n < 1 ∨ 50 < n) :
    Calls Tryz.prog 85 #[.int .i64 n] w fun e w' => e = .returned (.tuple #[.pointer none, .int .i64 1]) ∧ w = w' := by
  by_cases h1 : n < 1
  · clear h
    go_enter Tryz.func85, Tryz.ntmps85
    go_wp2
    go_ret2
    exact ⟨rfl, rfl⟩
  · have h2 : n > 50 := by omega
    clear h
    go_enter Tryz.func85, Tryz.ntmps85
    go_wp2
    go_ret2
    exact ⟨rfl, rfl⟩
theorem ring_has (F : Nat → Prop) (R : Nat) (s : RingS) (x : UInt64) (r : Bool) (hr : s.has x = r) (w : World) (h : RingAt w F R s) :
    Calls Tryz.prog 120 #[.pointer (some ⟨R, 0, none⟩), .int .u64 x.toNat] w fun e w' => e = .returned (.bool r) ∧ w = w' := by
  obtain ⟨c, p, ⟨c0, c1, c2, f2⟩, hc, hp, hn, hF, ht⟩ := h
  have l1 := map_look hc x
  have l2 := gen_look hp x
  generalize e1 : s.cur.contains x = b1 at l1
  generalize e2 : s.prev.contains x = b2 at l2
  have HR : Hid ((b1 || b2) = r) := Lib.hid (by rw [← e1, ← e2]; exact hr)
  clear hc hp hn hF ht hr e1 e2
  cases b1
  · go_enter Tryz.func120, Tryz.ntmps120
    go_wp2
    go_ret
    exact ⟨ret_bool HR.out, rfl⟩
  · go_enter Tryz.func120, Tryz.ntmps120
    go_wp2
    go_ret
    exact ⟨ret_bool HR.out, rfl⟩
end Go.Proofs.YtaaaplbjeknbkaaGreat.Ri
namespace Go.Proofs.YtaaaplbjeknbkaaGreat.Ri
open Go.RowKit Go.Maps

theorem eql_nil (w : World) (b : Nat) : (binOp .eql 175 (.map (some b)) (.map none)).run Tryz.prog w = .ok (.bool false) w := run_eql_map_nil_sl (P := Tryz.prog) w 175 _ _ (some b) Tryz.underlying175
theorem clone_any (b : Nat) (es : Array MapEntry) (clock : Nat) (w : World) (hb : w.heap[b]? = some (.map es clock)) :
    Calls Tryz.prog 171 #[.map (some b)] w fun e w' => e = .returned (.map (some w.heap.size)) ∧ w' = w.alloc (.map es clock) := by
  have hq := eql_nil
  go_enter Tryz.func171, Tryz.ntmps171
  go_wp2
  rw [run_callFunc_extern Tryz.func178 (by kernel_rfl) (by kernel_rfl) (by kernel_rfl) (e := Extern.MapsClone.clone) (by kernel_rfl), run_maps_clone_sl w 175 hb]
  simp only [Result.andThen]
  rw [Oper.upon_value]
  go_wp2
  rw [run_typeAssert_map_sl _ 175 20 _ _ _ Tryz.underlying175]
  simp only [Result.andThen]
  rw [Oper.upon_value]
  go_wp2
  go_ret
  exact ⟨rfl, rfl⟩

theorem ring_turn (F : Nat → Prop) (R : Nat) (s : RingS) (w : World) (h : RingAt w F R s) :
    Calls Tryz.prog 164 #[.pointer (some ⟨R, 0, none⟩)] w fun e w' => e = .returned (.tuple #[]) ∧ ∃ F', RingAt w' F' R ⟨s.size, [], s.cur⟩ ∧ Turn F F' w w' := by
  obtain ⟨c, p, ⟨c0, c1, c2, f2⟩, hc, hp, ⟨hcR, hpn⟩, ⟨hFR, hFc, hFp⟩, ht⟩ := h
  obtain ⟨es, clock, hb, hcl⟩ := map_clone hc
  have hlt : R < w.heap.size := ht R hFR
  have hclt : c < w.heap.size := ht c hFc
  -- behind the copy and the store
  have hcs : MapAt ((w.alloc (.map es clock)).setCell ⟨R, 2, none⟩ (.map (some w.heap.size))) c s.cur := map_same hc ((Below.heap_setCell _ _ _ _ hcR).trans (Below.heap_alloc _ _ _ hclt))
  have hps : MapAt ((w.alloc (.map es clock)).setCell ⟨R, 2, none⟩ (.map (some w.heap.size))) w.heap.size s.cur := map_same hcl (Below.heap_setCell _ _ _ _ (by show w.heap.size ≠ R; omega))
  have d0 : ((w.alloc (.map es clock)).setCell ⟨R, 2, none⟩ (.map (some w.heap.size))).cell? ⟨R, 0, none⟩ = some (.int .i64 s.size) := by simp [go_sem, c0, hlt]
  have d1 : ((w.alloc (.map es clock)).setCell ⟨R, 2, none⟩ (.map (some w.heap.size))).cell? ⟨R, 1, none⟩ = some (.map (some c)) := by simp [go_sem, c1, hlt]
  have d2 : ((w.alloc (.map es clock)).setCell ⟨R, 2, none⟩ (.map (some w.heap.size))).cell? ⟨R, 2, none⟩ = some (.map (some w.heap.size)) := by simp [go_sem, c2, hlt]
  have g2 : ((w.alloc (.map es clock)).setCell ⟨R, 2, none⟩ (.map (some w.heap.size))).frozen? ⟨R, 2, none⟩ = false := by simp [go_sem, f2, hlt]
  rw [World.setCell_alloc_past _ _ _ _ hlt] at hcs hps d0 d1 d2 g2
  obtain ⟨w3, hrun, h3, hg3⟩ := map_clear hcs
  have hsz : ((w.setCell ⟨R, 2, none⟩ (.map (some w.heap.size))).alloc (.map es clock)).heap.size = w.heap.size + 1 := by simp
  have hR3 : w3.heap[R]? = ((w.setCell ⟨R, 2, none⟩ (.map (some w.heap.size))).alloc (.map es clock)).heap[R]? := hg3.block R (by omega) (fun e => hcR (Option.some.inj e).symm)
  have c1' : w3.cell? ⟨R, 1, none⟩ = some (.map (some c)) := (World.cell?_of_block (a := ⟨R, 1, none⟩) hR3).trans d1
  have HE : Hid (∃ F', RingAt w3 F' R ⟨s.size, [], s.cur⟩ ∧ Turn F F' w w3) := Lib.hid (by
    refine ⟨fun k => F k ∨ k = w.heap.size, ⟨c, some w.heap.size, ⟨?_, c1', ?_, ?_⟩, h3, .inr ⟨_, rfl, map_same hps (hg3.block _ (by omega) (fun e => by have := Option.some.inj e; omega))⟩, ⟨hcR, fun b hb => ?_⟩, ⟨.inl hFR, .inl hFc, fun b hb => ?_⟩, fun k hk => ?_⟩, ?_⟩
    · exact (World.cell?_of_block (a := ⟨R, 0, none⟩) hR3).trans d0
    · exact (World.cell?_of_block (a := ⟨R, 2, none⟩) hR3).trans d2
    · exact (World.frozen?_of_block (a := ⟨R, 2, none⟩) hR3).trans g2
    · cases hb; exact ⟨by omega, by omega⟩
    · cases hb; exact .inr rfl
    · have := hg3.size
      rcases hk with hk | hk
      · have := ht k hk; omega
      · omega
    · have t1 : Turn F F w (w.setCell ⟨R, 2, none⟩ (.map (some w.heap.size))) := Turn.set _ _ _ hFR
      have t2 : Turn F F (w.setCell ⟨R, 2, none⟩ (.map (some w.heap.size))) ((w.setCell ⟨R, 2, none⟩ (.map (some w.heap.size))).alloc (.map es clock)) := Turn.of_below (kept_new _ _)
      have t3 : Turn F F ((w.setCell ⟨R, 2, none⟩ (.map (some w.heap.size))).alloc (.map es clock)) w3 := Turn.of_grown hg3 (fun k hk => by cases hk; exact hFc)
      exact ((t1.trans t2).trans t3).more (fun k hk => hk.imp id (fun e => by omega)))
  have hq := eql_nil
  clear hc hp hcl hcs hps d0 d2 g2 h3 hg3 hsz hR3 hpn hFp
  go_enter Tryz.func164, Tryz.ntmps164
  go_wp2_with (first | (go_at_call 171; refine (clone_any c es clock _ hb).mono ?_; rintro e w1 ⟨rfl, rfl⟩) | go_in)
  go_end0
  exact ⟨rfl, HE.out⟩

/-- What a store into the current map makes of a filter. -/
theorem ring_stored {w w' : World} {F : Nat → Prop} {R c : Nat} {p : Option Nat} {s : RingS} {x : UInt64} (hcell : w.cell? ⟨R, 0, none⟩ = some (.int .i64 s.size) ∧ w.cell? ⟨R, 1, none⟩ = some (.map (some c)) ∧ w.cell? ⟨R, 2, none⟩ = some (.map p) ∧ w.frozen? ⟨R, 2, none⟩ = false)
    (hp : GenAt w p s.prev) (hn : c ≠ R ∧ ∀ b, p = some b → b ≠ R ∧ b ≠ c) (hF : F R ∧ F c ∧ ∀ b, p = some b → F b) (ht : There w F) (hm : MapAt w' c (s.cur ++ [x])) (hg : w.grownBy w' (some c)) :
    RingAt w' F R ⟨s.size, s.cur ++ [x], s.prev⟩ ∧ Turn F F w w' := by
  obtain ⟨c0, c1, c2, f2⟩ := hcell
  have hR := hg.block R (ht R hF.1) (fun e => hn.1 (Option.some.inj e).symm)
  refine ⟨⟨c, p, ⟨?_, ?_, ?_, ?_⟩, hm, gen_same hp (fun b hb => hg.block b (ht b (hF.2.2 b hb)) (fun e => (hn.2 b hb).2 (Option.some.inj e))), hn, hF, ht.later hg.size⟩, Turn.of_grown hg (fun k hk => by cases hk; exact hF.2.1)⟩
  · exact (World.cell?_of_block (a := ⟨R, 0, none⟩) hR).trans c0
  · exact (World.cell?_of_block (a := ⟨R, 1, none⟩) hR).trans c1
  · exact (World.cell?_of_block (a := ⟨R, 2, none⟩) hR).trans c2
  · exact (World.frozen?_of_block (a := ⟨R, 2, none⟩) hR).trans f2

theorem ring_put (F : Nat → Prop) (R : Nat) (s : RingS) (x : UInt64) (w : World) (h : RingAt w F R s) (hg : s.Good) :
    Calls Tryz.prog 151 #[.pointer (some ⟨R, 0, none⟩), .int .u64 x.toNat] w fun e w' => e = .returned (.tuple #[]) ∧ ∃ F', RingAt w' F' R (s.put x) ∧ Turn F F' w w' := by
  have hlen := hg.2.2.1
  have hlen2 := hg.2.1
  cases hx : s.cur.contains x with
  | true =>
    have HE : Hid (∃ F', RingAt w F' R (s.put x) ∧ Turn F F' w w) := Lib.hid ⟨F, by rw [put_there hx]; exact h, Turn.refl F w⟩
    obtain ⟨c, p, ⟨c0, c1, c2, f2⟩, hc, hp, hn, hF, ht⟩ := h
    have l1 := map_look hc x
    rw [hx] at l1
    clear hc hp hn hF ht hg hx hlen hlen2
    go_enter Tryz.func151, Tryz.ntmps151
    go_wp2
    refine bodyPost_ret (results_none rfl _ _ _) rfl ?_
    exact ⟨rfl, HE.out⟩
  | false =>
    have H := Lib.hid h
    obtain ⟨c, p, ⟨c0, c1, c2, f2⟩, hc, hp, hn, hF, ht⟩ := h
    have l1 := map_look hc x
    have l2 := fun n ty => map_len (map_same hc (w' := w.drewN n) rfl) ty
    rw [hx] at l1
    have HC := Lib.hid hc
    have HP := Lib.hid hp
    have HN := Lib.hid hn
    have HF := Lib.hid hF
    have HT := Lib.hid ht
    have HX := Lib.hid hx
    have HG := Lib.hid hg
    clear hc hp hn hF ht hx hg
    by_cases hfull : s.size ≤ s.cur.length
    · go_enter Tryz.func151, Tryz.ntmps151
      go_wp2_with fail
      go_quiet (fail)
      generalize hw2 : World.drewN w nq = w2
      have hb2 : Below w.heap.size w w2 := hw2 ▸ below_drewN (Below.refl _ _) _
      have H2 := ringAt_kept H.out hb2
      clear hw2
      go_wp2_with fail
      with_reducible refine (ring_turn F R s _ H2).mono ?_
      rintro e w3 ⟨rfl, F', h3, t3⟩
      obtain ⟨c', p', ⟨k0, k1, k2, g2⟩, hc', hp', hn', hF', ht'⟩ := h3
      obtain ⟨w4, hput, hm4, hg4⟩ := map_put hc' x (by simp) (by unfold maxLen; simp)
      have HE : Hid (∃ F'', RingAt w4 F'' R (s.put x) ∧ Turn F F'' w w4) := Lib.hid (by
        obtain ⟨r1, r2⟩ := ring_stored (s := ⟨s.size, [], s.cur⟩) ⟨k0, k1, k2, g2⟩ hp' hn' hF' ht' hm4 hg4
        exact ⟨F', by rw [put_full HX.out hfull]; exact r1, ((Turn.of_below hb2).trans t3).trans r2⟩)
      clear hc' hp' hn' hF' ht' hm4 hg4 k2 g2 H2 t3
      go_wp2_with fail
      go_end0
      exact ⟨rfl, HE.out⟩
    · go_enter Tryz.func151, Tryz.ntmps151
      go_wp2_with fail
      go_quiet (fail)
      generalize hw2 : World.drewN w nq = w2
      have hb2 : Below w.heap.size w w2 := hw2 ▸ below_drewN (Below.refl _ _) _
      have H2 := ringAt_kept H.out hb2
      clear hw2
      obtain ⟨c', p', ⟨k0, k1, k2, g2⟩, hc', hp', hn', hF', ht'⟩ := H2
      obtain ⟨w4, hput, hm4, hg4⟩ := map_put hc' x HX.out (by unfold maxLen; omega)
      have HE : Hid (∃ F'', RingAt w4 F'' R (s.put x) ∧ Turn F F'' w w4) := Lib.hid (by
        obtain ⟨r1, r2⟩ := ring_stored ⟨k0, k1, k2, g2⟩ hp' hn' hF' ht' hm4 hg4
        exact ⟨F, by rw [put_room HX.out (by omega)]; exact r1, (Turn.of_below hb2).trans r2⟩)
      clear hc' hp' hn' hF' ht' hm4 hg4 k2 g2
      go_wp2_with fail
      go_end0
      exact ⟨rfl, HE.out⟩

end Go.Proofs.YtaaaplbjeknbkaaGreat.Ri
