/-
  A tracker as one list of entries, and what its calls make of it. Lists alone.
-/
import Derived.Test.YtamiddnkgjfdhaaTrackW9
import Derived.Test.YtamiddnkgjfdhaaBest2
namespace Go.Proofs.Ytamiddnkgjfdhaa

def entsOf (L : List TEnt) (x : UInt64) : List TEnt := L.filter fun e => e.id == x
def idsOf (L : List TEnt) (p : Nat) : List UInt64 := (L.filter fun e => e.peer == p).map fun e => e.id
/-- The tracker that holds these entries. -/
def ofL (salt : UInt64) (L : List TEnt) : TS := ⟨salt, fun x => if entsOf L x = [] then none else some (entsOf L x), idsOf L⟩
/-- Two ways to say the same tracker. -/
def TS.Eqv (s t : TS) : Prop := s.salt = t.salt ∧ (∀ x, s.E x = t.E x) ∧ ∀ p, p < 8 → s.I p = t.I p
/-- Some entry of an ID is not done. -/
def openL (L : List TEnt) (x : UInt64) : Bool := L.any fun e => e.id == x && e.st != 3
def settleL (L : List TEnt) : List TEnt := L.filter fun e => openL L e.id
structure Good (L : List TEnt) : Prop where
  peer : ∀ e ∈ L, e.peer < 8
  nodup : L.Pairwise fun a b => ¬ (a.peer = b.peer ∧ a.id = b.id)
  few : ∀ p, p < 8 → (L.filter fun e => e.peer == p).length ≤ 20
  open' : ∀ e ∈ L, openL L e.id = true
  one : ∀ a ∈ L, ∀ b ∈ L, a.id = b.id → a.st = 2 → b.st = 2 → a.peer = b.peer
  st : ∀ e ∈ L, e.st ≤ 3

theorem ofL_ents (salt : UInt64) (L : List TEnt) (x : UInt64) : (ofL salt L).ents x = entsOf L x := by
  show Option.getD (if entsOf L x = [] then none else some (entsOf L x)) [] = _
  split
  · rename_i h; rw [h]; rfl
  · rfl
theorem ents_pair {L : List TEnt} (h : L.Pairwise fun a b => ¬ (a.peer = b.peer ∧ a.id = b.id)) (x : UInt64) : ((entsOf L x).map fun e => e.peer).Nodup := by
  unfold List.Nodup
  rw [List.pairwise_map]
  refine List.Pairwise.imp_of_mem (fun {a b} ha hb hab => ?_) (h.filter _)
  have h1 : a.id = x := beq_iff_eq.1 (List.mem_filter.1 ha).2
  have h2 : b.id = x := beq_iff_eq.1 (List.mem_filter.1 hb).2
  exact fun e => hab ⟨e, h1.trans h2.symm⟩
theorem ids_nodup {L : List TEnt} (h : L.Pairwise fun a b => ¬ (a.peer = b.peer ∧ a.id = b.id)) (p : Nat) : (idsOf L p).Nodup := by
  unfold idsOf List.Nodup
  rw [List.pairwise_map]
  refine List.Pairwise.imp_of_mem (fun {a b} ha hb hab => ?_) (h.filter _)
  have h1 : a.peer = p := beq_iff_eq.1 (List.mem_filter.1 ha).2
  have h2 : b.peer = p := beq_iff_eq.1 (List.mem_filter.1 hb).2
  exact fun e => hab ⟨h1.trans h2.symm, e⟩
theorem nodup_leN : ∀ {a b : List Nat}, a.Nodup → (∀ x ∈ a, x ∈ b) → a.length ≤ b.length
  | [], _, _, _ => Nat.zero_le _
  | x :: r, b, hn, hs => by
    obtain ⟨hx, hr⟩ := List.nodup_cons.1 hn
    have hxb : x ∈ b := hs x (by simp)
    have := nodup_leN hr (b := b.erase x) (fun y hy => (List.mem_erase_of_ne (show y ≠ x from fun e => hx (e ▸ hy))).2 (hs y (by simp [hy])))
    rw [List.length_erase_of_mem hxb] at this
    have h1 : 0 < b.length := List.length_pos_of_mem hxb
    simp only [List.length_cons]
    omega
theorem ents_eight {L : List TEnt} (h : Good L) (x : UInt64) : (entsOf L x).length ≤ 8 := by
  have := nodup_leN (ents_pair h.nodup x) (b := List.range 8) (fun p hp => by
    obtain ⟨e, he, rfl⟩ := List.mem_map.1 hp
    exact List.mem_range.2 (h.peer e (List.mem_filter.1 he).1))
  simpa using this
theorem ids_length (L : List TEnt) (p : Nat) : (idsOf L p).length = (L.filter fun e => e.peer == p).length := by unfold idsOf; rw [List.length_map]
theorem ids_mem {L : List TEnt} {p : Nat} {x : UInt64} : x ∈ idsOf L p ↔ ∃ e ∈ L, e.peer = p ∧ e.id = x := by
  unfold idsOf
  simp only [List.mem_map, List.mem_filter, beq_iff_eq]
  constructor
  · rintro ⟨e, ⟨h1, h2⟩, h3⟩; exact ⟨e, h1, h2, h3⟩
  · rintro ⟨e, h1, h2, h3⟩; exact ⟨e, ⟨h1, h2⟩, h3⟩
theorem ents_mem {L : List TEnt} {x : UInt64} {e : TEnt} : e ∈ entsOf L x ↔ e ∈ L ∧ e.id = x := by unfold entsOf; rw [List.mem_filter, beq_iff_eq]
theorem all_few {L : List TEnt} (hp : ∀ e ∈ L, e.peer < 8) (hf : ∀ p, p < 8 → (L.filter fun e => e.peer == p).length ≤ 20) : L.length ≤ 160 := by
  have key : ∀ n, n ≤ 8 → (L.filter fun e => decide (e.peer < n)).length ≤ 20 * n := by
    intro n
    induction n with
    | zero =>
      intro _
      rw [List.filter_eq_nil_iff.2 (fun e _ => by simp)]
      simp
    | succ n ih =>
      intro hn
      have h1 := ih (by omega)
      have h2 := hf n (by omega)
      have h3 : ∀ M : List TEnt, (M.filter fun e => decide (e.peer < n + 1)).length = (M.filter fun e => decide (e.peer < n)).length + (M.filter fun e => e.peer == n).length := by
        intro M
        induction M with
        | nil => rfl
        | cons a r ihr =>
          simp only [List.filter_cons]
          by_cases ha : a.peer < n
          · have e1 : decide (a.peer < n + 1) = true := decide_eq_true (by omega)
            have e2 : decide (a.peer < n) = true := decide_eq_true ha
            have e3 : (a.peer == n) = false := beq_eq_false_iff_ne.2 (by omega)
            simp only [e1, e2, e3, if_true, Bool.false_eq_true, if_false, List.length_cons]
            omega
          · by_cases hb : a.peer = n
            · have e1 : decide (a.peer < n + 1) = true := decide_eq_true (by omega)
              have e2 : decide (a.peer < n) = false := decide_eq_false ha
              have e3 : (a.peer == n) = true := beq_iff_eq.2 hb
              simp only [e1, e2, e3, if_true, Bool.false_eq_true, if_false, List.length_cons]
              omega
            · have e1 : decide (a.peer < n + 1) = false := decide_eq_false (by omega)
              have e2 : decide (a.peer < n) = false := decide_eq_false ha
              have e3 : (a.peer == n) = false := beq_eq_false_iff_ne.2 hb
              simp only [e1, e2, e3, Bool.false_eq_true, if_false]
              omega
      rw [h3]
      omega
  have h8 := key 8 (Nat.le_refl _)
  rw [List.filter_eq_self.2 (fun e he => decide_eq_true (hp e he))] at h8
  omega
theorem ofL_fine (salt : UInt64) {L : List TEnt} (h : Good L) : (ofL salt L).Fine := by
  refine ⟨fun x => ?_, fun p hp => by show (idsOf L p).length ≤ 20; rw [ids_length]; exact h.few p hp⟩
  rw [ofL_ents]
  exact ⟨ents_eight h x, fun e he => h.peer e (ents_mem.1 he).1⟩
theorem ofL_linked (salt : UInt64) (L : List TEnt) : (ofL salt L).Linked := fun p _ y hy => by
  obtain ⟨e, he, hp, hi⟩ := ids_mem.1 hy
  exact ⟨e, by rw [ofL_ents]; exact ents_mem.2 ⟨he, hi⟩, hp⟩
theorem ofL_small (salt : UInt64) {L : List TEnt} (h : Good L) : (ofL salt L).Small := by
  refine ⟨L.map fun e => e.id, by have := all_few h.peer h.few; simp; omega, fun x hx => ?_⟩
  have hx : (if entsOf L x = [] then none else some (entsOf L x)).isSome = true := hx
  by_cases he : entsOf L x = []
  · rw [if_pos he] at hx; cases hx
  · obtain ⟨e, he⟩ := List.exists_mem_of_ne_nil _ he
    obtain ⟨h1, h2⟩ := ents_mem.1 he
    exact List.mem_map.2 ⟨e, h1, h2⟩
theorem ofL_full (salt : UInt64) (L : List TEnt) : (ofL salt L).Full := fun x l h => by
  have h : (if entsOf L x = [] then none else some (entsOf L x)) = some l := h
  by_cases he : entsOf L x = []
  · rw [if_pos he] at h; cases h
  · rw [if_neg he] at h; cases h; exact he
theorem good_nil : Good [] := ⟨by simp, List.Pairwise.nil, fun p _ => by simp, by simp, by simp, by simp⟩
theorem eqv_nil (salt : UInt64) : (TS.new salt).Eqv (ofL salt []) := ⟨rfl, fun _ => rfl, fun _ _ => rfl⟩

/-! ### settling -/
theorem open_ents (M : List TEnt) (x : UInt64) : openL M x = !((entsOf M x).all fun e => e.st == 3) := by
  rw [Bool.eq_iff_iff]
  unfold openL entsOf
  simp only [List.any_eq_true, Bool.and_eq_true, Bool.not_eq_true', List.all_eq_false, List.mem_filter, bne_iff_ne]
  constructor
  · rintro ⟨e, h1, h2, h3⟩; exact ⟨e, ⟨h1, h2⟩, by simpa using h3⟩
  · rintro ⟨e, ⟨h1, h2⟩, h3⟩; exact ⟨e, h1, h2, by simpa using h3⟩
theorem settle_ents (M : List TEnt) (x : UInt64) : entsOf (settleL M) x = if openL M x then entsOf M x else [] := by
  unfold entsOf settleL
  rw [List.filter_filter]
  cases ho : openL M x with
  | true =>
    rw [if_pos rfl]
    refine List.filter_congr fun e _ => ?_
    by_cases he : e.id = x
    · rw [he, ho]; simp
    · simp [he]
  | false =>
    rw [if_neg (by decide), List.filter_eq_nil_iff]
    intro e _
    by_cases he : e.id = x
    · rw [he, ho]; simp
    · simp [he]
theorem settle_ids (M : List TEnt) (p : Nat) : idsOf (settleL M) p = (idsOf M p).filter fun y => openL M y := by
  unfold idsOf settleL
  rw [List.filter_filter, List.filter_map, List.filter_filter]
  congr 1
  refine List.filter_congr fun e _ => ?_
  exact Bool.and_comm _ _
theorem settle_open {M : List TEnt} {x : UInt64} : openL (settleL M) x = openL M x := by
  rw [open_ents, open_ents, settle_ents, open_ents]
  cases h : (entsOf M x).all fun e => e.st == 3
  · simp only [Bool.not_false, if_true, h]
  · simp
/-- Taking entries out, or some of them. -/
theorem good_filter {L : List TEnt} (h : Good L) (q : TEnt → Bool) (ho : ∀ e ∈ L, q e = true → openL (L.filter q) e.id = true) : Good (L.filter q) where
  peer := fun e he => h.peer e (List.mem_filter.1 he).1
  nodup := h.nodup.filter _
  few := fun p hp => Nat.le_trans (by
    rw [List.filter_filter]
    have : ∀ M : List TEnt, (M.filter fun a => (a.peer == p) && q a).length ≤ (M.filter fun e => e.peer == p).length := fun M => by
      induction M with
      | nil => simp
      | cons a r ih =>
        simp only [List.filter_cons]
        cases h1 : a.peer == p <;> cases h2 : q a <;> simp <;> omega
    exact this L) (h.few p hp)
  open' := fun e he => ho e (List.mem_filter.1 he).1 (List.mem_filter.1 he).2
  one := fun a ha b hb => h.one a (List.mem_filter.1 ha).1 b (List.mem_filter.1 hb).1
  st := fun e he => h.st e (List.mem_filter.1 he).1
/-- What is left where all that is done is settled. -/
structure Near (L : List TEnt) : Prop where
  peer : ∀ e ∈ L, e.peer < 8
  nodup : L.Pairwise fun a b => ¬ (a.peer = b.peer ∧ a.id = b.id)
  few : ∀ p, p < 8 → (L.filter fun e => e.peer == p).length ≤ 20
  one : ∀ a ∈ L, ∀ b ∈ L, a.id = b.id → a.st = 2 → b.st = 2 → a.peer = b.peer
  st : ∀ e ∈ L, e.st ≤ 3
theorem Good.near {L : List TEnt} (h : Good L) : Near L := ⟨h.peer, h.nodup, h.few, h.one, h.st⟩
theorem near_filter {L : List TEnt} (h : Near L) (q : TEnt → Bool) : Near (L.filter q) where
  peer := fun e he => h.peer e (List.mem_filter.1 he).1
  nodup := h.nodup.filter _
  few := fun p hp => Nat.le_trans (by
    rw [List.filter_filter]
    have : ∀ M : List TEnt, (M.filter fun a => (a.peer == p) && q a).length ≤ (M.filter fun e => e.peer == p).length := fun M => by
      induction M with
      | nil => simp
      | cons a r ih =>
        simp only [List.filter_cons]
        cases h1 : a.peer == p <;> cases h2 : q a <;> simp <;> omega
    exact this L) (h.few p hp)
  one := fun a ha b hb => h.one a (List.mem_filter.1 ha).1 b (List.mem_filter.1 hb).1
  st := fun e he => h.st e (List.mem_filter.1 he).1
theorem near_settle {L : List TEnt} (h : Near L) : Good (settleL L) := by
  have hn := near_filter h (fun e => openL L e.id)
  exact ⟨hn.peer, hn.nodup, hn.few, fun e he => by
    show openL (settleL L) e.id = true
    rw [settle_open]
    exact (List.mem_filter.1 he).2, hn.one, hn.st⟩
/-- Entries are changed in their places; their peers and IDs stay. -/
theorem near_map {L : List TEnt} (h : Near L) (f : TEnt → TEnt) (hp : ∀ e, (f e).peer = e.peer) (hi : ∀ e, (f e).id = e.id) (hs : ∀ e ∈ L, (f e).st ≤ 3) (h2 : ∀ a ∈ L, ∀ b ∈ L, a.id = b.id → (f a).st = 2 → (f b).st = 2 → a.peer = b.peer) : Near (L.map f) where
  peer := fun e he => by obtain ⟨a, ha, rfl⟩ := List.mem_map.1 he; rw [hp]; exact h.peer a ha
  nodup := by
    rw [List.pairwise_map]
    refine h.nodup.imp fun {a b} hab => ?_
    rw [hp, hp, hi, hi]
    exact hab
  few := fun p hp8 => by
    rw [List.filter_map, List.length_map]
    have : (fun e => e.peer == p) ∘ f = fun e : TEnt => e.peer == p := funext fun e => by show ((f e).peer == p) = _; rw [hp]
    rw [this]
    exact h.few p hp8
  one := fun a ha b hb => by
    obtain ⟨a', ha', rfl⟩ := List.mem_map.1 ha
    obtain ⟨b', hb', rfl⟩ := List.mem_map.1 hb
    rw [hi, hi, hp, hp]
    exact h2 a' ha' b' hb'
  st := fun e he => by obtain ⟨a, ha, rfl⟩ := List.mem_map.1 he; exact hs a ha
theorem map_ents (L : List TEnt) (f : TEnt → TEnt) (hi : ∀ e, (f e).id = e.id) (x : UInt64) : entsOf (L.map f) x = (entsOf L x).map f := by
  unfold entsOf
  rw [List.filter_map]
  congr 1
  refine List.filter_congr fun e _ => ?_
  show ((f e).id == x) = _
  rw [hi]
theorem map_ids (L : List TEnt) (f : TEnt → TEnt) (hp : ∀ e, (f e).peer = e.peer) (hi : ∀ e, (f e).id = e.id) (p : Nat) : idsOf (L.map f) p = idsOf L p := by
  unfold idsOf
  rw [List.filter_map, List.map_map]
  have h1 : (fun e => e.peer == p) ∘ f = fun e : TEnt => e.peer == p := funext fun e => by show ((f e).peer == p) = _; rw [hp]
  have h2 : (fun e : TEnt => e.id) ∘ f = fun e => e.id := funext fun e => hi e
  rw [h1, h2]
end Go.Proofs.Ytamiddnkgjfdhaa
