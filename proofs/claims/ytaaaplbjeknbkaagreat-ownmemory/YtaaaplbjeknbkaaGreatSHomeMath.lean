/-
  A pool as one list of links, each with its deed: what its deeds, usages and IDs are; what is removed where there is too much. No function of a program is named here.
-/
import Derived.Test.YtaaaplbjeknbkaaGreatSHomeW9
set_option maxRecDepth 20000
namespace Go.Proofs.YtaaaplbjeknbkaaGreat.So.Ho
open Go.Proofs.YtaaaplbjeknbkaaGreat.Ho

/-- A link with its deed. -/
structure LinkD where
  peer : Nat
  id : UInt64
  d : DeedD
instance : Inhabited LinkD := ⟨⟨0, 0, nod⟩⟩
def ldOf (l : LinkD) : LD := ⟨l.peer, l.id⟩
def lsOf (L : List LinkD) : List LD := L.map ldOf
/-- The deed of an ID. -/
def deedOf (L : List LinkD) (x : UInt64) : Option DeedD := (L.find? fun l => l.id == x).map (·.d)
/-- What holds of every pool: at most n links. -/
structure GoodL (n : Nat) (L : List LinkD) : Prop where
  len : L.length ≤ n
  peer : ∀ l ∈ L, l.peer < 8
  fine : ∀ l ∈ L, checkD l.d = 0
  one : ∀ l ∈ L, ∀ m ∈ L, l.id = m.id → l.d = m.d
  nodup : (lsOf L).Nodup

variable {n : Nat} {L : List LinkD}

theorem lsOf_len (L : List LinkD) : (lsOf L).length = L.length := by simp [lsOf]
theorem deedOf_some {x : UInt64} {d : DeedD} (h : deedOf L x = some d) : ∃ l ∈ L, l.id = x ∧ l.d = d := by
  unfold deedOf at h
  obtain ⟨l, hl, rfl⟩ := Option.map_eq_some_iff.1 h
  exact ⟨l, List.mem_of_find?_eq_some hl, by have := List.find?_some hl; simpa using this, rfl⟩
theorem deedOf_none {x : UInt64} : deedOf L x = none ↔ ∀ l ∈ L, l.id ≠ x := by
  unfold deedOf
  rw [Option.map_eq_none_iff, List.find?_eq_none]
  simp
theorem deedOf_mem (h : GoodL n L) {l : LinkD} (hl : l ∈ L) : deedOf L l.id = some l.d := by
  cases hx : deedOf L l.id with
  | none => exact absurd rfl (deedOf_none.1 hx l hl)
  | some d =>
    obtain ⟨m, hm, h1, rfl⟩ := deedOf_some hx
    rw [h.one m hm l hl h1]
theorem deedOf_isSome {x : UInt64} : (deedOf L x).isSome = true ↔ ∃ l ∈ L, l.id = x := by
  cases hx : deedOf L x with
  | none =>
    have := deedOf_none.1 hx
    simp
    exact this
  | some d =>
    obtain ⟨l, hl, h1, _⟩ := deedOf_some hx
    simp
    exact ⟨l, hl, h1⟩
/-- Fewer links. -/
theorem GoodL.sub (h : GoodL n L) {L' : List LinkD} (hs : L'.Sublist L) : GoodL n L' where
  len := Nat.le_trans hs.length_le h.len
  peer := fun l hl => h.peer l (hs.subset hl)
  fine := fun l hl => h.fine l (hs.subset hl)
  one := fun l hl m hm => h.one l (hs.subset hl) m (hs.subset hm)
  nodup := h.nodup.sublist (hs.map ldOf)
theorem deedOf_sub (h : GoodL n L) {L' : List LinkD} (hs : L'.Sublist L) : linkedM (lsOf L') (deedOf L) = deedOf L' := by
  funext x
  unfold linkedM
  cases hx : deedOf L' x with
  | none =>
    have h1 := deedOf_none.1 hx
    rw [if_neg]
    rw [Bool.not_eq_true, List.any_eq_false]
    intro l hl
    obtain ⟨m, hm, rfl⟩ := List.mem_map.1 hl
    have := h1 m hm
    simpa [ldOf] using this
  | some d =>
    obtain ⟨l, hl, rfl, rfl⟩ := deedOf_some hx
    rw [if_pos, deedOf_mem h (hs.subset hl)]
    rw [List.any_eq_true]
    exact ⟨ldOf l, List.mem_map_of_mem hl, by simp [ldOf]⟩
theorem lsOf_filter (q : LD → Bool) (L : List LinkD) : (lsOf L).filter q = lsOf (L.filter fun l => q (ldOf l)) := by
  unfold lsOf
  rw [List.filter_map]
  rfl
theorem all_mem {ls : List LD} {x : UInt64} : x ∈ allI ls ↔ ∃ l ∈ ls, l.id = x := by
  have key : ∀ (ls : List LD) (acc : List UInt64), x ∈ ls.foldl (fun acc l => if acc.contains l.id then acc else acc ++ [l.id]) acc ↔ x ∈ acc ∨ ∃ l ∈ ls, l.id = x := by
    intro ls
    induction ls with
    | nil => simp
    | cons a r ih =>
      intro acc
      rw [List.foldl_cons, ih]
      by_cases hc : acc.contains a.id = true
      · rw [if_pos hc]
        constructor
        · rintro (h | ⟨l, hl, e⟩)
          · exact .inl h
          · exact .inr ⟨l, by simp [hl], e⟩
        · rintro (h | ⟨l, hl, e⟩)
          · exact .inl h
          · rcases List.mem_cons.1 hl with rfl | hl
            · exact .inl (by rw [← e]; exact List.contains_iff_mem.1 hc)
            · exact .inr ⟨l, hl, e⟩
      · rw [if_neg hc, List.mem_append, List.mem_singleton]
        constructor
        · rintro ((h | h) | ⟨l, hl, e⟩)
          · exact .inl h
          · exact .inr ⟨a, by simp, h.symm⟩
          · exact .inr ⟨l, by simp [hl], e⟩
        · rintro (h | ⟨l, hl, e⟩)
          · exact .inl (.inl h)
          · rcases List.mem_cons.1 hl with rfl | hl
            · exact .inl (.inr e.symm)
            · exact .inr ⟨l, hl, e⟩
  unfold allI
  rw [key]
  simp
theorem all_nodup (ls : List LD) : (allI ls).Nodup := by
  have key : ∀ (ls : List LD) (acc : List UInt64), acc.Nodup → (ls.foldl (fun acc l => if acc.contains l.id then acc else acc ++ [l.id]) acc).Nodup := by
    intro ls
    induction ls with
    | nil => exact fun acc h => h
    | cons a r ih =>
      intro acc h
      rw [List.foldl_cons]
      by_cases hc : acc.contains a.id = true
      · rw [if_pos hc]; exact ih acc h
      · rw [if_neg hc]
        refine ih _ (List.nodup_append.2 ⟨h, by simp, ?_⟩)
        intro x hx y hy e
        rw [List.mem_singleton.1 hy] at e
        exact hc (List.contains_iff_mem.2 (e ▸ hx))
  exact key ls [] (by simp)
/-- The IDs. -/
def allL (L : List LinkD) : List UInt64 := allI (lsOf L)
theorem allL_mem {x : UInt64} : x ∈ allL L ↔ ∃ l ∈ L, l.id = x := by
  unfold allL
  rw [all_mem]
  constructor
  · rintro ⟨l, hl, e⟩
    obtain ⟨m, hm, rfl⟩ := List.mem_map.1 hl
    exact ⟨m, hm, e⟩
  · rintro ⟨l, hl, e⟩
    exact ⟨ldOf l, List.mem_map_of_mem hl, e⟩
theorem allL_some (x : UInt64) : (deedOf L x).isSome = true ↔ x ∈ allL L := by rw [deedOf_isSome, allL_mem]
theorem allL_nodup (L : List LinkD) : (allL L).Nodup := all_nodup _
theorem allL_len (L : List LinkD) : (allL L).length ≤ L.length := by
  have := allI_len (lsOf L) (lsOf L).length
  rw [List.take_of_length_le (Nat.le_refl _), lsOf_len] at this
  exact this
/-- The usage of each peer. -/
def usageL (L : List LinkD) : Nat → Int × Int := fun p => (((L.filter fun l => l.peer == p).map fun l => l.d.weight).sum, ((L.filter fun l => l.peer == p).length : Int))
theorem usageL_eq (h : GoodL n L) : usageF (deedOf L) (lsOf L) = usageL L := by
  funext p
  unfold usageF usageL
  rw [lsOf_filter]
  simp only [Prod.mk.injEq]
  refine ⟨?_, by rw [lsOf_len]; rfl⟩
  unfold lsOf
  rw [List.map_map]
  congr 1
  refine List.map_congr_left fun l hl => ?_
  show wM (deedOf L) (ldOf l) = l.d.weight
  unfold wM ldOf
  rw [deedOf_mem h (List.mem_filter.1 hl).1]
  rfl
/-- There is too much. -/
def fullL (L : List LinkD) : Bool := fullF (deedOf L) (lsOf L) (allL L)
def worstL (L : List LinkD) : Nat := wst (fun p => burd (usageL L p)) 8
/-- The oldest link of the worst peer goes. -/
def evictL (L : List LinkD) : List LinkD := L.eraseP fun l => l.peer == worstL L
def roomN : Nat → List LinkD → List LinkD
  | 0, L => L
  | n + 1, L => if fullL L then roomN n (evictL L) else L
/-- What is left when room is made. -/
def room (L : List LinkD) : List LinkD := roomN L.length L
theorem wst_max (B : Nat → Int) : ∀ k p, p < k → B p ≤ B (wst B k)
  | 0, p, h => by omega
  | k + 1, p, h => by
    unfold wst
    by_cases hk : B k > B (wst B k)
    · rw [if_pos hk]
      by_cases e : p = k
      · rw [e]; exact Int.le_refl _
      · have := wst_max B k p (by omega)
        omega
    · rw [if_neg hk]
      by_cases e : p = k
      · rw [e]; omega
      · exact wst_max B k p (by omega)
theorem usageL_pos {p : Nat} (h : 0 < (usageL L p).2) : ∃ l ∈ L, l.peer = p := by
  unfold usageL at h
  simp only at h
  have h1 : 0 < (L.filter fun l => l.peer == p).length := by omega
  obtain ⟨l, hl⟩ := List.exists_mem_of_length_pos h1
  obtain ⟨h2, h3⟩ := List.mem_filter.1 hl
  exact ⟨l, h2, by simpa using h3⟩
theorem usageL_mem {l : LinkD} (hl : l ∈ L) : 0 < (usageL L l.peer).2 := by
  unfold usageL
  simp only
  have : 0 < (L.filter fun m => m.peer == l.peer).length := List.length_pos_of_mem (List.mem_filter.2 ⟨hl, by simp⟩)
  omega
theorem usageL_none {p : Nat} (h : ¬ ∃ l ∈ L, l.peer = p) : usageL L p = (0, 0) := by
  have : (L.filter fun l => l.peer == p) = [] := List.filter_eq_nil_iff.2 fun l hl => by
    have : l.peer ≠ p := fun e => h ⟨l, hl, e⟩
    simpa using this
  unfold usageL
  rw [this]
  rfl
theorem worst_has (h : GoodL n L) (hf : fullL L = true) : ∃ l ∈ L, l.peer = worstL L := by
  cases L with
  | nil =>
    rw [show fullL [] = false from rfl] at hf
    cases hf
  | cons a r =>
    refine Classical.byContradiction fun hn => ?_
    have h0 := usageL_none hn
    have h1 := usageL_mem (L := a :: r) (l := a) (by simp)
    have h2 : burd (usageL (a :: r) a.peer) ≤ burd (usageL (a :: r) (wst (fun p => burd (usageL (a :: r) p)) 8)) := wst_max (fun p => burd (usageL (a :: r) p)) 8 a.peer (h.peer a (by simp))
    have h3 : burd (usageL (a :: r) (worstL (a :: r))) = 0 := by rw [h0]; rfl
    unfold worstL at h3
    rw [h3] at h2
    unfold burd at h2
    omega
theorem evict_len (h : GoodL n L) (hf : fullL L = true) : (evictL L).length + 1 = L.length := by
  obtain ⟨l, hl, e⟩ := worst_has h hf
  unfold evictL
  rw [List.length_eraseP_of_mem hl (by simpa using e)]
  have := List.length_pos_of_mem hl
  omega
theorem evict_sub (L : List LinkD) : (evictL L).Sublist L := List.eraseP_sublist
theorem room_full (h : GoodL n L) (hf : fullL L = true) : room L = room (evictL L) := by
  have := evict_len h hf
  unfold room
  rw [← this]
  show (if fullL L then roomN (evictL L).length (evictL L) else L) = _
  rw [if_pos hf]
theorem room_not (hf : fullL L = false) : room L = L := by
  unfold room
  cases h : L.length with
  | zero => rfl
  | succ k =>
    show (if fullL L then _ else L) = L
    rw [hf]
    rfl
theorem room_sub (L : List LinkD) : (room L).Sublist L := by
  have key : ∀ n L, (roomN n L).Sublist L := by
    intro n
    induction n with
    | zero => exact fun L => List.Sublist.refl _
    | succ n ih =>
      intro L
      show (if fullL L then roomN n (evictL L) else L).Sublist L
      split
      · exact (ih _).trans (evict_sub L)
      · exact List.Sublist.refl _
  exact key _ L
/-- Where room is made there is not too much. -/
theorem room_fine : ∀ (k : Nat) (L : List LinkD), L.length = k → GoodL n L → fullL (room L) = false
  | 0, L, hk, h => by
    obtain rfl := List.eq_nil_of_length_eq_zero hk
    rfl
  | k + 1, L, hk, h => by
    cases hf : fullL L with
    | false => rw [room_not hf]; exact hf
    | true =>
      rw [room_full h hf]
      exact room_fine k (evictL L) (by have := evict_len h hf; omega) (h.sub (evict_sub L))
/-- Taking all equal links is taking the first. -/
theorem filter_first : ∀ (ls : List LD) (q : LD → Bool) (i : Nat) (hi : i < ls.length), ls.Nodup → ls.findIdx? q = some i → ls.filter (fun e => !decide (e = ls[i])) = ls.eraseP q
  | [], _, i, hi, _, _ => absurd hi (by simp)
  | a :: r, q, i, hi, hn, hf => by
    obtain ⟨ha, hr⟩ := List.nodup_cons.1 hn
    cases hq : q a with
    | true =>
      have : i = 0 := by
        rw [List.findIdx?_cons, hq] at hf
        simpa using hf.symm
      subst this
      rw [List.eraseP_cons_of_pos hq]
      simp only [List.getElem_cons_zero]
      rw [List.filter_cons_of_neg (by simp), List.filter_eq_self]
      intro x hx
      have : x ≠ a := fun e => ha (e ▸ hx)
      simpa using this
    | false =>
      rw [List.findIdx?_cons, hq] at hf
      simp only [Bool.false_eq_true, if_false] at hf
      obtain ⟨j, hj, rfl⟩ := Option.map_eq_some_iff.1 hf
      have hjr : j < r.length := by simpa using hi
      have hne : a ≠ r[j] := fun e => ha (e ▸ List.getElem_mem hjr)
      rw [List.eraseP_cons_of_neg (by rw [hq]; simp)]
      simp only [List.getElem_cons_succ]
      rw [List.filter_cons_of_pos (by simpa using hne), filter_first r q j hjr hr hj]
theorem lsOf_eraseP (q : LD → Bool) : ∀ (L : List LinkD), (lsOf L).eraseP q = lsOf (L.eraseP fun l => q (ldOf l))
  | [] => rfl
  | a :: r => by
    show (ldOf a :: lsOf r).eraseP q = _
    cases hq : q (ldOf a) with
    | true => rw [List.eraseP_cons_of_pos hq, List.eraseP_cons_of_pos (p := fun l => q (ldOf l)) hq]
    | false =>
      rw [List.eraseP_cons_of_neg (by rw [hq]; simp), List.eraseP_cons_of_neg (p := fun l => q (ldOf l)) (by simp [hq]), lsOf_eraseP q r]
      rfl
end Go.Proofs.YtaaaplbjeknbkaaGreat.So.Ho
