/-
  Who has little loses nothing: lists alone (the plain part of HomeLaws2, HomeLaws3, FairMath, over the node's pool).
-/
import Derived.Test.YtaaaplbjeknbkabGreatJ33
set_option maxRecDepth 20000
namespace Go.Proofs.YtaaaplbjeknbkabGreat
namespace Ho
open Go.RowKit Go.Maps

variable {L : List LinkD} {n : Nat}

theorem filter_eraseP {q r : LinkD → Bool} (h : ∀ l, q l = true → r l = false) : ∀ (L : List LinkD), (L.eraseP q).filter r = L.filter r
  | [] => rfl
  | a :: t => by
    cases hq : q a with
    | true => rw [List.eraseP_cons_of_pos hq, List.filter_cons_of_neg (by rw [h a hq]; simp)]
    | false =>
      rw [List.eraseP_cons_of_neg (by rw [hq]; simp)]
      cases hr : r a with
      | true => rw [List.filter_cons_of_pos hr, List.filter_cons_of_pos hr, filter_eraseP h t]
      | false => rw [List.filter_cons_of_neg (by rw [hr]; simp), List.filter_cons_of_neg (by rw [hr]; simp), filter_eraseP h t]
theorem peer_out {p r : Nat} (h : p ≠ r) (l : LinkD) : (l.peer == p) = true → (l.peer == r) = false := fun e => by
  have := beq_iff_eq.1 e
  rw [this]
  exact beq_eq_false_iff_ne.2 h
def linksF (u : Nat → Int × Int) (k : Nat) : Int := ((List.range k).map fun p => (u p).2).sum
theorem linksF_step (u : Nat → Int × Int) (k : Nat) : linksF u (k + 1) = linksF u k + (u k).2 := by
  unfold linksF
  rw [List.range_succ, List.map_append, List.sum_append]
  simp
theorem filter_lt_step (k : Nat) : ∀ (L : List LinkD), (L.filter fun l => decide (l.peer < k + 1)).length = (L.filter fun l => decide (l.peer < k)).length + (L.filter fun l => l.peer == k).length
  | [] => rfl
  | a :: r => by
    have ih := filter_lt_step k r
    by_cases h1 : a.peer < k
    · have h2 : a.peer < k + 1 := by omega
      have h3 : (a.peer == k) = false := beq_eq_false_iff_ne.2 (by omega)
      rw [List.filter_cons_of_pos (by simpa using h2), List.filter_cons_of_pos (by simpa using h1), List.filter_cons_of_neg (by rw [h3]; simp)]
      simp only [List.length_cons]
      omega
    · by_cases h2 : a.peer = k
      · rw [List.filter_cons_of_pos (by simp; omega), List.filter_cons_of_neg (by simpa using h1), List.filter_cons_of_pos (by simpa using h2)]
        simp only [List.length_cons]
        omega
      · rw [List.filter_cons_of_neg (by simp; omega), List.filter_cons_of_neg (by simpa using h1), List.filter_cons_of_neg (by simpa using h2)]
        exact ih
theorem linksF_eq (L : List LinkD) (k : Nat) : linksF (usageL L) k = ((L.filter fun l => decide (l.peer < k)).length : Int) := by
  induction k with
  | zero =>
    have : (L.filter fun l => decide (l.peer < 0)) = [] := List.filter_eq_nil_iff.2 fun l _ => by simp
    rw [this]
    rfl
  | succ k ih =>
    rw [linksF_step, ih, filter_lt_step]
    unfold usageL
    simp
theorem linksF_all (hg : GoodL n L) : linksF (usageL L) 8 = L.length := by
  rw [linksF_eq]
  have : (L.filter fun l => decide (l.peer < 8)) = L := List.filter_eq_self.2 fun l hl => by simpa using hg.peer l hl
  rw [this]
theorem sumW_take {M : UInt64 → Option DeedD} {ks : List UInt64} {k : Nat} (h : k < ks.length) : sumW M (ks.take (k + 1)) = sumW M (ks.take k) + wI M ks[k] := by
  unfold sumW
  rw [List.take_succ_eq_append_getElem h, List.map_append, List.sum_append]
  simp
def Modest (L : List LinkD) (p : Nat) : Prop := (usageL L p).1 ≤ 375 ∧ (usageL L p).2 ≤ 3
def weightsF (u : Nat → Int × Int) (k : Nat) : Int := ((List.range k).map fun p => (u p).1).sum
theorem weightsF_step (u : Nat → Int × Int) (k : Nat) : weightsF u (k + 1) = weightsF u k + (u k).1 := by
  unfold weightsF
  rw [List.range_succ, List.map_append, List.sum_append]
  simp
def totL (L : List LinkD) : Int := (L.map fun l => l.d.weight).sum
theorem totL_cons (a : LinkD) (r : List LinkD) : totL (a :: r) = a.d.weight + totL r := by simp [totL]
theorem tot_lt_step (k : Nat) : ∀ (L : List LinkD), totL (L.filter fun l => decide (l.peer < k + 1)) = totL (L.filter fun l => decide (l.peer < k)) + totL (L.filter fun l => l.peer == k)
  | [] => rfl
  | a :: r => by
    have ih := tot_lt_step k r
    by_cases h1 : a.peer < k
    · have h2 : a.peer < k + 1 := by omega
      have h3 : (a.peer == k) = false := beq_eq_false_iff_ne.2 (by omega)
      rw [List.filter_cons_of_pos (by simpa using h2), List.filter_cons_of_pos (by simpa using h1), List.filter_cons_of_neg (by rw [h3]; simp), totL_cons, totL_cons]
      omega
    · by_cases h2 : a.peer = k
      · rw [List.filter_cons_of_pos (by simp; omega), List.filter_cons_of_neg (by simpa using h1), List.filter_cons_of_pos (by simpa using h2), totL_cons, totL_cons]
        omega
      · rw [List.filter_cons_of_neg (by simp; omega), List.filter_cons_of_neg (by simpa using h1), List.filter_cons_of_neg (by simpa using h2)]
        exact ih
theorem weightsF_eq (L : List LinkD) (k : Nat) : weightsF (usageL L) k = totL (L.filter fun l => decide (l.peer < k)) := by
  induction k with
  | zero =>
    have : (L.filter fun l => decide (l.peer < 0)) = [] := List.filter_eq_nil_iff.2 fun l _ => by simp
    rw [this]
    rfl
  | succ k ih =>
    rw [weightsF_step, ih, tot_lt_step]
    rfl
theorem weightsF_all (hg : GoodL n L) : weightsF (usageL L) 8 = totL L := by
  rw [weightsF_eq]
  have : (L.filter fun l => decide (l.peer < 8)) = L := List.filter_eq_self.2 fun l hl => by simpa using hg.peer l hl
  rw [this]
theorem weight_pos (hg : GoodL n L) {l : LinkD} (hl : l ∈ L) : 1 ≤ l.d.weight ∧ l.d.weight ≤ 1000 := (check_ok (hg.fine l hl)).2.2.2.2.1
theorem sumW_snoc (M : UInt64 → Option DeedD) (a : List UInt64) (x : UInt64) : sumW M (a ++ [x]) = sumW M a + wI M x := by
  unfold sumW
  rw [List.map_append, List.sum_append]
  simp
theorem sum_le_tot (hg : GoodL n L) : sumW (deedOf L) (allL L) ≤ totL L := by
  have key : ∀ k, k ≤ L.length → sumW (deedOf L) (allI ((lsOf L).take k)) ≤ totL (L.take k) := by
    intro k
    induction k with
    | zero => intro _; simp [allI, sumW, totL]
    | succ k ih =>
      intro hk
      have hkl : k < L.length := by omega
      have hks : k < (lsOf L).length := by rw [lsOf_len]; exact hkl
      have h1 := ih (by omega)
      have hw := weight_pos hg (List.getElem_mem hkl)
      have ht : totL (L.take (k + 1)) = totL (L.take k) + L[k].d.weight := by
        unfold totL
        rw [List.take_succ_eq_append_getElem hkl, List.map_append, List.sum_append]
        simp
      rw [allI_step hks, ht]
      have hid : (lsOf L)[k].id = L[k].id := by simp [lsOf, ldOf]
      split
      · omega
      · rw [sumW_snoc, hid]
        have : wI (deedOf L) L[k].id = L[k].d.weight := by
          unfold wI
          rw [deedOf_mem hg (List.getElem_mem hkl)]
          rfl
        omega
  have := key L.length (Nat.le_refl _)
  rw [List.take_of_length_le (Nat.le_refl _), List.take_of_length_le (by rw [lsOf_len]; exact Nat.le_refl _)] at this
  exact this
theorem weights_peers {u : Nat → Int × Int} (h1 : ∀ p, (u p).1 ≤ 3000) (h2 : ∀ p, ¬ 0 < (u p).2 → (u p).1 = 0) : ∀ k, weightsF u k ≤ 3000 * (peersF u k : Int)
  | 0 => by simp [weightsF, peersF]
  | k + 1 => by
    have ih := weights_peers h1 h2 k
    rw [weightsF_step, peersF_step]
    have := h1 k
    split
    · rename_i h
      rw [Int.natCast_add]
      omega
    · rename_i h
      have := h2 k h
      omega
theorem links_peers {u : Nat → Int × Int} (h : ∀ p, (u p).2 ≤ 3) : ∀ k, linksF u k ≤ 3 * (k : Int)
  | 0 => by simp [linksF]
  | k + 1 => by
    have ih := links_peers h k
    have := h k
    rw [linksF_step, Int.natCast_add]
    omega
theorem modest_worst (hg : GoodL n L) (hf : fullL L = true) {p : Nat} (hm : Modest L p) : worstL L ≠ p := by
  intro e
  have hmax : ∀ q, q < 8 → burd (usageL L q) ≤ burd (usageL L p) := fun q hq => by
    have := wst_max (fun p => burd (usageL L p)) 8 q hq
    have e' : wst (fun p => burd (usageL L p)) 8 = p := e
    rw [e'] at this
    exact this
  have hb : burd (usageL L p) ≤ 9000 := by
    obtain ⟨h1, h2⟩ := hm
    unfold burd
    omega
  have hq : ∀ q, (usageL L q).1 ≤ 375 ∧ (usageL L q).2 ≤ 3 := fun q => by
    by_cases h8 : q < 8
    · have := hmax q h8
      have h9 : burd (usageL L q) ≤ 9000 := by omega
      unfold burd at h9
      omega
    · rw [usageL_none]
      · exact ⟨by decide, by decide⟩
      · rintro ⟨l, hl, e⟩
        have := hg.peer l hl
        omega
  have h1 := links_peers (u := usageL L) (fun q => (hq q).2) 8
  rw [linksF_all hg] at h1
  have h2 := weights_peers (u := usageL L) (fun q => by have := (hq q).1; omega) (fun q h0 => by
    refine congrArg Prod.fst (usageL_none (p := q) (L := L) ?_)
    rintro ⟨l, hl, e⟩
    exact h0 (e ▸ usageL_mem hl)) 8
  rw [weightsF_all hg] at h2
  have h3 := sum_le_tot hg
  unfold fullL fullF at hf
  rw [Bool.or_eq_true, usageL_eq hg, lsOf_len] at hf
  rcases hf with hf | hf
  · have := of_decide_eq_true hf
    omega
  · have := of_decide_eq_true hf
    omega
theorem usageL_filter {L L' : List LinkD} {p : Nat} (h : (L'.filter fun l => l.peer == p) = L.filter fun l => l.peer == p) : usageL L' p = usageL L p := by
  unfold usageL
  rw [h]
theorem modest_room {p : Nat} : ∀ (k : Nat) (L : List LinkD), L.length = k → GoodL n L → Modest L p → ((room L).filter fun l => l.peer == p) = L.filter fun l => l.peer == p
  | 0, L, hk, _, _ => by
    obtain rfl := List.eq_nil_of_length_eq_zero hk
    rfl
  | k + 1, L, hk, hg, hm => by
    cases hf : fullL L with
    | false => rw [room_not hf]
    | true =>
      have hne := modest_worst hg hf hm
      have he : ((evictL L).filter fun l => l.peer == p) = L.filter fun l => l.peer == p := filter_eraseP (fun l => peer_out hne l) L
      rw [room_full hg hf, modest_room k (evictL L) (by have := evict_len hg hf; omega) (hg.sub (evict_sub L)) (by unfold Modest; rw [usageL_filter he]; exact hm), he]
theorem addC_new {p : Nat} (hp : p < 8) {x : UInt64} {d : DeedD} (hd : checkD d = 0) (ht : ¬ ∃ l ∈ L, l.peer = p ∧ l.id = x) : addC L p x d = (((deedOf (room (newL L p x d)) x).isSome, 0), room (newL L p x d)) := by
  unfold addC
  rw [if_neg (not_not_intro ⟨by omega, by omega⟩), if_neg (not_not_intro hd), show ((p : Int)).toNat = p from rfl, if_neg (fun h => ht (any_twice.1 h))]
end Ho
end Go.Proofs.YtaaaplbjeknbkabGreat
