/-
  slices.Sort of a few ints: insertionSortOrdered is what it comes to.
-/
import Derived.Test.YtamiddnkgjfdhaaInts
namespace Go.Proofs.Ytamiddnkgjfdhaa
open Go.RowKit

/-- The first i are in order. -/
def SortedTo (m : List Int) (i : Nat) : Prop := ∀ p q, p < q → q < i → m.getD p 0 ≤ m.getD q 0
/-- The first i + 1 are in order, but for the one at j. -/
def SortedBut (m : List Int) (i j : Nat) : Prop := ∀ p q, p < q → q ≤ i → q ≠ j → m.getD p 0 ≤ m.getD q 0
def swap1 (m : List Int) (k : Nat) : List Int := (m.set (k + 1) (m.getD k 0)).set k (m.getD (k + 1) 0)
theorem swap1_perm : ∀ (m : List Int) (k : Nat), k + 1 < m.length → (swap1 m k).Perm m
  | [], k, h => by simp at h
  | [a], k, h => by simp at h
  | a :: b :: r, 0, _ => by
    show (b :: a :: r).Perm (a :: b :: r)
    exact List.Perm.swap a b r
  | a :: b :: r, k + 1, h => by
    show (a :: swap1 (b :: r) k).Perm (a :: b :: r)
    exact (swap1_perm (b :: r) k (by simpa using h)).cons a
theorem swap1_length (m : List Int) (k : Nat) : (swap1 m k).length = m.length := by unfold swap1; simp
theorem swap1_at (m : List Int) (k : Nat) (h : k + 1 < m.length) (t : Nat) : (swap1 m k).getD t 0 = if t = k then m.getD (k + 1) 0 else if t = k + 1 then m.getD k 0 else m.getD t 0 := by
  unfold swap1
  simp only [List.getD_eq_getElem?_getD, List.getElem?_set, List.length_set]
  by_cases h1 : t = k
  · subst h1
    simp [show t < m.length by omega]
  · have h1' : ¬ k = t := fun e => h1 e.symm
    rw [if_neg h1', if_neg h1]
    by_cases h2 : t = k + 1
    · subst h2
      simp [h]
    · have h2' : ¬ k + 1 = t := fun e => h2 e.symm
      rw [if_neg h2', if_neg h2]
theorem but_start {m : List Int} {i : Nat} (h : SortedTo m i) : SortedBut m i i := fun p q hpq hq hne => h p q hpq (by omega)
theorem but_step {m : List Int} {i k : Nat} (h : SortedBut m i (k + 1)) (hk : k + 1 ≤ i) (hi : i < m.length) (hl : m.getD (k + 1) 0 < m.getD k 0) : SortedBut (swap1 m k) i k := by
  intro p q hpq hq hne
  rw [swap1_at m k (by omega), swap1_at m k (by omega)]
  have hq' : ¬ q = k := hne
  rw [if_neg hq']
  by_cases hq1 : q = k + 1
  · subst hq1
    rw [if_pos rfl]
    by_cases hp : p = k
    · rw [if_pos hp]; omega
    · rw [if_neg hp, if_neg (by omega)]
      exact h p k (by omega) (by omega) (by omega)
  · rw [if_neg hq1]
    have hbig := fun p' (hp' : p' < q) => h p' q hp' hq hq1
    by_cases hp : p = k
    · rw [if_pos hp]; exact hbig (k + 1) (by omega)
    · rw [if_neg hp]
      by_cases hp1 : p = k + 1
      · rw [if_pos hp1]; exact hbig k (by omega)
      · rw [if_neg hp1]; exact hbig p hpq
theorem but_stop {m : List Int} {i j : Nat} (h : SortedBut m i j) (hs : j = 0 ∨ m.getD (j - 1) 0 ≤ m.getD j 0) : SortedTo m (i + 1) := by
  intro p q hpq hq
  by_cases hqj : q = j
  · subst hqj
    rcases hs with hs | hs
    · omega
    · by_cases hp : p = q - 1
      · rw [hp]; exact hs
      · have := h p (q - 1) (by omega) (by omega) (by omega)
        omega
  · exact h p q hpq (by omega) hqj
theorem sorted_pairwise {m : List Int} (h : SortedTo m m.length) : m.Pairwise (· ≤ ·) := by
  rw [List.pairwise_iff_getElem]
  intro i j hi hj hij
  have := h i j hij hj
  rw [List.getD_eq_getElem?_getD, List.getD_eq_getElem?_getD, List.getElem?_eq_getElem hi, List.getElem?_eq_getElem hj] at this
  exact this
theorem ownInts_fam {w : World} {g cap n : Nat} {m : List Int} (h : OwnInts w 0 (.slice (some ⟨g, 0, none⟩) n cap) m) : (∀ t, t < m.length → w.cell? ⟨g, t, none⟩ = some (.int .i64 (m.getD t 0))) ∧ (∀ t, w.frozen? ⟨g, t, none⟩ = false) ∧ m.length = n := by
  obtain ⟨a, c, e, _, hat, _⟩ := ownInts_at h
  simp only [Value.slice.injEq] at e
  obtain ⟨rfl, rfl, rfl⟩ := e
  refine ⟨fun t ht => ?_, fun t => h.frozenAt t, rfl⟩
  obtain ⟨b, o, e, hb, hc⟩ := hat t ht
  simp only [Option.some.injEq, Addr.mk.injEq, and_true] at e
  obtain ⟨rfl, rfl⟩ := e
  rw [Nat.zero_add] at hc
  rw [List.getD_eq_getElem?_getD, List.getElem?_eq_getElem ht]
  exact hc
theorem ownInts_drewN {w : World} {B : Nat} {v : Value} {m : List Int} (h : OwnInts w B v m) (q : Nat) : OwnInts (w.drewN q) B v m := own_same' h (fun _ _ => rfl)
theorem ownInts_swap {w : World} {g cap n : Nat} {m : List Int} (h : OwnInts w 0 (.slice (some ⟨g, 0, none⟩) n cap) m) (k : Nat) :
    OwnInts ((w.setCell ⟨g, k + 1, none⟩ (.int .i64 (m.getD k 0))).setCell ⟨g, k, none⟩ (.int .i64 (m.getD (k + 1) 0))) 0 (.slice (some ⟨g, 0, none⟩) n cap) (swap1 m k) ∧ Turn (fun j => j = g) (fun j => j = g) w ((w.setCell ⟨g, k + 1, none⟩ (.int .i64 (m.getD k 0))).setCell ⟨g, k, none⟩ (.int .i64 (m.getD (k + 1) 0))) := by
  obtain ⟨_, _, rfl⟩ := ownInts_fam h
  refine ⟨?_, (Turn.set (F := fun j => j = g) w ⟨g, k + 1, none⟩ _ rfl).trans (Turn.set (F := fun j => j = g) _ ⟨g, k, none⟩ _ rfl)⟩
  unfold OwnInts
  have : (swap1 m k).map intV = ((m.map intV).set (k + 1) (.int .i64 (m.getD k 0))).set k (.int .i64 (m.getD (k + 1) 0)) := by unfold swap1; rw [List.map_set, List.map_set]; rfl
  rw [this, swap1_length]
  exact (((h.stored _ _).1).stored _ _).1

set_option maxHeartbeats 1600000 in
theorem insertionSort_any (g cap n : Nat) (l : List Int) (hn : n ≤ 8) (w : World) (ho : OwnInts w 0 (.slice (some ⟨g, 0, none⟩) n cap) l) :
    Calls Try.prog 77 #[.slice (some ⟨g, 0, none⟩) n cap, .int .i64 0, .int .i64 n] w fun e w' => e = .returned (.tuple #[]) ∧ ∃ m : List Int, OwnInts w' 0 (.slice (some ⟨g, 0, none⟩) n cap) m ∧ m.Perm l ∧ m.Pairwise (· ≤ ·) ∧ Turn (fun k => k = g) (fun k => k = g) w w' := by
  have hln : l.length = n := (ownInts_fam ho).2.2
  have HO := Lib.hid ho
  clear ho
  go_enter Try.func77, Try.ntmps77
  go_wp2
  go_loopw [6] (fun vi wr => ∃ (i : Nat) (m : List Int), vi = .int .i64 i ∧ 1 ≤ i ∧ i ≤ n + 1 ∧ Hid (OwnInts wr 0 (.slice (some ⟨g, 0, none⟩) n cap) m) ∧ Hid (m.Perm l) ∧ Hid (SortedTo m i) ∧ Hid (Turn (fun k => k = g) (fun k => k = g) w wr)) (fun vi _ => n + 1 - (intOf vi).toNat)
  case atStart => exact ⟨1, l, by go_num, by omega, by omega, HO, Lib.hid (List.Perm.refl _), Lib.hid (fun p q h1 h2 => by omega), Lib.hid (Turn.refl _ _)⟩
  case round =>
    obtain ⟨i, m, rfl, hi1, hin, HM, HP, HS, HT⟩ := hrel
    by_cases hlt : i < n
    · go_wp2
      obtain ⟨wB, hwB⟩ : ∃ x, x = wr := ⟨_, rfl⟩
      subst hwB
      go_loopw [7] (fun vj wr2 => ∃ (j : Nat) (m : List Int), vj = .int .i64 j ∧ j ≤ i ∧ Hid (OwnInts wr2 0 (.slice (some ⟨g, 0, none⟩) n cap) m) ∧ Hid (m.Perm l) ∧ Hid (SortedBut m i j) ∧ Hid (Turn (fun k => k = g) (fun k => k = g) w wr2)) (fun vj _ => (intOf vj).toNat)
      case atStart => exact ⟨i, m, rfl, Nat.le_refl _, HM, HP, Lib.hid (but_start HS.out), HT⟩
      case round =>
        obtain ⟨j, mj, rfl, hji, HMj, HPj, HSj, HTj⟩ := hrel
        obtain ⟨hcells, hfz, hml⟩ := ownInts_fam HMj.out
        obtain ⟨G, hG⟩ : ∃ G : Nat → Int, ∀ t, G t = mj.getD t 0 := ⟨fun t => mj.getD t 0, fun _ => rfl⟩
        have hcw : ∀ t, t < n → wr.cell? ⟨g, t, none⟩ = some (.int .i64 (G t)) := fun t ht => by rw [hG]; exact hcells t (by omega)
        have hfw : ∀ t, t < n → wr.frozen? ⟨g, t, none⟩ = false := fun t _ => hfz t
        have HG := Lib.hid hG
        have HML := Lib.hid hml
        clear hcells hfz hG hml
        have OUT : Hid ((j = 0 ∨ mj.getD (j - 1) 0 ≤ mj.getD j 0) → ∀ q, ∃ (i' : Nat) (m : List Int), Value.int .i64 ((i : Int) + 1) = .int .i64 i' ∧ 1 ≤ i' ∧ i' ≤ n + 1 ∧ Hid (OwnInts (wr.drewN q) 0 (.slice (some ⟨g, 0, none⟩) n cap) m) ∧ Hid (m.Perm l) ∧ Hid (SortedTo m i') ∧ Hid (Turn (fun k => k = g) (fun k => k = g) w (wr.drewN q))) :=
          Lib.hid (fun hs q => ⟨i + 1, mj, by go_num, by omega, by omega, Lib.hid (ownInts_drewN HMj.out q), HPj, Lib.hid (but_stop HSj.out hs), Lib.hid (HTj.out.trans (Turn.drewN _ _ _))⟩)
        have hjn : j < n := by omega
        have hjni : (j : Int) < n := by omega
        go_wp2
        by_cases hj0 : 0 < j
        · have hj1 : (0 : Int) ≤ (j : Int) - 1 := by omega
          have hj2 : (j : Int) - 1 < n := by omega
          have hj3 : ((j : Int) - 1).toNat = j - 1 := by omega
          have hj4 : j - 1 < n := by omega
          by_cases hless : G j < G (j - 1)
          · have hlb : decide (G j < G (j - 1)) = true := decide_eq_true hless
            go_quiet (first | (go_at_call 83; refine Calls.quiet_of_same (less_any _ _ _)))
            go_wp2
            go_region
            all_goals go_wp2
            all_goals go_roundw
            case rel =>
              obtain ⟨k, rfl⟩ : ∃ k, j = k + 1 := ⟨j - 1, by omega⟩
              have hk1 : k + 1 - 1 = k := by omega
              rw [hk1] at hless
              rw [HG.out, HG.out] at hless
              obtain ⟨r1, r2⟩ := ownInts_swap (ownInts_drewN HMj.out (nq + 1)) k
              refine ⟨k, swap1 mj k, by congr 1; omega, by omega, Lib.hid ?_, Lib.hid ((swap1_perm mj k (by have := HML.out; omega)).trans HPj.out), Lib.hid (but_step HSj.out hji (by have := HML.out; omega) hless), Lib.hid ?_⟩
              · rw [HG.out, HG.out, hk1]; exact r1
              · rw [HG.out, HG.out, hk1]; exact (HTj.out.trans (Turn.drewN _ _ _)).trans r2
            case measure => simp [intOf]; omega
          · have hlb : decide (G j < G (j - 1)) = false := decide_eq_false hless
            go_quiet (first | (go_at_call 83; refine Calls.quiet_of_same (less_any _ _ _)))
            go_wp2
            go_roundw
            case rel => exact OUT.out (.inr (by rw [← HG.out, ← HG.out]; omega)) nq
            case measure => simp [intOf]; omega
        · go_quiet (first | (go_at_call 83; refine Calls.quiet_of_same (less_any _ _ _)))
          go_wp2
          go_roundw
          case rel => exact OUT.out (.inl (by omega)) nq
          case measure => simp [intOf]; omega
    · go_wp2
      go_end0
      refine ⟨rfl, m, HM.out, HP.out, sorted_pairwise ?_, HT.out⟩
      have : m.length = n := (ownInts_fam HM.out).2.2
      intro p q h1 h2
      exact HS.out p q h1 (by omega)
theorem pdqsort_any (g cap n : Nat) (k : Int) (l : List Int) (hn : n ≤ 8) (w : World) (ho : OwnInts w 0 (.slice (some ⟨g, 0, none⟩) n cap) l) :
    Calls Try.prog 61 #[.slice (some ⟨g, 0, none⟩) n cap, .int .i64 0, .int .i64 n, .int .i64 k] w fun e w' => e = .returned (.tuple #[]) ∧ ∃ m : List Int, OwnInts w' 0 (.slice (some ⟨g, 0, none⟩) n cap) m ∧ m.Perm l ∧ m.Pairwise (· ≤ ·) ∧ Turn (fun k => k = g) (fun k => k = g) w w' := by
  have HO := Lib.hid ho
  have h12 : (n : Int) ≤ 12 := by omega
  clear ho
  go_enter Try.func61, Try.ntmps61
  go_wp2_with fail
  refine wp_loop_rounds 1 ?_
  rw [rounds_succ]
  go_wp2_with fail
  with_reducible refine (insertionSort_any g cap n l hn _ HO.out).mono ?_
  rintro e w1 ⟨rfl, m, h1, h2, h3, h4⟩
  have HM := Lib.hid (And.intro h1 (And.intro h2 (And.intro h3 h4)))
  clear h1 h2 h3 h4
  go_wp2_with fail
  first | go_end0 | refine bodyPost_ret (results_none rfl _ _ _) rfl ?_
  exact ⟨rfl, m, HM.out⟩
theorem insertionSort_nil (w : World) : Calls Try.prog 77 #[.slice none 0 0, .int .i64 0, .int .i64 0] w fun e w' => e = .returned (.tuple #[]) ∧ w = w' := by
  go_enter Try.func77, Try.ntmps77
  go_wp2_with fail
  refine wp_loop_rounds 1 ?_
  rw [rounds_succ]
  go_wp2_with fail
  first | go_end0 | refine bodyPost_ret (results_none rfl _ _ _) rfl ?_
  exact ⟨rfl, rfl⟩
theorem pdqsort_nil (k : Int) (w : World) : Calls Try.prog 61 #[.slice none 0 0, .int .i64 0, .int .i64 0, .int .i64 k] w fun e w' => e = .returned (.tuple #[]) ∧ w = w' := by
  go_enter Try.func61, Try.ntmps61
  go_wp2_with fail
  refine wp_loop_rounds 1 ?_
  rw [rounds_succ]
  go_wp2_with fail
  with_reducible refine (insertionSort_nil _).mono ?_
  rintro e w1 ⟨rfl, rfl⟩
  go_wp2_with fail
  first | go_end0 | refine bodyPost_ret (results_none rfl _ _ _) rfl ?_
  exact ⟨rfl, rfl⟩
theorem conv_len (n : Nat) (h : n ≤ 8) : IntKind.u64.wrap (n : Int) = (n : Int) := by
  show (n : Int) % 18446744073709551616 = _
  omega
/-- slices.Sort of at most eight ints that nobody else sees. -/
theorem sort_any (v : Value) (l : List Int) (hl : l.length ≤ 8) (w : World) (ho : OwnInts w 0 v l) :
    Calls Try.prog 39 #[v] w fun e w' => e = .returned (.tuple #[]) ∧ ∃ m : List Int, OwnInts w' 0 v m ∧ m.Perm l ∧ m.Pairwise (· ≤ ·) ∧ Turn (fun k => v.ownBlock = some k) (fun k => v.ownBlock = some k) w w' := by
  rcases ho.2 with ⟨rfl, hn⟩ | ⟨g, cap, cur, rfl, _, _, _, _, _, _⟩
  · obtain rfl : l = [] := List.eq_nil_of_length_eq_zero hn
    go_enter Try.func39, Try.ntmps39
    go_wp2_with fail
    refine (lenBits_any 0 (by decide) _).mono ?_
    rintro e w1 ⟨k, rfl, rfl⟩
    go_wp2_with fail
    with_reducible refine (pdqsort_nil k _).mono ?_
    rintro e w1 ⟨rfl, rfl⟩
    go_wp2_with fail
    go_end0
    exact ⟨rfl, [], World.ownsRow_nil _ _ _ _, List.Perm.refl _, List.Pairwise.nil, Turn.refl _ _⟩
  · have hc := conv_len l.length hl
    have HO := Lib.hid ho
    clear ho
    go_enter Try.func39, Try.ntmps39
    go_wp2_with fail
    with_reducible refine (lenBits_any l.length hl _).mono ?_
    rintro e w1 ⟨k, rfl, rfl⟩
    go_wp2_with fail
    with_reducible refine (pdqsort_any g cap l.length k l hl _ HO.out).mono ?_
    rintro e w1 ⟨rfl, m, h1, h2, h3, h4⟩
    have HM := Lib.hid (And.intro h1 (And.intro h2 (And.intro h3 h4)))
    clear h1 h2 h3 h4
    go_wp2_with fail
    go_end0
    have e1 : (fun k => Value.ownBlock (.slice (some ⟨g, 0, none⟩) l.length cap) = some k) = fun k => k = g := by
      funext k
      simp [Value.ownBlock, eq_comm]
    refine ⟨rfl, m, ?_, HM.out.2.1, HM.out.2.2.1, by rw [e1]; exact HM.out.2.2.2⟩
    exact HM.out.1
end Go.Proofs.Ytamiddnkgjfdhaa
