/-
  The reference's tracker in memory, and the contracts of its functions that only look.
-/
import Derived.Test.YtamiddnkgjfdhaaTrackZ
namespace Go.Proofs.Ytamiddnkgjfdhaa
open Go.RowKit Go.Maps

/-- The slice v holds these entries of the reference, in a block of its own from block C on. -/
abbrev OwnE (w : World) (C : Nat) (v : Value) (l : List TEnt) : Prop := w.ownsRow C 80 5 v l.length (entsC l)
theorem ownE_form {w : World} {C : Nat} {v : Value} {l : List TEnt} (h : OwnE w C v l) : ∃ a cap, v = .slice a l.length cap ∧ l.length ≤ cap ∧ EntsAt w a l ∧ Fresh C a := by
  rcases h.2 with ⟨hv, hn⟩ | ⟨g, cap, cur, hv, hB, hg, hc, _, _, _⟩
  · exact ⟨none, 0, by rw [hn]; exact hv, by omega, fun i hi => absurd hi (by omega), fun _ _ _ e => by cases e⟩
  · refine ⟨some ⟨g, 0, none⟩, cap, hv, hc, fun i hi => ⟨g, 0, rfl, (Array.getElem?_eq_some_iff.1 hg).1, ?_⟩, fun b o sp e => by cases e; exact hB⟩
    have hh := h
    rw [hv] at hh
    have hat : ∀ j, j < 5 → w.cell? ⟨g, 0 + i * 5 + j, none⟩ = (entC l[i])[j]? := fun j hj => by
      rw [Nat.zero_add, hh.cellAt (i * 5 + j) (by omega)]
      exact entsC_at l i hi j hj
    exact ⟨hat 0 (by omega), hat 1 (by omega), hat 2 (by omega), hat 3 (by omega), hat 4 (by omega)⟩
/-- Block B is the reference's tracker with these entries; G: the blocks that it owns. -/
structure RefTr (w : World) (G : Nat → Prop) (B : Nat) (salt : UInt64) (L : List TEnt) (v : Value) : Prop where
  head : w.heap[B]? = some (.cells #[.int .u64 salt.toNat, v] 29 (0, 0))
  row : OwnE w 0 v L
  none : L = [] → v = .slice none 0 0
  gB : G B
  gv : ∀ k, v.ownBlock = some k → G k
  there : There w G
variable {w w' : World} {G : Nat → Prop} {B : Nat} {salt : UInt64} {L : List TEnt} {v : Value}
theorem RefTr.same (h : RefTr w G B salt L v) (e : ∀ k, k < w.heap.size → G k → w'.heap[k]? = w.heap[k]?) (hs : w.heap.size ≤ w'.heap.size) : RefTr w' G B salt L v :=
  ⟨(e B (h.there B h.gB) h.gB).trans h.head, own_same h.row fun g hg => e g (h.there g (h.gv g hg)) (h.gv g hg), h.none, h.gB, h.gv, h.there.later hs⟩
theorem RefTr.kept (h : RefTr w G B salt L v) (hb : Below w.heap.size w w') : RefTr w' G B salt L v := h.same (fun k hk _ => hb.block k hk) hb.size
theorem RefTr.turn (h : RefTr w G B salt L v) {F F' : Nat → Prop} (ht : Turn F F' w w') (ha : Apart G F) : RefTr w' G B salt L v := h.same (fun k hk hg => ht.block k hk (ha k hg)) ht.size
theorem RefTr.lt (h : RefTr w G B salt L v) : B < w.heap.size := h.there B h.gB
theorem RefTr.saltc (h : RefTr w G B salt L v) : w.cell? ⟨B, 0, Option.none⟩ = some (.int .u64 salt.toNat) := head_cell h.head 0
theorem RefTr.slicec (h : RefTr w G B salt L v) : w.cell? ⟨B, 1, Option.none⟩ = some v ∧ w.frozen? ⟨B, 1, Option.none⟩ = false := ⟨head_cell h.head 1, frozen_of_row w B 1 _ _ h.head⟩
/-- A new slice is stored. -/
theorem RefTr.stored (h : RefTr w G B salt L v) {L' : List TEnt} {v' : Value} (hb : Below w.heap.size w w') (ho : OwnE w' w.heap.size v' L') (hn : L' = [] → v' = .slice Option.none 0 0) :
    RefTr (w'.setCell ⟨B, 1, Option.none⟩ v') (fun k => G k ∨ v'.ownBlock = some k) B salt L' v' ∧ Turn G (fun k => G k ∨ v'.ownBlock = some k) w (w'.setCell ⟨B, 1, Option.none⟩ v') := by
  have hB := h.lt
  have hvB : ∀ k, v'.ownBlock = some k → k ≠ B := fun k hk => by have := (ho.lt k hk).1; omega
  refine ⟨⟨heap_setCell_same w' B 1 _ _ v' ((hb.block B hB).trans h.head), own_same (own_zero ho) (fun g hg => Below.heap_setCell w' ⟨B, 1, Option.none⟩ v' g (hvB g hg)), hn, .inl h.gB, fun k hk => .inr hk, fun k hk => ?_⟩, ?_⟩
  · rw [World.size_setCell]
    exact hk.elim (fun hg => Nat.lt_of_lt_of_le (h.there k hg) hb.size) (fun e => (ho.lt k e).2)
  · exact ⟨hb.os, hb.tape, hb.output, by rw [World.size_setCell]; exact hb.size, fun k hk hn => (Below.heap_setCell w' ⟨B, 1, Option.none⟩ v' k (fun e => hn (by rw [show k = B from e]; exact h.gB))).trans (hb.block k hk), fun k hk => hk.elim .inl (fun e => .inr (ho.lt k e).1)⟩

theorem outside_any (x lo hi : Int) (w : World) : Calls Try.prog 65 #[.int .i64 x, .int .i64 lo, .int .i64 hi] w fun e w' => e = .returned (.bool (decide (x < lo ∨ hi < x))) ∧ w = w' := by
  by_cases h1 : x < lo
  · have h3 : decide (x < lo ∨ hi < x) = true := by simp [h1]
    rw [h3]
    go_enter Try.func65, Try.ntmps65
    go_wp2
    go_ret
    exact ⟨rfl, rfl⟩
  · by_cases h2 : x > hi
    · have h3 : decide (x < lo ∨ hi < x) = true := by simp [h2]
      rw [h3]
      go_enter Try.func65, Try.ntmps65
      go_wp2
      go_ret
      exact ⟨rfl, rfl⟩
    · have h3 : decide (x < lo ∨ hi < x) = false := decide_eq_false (by omega)
      rw [h3]
      go_enter Try.func65, Try.ntmps65
      go_wp2
      go_ret
      exact ⟨rfl, rfl⟩
theorem badPeer_is (p : Int) (r : Bool) (hr : decide (goodP p) = !r) (w : World) : Calls Try.prog 43 #[.int .i64 p] w fun e w' => e = .returned (.bool r) ∧ w = w' := by
  have HR : Hid (decide (p < 0 ∨ 7 < p) = r) := Lib.hid (by
    cases r with
    | true => exact decide_eq_true (by have : ¬ goodP p := of_decide_eq_false hr; unfold goodP at this; omega)
    | false => exact decide_eq_false (by have : goodP p := of_decide_eq_true hr; unfold goodP at this; omega))
  clear hr
  go_enter Try.func43, Try.ntmps43
  go_wp2_with fail
  with_reducible refine (outside_any p 0 7 _).mono ?_
  rintro e w1 ⟨rfl, rfl⟩
  rw [HR.out]
  go_wp2_with fail
  go_ret
  exact ⟨rfl, rfl⟩
theorem badTime_is (p : Int) (r : Bool) (hr : decide (goodT p) = !r) (w : World) : Calls Try.prog 55 #[.int .i64 p] w fun e w' => e = .returned (.bool r) ∧ w = w' := by
  have HR : Hid (decide (p < 0 ∨ 1099511627776 < p) = r) := Lib.hid (by
    cases r with
    | true => exact decide_eq_true (by have : ¬ goodT p := of_decide_eq_false hr; unfold goodT at this; omega)
    | false => exact decide_eq_false (by have : goodT p := of_decide_eq_true hr; unfold goodT at this; omega))
  clear hr
  go_enter Try.func55, Try.ntmps55
  go_wp2_with fail
  with_reducible refine (outside_any p 0 1099511627776 _).mono ?_
  rintro e w1 ⟨rfl, rfl⟩
  rw [HR.out]
  go_wp2_with fail
  go_ret
  exact ⟨rfl, rfl⟩
theorem badPeer_yes (p : Int) (h : ¬ goodP p) (w : World) : Calls Try.prog 43 #[.int .i64 p] w fun e w' => e = .returned (.bool true) ∧ w = w' := badPeer_is p true (decide_eq_false h) w
theorem badPeer_no (p : Nat) (h : p < 8) (w : World) : Calls Try.prog 43 #[.int .i64 p] w fun e w' => e = .returned (.bool false) ∧ w = w' := badPeer_is p false (decide_eq_true ⟨by omega, by omega⟩) w
theorem badTime_yes (p : Int) (h : ¬ goodT p) (w : World) : Calls Try.prog 55 #[.int .i64 p] w fun e w' => e = .returned (.bool true) ∧ w = w' := badTime_is p true (decide_eq_false h) w
theorem badTime_no (p : Int) (h : goodT p) (w : World) : Calls Try.prog 55 #[.int .i64 p] w fun e w' => e = .returned (.bool false) ∧ w = w' := badTime_is p false (decide_eq_true h) w
/-- Where the first entry of a peer and an ID is, or -1. -/
theorem at_any (p : Nat) (x : UInt64) (w : World) (h : RefTr w G B salt L v) (hl : L.length ≤ 160) :
    Calls Try.prog 40 #[.pointer (some ⟨B, 0, Option.none⟩), .int .i64 p, .int .u64 x.toNat] w fun e w' => e = .returned (.int .i64 (firstAt (isE p x) L)) ∧ Below w.heap.size w w' := by
  obtain ⟨c1, _⟩ := h.slicec
  have hlt := h.lt
  obtain ⟨a, cp, hv, hcp, hat, _⟩ := ownE_form h.row
  rw [hv] at c1
  have HA := Lib.hid hat
  clear h hat hv
  go_enter Try.func40, Try.ntmps40
  go_wp2
  go_loopw [14] (fun i wr => ∃ k : Nat, k ≤ L.length ∧ i = .int .i64 k ∧ Hid ((L.take k).findIdx? (isE p x) = none) ∧ Hid (Below w.heap.size w wr)) (fun i _ => L.length - (intOf i).toNat)
  case atStart => exact ⟨0, Nat.zero_le _, rfl, Lib.hid rfl, Lib.hid (Below.refl _ _)⟩
  case round =>
    obtain ⟨k, hk, rfl, NO, HB⟩ := hrel
    by_cases hkl : k < L.length
    · obtain ⟨g, o, rfl, hg, d0, d1, d2, d3, d4⟩ := entsAt_kept HB.out HA.out k hkl
      have hb1 := kept_alloc HB.out (.cells #[.int .i64 L[k].peer, .int .u64 L[k].id.toNat, .bool L[k].pref, .int .i64 L[k].st, .int .i64 L[k].till] 80)
      have HB1 := Lib.hid hb1
      have hq1 := beq_nat L[k].peer p
      have hq2 : ((L[k].id.toNat : Int) == (x.toNat : Int)) = (L[k].id == x) := u64_beq _ _
      clear hb1
      cases e1 : L[k].peer == p with
      | true =>
        cases e2 : L[k].id == x with
        | true =>
          have HQ : Hid (isE p x L[k] = true) := Lib.hid (by unfold isE; rw [e1, e2]; rfl)
          rw [e1] at hq1
          rw [e2] at hq2
          clear e1 e2
          go_wp2
          go_ret
          exact ⟨ret_i64 (firstAt_hit hkl NO.out HQ.out).symm, HB1.out⟩
        | false =>
          have HQ : Hid (isE p x L[k] = false) := Lib.hid (by unfold isE; rw [e1, e2]; rfl)
          rw [e1] at hq1
          rw [e2] at hq2
          clear e1 e2
          go_wp2
          go_roundw
          case rel => exact ⟨k + 1, by omega, by go_num, Lib.hid (firstAt_miss hkl NO.out HQ.out), HB1⟩
          case measure => simp [intOf]; omega
      | false =>
        have HQ : Hid (isE p x L[k] = false) := Lib.hid (by unfold isE; rw [e1]; rfl)
        rw [e1] at hq1
        clear e1
        go_wp2
        go_roundw
        case rel => exact ⟨k + 1, by omega, by go_num, Lib.hid (firstAt_miss hkl NO.out HQ.out), HB1⟩
        case measure => simp [intOf]; omega
    · go_wp2
      go_ret
      refine ⟨ret_i64 ?_, HB.out⟩
      have h1 := NO.out
      rw [List.take_of_length_le (by omega)] at h1
      unfold firstAt
      rw [h1]
/-- An entry of an ID is requested. -/
theorem refAsked_any (x : UInt64) (w : World) (h : RefTr w G B salt L v) (hl : L.length ≤ 160) (r : Bool) (hr : L.any (fun e => e.id == x && e.st == 2) = r) :
    Calls Try.prog 47 #[.pointer (some ⟨B, 0, Option.none⟩), .int .u64 x.toNat] w fun e w' => e = .returned (.bool r) ∧ Below w.heap.size w w' := by
  obtain ⟨c1, _⟩ := h.slicec
  have hlt := h.lt
  obtain ⟨a, cp, hv, hcp, hat, _⟩ := ownE_form h.row
  rw [hv] at c1
  have HA := Lib.hid hat
  have HR := Lib.hid hr
  clear h hat hv hr
  go_enter Try.func47, Try.ntmps47
  go_wp2
  go_loopw [12] (fun i wr => ∃ k : Nat, k ≤ L.length ∧ i = .int .i64 k ∧ Hid ((L.take k).any (fun e => e.id == x && e.st == 2) = false) ∧ Hid (Below w.heap.size w wr)) (fun i _ => L.length - (intOf i).toNat)
  case atStart => exact ⟨0, Nat.zero_le _, rfl, Lib.hid rfl, Lib.hid (Below.refl _ _)⟩
  case round =>
    obtain ⟨k, hk, rfl, NO, HB⟩ := hrel
    by_cases hkl : k < L.length
    · obtain ⟨g, o, rfl, hg, d0, d1, d2, d3, d4⟩ := entsAt_kept HB.out HA.out k hkl
      have HB1 := Lib.hid (kept_alloc HB.out (.cells #[.int .i64 L[k].peer, .int .u64 L[k].id.toNat, .bool L[k].pref, .int .i64 L[k].st, .int .i64 L[k].till] 80))
      have hq1 := beq_nat L[k].st 2
      have hq2 : ((L[k].id.toNat : Int) == (x.toNat : Int)) = (L[k].id == x) := u64_beq _ _
      have hst : (L.take (k + 1)).any (fun e => e.id == x && e.st == 2) = ((L.take k).any (fun e => e.id == x && e.st == 2) || (L[k].id == x && L[k].st == 2)) := by rw [List.take_succ_eq_append_getElem hkl, List.any_append]; simp
      rw [NO.out, Bool.false_or] at hst
      have HST := Lib.hid hst
      clear hst
      cases e2 : L[k].id == x with
      | true =>
        cases e1 : L[k].st == 2 with
        | true =>
          rw [e1] at hq1
          rw [e2] at hq2
          have HQ : Hid (true = r) := Lib.hid (by
            rw [← HR.out]
            exact (List.any_eq_true.2 ⟨L[k], List.getElem_mem hkl, by rw [e1, e2]; rfl⟩).symm)
          clear e1 e2
          go_wp2
          go_ret
          exact ⟨ret_bool HQ.out, HB1.out⟩
        | false =>
          rw [e1, e2] at HST
          rw [e1] at hq1
          rw [e2] at hq2
          clear e1 e2
          go_wp2
          go_roundw
          case rel => exact ⟨k + 1, by omega, by go_num, HST, HB1⟩
          case measure => simp [intOf]; omega
      | false =>
        rw [e2] at HST hq2
        clear e2
        go_wp2
        go_roundw
        case rel => exact ⟨k + 1, by omega, by go_num, HST, HB1⟩
        case measure => simp [intOf]; omega
    · go_wp2
      go_ret
      refine ⟨ret_bool ?_, HB.out⟩
      have h1 := NO.out
      rw [List.take_of_length_le (by omega)] at h1
      exact h1.symm.trans HR.out
theorem refCounts_bad (p : Int) (hp : ¬ goodP p) (w : World) : Calls Try.prog 18 #[.pointer (some ⟨B, 0, Option.none⟩), .int .i64 p] w fun e w' => e = .returned (.tuple #[.int .i64 0, .int .i64 0, .int .i64 1]) ∧ w = w' := by
  have HP := Lib.hid hp
  clear hp
  go_enter Try.func18, Try.ntmps18
  go_wp2_with fail
  with_reducible refine (badPeer_yes p HP.out _).mono ?_
  rintro e w1 ⟨rfl, rfl⟩
  go_wp2_with fail
  go_ret3
  exact ⟨rfl, rfl⟩
theorem count_more {q : TEnt → Bool} {l : List TEnt} {k : Nat} (h : k < l.length) : ((l.take (k + 1)).filter q).length = ((l.take k).filter q).length + if q l[k] then 1 else 0 := by
  rw [List.take_succ_eq_append_getElem h, List.filter_append, List.length_append]
  cases hq : q l[k] <;> simp [hq]
theorem refCounts_any (p : Nat) (hp : p < 8) (w : World) (h : RefTr w G B salt L v) (hl : L.length ≤ 160) :
    Calls Try.prog 18 #[.pointer (some ⟨B, 0, Option.none⟩), .int .i64 p] w fun e w' => e = .returned (.tuple #[.int .i64 (L.filter fun e => e.peer == p).length, .int .i64 (L.filter fun e => e.peer == p && e.st == 2).length, .int .i64 0]) ∧ Below w.heap.size w w' := by
  obtain ⟨c1, _⟩ := h.slicec
  have hlt := h.lt
  obtain ⟨a, cp, hv, hcp, hat, _⟩ := ownE_form h.row
  rw [hv] at c1
  have HA := Lib.hid hat
  clear h hat hv
  go_enter Try.func18, Try.ntmps18
  go_wp2_with fail
  with_reducible refine (badPeer_no p hp _).mono ?_
  rintro e w1 ⟨rfl, rfl⟩
  go_wp2
  go_loopw [7, 8, 18] (fun n f i wr => ∃ k : Nat, k ≤ L.length ∧ i = .int .i64 k ∧ n = .int .i64 ((L.take k).filter fun e => e.peer == p).length ∧ f = .int .i64 ((L.take k).filter fun e => e.peer == p && e.st == 2).length ∧ Hid (Below w.heap.size w wr)) (fun _ _ i _ => L.length - (intOf i).toNat)
  case atStart => exact ⟨0, Nat.zero_le _, rfl, rfl, rfl, Lib.hid (Below.refl _ _)⟩
  case round =>
    obtain ⟨k, hk, rfl, rfl, rfl, HB⟩ := hrel
    by_cases hkl : k < L.length
    · obtain ⟨g, o, rfl, hg, d0, d1, d2, d3, d4⟩ := entsAt_kept HB.out HA.out k hkl
      have HB1 := Lib.hid (kept_alloc HB.out (.cells #[.int .i64 L[k].peer, .int .u64 L[k].id.toNat, .bool L[k].pref, .int .i64 L[k].st, .int .i64 L[k].till] 80))
      have hq1 := beq_nat L[k].peer p
      have hq2 := beq_nat L[k].st 2
      have HN := Lib.hid (count_more (q := fun e => e.peer == p) hkl)
      have HM := Lib.hid (count_more (q := fun e => e.peer == p && e.st == 2) hkl)
      have hn1 : ((L.take k).filter fun e => e.peer == p).length ≤ 160 := Nat.le_trans (List.length_filter_le _ _) (Nat.le_trans (List.length_take_le _ _) (by omega))
      have hn2 : ((L.take k).filter fun e => e.peer == p && e.st == 2).length ≤ 160 := Nat.le_trans (List.length_filter_le _ _) (Nat.le_trans (List.length_take_le _ _) (by omega))
      cases e1 : L[k].peer == p with
      | true =>
        cases e2 : L[k].st == 2 with
        | true =>
          rw [e1] at hq1 HN HM
          rw [e2] at hq2 HM
          clear e1 e2
          go_wp2
          go_roundw
          case rel => exact ⟨k + 1, by omega, by go_num, by rw [HN.out]; simp only [if_true]; go_num, by rw [HM.out]; simp only [Bool.and_self, if_true]; go_num, HB1⟩
          case measure => simp [intOf]; omega
        | false =>
          rw [e1] at hq1 HN HM
          rw [e2] at hq2 HM
          clear e1 e2
          go_wp2
          go_roundw
          case rel => exact ⟨k + 1, by omega, by go_num, by rw [HN.out]; simp only [if_true]; go_num, by rw [HM.out]; rfl, HB1⟩
          case measure => simp [intOf]; omega
      | false =>
        rw [e1] at hq1 HN HM
        clear e1
        go_wp2
        go_roundw
        case rel => exact ⟨k + 1, by omega, by go_num, by rw [HN.out]; rfl, by rw [HM.out]; rfl, HB1⟩
        case measure => simp [intOf]; omega
    · have he : L.take k = L := List.take_of_length_le (by omega)
      go_wp2
      go_ret3
      rw [he]
      exact ⟨rfl, HB.out⟩
end Go.Proofs.Ytamiddnkgjfdhaa
