/-
  The law that asks both trackers whom to ask: TrackNexts.
-/
import Derived.Test.YtamiddnkgjfdhaaTrackLaws4
import Derived.Test.YtamiddnkgjfdhaaNextMath
import Derived.Test.YtamiddnkgjfdhaaEqIds
namespace Go.Proofs.Ytamiddnkgjfdhaa
open Go.RowKit Go.Maps

/-- What both answer. -/
def nextC (salt : UInt64) (L : List TEnt) (p : Int) : List UInt64 × Int := if goodP p then (nextL salt L p.toNat, 0) else ([], 1)
theorem nextC_few {salt : UInt64} {L : List TEnt} (h : Good L) {p : Int} {l : List UInt64} {c : Int} (hc : nextC salt L p = (l, c)) : l.length ≤ maxLen := by
  unfold nextC at hc
  split at hc
  · rename_i hg
    obtain ⟨n, rfl, hn, hnn⟩ := peer_nat hg
    cases hc
    have := next_len (salt := salt) h (p := n) hn
    unfold maxLen
    rw [hnn]
    omega
  · cases hc
    exact Nat.zero_le _
theorem PairT.good {w0 w : World} {Z : Nat → Prop} {R B : Nat} {salt : UInt64} {L M : List TEnt} (h : PairT w0 w Z R B salt L M) : Good L := by
  obtain ⟨F, G, v, h1, h2, h3, h4, h5, h6, h7, h8⟩ := h
  exact h1.1
theorem pairT_next (w0 : World) (Z : Nat → Prop) (R B : Nat) (salt : UInt64) (L M : List TEnt) (w : World) (h : PairT w0 w Z R B salt L M) (p : Int) (l : List UInt64) (c : Int) (hc : nextC salt L p = (l, c)) :
    Calls Try.prog 20 #[.pointer (some ⟨R, 0, none⟩), .int .i64 p] w fun e w' => ∃ a cap, e = .returned (.tuple #[.slice a l.length cap, .int .i64 c]) ∧ IdsAt w' a l ∧ Below w.heap.size w w' := by
  obtain ⟨F, G, v, h1, h2, h3, h4, h5, h6, h7, h8⟩ := h
  unfold nextC at hc
  by_cases hg : goodP p
  · rw [if_pos hg] at hc
    obtain ⟨n, rfl, hn, hnn⟩ := peer_nat hg
    rw [hnn] at hc
    cases hc
    refine (tl_next F R salt L w h1 n hn).mono ?_
    rintro e w' ⟨⟨a, cap, rfl, _, h9, _⟩, hb⟩
    exact ⟨a, cap, rfl, h9, hb⟩
  · rw [if_neg hg] at hc
    cases hc
    refine (next_arg (R := R) p hg w).mono ?_
    rintro e w' ⟨rfl, rfl⟩
    exact ⟨none, 0, rfl, fun i hi => absurd hi (by simp), Below.refl _ _⟩
theorem pairT_refnext (w0 : World) (Z : Nat → Prop) (R B : Nat) (salt : UInt64) (L M : List TEnt) (w : World) (h : PairT w0 w Z R B salt L M) (p : Int) (l : List UInt64) (c : Int) (hc : nextC salt M p = (l, c)) :
    Calls Try.prog 21 #[.pointer (some ⟨B, 0, none⟩), .int .i64 p] w fun e w' => ∃ a cap, e = .returned (.tuple #[.slice a l.length cap, .int .i64 c]) ∧ IdsAt w' a l ∧ Below w.heap.size w w' := by
  obtain ⟨F, G, v, h1, h2, h3, h4, h5, h6, h7, h8⟩ := h
  unfold nextC at hc
  by_cases hg : goodP p
  · rw [if_pos hg] at hc
    obtain ⟨n, rfl, hn, hnn⟩ := peer_nat hg
    rw [hnn] at hc
    cases hc
    refine (refNext_any n hn w h2 h3).mono ?_
    rw [next_is h3 n]
    rintro e w' ⟨⟨a, cap, rfl, _, h9, _⟩, hb⟩
    exact ⟨a, cap, rfl, h9, hb⟩
  · rw [if_neg hg] at hc
    cases hc
    refine (refNext_bad (B := B) p hg w).mono ?_
    rintro e w' ⟨rfl, rfl⟩
    exact ⟨none, 0, rfl, fun i hi => absurd hi (by simp), Below.refl _ _⟩
theorem ids_self (l : List UInt64) : (l == l) = true := beq_self_eq_true l
set_option maxRecDepth 20000 in
set_option maxHeartbeats 2000000 in
theorem trackNexts_walk (salt : UInt64) (l : List OpD) (a : Option Addr) (cap : Nat) (peer : Int) (hl : l.length ≤ maxLen) (_ : -9223372036854775808 ≤ peer ∧ peer ≤ 9223372036854775807) (w : World) (hi : OpsAt w a l) :
    Calls Try.prog 4 #[.int .u64 salt.toNat, .slice a l.length cap, .int .i64 peer] w fun e w' => e = .returned (.bool true) ∧ Below w.heap.size w w' := by
  unfold maxLen at hl
  have HI := Lib.hid hi
  clear hi
  go_enter Try.func4, Try.ntmps4
  go_wp2_with fail
  with_reducible refine (trk_new w salt _ (Below.refl _ _)).mono ?_
  rintro e w1 ⟨R, rfl, hr1⟩
  have HP := Lib.hid (pairT_made hr1)
  clear hr1
  go_wp2_with fail
  go_loopw [29] (fun i wr => ∃ (k : Nat) (L : List TEnt), k ≤ l.length ∧ i = .int .i64 k ∧ Hid (PairT w wr (fun _ => False) R w1.heap.size salt L L)) (fun i _ => l.length - (intOf i).toNat)
  case atStart => exact ⟨0, _, Nat.zero_le _, rfl, HP⟩
  case round =>
    clear HP
    obtain ⟨k, L, hk, rfl, HS⟩ := hrel
    by_cases hlt : k < l.length
    · obtain ⟨b, o, rfl, hb, c0, c1, c2, c3, c4, c5, c6, c7, c8⟩ := opsAt_kept HS.out.below HI.out k hlt
      generalize l[k] = d at c0 c1 c2 c3 c4 c5 c6 c7 c8
      have HX := Lib.hid (HS.out.kept (kept_new wr (.cells #[.int .i64 d.kind, .int .i64 d.peer, .int .i64 d.n, .int .u64 d.id.toNat, .bool d.flag, .slice d.ia d.il d.ic, .int .i64 d.outs, .int .i64 d.weight, .int .i64 d.fee] 34)))
      go_wp2_with fail
      with_reducible refine (tracked_any _ _ R _ salt L d _ HX.out).mono ?_
      rintro e w2 ⟨rfl, h2, _⟩
      have H2 := Lib.hid h2
      clear h2 c0 c1 c2 c3 c4 c5 c6 c7 c8
      go_wp2_with fail
      go_roundw
      case rel => exact ⟨k + 1, _, by omega, by go_num, H2⟩
      case measure => simp [intOf]; omega
    · obtain ⟨wB, hwB⟩ : ∃ x, x = wr := ⟨_, rfl⟩
      subst hwB
      go_wp2_with fail
      go_loopw [38] (fun i wr => ∃ n : Nat, n ≤ 8 ∧ i = .int .i64 n ∧ Hid (PairT w wr (fun _ => False) R w1.heap.size salt L L)) (fun i _ => 8 - (intOf i).toNat)
      case atStart => exact ⟨0, by omega, rfl, HS⟩
      case round =>
        obtain ⟨n, hn, rfl, HQ⟩ := hrel
        clear HS
        have HG := Lib.hid HQ.out.good
        by_cases hn8 : n < 8
        · have hni : (n : Int) < 8 := by omega
          obtain ⟨⟨m, c⟩, hc⟩ : ∃ y, nextC salt L (n : Int) = y := ⟨_, rfl⟩
          have HC := Lib.hid hc
          have HF := Lib.hid (nextC_few HG.out hc)
          clear hc
          go_wp2_with fail
          with_reducible refine (pairT_next _ _ R _ salt L L _ HQ.out n m c HC.out).mono ?_
          rintro e w3 ⟨a3, cp3, rfl, i3, b3⟩
          have H3 := Lib.hid (HQ.out.kept b3)
          have I3 := Lib.hid i3
          clear i3 b3
          go_wp2_with fail
          with_reducible refine (pairT_refnext _ _ R _ salt L L _ H3.out n m c HC.out).mono ?_
          rintro e w4 ⟨a4, cp4, rfl, i4, b4⟩
          have H4 := Lib.hid (H3.out.kept b4)
          have I34 := Lib.hid (idsAt_kept b4 I3.out)
          have I4 := Lib.hid i4
          clear i4 b4
          go_wp2_with fail
          with_reducible refine (eqID_is m m a3 a4 cp3 cp4 _ true HF.out I34.out I4.out (ids_self m)).mono ?_
          rintro e w5 ⟨rfl, rfl⟩
          go_wp2_with fail
          go_roundw
          case rel => exact ⟨n + 1, by omega, by go_num, H4⟩
          case measure => simp [intOf]; omega
        · have hni : ¬ (n : Int) < 8 := by omega
          obtain ⟨⟨m, c⟩, hc⟩ : ∃ y, nextC salt L peer = y := ⟨_, rfl⟩
          have HC := Lib.hid hc
          have HF := Lib.hid (nextC_few HG.out hc)
          clear hc
          go_wp2_with fail
          with_reducible refine (pairT_next _ _ R _ salt L L _ HQ.out peer m c HC.out).mono ?_
          rintro e w3 ⟨a3, cp3, rfl, i3, b3⟩
          have H3 := Lib.hid (HQ.out.kept b3)
          have I3 := Lib.hid i3
          clear i3 b3
          go_wp2_with fail
          with_reducible refine (pairT_refnext _ _ R _ salt L L _ H3.out peer m c HC.out).mono ?_
          rintro e w4 ⟨a4, cp4, rfl, i4, b4⟩
          have H4 := Lib.hid (H3.out.kept b4)
          have I34 := Lib.hid (idsAt_kept b4 I3.out)
          have I4 := Lib.hid i4
          clear i4 b4
          go_wp2_with fail
          with_reducible refine (eqID_is m m a3 a4 cp3 cp4 _ true HF.out I34.out I4.out (ids_self m)).mono ?_
          rintro e w5 ⟨rfl, rfl⟩
          go_wp2_with fail
          with_reducible refine (pairT_last _ _ R _ salt L L _ H4.out).mono ?_
          rintro e w6 ⟨rfl, h6⟩
          have HB := Lib.hid h6
          clear h6
          go_wp2_with fail
          go_ret
          exact ⟨rfl, HB.out⟩
end Go.Proofs.Ytamiddnkgjfdhaa
