/-
  The laws of filters that need no reference: the closed fact, RingNone, RingTwice.
-/
import Derived.Test.YtagbcgbngdfapaaRingWalks3
import Derived.Test.YtagbcgbngdfapaaRest
import Derived.Test.YtagbcgbngdfapaaIdOpen
namespace Go.Proofs.Ytagbcgbngdfapaa
open Go.RowKit Go.Maps Go.ChangeShapes Go.WideShapes

theorem ring_new_at (m : Int) (n : Nat) (hm : (n : Int) = m) (w : World) (h1 : 1 ≤ n) (h2 : n ≤ 50) :
    Calls Try.prog 8 #[.int .i64 m] w fun e w' => ∃ R F, e = .returned (.tuple #[.pointer (some ⟨R, 0, none⟩), .int .i64 0]) ∧ RingAt w' F R (RingS.none n) ∧ (∀ k, F k → w.heap.size ≤ k) ∧ Below w.heap.size w w' := by
  subst hm
  exact (ring_new n w h1 h2).mono fun e w' ⟨he, hr, hb⟩ => ⟨_, _, he, hr, fun k hk => by omega, hb⟩
theorem ring_put_at (m : Int) (x : UInt64) (hm : (x.toNat : Int) = m) (F : Nat → Prop) (R : Nat) (s s' : RingS) (hs : s.put x = s') (w : World) (h : RingAt w F R s) (hg : s.Good) :
    Calls Try.prog 10 #[.pointer (some ⟨R, 0, none⟩), .int .u64 m] w fun e w' => e = .returned (.tuple #[]) ∧ ∃ F', RingAt w' F' R s' ∧ Turn F F' w w' := by
  subst hm hs
  exact ring_put F R s x w h hg
theorem ring_has_at (m : Int) (x : UInt64) (hm : (x.toNat : Int) = m) (F : Nat → Prop) (R : Nat) (s : RingS) (r : Bool) (hr : s.has x = r) (w : World) (h : RingAt w F R s) :
    Calls Try.prog 14 #[.pointer (some ⟨R, 0, none⟩), .int .u64 m] w fun e w' => e = .returned (.bool r) ∧ w = w' := by
  subst hm
  exact ring_has F R s x r hr w h

theorem ringed_any (w : World) : Calls Try.prog 16 #[] w fun e w' => e = .returned (.bool true) ∧ Below w.heap.size w w' := by
  go_enter Try.func16, Try.ntmps16
  go_wp2_with fail
  with_reducible refine (ring_new_at 1 1 rfl _ (by decide) (by decide)).mono ?_
  rintro e w1 ⟨R, F0, rfl, r0, a0, b0⟩
  go_wp2_with fail
  with_reducible refine (ring_put_at 1 1 rfl F0 R _ ⟨1, [1], []⟩ rfl _ r0 (none_good (by decide) (by decide))).mono ?_
  rintro e w2 ⟨rfl, F1, r1, t1⟩
  go_wp2_with fail
  with_reducible refine (ring_put_at 2 2 rfl F1 R _ ⟨1, [2], [1]⟩ rfl _ r1 (by unfold RingS.Good; decide)).mono ?_
  rintro e w3 ⟨rfl, F2, r2, t2⟩
  go_wp2_with fail
  with_reducible refine (ring_put_at 3 3 rfl F2 R _ ⟨1, [3], [2]⟩ rfl _ r2 (by unfold RingS.Good; decide)).mono ?_
  rintro e w4 ⟨rfl, F3, r3, t3⟩
  have hb : Below w.heap.size w w4 := b0.trans (((t1.trans t2).trans t3).below a0 b0.size)
  clear t1 t2 t3 r0 r1 r2
  go_wp2_with fail
  with_reducible refine (ring_has_at 3 3 rfl F3 R _ true rfl _ r3).mono ?_
  rintro e w5 ⟨rfl, rfl⟩
  go_wp2_with fail
  with_reducible refine (ring_has_at 2 2 rfl F3 R _ true rfl _ r3).mono ?_
  rintro e w5 ⟨rfl, rfl⟩
  go_wp2_with fail
  with_reducible refine (ring_has_at 1 1 rfl F3 R _ false rfl _ r3).mono ?_
  rintro e w5 ⟨rfl, rfl⟩
  go_wp2_with fail
  go_ret
  exact ⟨rfl, hb⟩

/-- A filter that the call has made since the world w: nothing that was there has turned. -/
def Held (w wr : World) (R : Nat) (s : RingS) : Prop := ∃ F, RingAt wr F R s ∧ (∀ k, F k → w.heap.size ≤ k) ∧ Below w.heap.size w wr
theorem held_kept {w wr w' : World} {R : Nat} {s : RingS} (h : Held w wr R s) (hb : Below wr.heap.size wr w') : Held w w' R s := by
  obtain ⟨F, h1, h2, h3⟩ := h
  exact ⟨F, ringAt_kept h1 hb, h2, kept_trans h3 hb⟩
theorem held_below {w wr : World} {R : Nat} {s : RingS} (h : Held w wr R s) : Below w.heap.size w wr := by
  obtain ⟨F, _, _, h3⟩ := h
  exact h3
theorem held_new (w0 : World) (m : Int) (n : Nat) (hm : (n : Int) = m) (w : World) (hb : Below w0.heap.size w0 w) (h1 : 1 ≤ n) (h2 : n ≤ 50) :
    Calls Try.prog 8 #[.int .i64 m] w fun e w' => ∃ R, e = .returned (.tuple #[.pointer (some ⟨R, 0, none⟩), .int .i64 0]) ∧ Held w0 w' R (RingS.none n) :=
  (ring_new_at m n hm w h1 h2).mono fun _ _ ⟨R, F, he, hr, ha, hb'⟩ => ⟨R, he, F, hr, fun k hk => Nat.le_trans hb.size (ha k hk), kept_trans hb hb'⟩
theorem held_put (w0 : World) (R : Nat) (s s' : RingS) (x : UInt64) (hs : s.put x = s') (w : World) (h : Held w0 w R s) (hg : s.Good) :
    Calls Try.prog 10 #[.pointer (some ⟨R, 0, none⟩), .int .u64 x.toNat] w fun e w' => e = .returned (.tuple #[]) ∧ Held w0 w' R s' := by
  obtain ⟨F, h1, h2, h3⟩ := h
  exact (ring_put_at _ x rfl F R s s' hs w h1 hg).mono fun e w' ⟨he, F', hr, ht⟩ => ⟨he, F', hr, ht.above h2 h3.size, h3.trans (ht.below h2 h3.size)⟩
theorem held_has (w0 : World) (R : Nat) (s : RingS) (x : UInt64) (r : Bool) (hr : s.has x = r) (w : World) (h : Held w0 w R s) :
    Calls Try.prog 14 #[.pointer (some ⟨R, 0, none⟩), .int .u64 x.toNat] w fun e w' => e = .returned (.bool r) ∧ w = w' := by
  obtain ⟨F, h1, h2, h3⟩ := h
  exact ring_has F R s x r hr w h1
theorem held_count (w0 : World) (R : Nat) (s : RingS) (k : Nat) (hk : s.count = k) (w : World) (h : Held w0 w R s) (hg : s.Good) :
    Calls Try.prog 12 #[.pointer (some ⟨R, 0, none⟩)] w fun e w' => e = .returned (.int .i64 k) ∧ Held w0 w' R s := by
  have h' := h
  obtain ⟨F, h1, h2, h3⟩ := h
  exact (ring_count F R s k hk w h1 hg).mono fun e w' ⟨he, hb⟩ => ⟨he, held_kept h' hb⟩
theorem held_reset (w0 : World) (R : Nat) (s : RingS) (n : Nat) (hn : s.size = n) (w : World) (h : Held w0 w R s) :
    Calls Try.prog 9 #[.pointer (some ⟨R, 0, none⟩)] w fun e w' => e = .returned (.tuple #[]) ∧ Held w0 w' R (RingS.none n) := by
  subst hn
  obtain ⟨F, h1, h2, h3⟩ := h
  exact (ring_reset F R s w h1).mono fun e w' ⟨he, hr, ht⟩ => ⟨he, F, hr, h2, h3.trans (ht.below h2 h3.size)⟩
theorem u64_next (y : UInt64) : IntKind.u64.wrap ((y.toNat : Int) + 1) = ((y + 1).toNat : Int) := by
  rw [UInt64.toNat_add]
  have e : (1 : UInt64).toNat = 1 := rfl
  have hy := y.toNat_lt
  rw [e]
  show ((y.toNat : Int) + 1) % 18446744073709551616 = _
  omega
theorem rest50 (n : Int) : ∃ m : Nat, n % 50 = (m : Int) ∧ m < 50 := ⟨(n % 50).toNat, by omega, by omega⟩

theorem ringNone_walk (n : Int) (l : List UInt64) (a : Option Addr) (cap : Nat) (x : UInt64) (_hn : -9223372036854775808 ≤ n ∧ n ≤ 9223372036854775807) (hl : l.length ≤ maxLen) (w : World) (hi : IdsAt w a l) :
    Calls Try.prog 5 #[.int .i64 n, .slice a l.length cap, .int .u64 x.toNat] w fun e w' => e = .returned (.bool true) ∧ Below w.heap.size w w' := by
  obtain ⟨m, hm, hm2⟩ := rest50 n
  have HM := Lib.hid hm
  clear hm _hn
  have hl' := hl
  unfold maxLen at hl
  go_enter Try.func5, Try.ntmps5
  go_wp2_with fail
  with_reducible refine (ringed_any _).mono ?_
  rintro e w1 ⟨rfl, hb1⟩
  go_wp2_with fail
  with_reducible refine (rest_is n 50 m _ (by decide) (by decide) HM.out).mono ?_
  rintro e w2 ⟨rfl, rfl⟩
  go_wp2_with fail
  with_reducible refine (held_new w _ (m + 1) (by simp) _ hb1 (by omega) (by omega)).mono ?_
  rintro e w3 ⟨R, rfl, h3⟩
  clear hb1
  go_wp2_with fail
  go_loopw [29] (fun i wr => ∃ k : Nat, k ≤ l.length ∧ i = .int .i64 k ∧ Hid (Held w wr R ((RingS.none (m + 1)).puts (l.take k)))) (fun i _ => l.length - (intOf i).toNat)
  case atStart => exact ⟨0, Nat.zero_le _, rfl, Lib.hid h3⟩
  case round =>
    obtain ⟨k, hk, rfl, HR⟩ := hrel
    by_cases hlt : k < l.length
    · obtain ⟨b, o, rfl, hb, hd⟩ := idsAt_kept (held_below HR.out) hi k hlt
      go_wp2_with fail
      with_reducible refine (held_put w R _ _ l[k] (puts_take _ hlt).symm _ HR.out (puts_good (none_good (by omega) (by omega)) _)).mono ?_
      rintro e w4 ⟨rfl, h4⟩
      go_wp2_with fail
      go_roundw
      case rel => exact ⟨k + 1, by omega, by go_num, Lib.hid h4⟩
      case measure => simp [intOf]; omega
    · have he : l.take k = l := List.take_of_length_le (by omega)
      have h4 := HR.out
      rw [he] at h4
      clear HR he
      have hgood : ((RingS.none (m + 1)).puts l).Good := puts_good (none_good (by omega) (by omega)) _
      have hi4 := idsAt_kept (held_below h4) hi
      cases hx : ((RingS.none (m + 1)).puts l).has x with
      | true =>
        have hin : l.contains x = true := List.contains_iff_mem.2 ((puts_from hx).resolve_left (by rw [none_has]; decide))
        go_wp2_with fail
        with_reducible refine (held_has w R _ x true hx _ h4).mono ?_
        rintro e w5 ⟨rfl, rfl⟩
        go_wp2_with fail
        with_reducible refine (hasID_any l x true (Lib.hid hin) _ _ _ hl' hi4).mono ?_
        rintro e w5 ⟨rfl, rfl⟩
        go_wp2_with fail
        with_reducible refine (held_reset w R _ (m + 1) (puts_size _ _) _ h4).mono ?_
        rintro e w6 ⟨rfl, h6⟩
        go_wp2_with fail
        with_reducible refine (held_has w R _ x false (none_has _ _) _ h6).mono ?_
        rintro e w7 ⟨rfl, rfl⟩
        go_wp2_with fail
        with_reducible refine (held_count w R _ 0 (none_count _) _ h6 (none_good (by omega) (by omega))).mono ?_
        rintro e w8 ⟨rfl, h8⟩
        go_wp2_with fail
        go_ret
        exact ⟨rfl, held_below h8⟩
      | false =>
        go_wp2_with fail
        with_reducible refine (held_has w R _ x false hx _ h4).mono ?_
        rintro e w5 ⟨rfl, rfl⟩
        go_wp2_with fail
        with_reducible refine (held_reset w R _ (m + 1) (puts_size _ _) _ h4).mono ?_
        rintro e w6 ⟨rfl, h6⟩
        go_wp2_with fail
        with_reducible refine (held_has w R _ x false (none_has _ _) _ h6).mono ?_
        rintro e w7 ⟨rfl, rfl⟩
        go_wp2_with fail
        with_reducible refine (held_count w R _ 0 (none_count _) _ h6 (none_good (by omega) (by omega))).mono ?_
        rintro e w8 ⟨rfl, h8⟩
        go_wp2_with fail
        go_ret
        exact ⟨rfl, held_below h8⟩
end Go.Proofs.Ytagbcgbngdfapaa
