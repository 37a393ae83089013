/-
  The laws of filters that need no reference: RingTwice (two filters at a time).
-/
import Derived.Test.YtagbcgbngdfapaaRingLaws1
namespace Go.Proofs.Ytagbcgbngdfapaa
open Go.RowKit Go.Maps

/-- Two filters that the call has made since the world w, and that share nothing. -/
def Held2 (w wr : World) (R : Nat) (s : RingS) (R' : Nat) (s' : RingS) : Prop :=
  ∃ F G, RingAt wr F R s ∧ RingAt wr G R' s' ∧ Apart F G ∧ (∀ k, F k → w.heap.size ≤ k) ∧ (∀ k, G k → w.heap.size ≤ k) ∧ Below w.heap.size w wr
theorem held2_swap {w wr : World} {R R' : Nat} {s s' : RingS} (h : Held2 w wr R s R' s') : Held2 w wr R' s' R s := by
  obtain ⟨F, G, h1, h2, h3, h4, h5, h6⟩ := h
  exact ⟨G, F, h2, h1, h3.symm, h5, h4, h6⟩
theorem held2_one {w wr : World} {R R' : Nat} {s s' : RingS} (h : Held2 w wr R s R' s') : Held w wr R s := by
  obtain ⟨F, G, h1, h2, h3, h4, h5, h6⟩ := h
  exact ⟨F, h1, h4, h6⟩
theorem held2_new (w0 : World) (m : Int) (n : Nat) (hm : (n : Int) = m) (R : Nat) (s : RingS) (w : World) (h : Held w0 w R s) (h1 : 1 ≤ n) (h2 : n ≤ 50) :
    Calls Try.prog 8 #[.int .i64 m] w fun e w' => ∃ R', e = .returned (.tuple #[.pointer (some ⟨R', 0, none⟩), .int .i64 0]) ∧ Held2 w0 w' R s R' (RingS.none n) := by
  obtain ⟨F, g1, g2, g3⟩ := h
  exact (ring_new_at m n hm w h1 h2).mono fun _ _ ⟨R', G, he, hr, ha, hb'⟩ => ⟨R', he, F, G, ringAt_kept g1 hb', hr, fun k hf hg => by have := ringAt_there g1 k hf; have := ha k hg; omega, g2, fun k hk => Nat.le_trans g3.size (ha k hk), kept_trans g3 hb'⟩
theorem held2_put (w0 : World) (R R' : Nat) (s s1 s' : RingS) (x : UInt64) (hs : s.put x = s1) (w : World) (h : Held2 w0 w R s R' s') (hg : s.Good) :
    Calls Try.prog 10 #[.pointer (some ⟨R, 0, none⟩), .int .u64 x.toNat] w fun e w' => e = .returned (.tuple #[]) ∧ Held2 w0 w' R s1 R' s' := by
  obtain ⟨F, G, h1, h2, h3, h4, h5, h6⟩ := h
  exact (ring_put_at _ x rfl F R s s1 hs w h1 hg).mono fun _ _ ⟨he, F', hr, ht⟩ => ⟨he, F', G, hr, ringAt_turn h2 ht h3.symm, ht.apart h3 (ringAt_there h2), ht.above h4 h6.size, h5, h6.trans (ht.below h4 h6.size)⟩
theorem held2_count (w0 : World) (R R' : Nat) (s s' : RingS) (k : Nat) (hk : s.count = k) (w : World) (h : Held2 w0 w R s R' s') (hg : s.Good) :
    Calls Try.prog 12 #[.pointer (some ⟨R, 0, none⟩)] w fun e w' => e = .returned (.int .i64 k) ∧ Held2 w0 w' R s R' s' := by
  obtain ⟨F, G, h1, h2, h3, h4, h5, h6⟩ := h
  exact (ring_count F R s k hk w h1 hg).mono fun _ _ ⟨he, hb⟩ => ⟨he, F, G, ringAt_kept h1 hb, ringAt_kept h2 hb, h3, h4, h5, kept_trans h6 hb⟩

set_option maxHeartbeats 1000000 in
theorem ringTwice_walk (n : Int) (l : List UInt64) (a : Option Addr) (cap : Nat) (x : UInt64) (_hn : -9223372036854775808 ≤ n ∧ n ≤ 9223372036854775807) (hl : l.length ≤ maxLen) (w : World) (hi : IdsAt w a l) :
    Calls Try.prog 6 #[.int .i64 n, .slice a l.length cap, .int .u64 x.toNat] w fun e w' => e = .returned (.bool true) ∧ Below w.heap.size w w' := by
  obtain ⟨m, hm, hm2⟩ := rest50 n
  have HM := Lib.hid hm
  clear hm _hn
  unfold maxLen at hl
  go_enter Try.func6, Try.ntmps6
  go_wp2_with fail
  with_reducible refine (ringed_any _).mono ?_
  rintro e w1 ⟨rfl, hb1⟩
  go_wp2_with fail
  with_reducible refine (rest_is n 50 m _ (by decide) (by decide) HM.out).mono ?_
  rintro e w2 ⟨rfl, rfl⟩
  go_wp2_with fail
  with_reducible refine (held_new w _ (m + 1) (by simp) _ hb1 (by omega) (by omega)).mono ?_
  rintro e w3 ⟨R, rfl, h3⟩
  clear hb1
  go_wp2_with fail
  with_reducible refine (held2_new w _ (m + 1) (by simp) R _ _ h3 (by omega) (by omega)).mono ?_
  rintro e w4 ⟨R', rfl, h4⟩
  clear h3
  go_wp2_with fail
  go_loopw [44] (fun i wr => ∃ k : Nat, k ≤ l.length ∧ i = .int .i64 k ∧ Hid (Held2 w wr R ((RingS.none (m + 1)).puts (l.take k)) R' ((RingS.none (m + 1)).puts (l.take k)))) (fun i _ => l.length - (intOf i).toNat)
  case atStart => exact ⟨0, Nat.zero_le _, rfl, Lib.hid h4⟩
  case round =>
    obtain ⟨k, hk, rfl, HR⟩ := hrel
    by_cases hlt : k < l.length
    · obtain ⟨b, o, rfl, hb, hd⟩ := idsAt_kept (held_below (held2_one HR.out)) hi k hlt
      have hgood : ((RingS.none (m + 1)).puts (l.take k)).Good := puts_good (none_good (by omega) (by omega)) _
      have hgood2 := put_good hgood l[k]
      go_wp2_with fail
      with_reducible refine (held2_put w R R' _ _ _ l[k] rfl _ HR.out hgood).mono ?_
      rintro e w5 ⟨rfl, h5⟩
      go_wp2_with fail
      with_reducible refine (held2_put w R' R _ _ _ l[k] rfl _ (held2_swap h5) hgood).mono ?_
      rintro e w6 ⟨rfl, h6⟩
      go_wp2_with fail
      with_reducible refine (held2_put w R' R _ _ _ l[k] (put_put _ _) _ h6 hgood2).mono ?_
      rintro e w7 ⟨rfl, h7⟩
      have H7 := held2_swap h7
      rw [← puts_take _ hlt] at H7
      clear h5 h6 h7
      go_wp2_with fail
      go_roundw
      case rel => exact ⟨k + 1, by omega, by go_num, Lib.hid H7⟩
      case measure => simp [intOf]; omega
    · have he : l.take k = l := List.take_of_length_le (by omega)
      have h5 := HR.out
      rw [he] at h5
      clear HR he
      have hgood : ((RingS.none (m + 1)).puts l).Good := puts_good (none_good (by omega) (by omega)) _
      generalize hs : (RingS.none (m + 1)).puts l = s at h5 hgood
      obtain ⟨cnt, hcnt⟩ : ∃ cnt, s.count = cnt := ⟨_, rfl⟩
      obtain ⟨r, hr⟩ : ∃ r, s.has x = r := ⟨_, rfl⟩
      clear hs
      go_wp2_with fail
      with_reducible refine (held2_count w R R' s s cnt hcnt _ h5 hgood).mono ?_
      rintro e w6 ⟨rfl, h6⟩
      go_wp2_with fail
      with_reducible refine (held2_count w R' R s s cnt hcnt _ (held2_swap h6) hgood).mono ?_
      rintro e w7 ⟨rfl, h7⟩
      clear h5 h6
      go_wp2_with fail
      with_reducible refine (held_has w R s x r hr _ (held2_one (held2_swap h7))).mono ?_
      rintro e w8 ⟨rfl, rfl⟩
      go_wp2_with fail
      with_reducible refine (held_has w R' s x r hr _ (held2_one h7)).mono ?_
      rintro e w8 ⟨rfl, rfl⟩
      go_wp2_with fail
      go_ret
      exact ⟨rfl, held_below (held2_one h7)⟩
end Go.Proofs.Ytagbcgbngdfapaa
