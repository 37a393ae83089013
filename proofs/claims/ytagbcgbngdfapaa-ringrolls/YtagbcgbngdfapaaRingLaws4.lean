/-
  The laws of filters that need no reference: RingRolls.
-/
import Derived.Test.YtagbcgbngdfapaaRingLaws1
import Derived.Test.YtagbcgbngdfapaaRingMath2
import Derived.Test.YtagbcgbngdfapaaIdsOwn
namespace Go.Proofs.Ytagbcgbngdfapaa
open Go.RowKit Go.Maps

/-- A filter of the call's own beside blocks G that stay as they were in w5. -/
def HeldBy (w w5 : World) (G : Nat → Prop) (wr : World) (R : Nat) (s : RingS) : Prop :=
  ∃ F, RingAt wr F R s ∧ Apart F G ∧ (∀ k, F k → w.heap.size ≤ k) ∧ Below w.heap.size w wr ∧ w5.heap.size ≤ wr.heap.size ∧ There w5 G ∧ ∀ k, G k → wr.heap[k]? = w5.heap[k]?
theorem heldBy_of {w wB w5 : World} {R : Nat} {s : RingS} (h : Held w wB R s) (hb : Below wB.heap.size wB w5) : HeldBy w w5 (fun k => wB.heap.size ≤ k ∧ k < w5.heap.size) w5 R s := by
  obtain ⟨F, h1, h2, h3⟩ := h
  exact ⟨F, ringAt_kept h1 hb, fun k hf hg => by have := ringAt_there h1 k hf; omega, h2, kept_trans h3 hb, Nat.le_refl _, fun k hk => hk.2, fun _ _ => rfl⟩
theorem heldBy_held {w w5 wr : World} {G : Nat → Prop} {R : Nat} {s : RingS} (h : HeldBy w w5 G wr R s) : Held w wr R s := by
  obtain ⟨F, h1, _, h3, h4, _⟩ := h
  exact ⟨F, h1, h3, h4⟩
theorem heldBy_ids {w w5 wr : World} {G : Nat → Prop} {R : Nat} {s : RingS} (h : HeldBy w w5 G wr R s) {a : Option Addr} {l : List UInt64} (hi : IdsAt w5 a l) (ha : ∀ b o, a = some ⟨b, o, none⟩ → b < w5.heap.size → G b) : IdsAt wr a l := fun i hl => by
  obtain ⟨b, o, e, hb, c⟩ := hi i hl
  obtain ⟨F, _, _, _, _, hs, _, hk⟩ := h
  exact ⟨b, o, e, Nat.lt_of_lt_of_le hb hs, (World.cell?_of_block (a := ⟨b, o + i, none⟩) (hk b (ha b o e hb))).trans c⟩
theorem heldBy_put (w0 w5 : World) (G : Nat → Prop) (R : Nat) (s s' : RingS) (x : UInt64) (hs : s.put x = s') (w : World) (h : HeldBy w0 w5 G w R s) (hg : s.Good) :
    Calls Try.prog 10 #[.pointer (some ⟨R, 0, none⟩), .int .u64 x.toNat] w fun e w' => e = .returned (.tuple #[]) ∧ HeldBy w0 w5 G w' R s' := by
  obtain ⟨F, h1, h2, h3, h4, h5, h6, h7⟩ := h
  exact (ring_put_at _ x rfl F R s s' hs w h1 hg).mono fun _ _ ⟨he, F', hr, ht⟩ =>
    ⟨he, F', hr, ht.apart h2 (fun k hk => Nat.lt_of_lt_of_le (h6 k hk) h5), ht.above h3 h4.size, h4.trans (ht.below h3 h4.size), Nat.le_trans h5 ht.size, h6, fun k hk => (ht.block k (Nat.lt_of_lt_of_le (h6 k hk) h5) (fun hf => h2 k hf hk)).trans (h7 k hk)⟩

/-- How far the search has come, read off the number in its slot. -/
def stepOf (x : UInt64) (v : Value) : Nat := ((intOf v - (x.toNat + 1)) % 18446744073709551616).toNat
theorem stepOf_at (x : UInt64) (j : Nat) (h : j ≤ 1000) : stepOf x (.int .u64 (x + 1 + UInt64.ofNat j).toNat) = j := by
  unfold stepOf intOf
  rw [behind_at x j h]
  rfl
set_option maxHeartbeats 1000000 in
theorem ringRolls_walk (n : Int) (l : List UInt64) (a : Option Addr) (cap : Nat) (x : UInt64) (_hn : -9223372036854775808 ≤ n ∧ n ≤ 9223372036854775807) (hl : l.length ≤ maxLen) (w : World) (hi : IdsAt w a l) :
    Calls Try.prog 7 #[.int .i64 n, .slice a l.length cap, .int .u64 x.toNat] w fun e w' => e = .returned (.bool true) ∧ Below w.heap.size w w' := by
  obtain ⟨m, hm, hm2⟩ := rest50 n
  have HM := Lib.hid hm
  clear hm _hn
  unfold maxLen at hl
  go_enter Try.func7, Try.ntmps7
  go_wp2_with fail
  with_reducible refine (ringed_any _).mono ?_
  rintro e w1 ⟨rfl, hb1⟩
  go_wp2_with fail
  with_reducible refine (rest_is n 50 m _ (by decide) (by decide) HM.out).mono ?_
  rintro e w2 ⟨rfl, rfl⟩
  go_wp2_with fail
  with_reducible refine (held_new w _ (m + 1) (by simp) _ hb1 (by omega) (by omega)).mono ?_
  rintro e w3 ⟨R, rfl, h3⟩
  clear hb1
  go_wp2_with fail
  go_loopw [33] (fun i wr => ∃ k : Nat, k ≤ l.length ∧ i = .int .i64 k ∧ Hid (Held w wr R ((RingS.none (m + 1)).puts (l.take k)))) (fun i _ => l.length - (intOf i).toNat)
  case atStart => exact ⟨0, Nat.zero_le _, rfl, Lib.hid h3⟩
  case round =>
    obtain ⟨k, hk, rfl, HR⟩ := hrel
    by_cases hlt : k < l.length
    · obtain ⟨b, o, rfl, hb, hd⟩ := idsAt_kept (held_below HR.out) hi k hlt
      go_wp2_with fail
      with_reducible refine (held_put w R _ _ l[k] (puts_take _ hlt).symm _ HR.out (puts_good (none_good (by omega) (by omega)) _)).mono ?_
      rintro e w4 ⟨rfl, h4⟩
      go_wp2_with fail
      go_roundw
      case rel => exact ⟨k + 1, by omega, by go_num, Lib.hid h4⟩
      case measure => simp [intOf]; omega
    · have he : l.take k = l := List.take_of_length_le (by omega)
      have h4 := HR.out
      rw [he] at h4
      clear HR he
      obtain rfl : k = l.length := by omega
      have hgood0 : ((RingS.none (m + 1)).puts l).Good := puts_good (none_good (by omega) (by omega)) _
      have hgood := put_good hgood0 x
      have hsz : (((RingS.none (m + 1)).puts l).put x).size = m + 1 := (put_size _ _).trans (puts_size _ _)
      have hmem := put_mem ((RingS.none (m + 1)).puts l) x
      go_wp2_with fail
      with_reducible refine (held_put w R _ _ x rfl _ h4 hgood0).mono ?_
      rintro e wB ⟨rfl, hB⟩
      generalize hs : ((RingS.none (m + 1)).puts l).put x = s at hB hgood hsz hmem
      have HB := Lib.hid hB
      have HG := Lib.hid hgood
      have HZ := Lib.hid hsz
      have HX := Lib.hid hmem
      clear hs h4 hB hgood0 hgood hsz hmem hi hlt hk
      go_wp2_with fail
      go_loopw [11, 12] (fun v yv w5 => ∃ (j : Nat) (y : UInt64), j ≤ 4 * (m + 1) ∧ yv = .int .u64 y.toNat ∧ Hid (x + 1 + UInt64.ofNat j = y) ∧ Hid (OwnIds w5 wB.heap.size v (news s x j)) ∧ (news s x j).length ≤ 2 * (m + 1) ∧ Below wB.heap.size wB w5) (fun _ yv _ => 201 - stepOf x yv)
      case atStart => exact ⟨0, x + 1, Nat.zero_le _, by rw [u64_next], Lib.hid (by simp), Lib.hid (ownIds_nil _ _), Nat.zero_le _, Below.refl _ _⟩
      case round =>
        obtain ⟨j, y, hj, rfl, HY, HO, hnl, hbel⟩ := hrel
        have hown := HO.out
        have HMANY := Lib.hid (news_many HG.out x j (by omega))
        obtain ⟨d, hd⟩ : ∃ d, news s x j = d := ⟨_, rfl⟩
        have HD := Lib.hid hd
        rw [hd] at hown hnl
        clear hd HO
        have HO := Lib.hid hown
        obtain ⟨va, vc, rfl, hvc, hva, hfr⟩ := owns_idsAt hown
        clear hown
        by_cases hfull : d.length < 2 * (m + 1)
        · have hfi : (d.length : Int) < 2 * ((m : Int) + 1) := by omega
          have hj4 : j < 4 * (m + 1) := by
            have := HMANY.out
            rw [HD.out, HZ.out] at this
            omega
          have HS0 := Lib.hid (stepOf_at x j (by omega))
          have HS1 := Lib.hid (stepOf_at x (j + 1) (by omega))
          have HN : Hid (x + 1 + UInt64.ofNat (j + 1) = y + 1) := Lib.hid (by rw [← HY.out, next_behind])
          clear HMANY
          cases hc : s.has y with
          | true =>
            go_wp2_with fail
            with_reducible refine (held_has w R s y true hc _ (held_kept HB.out hbel)).mono ?_
            rintro e w6 ⟨rfl, rfl⟩
            have HC := Lib.hid hc
            clear hc
            go_wp2_with fail
            go_roundw
            case rel =>
              have e : news s x (j + 1) = d := (news_yes (by rw [HY.out]; exact HC.out)).trans HD.out
              exact ⟨j + 1, y + 1, by omega, by rw [u64_next], HN, by rw [e]; exact HO, by rw [e]; exact hnl, hbel⟩
            case measure =>
              rw [u64_next, ← HN.out, HS1.out, ← HY.out, HS0.out]
              omega
          | false =>
            go_wp2_with fail
            with_reducible refine (held_has w R s y false hc _ (held_kept HB.out hbel)).mono ?_
            rintro e w6 ⟨rfl, rfl⟩
            have HC := Lib.hid hc
            clear hc
            go_wp2_with (at_builtin; refine append_id rfl _ _ rfl y rfl rfl HO.out (by omega) hbel.size ?_; intro g vc2 w6 ho6 hg6 hg6')
            have hb6 : Below wB.heap.size wB w6 := hbel.grown hg6' hbel.size (fun k hk => (ownIds_block HO.out k hk).1)
            go_roundw
            case rel =>
              have e : news s x (j + 1) = d ++ [y] := (news_no (by rw [HY.out]; exact HC.out)).trans (by rw [HD.out, HY.out])
              exact ⟨j + 1, y + 1, by omega, by rw [u64_next], HN, by rw [e]; exact Lib.hid ho6, by rw [e]; simp; omega, hb6⟩
            case measure =>
              rw [u64_next, ← HN.out, HS1.out, ← HY.out, HS0.out]
              omega
        · have hfi : ¬ (d.length : Int) < 2 * ((m : Int) + 1) := by omega
          have hdl : d.length = 2 * (m + 1) := by omega
          have HROLL : Hid ((s.puts d).has x = false) := Lib.hid (rolls HG.out x HX.out d (by rw [← HD.out]; exact news_nodup s x j (by omega)) (fun z hz => by rw [← HD.out] at hz; exact news_new z hz) (by rw [hdl, HZ.out]))
          have hby := heldBy_of HB.out hbel
          obtain ⟨w5, hw5⟩ : ∃ q, q = wr := ⟨_, rfl⟩
          subst hw5
          have HBY := Lib.hid hby
          have hfresh : ∀ b o, va = some ⟨b, o, none⟩ → b < w5.heap.size → wB.heap.size ≤ b ∧ b < w5.heap.size := fun b o e hlt => ⟨hfr b o none e, hlt⟩
          clear hby HO HD HMANY HY
          go_wp2_with fail
          go_loopw [63] (fun i w6 => ∃ k : Nat, k ≤ d.length ∧ i = .int .i64 k ∧ Hid (HeldBy w w5 (fun k => wB.heap.size ≤ k ∧ k < w5.heap.size) w6 R (s.puts (d.take k)))) (fun i _ => d.length - (intOf i).toNat)
          case atStart => exact ⟨0, Nat.zero_le _, rfl, HBY⟩
          case round =>
            obtain ⟨k, hk, rfl, HR⟩ := hrel
            by_cases hlt : k < d.length
            · obtain ⟨b, o, rfl, hb, hd⟩ := heldBy_ids HR.out hva hfresh k hlt
              go_wp2_with fail
              with_reducible refine (heldBy_put w w5 _ R _ _ d[k] (puts_take _ hlt).symm _ HR.out (puts_good HG.out _)).mono ?_
              rintro e w7 ⟨rfl, h7⟩
              go_wp2_with fail
              go_roundw
              case rel => exact ⟨k + 1, by omega, by go_num, Lib.hid h7⟩
              case measure => simp [intOf]; omega
            · have he : d.take k = d := List.take_of_length_le (by omega)
              have h7 := HR.out
              rw [he] at h7
              clear HR he
              go_wp2_with fail
              with_reducible refine (held_has w R _ x false HROLL.out _ (heldBy_held h7)).mono ?_
              rintro e w8 ⟨rfl, rfl⟩
              go_wp2_with fail
              go_ret
              exact ⟨rfl, held_below (heldBy_held h7)⟩
end Go.Proofs.Ytagbcgbngdfapaa
