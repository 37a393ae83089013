/-
  The law that holds a filter against the reference's: RingDoes.
-/
import Derived.Test.YtagbcgbngdfapaaRingLaws1
import Derived.Test.YtagbcgbngdfapaaRingRef2
import Derived.Test.YtagbcgbngdfapaaOpsOpen
import Derived.Deep.RegionHeld3
namespace Go.Proofs.Ytagbcgbngdfapaa
open Go.RowKit Go.Maps

/-- A filter and the reference's, both made by the call since the world w; they share nothing, and blocks Z stay beside them as they were in w5. -/
def Pair (w w5 : World) (Z : Nat → Prop) (wr : World) (R B : Nat) (s t : RingS) : Prop :=
  ∃ F G, RingAt wr F R s ∧ RefAt wr G B t ∧ Apart F G ∧ Apart F Z ∧ Apart G Z ∧ (∀ k, F k → w.heap.size ≤ k) ∧ (∀ k, G k → w.heap.size ≤ k) ∧ Below w.heap.size w wr ∧ There wr Z ∧ ∀ k, Z k → wr.heap[k]? = w5.heap[k]?
theorem pair_kept {w w5 wr w' : World} {Z : Nat → Prop} {R B : Nat} {s t : RingS} (h : Pair w w5 Z wr R B s t) (hb : Below wr.heap.size wr w') : Pair w w5 Z w' R B s t := by
  obtain ⟨F, G, h1, h2, h3, z1, z2, h4, h5, h6, z3, z4⟩ := h
  exact ⟨F, G, ringAt_kept h1 hb, refAt_kept h2 hb, h3, z1, z2, h4, h5, kept_trans h6 hb, z3.later hb.size, fun k hk => (hb.block k (z3 k hk)).trans (z4 k hk)⟩
theorem pair_below {w w5 wr : World} {Z : Nat → Prop} {R B : Nat} {s t : RingS} (h : Pair w w5 Z wr R B s t) : Below w.heap.size w wr := by
  obtain ⟨F, G, h1, h2, h3, z1, z2, h4, h5, h6, z3, z4⟩ := h
  exact h6
theorem pair_cell {w w5 wr : World} {Z : Nat → Prop} {R B : Nat} {s t : RingS} (h : Pair w w5 Z wr R B s t) {b o : Nat} {v : Value} (hz : Z b) (hc : w5.cell? ⟨b, o, none⟩ = some v) : wr.cell? ⟨b, o, none⟩ = some v := by
  obtain ⟨F, G, h1, h2, h3, z1, z2, h4, h5, h6, z3, z4⟩ := h
  exact (World.cell?_of_block (a := ⟨b, o, none⟩) (z4 b hz)).trans hc
/-- One block more beside them. -/
theorem pair_beside {w w5 wr : World} {Z : Nat → Prop} {R B : Nat} {s t : RingS} (h : Pair w w5 Z wr R B s t) (o : Obj) : Pair w (wr.alloc o) (fun k => k = wr.heap.size) (wr.alloc o) R B s t := by
  obtain ⟨F, G, h1, h2, h3, z1, z2, h4, h5, h6, z3, z4⟩ := h
  exact ⟨F, G, ringAt_kept h1 (kept_new _ _), refAt_kept h2 (kept_new _ _), h3, fun k hf hz => by have := ringAt_there h1 k hf; omega, fun k hf hz => by have := refAt_there h2 k hf; omega, h4, h5, kept_alloc h6 _, fun k hk => by simp; omega, fun _ _ => rfl⟩
theorem pair_put (w0 w5 : World) (Z : Nat → Prop) (R B : Nat) (s t : RingS) (x : UInt64) (w : World) (h : Pair w0 w5 Z w R B s t) (hg : s.Good) :
    Calls Try.prog 10 #[.pointer (some ⟨R, 0, none⟩), .int .u64 x.toNat] w fun e w' => e = .returned (.tuple #[]) ∧ Pair w0 w5 Z w' R B (s.put x) t := by
  obtain ⟨F, G, h1, h2, h3, z1, z2, h4, h5, h6, z3, z4⟩ := h
  exact (ring_put F R s x w h1 hg).mono fun _ _ ⟨he, F', hr, ht⟩ =>
    ⟨he, F', G, hr, refAt_turn h2 ht h3.symm, ht.apart h3 (refAt_there h2), ht.apart z1 z3, z2, ht.above h4 h6.size, h5, h6.trans (ht.below h4 h6.size), z3.later ht.size, fun k hk => (ht.block k (z3 k hk) (fun hf => z1 k hf hk)).trans (z4 k hk)⟩
theorem pair_refput (w0 w5 : World) (Z : Nat → Prop) (R B : Nat) (s t : RingS) (x : UInt64) (w : World) (h : Pair w0 w5 Z w R B s t) (hg : t.Good) :
    Calls Try.prog 11 #[.pointer (some ⟨B, 0, none⟩), .int .u64 x.toNat] w fun e w' => e = .returned (.tuple #[]) ∧ Pair w0 w5 Z w' R B s (t.put x) := by
  obtain ⟨F, G, h1, h2, h3, z1, z2, h4, h5, h6, z3, z4⟩ := h
  exact (ref_put G B t _ x rfl w h2 hg).mono fun _ _ ⟨he, G', hr, ht⟩ =>
    ⟨he, F, G', ringAt_turn h1 ht h3, hr, (ht.apart h3.symm (ringAt_there h1)).symm, z1, ht.apart z2 z3, h4, ht.above h5 h6.size, h6.trans (ht.below h5 h6.size), z3.later ht.size, fun k hk => (ht.block k (z3 k hk) (fun hf => z2 k hf hk)).trans (z4 k hk)⟩
theorem pair_reset (w0 w5 : World) (Z : Nat → Prop) (R B : Nat) (s t : RingS) (m : Nat) (hm : s.size = m) (w : World) (h : Pair w0 w5 Z w R B s t) :
    Calls Try.prog 9 #[.pointer (some ⟨R, 0, none⟩)] w fun e w' => e = .returned (.tuple #[]) ∧ Pair w0 w5 Z w' R B (RingS.none m) t := by
  subst hm
  obtain ⟨F, G, h1, h2, h3, z1, z2, h4, h5, h6, z3, z4⟩ := h
  exact (ring_reset F R s w h1).mono fun _ _ ⟨he, hr, ht⟩ =>
    ⟨he, F, G, hr, refAt_turn h2 ht h3.symm, h3, z1, z2, h4, h5, h6.trans (ht.below h4 h6.size), z3.later ht.size, fun k hk => (ht.block k (z3 k hk) (fun hf => z1 k hf hk)).trans (z4 k hk)⟩
/-- The reference's filter is laid anew in its place. -/
theorem pair_anew {w0 w5 w : World} {Z : Nat → Prop} {R B : Nat} {s t : RingS} (h : Pair w0 w5 Z w R B s t) (m : Nat) :
    Pair w0 w5 Z (((w.setCell ⟨B, 0, none⟩ (.int .i64 m)).setCell ⟨B, 1, none⟩ (.slice none 0 0)).setCell ⟨B, 2, none⟩ (.slice none 0 0)) R B s (RingS.none m) := by
  obtain ⟨F, G, h1, h2, h3, z1, z2, h4, h5, h6, z3, z4⟩ := h
  obtain ⟨y, o, r1, r2, r3, r4, r5⟩ := h2
  have ht : Turn G G w (((w.setCell ⟨B, 0, none⟩ (.int .i64 m)).setCell ⟨B, 1, none⟩ (.slice none 0 0)).setCell ⟨B, 2, none⟩ (.slice none 0 0)) := ((Turn.set w ⟨B, 0, none⟩ _ r4).trans (Turn.set _ ⟨B, 1, none⟩ _ r4)).trans (Turn.set _ ⟨B, 2, none⟩ _ r4)
  exact ⟨F, G, ringAt_turn h1 ht h3, ⟨_, _, boxR_set2 (boxR_set1 (boxR_set0 r1)), rowAt_nil _ _ _, rowAt_nil _ _ _, r4, fun k hk => by simpa using r5 k hk⟩, h3, z1, z2, h4, h5, h6.trans (ht.below h5 h6.size), z3.later ht.size, fun k hk => (ht.block k (z3 k hk) (fun hf => z2 k hf hk)).trans (z4 k hk)⟩
theorem pair_refcells {w0 w5 w : World} {Z : Nat → Prop} {R B : Nat} {s t : RingS} (h : Pair w0 w5 Z w R B s t) :
    ∃ y o, (w.cell? ⟨B, 0, none⟩ = some (.int .i64 t.size) ∧ w.cell? ⟨B, 1, none⟩ = some y ∧ w.cell? ⟨B, 2, none⟩ = some o) ∧ w.frozen? ⟨B, 0, none⟩ = false ∧ w.frozen? ⟨B, 1, none⟩ = false ∧ w.frozen? ⟨B, 2, none⟩ = false := by
  obtain ⟨F, G, h1, h2, h3, z1, z2, h4, h5, h6, z3, z4⟩ := h
  obtain ⟨y, o, r1, r2, r3, r4, r5⟩ := h2
  exact ⟨y, o, boxR_cells r1⟩
theorem pair_has (w0 w5 : World) (Z : Nat → Prop) (R B : Nat) (s t : RingS) (m : Int) (x : UInt64) (hm : (x.toNat : Int) = m) (r : Bool) (hr : s.has x = r) (w : World) (h : Pair w0 w5 Z w R B s t) :
    Calls Try.prog 14 #[.pointer (some ⟨R, 0, none⟩), .int .u64 m] w fun e w' => e = .returned (.bool r) ∧ Below w.heap.size w w' := by
  subst hm
  obtain ⟨F, G, h1, h2, h3, z1, z2, h4, h5, h6, z3, z4⟩ := h
  exact (ring_has F R s x r hr w h1).mono fun _ _ ⟨he, hw⟩ => ⟨he, hw ▸ Below.refl _ _⟩
theorem pair_refhas (w0 w5 : World) (Z : Nat → Prop) (R B : Nat) (s t : RingS) (hg : t.Good) (m : Int) (x : UInt64) (hm : (x.toNat : Int) = m) (r : Bool) (hr : t.has x = r) (w : World) (h : Pair w0 w5 Z w R B s t) :
    Calls Try.prog 15 #[.pointer (some ⟨B, 0, none⟩), .int .u64 m] w fun e w' => e = .returned (.bool r) ∧ Below w.heap.size w w' := by
  subst hm
  obtain ⟨F, G, h1, h2, h3, z1, z2, h4, h5, h6, z3, z4⟩ := h
  exact (ref_has G B t x r hr w h2 hg).mono fun _ _ ⟨he, hw⟩ => ⟨he, hw ▸ Below.refl _ _⟩
theorem pair_count (w0 w5 : World) (Z : Nat → Prop) (R B : Nat) (s t : RingS) (hg : s.Good) (k : Nat) (hk : s.count = k) (w : World) (h : Pair w0 w5 Z w R B s t) :
    Calls Try.prog 12 #[.pointer (some ⟨R, 0, none⟩)] w fun e w' => e = .returned (.int .i64 k) ∧ Below w.heap.size w w' := by
  obtain ⟨F, G, h1, h2, h3, z1, z2, h4, h5, h6, z3, z4⟩ := h
  exact ring_count F R s k hk w h1 hg
theorem pair_refcount (w0 w5 : World) (Z : Nat → Prop) (R B : Nat) (s t : RingS) (hg : t.Good) (k : Nat) (hk : t.count = k) (w : World) (h : Pair w0 w5 Z w R B s t) :
    Calls Try.prog 13 #[.pointer (some ⟨B, 0, none⟩)] w fun e w' => e = .returned (.int .i64 k) ∧ Below w.heap.size w w' := by
  obtain ⟨F, G, h1, h2, h3, z1, z2, h4, h5, h6, z3, z4⟩ := h
  exact (ref_count G B t k hk w h2 hg).mono fun _ _ ⟨he, hw⟩ => ⟨he, hw ▸ Below.refl _ _⟩

theorem ringDoes_bad (n : Int) (l : List OpD) (a : Option Addr) (cap : Nat) (h : n < 1 ∨ 50 < n) (w : World) :
    Calls Try.prog 3 #[.int .i64 n, .slice a l.length cap] w fun e w' => e = .returned (.bool true) ∧ Below w.heap.size w w' := by
  have H := Lib.hid h
  by_cases h1 : n < 1
  · clear h
    go_enter Try.func3, Try.ntmps3
    go_wp2_with fail
    with_reducible refine (ring_new_bad n _ H.out).mono ?_
    rintro e w1 ⟨rfl, rfl⟩
    go_wp2_with fail
    go_ret
    exact ⟨rfl, Below.refl _ _⟩
  · have h2 : n > 50 := by omega
    clear h
    go_enter Try.func3, Try.ntmps3
    go_wp2_with fail
    with_reducible refine (ring_new_bad n _ H.out).mono ?_
    rintro e w1 ⟨rfl, rfl⟩
    go_wp2_with fail
    go_ret
    exact ⟨rfl, Below.refl _ _⟩

theorem pair_made {w wr : World} {R n : Nat} (h : Held w wr R (RingS.none n)) :
    Pair w wr (fun _ => False) (wr.alloc (.cells #[.int .i64 n, .slice none 0 0, .slice none 0 0] 30)) R wr.heap.size (RingS.none n) (RingS.none n) := by
  obtain ⟨F, h1, h2, h3⟩ := h
  exact ⟨F, _, ringAt_kept h1 (kept_new _ _), ref_made wr n, fun k hf hg => by have := ringAt_there h1 k hf; omega, fun _ _ hz => hz, fun _ _ hz => hz, h2, fun k hk => by have := h3.size; omega, kept_alloc h3 _, fun _ hz => hz.elim, fun _ hz => hz.elim⟩
theorem pair_forget {w w5 w6 wr : World} {Z : Nat → Prop} {R B : Nat} {s t : RingS} (h : Pair w w5 Z wr R B s t) : Pair w w6 (fun _ => False) wr R B s t := by
  obtain ⟨F, G, h1, h2, h3, z1, z2, h4, h5, h6, z3, z4⟩ := h
  exact ⟨F, G, h1, h2, h3, fun _ _ hz => hz, fun _ _ hz => hz, h4, h5, h6, fun _ hz => hz.elim, fun _ hz => hz.elim⟩

set_option maxHeartbeats 2000000 in
theorem ringDoes_good (m : Nat) (l : List OpD) (a : Option Addr) (cap : Nat) (h1 : 1 ≤ m) (h2 : m ≤ 50) (hl : l.length ≤ maxLen) (w : World) (hi : OpsAt w a l) :
    Calls Try.prog 3 #[.int .i64 (m : Int), .slice a l.length cap] w fun e w' => e = .returned (.bool true) ∧ Below w.heap.size w w' := by
  have g1 : ¬ (m : Int) < 1 := by omega
  have g2 : ¬ (m : Int) > 50 := by omega
  unfold maxLen at hl
  go_enter Try.func3, Try.ntmps3
  go_wp2_with fail
  with_reducible refine (held_new w _ m rfl _ (Below.refl _ _) h1 h2).mono ?_
  rintro e w1 ⟨R, rfl, hr1⟩
  have HB := pair_made hr1
  clear hr1
  go_wp2_with fail
  go_loopw [48] (fun i wr => ∃ (k : Nat) (s : RingS), k ≤ l.length ∧ i = .int .i64 k ∧ Hid (s.size = m) ∧ Hid s.Good ∧ Hid (Pair w w (fun _ => False) wr R w1.heap.size s s)) (fun i _ => l.length - (intOf i).toNat)
  case atStart => exact ⟨0, _, Nat.zero_le _, rfl, Lib.hid rfl, Lib.hid (none_good h1 h2), Lib.hid (pair_forget HB)⟩
  case round =>
    clear HB
    obtain ⟨k, s, hk, rfl, HZ, HG, HS⟩ := hrel
    by_cases hlt : k < l.length
    · obtain ⟨b, o, rfl, hb, c0, c1, c2, c3, c4, c5, c6, c7, c8⟩ := opsAt_kept (pair_below HS.out) hi k hlt
      generalize l[k] = d at c0 c1 c2 c3 c4 c5 c6 c7 c8
      cases hfl : d.flag with
      | true =>
        rw [hfl] at c4
        have P5 := pair_beside HS.out (.cells #[.int .i64 d.kind, .int .i64 d.peer, .int .i64 d.n, .int .u64 d.id.toNat, .bool true, .slice d.ia d.il d.ic, .int .i64 d.outs, .int .i64 d.weight, .int .i64 d.fee] 36)
        have hc5 : (wr.alloc (.cells #[.int .i64 d.kind, .int .i64 d.peer, .int .i64 d.n, .int .u64 d.id.toNat, .bool true, .slice d.ia d.il d.ic, .int .i64 d.outs, .int .i64 d.weight, .int .i64 d.fee] 36)).cell? ⟨wr.heap.size, 3, none⟩ = some (.int .u64 d.id.toNat) := by simp [go_sem]
        have HP5 := Lib.hid P5
        have HC5 := Lib.hid hc5
        clear P5 hc5 hfl
        go_wp2_with fail
        clear c0 c1 c2 c3 c4 c5 c6 c7 c8
        with_reducible refine (pair_reset w _ _ R w1.heap.size s s m HZ.out _ HP5.out).mono ?_
        rintro e w6 ⟨rfl, h6⟩
        obtain ⟨y6, o6, ⟨k0, k1, k2⟩, f0, f1, f2⟩ := pair_refcells h6
        have H6 := Lib.hid (pair_anew h6 m)
        clear h6
        go_wp2_with fail
        clear k0 k1 k2 f0 f1 f2
        generalize ((w6.setCell ⟨w1.heap.size, 0, none⟩ (.int .i64 m)).setCell ⟨w1.heap.size, 1, none⟩ (.slice none 0 0)).setCell ⟨w1.heap.size, 2, none⟩ (.slice none 0 0) = w7 at H6 ⊢
        have HG7 := Lib.hid (none_good h1 h2)
        generalize hs7 : RingS.none m = s7 at H6 HG7
        have HZ7 : Hid (s7.size = m) := Lib.hid (by rw [← hs7]; rfl)
        have hc7 := pair_cell H6.out rfl HC5.out
        obtain ⟨cnt, hcnt⟩ : ∃ cnt, s7.count = cnt := ⟨_, rfl⟩
        obtain ⟨r1, hr1⟩ : ∃ r, s7.has d.id = r := ⟨_, rfl⟩
        obtain ⟨r2, hr2⟩ : ∃ r, s7.has (d.id + 1) = r := ⟨_, rfl⟩
        have HCNT := Lib.hid hcnt
        have HR1 := Lib.hid hr1
        have HR2 := Lib.hid hr2
        clear hs7 hcnt hr1 hr2
        go_region_held3 (fun w' => w'.cell? ⟨wr.heap.size, 3, none⟩ = some (.int .u64 d.id.toNat) ∧ Below w7.heap.size w7 w')
          (first | exact ⟨hc7, (Below.refl _ _).drew⟩ | (go_split_ands; exact ⟨by assumption, by assumption⟩) | exact ⟨kept_cell hb2 hc7, kept_trans (Below.refl _ _).drew hb2⟩ | (go_split_ands; exact ⟨kept_cell hb2 (by assumption), kept_trans (by assumption) hb2⟩))
          (first
            | (go_at_call 12; (go_split_ands; (with_reducible refine (pair_count w _ _ R w1.heap.size s7 s7 HG7.out cnt HCNT.out _ (pair_kept H6.out (by assumption))).mono ?_); rintro e w2 ⟨rfl, hb2⟩))
            | (go_at_call 13; (go_split_ands; (with_reducible refine (pair_refcount w _ _ R w1.heap.size s7 s7 HG7.out cnt HCNT.out _ (pair_kept H6.out (by assumption))).mono ?_); rintro e w2 ⟨rfl, hb2⟩))
            | (go_at_call 14; (go_split_ands; (with_reducible refine (pair_has w _ _ R w1.heap.size s7 s7 _ d.id rfl r1 HR1.out _ (pair_kept H6.out (by assumption))).mono ?_); rintro e w2 ⟨rfl, hb2⟩))
            | (go_at_call 14; (go_split_ands; (with_reducible refine (pair_has w _ _ R w1.heap.size s7 s7 _ (d.id + 1) (u64_next d.id).symm r2 HR2.out _ (pair_kept H6.out (by assumption))).mono ?_); rintro e w2 ⟨rfl, hb2⟩))
            | (go_at_call 15; (go_split_ands; (with_reducible refine (pair_refhas w _ _ R w1.heap.size s7 s7 HG7.out _ d.id rfl r1 HR1.out _ (pair_kept H6.out (by assumption))).mono ?_); rintro e w2 ⟨rfl, hb2⟩))
            | (go_at_call 15; (go_split_ands; (with_reducible refine (pair_refhas w _ _ R w1.heap.size s7 s7 HG7.out _ (d.id + 1) (u64_next d.id).symm r2 HR2.out _ (pair_kept H6.out (by assumption))).mono ?_); rintro e w2 ⟨rfl, hb2⟩)))
        go_split_ands
        go_wp2_with fail
        go_roundw
        case rel => exact ⟨k + 1, s7, by omega, by go_num, HZ7, HG7, Lib.hid (pair_forget (pair_kept H6.out (by assumption)))⟩
        case measure => simp [intOf]; omega
      | false =>
        rw [hfl] at c4
        have P5 := pair_beside HS.out (.cells #[.int .i64 d.kind, .int .i64 d.peer, .int .i64 d.n, .int .u64 d.id.toNat, .bool false, .slice d.ia d.il d.ic, .int .i64 d.outs, .int .i64 d.weight, .int .i64 d.fee] 36)
        have hc5 : (wr.alloc (.cells #[.int .i64 d.kind, .int .i64 d.peer, .int .i64 d.n, .int .u64 d.id.toNat, .bool false, .slice d.ia d.il d.ic, .int .i64 d.outs, .int .i64 d.weight, .int .i64 d.fee] 36)).cell? ⟨wr.heap.size, 3, none⟩ = some (.int .u64 d.id.toNat) := by simp [go_sem]
        have HP5 := Lib.hid P5
        have HC5 := Lib.hid hc5
        clear P5 hc5 hfl
        go_wp2_with fail
        clear c0 c1 c2 c3 c4 c5 c6 c7 c8
        with_reducible refine (pair_put w _ _ R w1.heap.size s s d.id _ HP5.out HG.out).mono ?_
        rintro e w6 ⟨rfl, h6⟩
        have hc6 := pair_cell h6 rfl HC5.out
        have H6' := Lib.hid h6
        clear h6
        go_wp2_with fail
        clear hc6
        with_reducible refine (pair_refput w _ _ R w1.heap.size _ s d.id _ H6'.out HG.out).mono ?_
        rintro e w7 ⟨rfl, h7⟩
        have H6 := Lib.hid h7
        clear h7 H6'
        have HG7 := Lib.hid (put_good HG.out d.id)
        have HZ7 : Hid ((s.put d.id).size = m) := Lib.hid ((put_size _ _).trans HZ.out)
        generalize s.put d.id = s7 at H6 HG7 HZ7
        go_wp2_with fail
        have hc7 := pair_cell H6.out rfl HC5.out
        obtain ⟨cnt, hcnt⟩ : ∃ cnt, s7.count = cnt := ⟨_, rfl⟩
        obtain ⟨r1, hr1⟩ : ∃ r, s7.has d.id = r := ⟨_, rfl⟩
        obtain ⟨r2, hr2⟩ : ∃ r, s7.has (d.id + 1) = r := ⟨_, rfl⟩
        have HCNT := Lib.hid hcnt
        have HR1 := Lib.hid hr1
        have HR2 := Lib.hid hr2
        clear hcnt hr1 hr2
        go_region_held3 (fun w' => w'.cell? ⟨wr.heap.size, 3, none⟩ = some (.int .u64 d.id.toNat) ∧ Below w7.heap.size w7 w')
          (first | exact ⟨hc7, (Below.refl _ _).drew⟩ | (go_split_ands; exact ⟨by assumption, by assumption⟩) | exact ⟨kept_cell hb2 hc7, kept_trans (Below.refl _ _).drew hb2⟩ | (go_split_ands; exact ⟨kept_cell hb2 (by assumption), kept_trans (by assumption) hb2⟩))
          (first
            | (go_at_call 12; (go_split_ands; (with_reducible refine (pair_count w _ _ R w1.heap.size s7 s7 HG7.out cnt HCNT.out _ (pair_kept H6.out (by assumption))).mono ?_); rintro e w2 ⟨rfl, hb2⟩))
            | (go_at_call 13; (go_split_ands; (with_reducible refine (pair_refcount w _ _ R w1.heap.size s7 s7 HG7.out cnt HCNT.out _ (pair_kept H6.out (by assumption))).mono ?_); rintro e w2 ⟨rfl, hb2⟩))
            | (go_at_call 14; (go_split_ands; (with_reducible refine (pair_has w _ _ R w1.heap.size s7 s7 _ d.id rfl r1 HR1.out _ (pair_kept H6.out (by assumption))).mono ?_); rintro e w2 ⟨rfl, hb2⟩))
            | (go_at_call 14; (go_split_ands; (with_reducible refine (pair_has w _ _ R w1.heap.size s7 s7 _ (d.id + 1) (u64_next d.id).symm r2 HR2.out _ (pair_kept H6.out (by assumption))).mono ?_); rintro e w2 ⟨rfl, hb2⟩))
            | (go_at_call 15; (go_split_ands; (with_reducible refine (pair_refhas w _ _ R w1.heap.size s7 s7 HG7.out _ d.id rfl r1 HR1.out _ (pair_kept H6.out (by assumption))).mono ?_); rintro e w2 ⟨rfl, hb2⟩))
            | (go_at_call 15; (go_split_ands; (with_reducible refine (pair_refhas w _ _ R w1.heap.size s7 s7 HG7.out _ (d.id + 1) (u64_next d.id).symm r2 HR2.out _ (pair_kept H6.out (by assumption))).mono ?_); rintro e w2 ⟨rfl, hb2⟩)))
        go_split_ands
        go_wp2_with fail
        go_roundw
        case rel => exact ⟨k + 1, s7, by omega, by go_num, HZ7, HG7, Lib.hid (pair_forget (pair_kept H6.out (by assumption)))⟩
        case measure => simp [intOf]; omega
    · have P5 := HS.out
      have HG7 := HG.out
      obtain ⟨cnt, hcnt⟩ : ∃ cnt, s.count = cnt := ⟨_, rfl⟩
      clear HS HG
      go_wp2_with fail
      with_reducible refine (pair_count w _ _ R w1.heap.size s s HG7 cnt hcnt _ P5).mono ?_
      rintro e w2 ⟨rfl, hb2⟩
      go_wp2_with fail
      with_reducible refine (pair_refcount w _ _ R w1.heap.size s s HG7 cnt hcnt _ (pair_kept P5 hb2)).mono ?_
      rintro e w3 ⟨rfl, hb3⟩
      go_wp2_with fail
      go_ret
      exact ⟨rfl, kept_trans (kept_trans (pair_below P5) hb2) hb3⟩
theorem ringDoes_walk (n : Int) (l : List OpD) (a : Option Addr) (cap : Nat) (_hn : -9223372036854775808 ≤ n ∧ n ≤ 9223372036854775807) (hl : l.length ≤ maxLen) (w : World) (hi : OpsAt w a l) :
    Calls Try.prog 3 #[.int .i64 n, .slice a l.length cap] w fun e w' => e = .returned (.bool true) ∧ Below w.heap.size w w' := by
  by_cases h : n < 1 ∨ 50 < n
  · exact ringDoes_bad n l a cap h w
  · obtain ⟨m, rfl⟩ : ∃ m : Nat, n = m := ⟨n.toNat, by omega⟩
    exact ringDoes_good m l a cap (by omega) (by omega) hl w hi
end Go.Proofs.Ytagbcgbngdfapaa
