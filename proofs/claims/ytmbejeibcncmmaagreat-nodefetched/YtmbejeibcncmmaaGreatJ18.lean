/-
  New.
  The laws' closed fact: a node takes a deed that is brought; bytesOf, bring.
  Slices of ints in blocks of their own; slices.Sort of up to twelve of them.
  Contracts of the reference's Has and Eq of ints.
  Slices of ints and of bools among the arguments of a law: what their reading says of memory.
  A slice of acts among the arguments of a law: how it lies in memory, what its reading says.
  The contract of the reference's Eq of IDs.
  NodeWaits: the walk.
  An act on a node: what stays below its bounds, whatever was done.
-/
import Derived.Test.YtmbejeibcncmmaaGreatJ17
import Derived.Test.YtmbejeibcncmmaaGreatJ1
import Derived.BigGuard
import Derived.BigCall
import Derived.CellFam
import Derived.Deep.Draws
import Derived.Deep.QuietTactic
import Derived.BigQuiet
import Derived.Test.YtmbejeibcncmmaaGreatJ2
import Derived.ChangeSlices
import Derived.Lib.SmallJoins
import Derived.Deep.Slices
import Derived.Test.YtmbejeibcncmmaaGreatJ11
set_option maxRecDepth 20000
namespace Go.Proofs.YtmbejeibcncmmaaGreat
open Go.RowKit Go.Maps

variable {w w' : World} {F : Nat → Prop} {R : Nat} {s : NS}

/-- The cells of a node without filters: its maps lie in blocks t, h, j and k. -/
def rawC (salt : UInt64) (t h j k : Nat) : Array Value := #[.bool false, .bool false, .bool false, .bool false, .bool false, .bool false, .bool false, .bool false, .bool false, .bool false, .bool false, .bool false, .bool false, .bool false, .bool false, .bool false, .int .i64 0, .int .u64 salt.toNat, .map (some t), .slice none 0 0, .slice none 0 0, .slice none 0 0, .slice none 0 0, .slice none 0 0, .slice none 0 0, .slice none 0 0, .slice none 0 0, .map (some h), .slice none 0 0, .map (some j), .slice none 0 0, .map (some k), .pointer none, .pointer none]
/-- The world behind the three News and the node's own block. -/
def rawW (w : World) (salt : UInt64) : World := (((((((w.alloc (.map #[] 0)).alloc (.cells #[.int .u64 salt.toNat, .map (some w.heap.size), .slice none 0 0, .slice none 0 0, .slice none 0 0, .slice none 0 0, .slice none 0 0, .slice none 0 0, .slice none 0 0, .slice none 0 0] 90)).alloc (.map #[] 0)).alloc (.cells #[.map (some (w.heap.size + 2)), .slice none 0 0] 95)).alloc (.map #[] 0)).alloc (.map #[] 0)).alloc (.cells #[.map (some (w.heap.size + 4)), .slice none 0 0, .map (some (w.heap.size + 5))] 99)).alloc (.cells (rawC salt w.heap.size (w.heap.size + 2) (w.heap.size + 4) (w.heap.size + 5)) 107)
theorem raw_below (w : World) (salt : UInt64) : Below w.heap.size w (rawW w salt) := kept_alloc (kept_alloc (kept_alloc (kept_alloc (kept_alloc (kept_alloc (kept_alloc (kept_new _ _) _) _) _) _) _) _) _
theorem raw_size (w : World) (salt : UInt64) : (rawW w salt).heap.size = w.heap.size + 8 := by unfold rawW; simp
theorem raw_head (w : World) (salt : UInt64) : Cells (rawW w salt) (w.heap.size + 7) (rawC salt w.heap.size (w.heap.size + 2) (w.heap.size + 4) (w.heap.size + 5)) := by
  unfold rawW
  have := heap_alloc_new (((((((w.alloc (.map #[] 0)).alloc (.cells #[.int .u64 salt.toNat, .map (some w.heap.size), .slice none 0 0, .slice none 0 0, .slice none 0 0, .slice none 0 0, .slice none 0 0, .slice none 0 0, .slice none 0 0, .slice none 0 0] 90)).alloc (.map #[] 0)).alloc (.cells #[.map (some (w.heap.size + 2)), .slice none 0 0] 95)).alloc (.map #[] 0)).alloc (.map #[] 0)).alloc (.cells #[.map (some (w.heap.size + 4)), .slice none 0 0, .map (some (w.heap.size + 5))] 99)) (.cells (rawC salt w.heap.size (w.heap.size + 2) (w.heap.size + 4) (w.heap.size + 5)) 107)
  simp only [World.size_alloc] at this
  exact this
theorem raw_T (w : World) (salt : UInt64) : Tr.TL (rawW w salt) (fun k => k = w.heap.size ∨ k = w.heap.size + 7) ⟨w.heap.size + 7, ocOf (rawC salt w.heap.size (w.heap.size + 2) (w.heap.size + 4) (w.heap.size + 5))⟩ salt [] := by
  refine ⟨Tr.good_nil, w.heap.size, fun _ => none, fun _ => .slice none 0 0, ?_⟩
  have hz := raw_size w salt
  exact {
    head := raw_head w salt
    map := Tr.tmap_same (Tr.tmap_new w) (by
      unfold rawW
      rw [heap_alloc_old _ _ (by simp <;> omega), heap_alloc_old _ _ (by simp <;> omega), heap_alloc_old _ _ (by simp <;> omega), heap_alloc_old _ _ (by simp <;> omega), heap_alloc_old _ _ (by simp <;> omega), heap_alloc_old _ _ (by simp <;> omega), heap_alloc_old _ _ (by simp)]) (fun i hi => by cases hi)
    ents := fun x => .inl ⟨rfl, rfl⟩
    ids := fun p _ => World.ownsRow_nil _ _ _ _
    eapart := fun x y u v g h => by cases h
    papart := fun p q g _ _ h => by cases h
    fR := .inr rfl
    fb := .inl rfl
    fe := fun x v g h => by cases h
    fp := fun p g _ h => by cases h
    there := fun k hk => by rw [hz]; omega
    out := fun i hi => by cases hi }
theorem raw_P (w : World) (salt : UInt64) : Ho.HL (rawW w salt) (fun k => k = w.heap.size + 2 ∨ k = w.heap.size + 7) ⟨w.heap.size + 7, ocOf (rawC salt w.heap.size (w.heap.size + 2) (w.heap.size + 4) (w.heap.size + 5))⟩ [] := by
  refine ⟨Ho.good_none, w.heap.size + 2, fun _ => none, .slice none 0 0, ?_⟩
  have hz := raw_size w salt
  have hm := tmap_new ((w.alloc (.map #[] 0)).alloc (.cells #[.int .u64 salt.toNat, .map (some w.heap.size), .slice none 0 0, .slice none 0 0, .slice none 0 0, .slice none 0 0, .slice none 0 0, .slice none 0 0, .slice none 0 0, .slice none 0 0] 90))
  simp only [World.size_alloc] at hm
  exact {
    head := raw_head w salt
    map := tmap_same hm (by
      unfold rawW
      rw [heap_alloc_old _ _ (by simp <;> omega), heap_alloc_old _ _ (by simp <;> omega), heap_alloc_old _ _ (by simp <;> omega), heap_alloc_old _ _ (by simp <;> omega), heap_alloc_old _ _ (by simp)]) (fun i hi => by cases hi)
    deeds := fun x => .inl ⟨rfl, rfl⟩
    fine := fun x d h => by cases h
    links := World.ownsRow_nil _ _ _ _
    fR := .inr rfl
    fb := .inl rfl
    fv := fun g hg => by cases hg
    there := fun k hk => by rw [hz]; omega
    out := fun i hi => by cases hi }
theorem raw_A (w : World) (salt : UInt64) : Ju.LedL (rawW w salt) (fun k => k = w.heap.size + 4 ∨ k = w.heap.size + 5 ∨ k = w.heap.size + 7) ⟨w.heap.size + 7, ocOf (rawC salt w.heap.size (w.heap.size + 2) (w.heap.size + 4) (w.heap.size + 5))⟩ [] := by
  refine ⟨w.heap.size + 4, w.heap.size + 5, 0, fun _ => none, .slice none 0 0, Nat.le_refl _, ?_⟩
  have hz := raw_size w salt
  have hm := tmap_new ((((w.alloc (.map #[] 0)).alloc (.cells #[.int .u64 salt.toNat, .map (some w.heap.size), .slice none 0 0, .slice none 0 0, .slice none 0 0, .slice none 0 0, .slice none 0 0, .slice none 0 0, .slice none 0 0, .slice none 0 0] 90)).alloc (.map #[] 0)).alloc (.cells #[.map (some (w.heap.size + 2)), .slice none 0 0] 95))
  simp only [World.size_alloc] at hm
  have hS := set_new (P := Tryz.prog) (k := 64) (e := 4) (ok := inOk) (kl := inKey) (((((w.alloc (.map #[] 0)).alloc (.cells #[.int .u64 salt.toNat, .map (some w.heap.size), .slice none 0 0, .slice none 0 0, .slice none 0 0, .slice none 0 0, .slice none 0 0, .slice none 0 0, .slice none 0 0, .slice none 0 0] 90)).alloc (.map #[] 0)).alloc (.cells #[.map (some (w.heap.size + 2)), .slice none 0 0] 95)).alloc (.map #[] 0))
  simp only [World.size_alloc] at hS
  exact {
    head := raw_head w salt
    map := tmap_same hm (by
      unfold rawW
      rw [heap_alloc_old _ _ (by simp <;> omega), heap_alloc_old _ _ (by simp <;> omega), heap_alloc_old _ _ (by simp)]) (fun i hi => by cases hi)
    deeds := fun x => .inl ⟨rfl, rfl⟩
    fine := fun x d h => by cases h
    order := World.ownsRow_nil _ _ _ _
    spent := Ju.seen_same hS (by
      unfold rawW
      rw [heap_alloc_old _ _ (by simp <;> omega), heap_alloc_old _ _ (by simp)])
    ne := by omega
    fR := .inr (.inr rfl)
    fb := .inl rfl
    fs := .inr (.inl rfl)
    fv := fun g hg => by cases hg
    there := fun k hk => by rw [hz]; omega }
theorem rawC_size (salt : UInt64) (t h j k : Nat) : (rawC salt t h j k).size = 34 := rfl
theorem ring50 (w : World) : Calls Tryz.prog 78 #[.int .i64 50] w fun e w' => e = .returned (.tuple #[.pointer (some ⟨w.heap.size + 1, 0, none⟩), .int .i64 0]) ∧ Ri.RingAt w' (fun k => k = w.heap.size ∨ k = w.heap.size + 1) (w.heap.size + 1) (Ri.RingS.none 50) ∧ Below w.heap.size w w' := Ri.ring_new 50 w (by decide) (by decide)
theorem ring20 (w : World) : Calls Tryz.prog 78 #[.int .i64 20] w fun e w' => e = .returned (.tuple #[.pointer (some ⟨w.heap.size + 1, 0, none⟩), .int .i64 0]) ∧ Ri.RingAt w' (fun k => k = w.heap.size ∨ k = w.heap.size + 1) (w.heap.size + 1) (Ri.RingS.none 20) ∧ Below w.heap.size w w' := Ri.ring_new 20 w (by decide) (by decide)
set_option maxRecDepth 20000 in
/-- The filters are made. -/
theorem filters_any (cs : Array Value) (hs : cs.size = 34) (w : World) (h : Cells w R cs) : Calls Tryz.prog 47 #[.pointer (some ⟨R, 0, none⟩)] w fun e w' => e = .returned (.tuple #[]) ∧ ∃ (a z : Nat) (FW FQ : Nat → Prop), Cells w' R ((cs.setIfInBounds 32 (.pointer (some ⟨a, 0, none⟩))).setIfInBounds 33 (.pointer (some ⟨z, 0, none⟩))) ∧ Ri.RingAt w' FW a (Ri.RingS.none 50) ∧ Ri.RingAt w' FQ z (Ri.RingS.none 20) ∧ (∀ k, FW k → w.heap.size ≤ k) ∧ (∀ k, FQ k → w.heap.size ≤ k) ∧ Apart FW FQ ∧ Turn (fun k => k = R) (fun k => k = R) w w' := by
  have hlt : R < w.heap.size := (Array.getElem?_eq_some_iff.1 h).1
  have HC := Lib.hid h
  clear h
  go_enter Tryz.func47, Tryz.ntmps47
  go_wp2_with fail
  with_reducible refine (ring50 _).mono ?_
  rintro e w1 ⟨rfl, h1, hb1⟩
  have hc1 : Cells w1 R cs := (hb1.block R hlt).trans HC.out
  obtain ⟨c32, f32⟩ := cells_at hc1 (i := 32) (u := cs[32]'(by omega)) (Array.getElem?_eq_getElem _)
  have l1 : R < w1.heap.size := Nat.lt_of_lt_of_le hlt hb1.size
  have t1 : Turn (fun k => k = R) (fun k => k = R) w (w1.setCell ⟨R, 32, none⟩ (.pointer (some ⟨w.heap.size + 1, 0, none⟩))) := (Turn.of_below hb1).trans (Turn.set w1 ⟨R, 32, none⟩ _ rfl)
  have hc2 : Cells (w1.setCell ⟨R, 32, none⟩ (.pointer (some ⟨w.heap.size + 1, 0, none⟩))) R (cs.setIfInBounds 32 (.pointer (some ⟨w.heap.size + 1, 0, none⟩))) := heap_setCell_same w1 R 32 _ _ _ hc1
  have r1 := Ri.ringAt_turn h1 (Turn.set (F := fun k => k = R) w1 ⟨R, 32, none⟩ (.pointer (some ⟨w.heap.size + 1, 0, none⟩)) rfl) (fun k hk e => by omega)
  have T1 := Lib.hid t1
  have HC2 := Lib.hid hc2
  have HR1 := Lib.hid r1
  have HSZ : Hid (w.heap.size + 1 < w1.heap.size) := Lib.hid (Ri.ringAt_there h1 _ (.inr rfl))
  clear hc1 h1 hb1 t1 hc2 r1
  go_wp2_with fail
  with_reducible refine (ring20 _).mono ?_
  rintro e w2 ⟨rfl, h2, hb2⟩
  have hsz2 : (w1.setCell ⟨R, 32, none⟩ (.pointer (some ⟨w.heap.size + 1, 0, none⟩))).heap.size = w1.heap.size := World.size_setCell ..
  rw [hsz2] at h2 ⊢
  have hc3 : Cells w2 R (cs.setIfInBounds 32 (.pointer (some ⟨w.heap.size + 1, 0, none⟩))) := (hb2.block R (by omega)).trans HC2.out
  obtain ⟨c33, f33⟩ := cells_at hc3 (i := 33) (u := (cs.setIfInBounds 32 (.pointer (some ⟨w.heap.size + 1, 0, none⟩)))[33]'(by rw [Array.size_setIfInBounds]; omega)) (Array.getElem?_eq_getElem _)
  have l2 : R < w2.heap.size := by have := hb2.size; omega
  have t2 : Turn (fun k => k = R) (fun k => k = R) w (w2.setCell ⟨R, 33, none⟩ (.pointer (some ⟨w1.heap.size + 1, 0, none⟩))) := (T1.out.trans (Turn.of_below hb2)).trans (Turn.set w2 ⟨R, 33, none⟩ _ rfl)
  have hc4 : Cells (w2.setCell ⟨R, 33, none⟩ (.pointer (some ⟨w1.heap.size + 1, 0, none⟩))) R ((cs.setIfInBounds 32 (.pointer (some ⟨w.heap.size + 1, 0, none⟩))).setIfInBounds 33 (.pointer (some ⟨w1.heap.size + 1, 0, none⟩))) := heap_setCell_same w2 R 33 _ _ _ hc3
  have ts := Turn.set (F := fun k => k = R) w2 ⟨R, 33, none⟩ (.pointer (some ⟨w1.heap.size + 1, 0, none⟩)) rfl
  have r2 := Ri.ringAt_turn h2 ts (fun k hk e => by omega)
  have r3 := Ri.ringAt_turn (Ri.ringAt_kept HR1.out hb2) ts (fun k hk e => by omega)
  have T2 := Lib.hid t2
  have HC4 := Lib.hid hc4
  have HR2 := Lib.hid r2
  have HR3 := Lib.hid r3
  clear hc3 h2 hb2 t2 hc4 r2 r3 ts
  go_wp2_with fail
  go_end0
  exact ⟨rfl, _, _, _, _, HC4.out, HR3.out, HR2.out, fun k hk => by omega, fun k hk => by have := HSZ.out; omega, fun k h1 h2 => by have := HSZ.out; omega, T2.out⟩
theorem raw_node (salt : UInt64) (w : World) {a z : Nat} {FW FQ : Nat → Prop} {cs : Array Value} (hcs : (((rawC salt w.heap.size (w.heap.size + 2) (w.heap.size + 4) (w.heap.size + 5)).setIfInBounds 32 (.pointer (some ⟨a, 0, none⟩))).setIfInBounds 33 (.pointer (some ⟨z, 0, none⟩))) = cs) (hc : Cells w' (w.heap.size + 7) cs) (hW : Ri.RingAt w' FW a (Ri.RingS.none 50)) (hQ : Ri.RingAt w' FQ z (Ri.RingS.none 20)) (hw : ∀ k, FW k → w.heap.size + 8 ≤ k) (hq : ∀ k, FQ k → w.heap.size + 8 ≤ k) (ha : Apart FW FQ) (ht : Turn (fun k => k = w.heap.size + 7) (fun k => k = w.heap.size + 7) (rawW w salt) w') :
    ∃ F, NodeAt w' F (w.heap.size + 7) (NS.new salt) ∧ ∀ k, F k → w.heap.size ≤ k := by
  have hs : cs.size = 34 := by rw [← hcs]; rfl
  have hb : ∀ G : Nat → Prop, But G (w.heap.size + 7) (rawW w salt) w' := fun G => ⟨ht.size, fun k hk _ hn => ht.block k hk hn⟩
  have ho : ∀ i, i < 32 → cs[i]? = (rawC salt w.heap.size (w.heap.size + 2) (w.heap.size + 4) (w.heap.size + 5))[i]? := fun i hi => by rw [← hcs, Array.getElem?_setIfInBounds_ne (by omega), Array.getElem?_setIfInBounds_ne (by omega)]
  refine ⟨fun k => (k = w.heap.size ∨ k = w.heap.size + 7) ∨ (k = w.heap.size + 2 ∨ k = w.heap.size + 7) ∨ (k = w.heap.size + 4 ∨ k = w.heap.size + 5 ∨ k = w.heap.size + 7) ∨ FW k ∨ FQ k, ⟨cs, fun k => k = w.heap.size ∨ k = w.heap.size + 7, fun k => k = w.heap.size + 2 ∨ k = w.heap.size + 7, fun k => k = w.heap.size + 4 ∨ k = w.heap.size + 5 ∨ k = w.heap.size + 7, FW, FQ, a, z, ?_⟩, ?_⟩
  · exact {
      head := hc
      size := hs
      peers := fun p hp => by
        rw [ho _ (by omega), ho _ (by omega)]
        match p, hp with
        | 0, _ => exact ⟨rfl, rfl⟩
        | 1, _ => exact ⟨rfl, rfl⟩
        | 2, _ => exact ⟨rfl, rfl⟩
        | 3, _ => exact ⟨rfl, rfl⟩
        | 4, _ => exact ⟨rfl, rfl⟩
        | 5, _ => exact ⟨rfl, rfl⟩
        | 6, _ => exact ⟨rfl, rfl⟩
        | 7, _ => exact ⟨rfl, rfl⟩
      now := by rw [ho _ (by omega)]; rfl
      T := TL_again (raw_T w salt) (raw_head w salt) hc hs (fun i _ h2 => ho i (by omega)) (hb _)
      P := HL_again (raw_P w salt) (raw_head w salt) hc hs (fun i _ h2 => ho i (by omega)) (hb _)
      A := LedL_again (raw_A w salt) (raw_head w salt) hc hs (fun i _ h2 => ho i (by omega)) (hb _)
      cW := by rw [← hcs]; rfl
      cQ := by rw [← hcs]; rfl
      W := hW
      Q := hQ
      good := ⟨⟨(by decide : (0 : Int) ≤ 0), (by decide : (0 : Int) ≤ 1099511627776)⟩, Tr.good_nil, Ho.good_none, ⟨fun d hd => by simp [NS.new] at hd, by simp [NS.new]⟩, Ri.none_good (by decide) (by decide), Ri.none_good (by decide) (by decide)⟩
      th := fun k h1 h2 => by omega
      tj := fun k h1 h2 => by omega
      hj := fun k h1 h2 => by omega
      tw := fun k h1 h2 => by have := hw k h2; omega
      hw := fun k h1 h2 => by have := hw k h2; omega
      jw := fun k h1 h2 => by have := hw k h2; omega
      tq := fun k h1 h2 => by have := hq k h2; omega
      hq := fun k h1 h2 => by have := hq k h2; omega
      jq := fun k h1 h2 => by have := hq k h2; omega
      wq := ha
      all := fun k => Iff.rfl }
  · intro k hk
    rcases hk with hk | hk | hk | hk | hk
    · omega
    · omega
    · omega
    · have := hw k hk; omega
    · have := hq k hk; omega
set_option maxRecDepth 20000 in
set_option maxHeartbeats 4000000 in
theorem new_any (salt : UInt64) (w : World) : Calls Tryz.prog 16 #[.int .u64 salt.toNat] w fun e w' => ∃ R F, e = .returned (.pointer (some ⟨R, 0, none⟩)) ∧ NodeAt w' F R (NS.new salt) ∧ (∀ k, F k → w.heap.size ≤ k) ∧ Below w.heap.size w w' := by
  go_enter Tryz.func16, Tryz.ntmps16
  go_upto_region 1 with fail
  go_cut [3] from 4 to 18 (fun v3 wx => v3 = .pointer (some ⟨w.heap.size + 7, 0, none⟩) ∧ wx = rawW w.drew salt)
  case first =>
    go_region_law (first
      | (go_simp; go_at_call 44; (with_reducible refine (Tr.new_any salt _).mono ?_); rintro e w1 ⟨rfl, rfl⟩)
      | (go_simp; go_at_call 45; (with_reducible refine (Ho.home_new _).mono ?_); rintro e w1 ⟨rfl, rfl⟩)
      | (go_simp; go_at_call 46; (with_reducible refine (Ju.led_new _).mono ?_); rintro e w1 ⟨rfl, rfl⟩))
    all_goals
      go_wp2_with fail
      go_meet
      case rel => exact ⟨rfl, rfl⟩
  case rest =>
    obtain ⟨rfl, hwx⟩ := hcut
    have hd : w.drew.heap.size = w.heap.size := rfl
    obtain ⟨wx, hx⟩ : ∃ wx, rawW w.drew salt = wx := ⟨_, rfl⟩
    have HH : Hid (Cells wx (w.heap.size + 7) (rawC salt w.heap.size (w.heap.size + 2) (w.heap.size + 4) (w.heap.size + 5))) := Lib.hid (hx ▸ raw_head w.drew salt)
    have HX := Lib.hid hx
    have hz : wx.heap.size = w.heap.size + 8 := hx ▸ raw_size w.drew salt
    have HB : Hid (Below w.heap.size w wx) := Lib.hid (kept_trans ((Below.refl w.heap.size w).drew) (hx ▸ raw_below w.drew salt))
    rw [hwx, hx]
    clear hwx hx hd
    go_wp2_with fail
    with_reducible refine (filters_any _ (rawC_size _ _ _ _ _) _ HH.out).mono ?_
    rintro e w2 ⟨rfl, a, z, FW, FQ, h1, h2, h3, h4, h5, h6, h7⟩
    obtain ⟨F, hn, hF⟩ := raw_node salt w.drew rfl h1 h2 h3 (fun k hk => by have := h4 k hk; show w.heap.size + 8 ≤ k; omega) (fun k hk => by have := h5 k hk; show w.heap.size + 8 ≤ k; omega) h6 (HX.out ▸ h7)
    have HN := Lib.hid hn
    have HF : Hid (∀ k, F k → w.heap.size ≤ k) := Lib.hid hF
    have HB2 : Hid (Below w.heap.size w w2) := Lib.hid (HB.out.trans (h7.below (fun k hk => by omega) (by omega)))
    clear h1 h2 h3 h4 h5 h6 h7 hn hF
    go_wp2_with fail
    go_ret
    exact ⟨_, F, rfl, HN.out, HF.out, HB2.out⟩
end Go.Proofs.YtmbejeibcncmmaaGreat
namespace Go.Proofs.YtmbejeibcncmmaaGreat
open Go.RowKit Go.Maps

variable {w w' : World} {F : Nat → Prop} {R : Nat} {s : NS}

/-- The bytes of a message, as the laws write them. -/
def bytesM (m : Ms.MsgD) : ByteArray := if Ms.checkM m = 0 then str (Ms.encM m) else ⟨#[]⟩
/-- A deed as a message. -/
def bringB (d : DeedD) : ByteArray := str (Ms.encM ⟨3, [], str (encB d)⟩)
theorem bringM_ok {d : DeedD} (h : checkD d = 0) : Ms.checkM ⟨3, [], str (encB d)⟩ = 0 := by
  obtain ⟨h1, h2⟩ := Ju.enc_small d (str (encB d)) h rfl
  rw [Ms.checkM_rest (by show within 3 1 4 = true; decide) (by simp) (by
    rintro (h | h)
    · simp at h
    · simp only at h
      omega) (by
    rintro ⟨_, h⟩
    simp only at h
    omega)]
  rfl
theorem str_data (l : List UInt8) : (str l).data.toList = l := str_list l
theorem send_brought {p : Nat} {d : DeedD} (hd : checkD d = 0) (ht : s.thereE p = 0) : s.send p (bringB d) = (s.bring p d, [], 0) := by
  have hm := bringM_ok hd
  obtain ⟨c0, c1, _, c2, c3, c4⟩ := check_ok hd
  unfold NS.send bringB
  rw [if_neg (not_not_intro ht), str_data, if_neg (not_not_intro (Ms.errM_enc hm)), Ms.ansM_enc hm]
  have he : errD (encB d) = 0 := by
    unfold errD
    rw [if_neg (not_not_intro (form_enc d c0)), read_enc d c0 c1 c2 c3 c4]
    exact hd
  simp only [str_data, Int.toNat_natCast]
  rw [if_neg (by decide), if_neg (by decide), if_neg (by decide), if_neg (not_not_intro he), read_enc d c0 c1 c2 c3 c4]
set_option maxRecDepth 20000 in
theorem bytesOf_any (m : Ms.MsgD) (a : Option Addr) (cap : Nat) (w : World) (hi : IdsAt w a m.ids) (E : ByteArray) (hE : bytesM m = E) :
    Calls Tryz.prog 31 #[.agg #[.int .i64 m.kind, .slice a m.ids.length cap, .string m.body]] w fun e w' => e = .returned (.string E) ∧ Below w.heap.size w w' := by
  obtain ⟨wb, hwb⟩ : ∃ wb, w.alloc (.cells #[.int .i64 m.kind, .slice a m.ids.length cap, .string m.body] 43) = wb := ⟨_, rfl⟩
  have hk0 : Below w.heap.size w wb := hwb ▸ kept_new _ _
  obtain ⟨b0, b1, b2⟩ : MsgBox wb w.heap.size a cap m := hwb ▸ box_msg w a cap m
  have l0 := (cell_spot b0).2
  have HI := Lib.hid (idsAt_kept hk0 hi)
  have HK := Lib.hid hk0
  unfold bytesM at hE
  clear hk0 hi
  by_cases h : Ms.checkM m = 0
  · rw [if_pos h] at hE
    have HE := Lib.hid hE
    have HC := Lib.hid h
    clear h hE
    go_enter Tryz.func31, Tryz.ntmps31
    go_wp2_with fail
    with_reducible refine (mencode_ok m a cap _ E HI.out HC.out HE.out).mono ?_
    rintro e w1 ⟨rfl, hb1⟩
    have HB1 := Lib.hid (kept_trans HK.out hb1)
    clear hb1
    go_wp2_with fail
    go_ret
    exact ⟨rfl, HB1.out⟩
  · rw [if_neg h] at hE
    subst hE
    obtain ⟨r, hr⟩ : ∃ r, Ms.checkM m = r := ⟨_, rfl⟩
    have h0 : r ≠ 0 := fun e => h (by rw [hr]; exact e)
    have HC := Lib.hid hr
    clear h hr
    go_enter Tryz.func31, Tryz.ntmps31
    go_wp2_with fail
    with_reducible refine (Ms.mencode_err m a cap _ r HI.out HC.out h0).mono ?_
    rintro e w1 ⟨rfl, hb1⟩
    have HB1 := Lib.hid (kept_trans HK.out hb1)
    clear hb1
    go_wp2_with fail
    go_ret
    exact ⟨rfl, HB1.out⟩
theorem bytesOf_bring (E B : ByteArray) (hB : bytesM ⟨3, [], E⟩ = B) (w : World) : Calls Tryz.prog 31 #[.agg #[.int .i64 3, .slice none 0 0, .string E]] w fun e w' => e = .returned (.string B) ∧ Below w.heap.size w w' :=
  bytesOf_any ⟨3, [], E⟩ none 0 w (fun i hi => absurd hi (by simp)) B hB
set_option maxRecDepth 20000 in
theorem bringB_any (d : DeedD) (hd : checkD d = 0) (a : Option Addr) (cap : Nat) (B : ByteArray) (hB : bringB d = B) (w : World) (hi : InsAt w a d.ins) :
    Calls Tryz.prog 42 #[.agg #[.slice a d.ins.length cap, .int .i64 d.outs, .int .i64 d.weight, .int .i64 d.fee]] w fun e w' => e = .returned (.string B) ∧ Below w.heap.size w w' := by
  obtain ⟨wb, hwb⟩ : ∃ wb, w.alloc (.cells #[.slice a d.ins.length cap, .int .i64 d.outs, .int .i64 d.weight, .int .i64 d.fee] 53) = wb := ⟨_, rfl⟩
  have hk0 : Below w.heap.size w wb := hwb ▸ kept_new _ _
  obtain ⟨b0, b1, b2, b3⟩ : DeedBox wb w.heap.size a cap d := hwb ▸ box_deed w a cap d
  have l0 := (cell_spot b0).2
  have HI := Lib.hid (insAt_kept hk0 hi)
  have HK := Lib.hid hk0
  obtain ⟨E, hE⟩ : ∃ E, str (encB d) = E := ⟨_, rfl⟩
  have HE := Lib.hid hE
  have HD := Lib.hid hd
  have HB : Hid (bytesM ⟨3, [], E⟩ = B) := Lib.hid (by unfold bytesM; rw [← hE, if_pos (bringM_ok hd)]; exact hB)
  clear hk0 hi hE hd hB
  go_enter Tryz.func42, Tryz.ntmps42
  go_wp2_with fail
  with_reducible refine (Ju.encode_is d a cap _ E HI.out HD.out HE.out).mono ?_
  rintro e w1 ⟨rfl, hb1⟩
  have HB1 := Lib.hid (kept_trans HK.out hb1)
  clear hb1
  go_wp2_with fail
  with_reducible refine (bytesOf_bring E B HB.out _).mono ?_
  rintro e w2 ⟨rfl, hb2⟩
  have HB2 := Lib.hid (kept_trans HB1.out hb2)
  clear hb2
  go_wp2_with fail
  go_ret
  exact ⟨rfl, HB2.out⟩
/-- The deed of the closed fact. -/
def simD : DeedD := ⟨[], 1, 10, 1⟩
theorem bringB_simple (w : World) (B : ByteArray) (hB : bringB simD = B) : Calls Tryz.prog 42 #[.agg #[.slice none 0 0, .int .i64 1, .int .i64 10, .int .i64 1]] w fun e w' => e = .returned (.string B) ∧ Below w.heap.size w w' :=
  bringB_any simD (by decide) none 0 B hB w (fun i hi => absurd hi (by simp [simD]))
/-- A Good deed is brought to a node without orphans. -/
theorem bring_plain {p : Nat} {d : DeedD} (hP : s.P = []) (h1 : Ju.findL s.A (Ju.idD d) = none) (h2 : s.W.has (Ju.idD d) = false) (hj : Ju.judgeL s.A d = (0, [], 0)) (ha : Ju.acceptL s.A d = (0, s.A ++ [d])) : s.bring p d = { s with T := Tr.forgetL (Tr.answerC s.T p (Ju.idD d)).2 (Ju.idD d), A := s.A ++ [d] } := by
  rw [bring_new rfl (by rw [h1]; rfl) h2]
  simp only
  rw [hj, if_neg (by simp), examine_good (by rw [hj])]
  have hc : ∀ x, Ho.childL (Ho.removeL s.P x) x = [] := fun x => by rw [hP]; rfl
  simp only [NS.accept, NS.settle]
  rw [hc, follow_nil, ha, hP]
  rfl
theorem met_A : ((((NS.new 7).setPeer 0 (true, true)).bring 0 simD).A) = [simD] := by
  rw [bring_plain rfl rfl rfl (by decide) rfl]
  rfl
theorem new_there (salt : UInt64) (p : Nat) (hp : p < 8) (f : Bool) : ((NS.new salt).setPeer p (true, f)).thereE p = 0 := by
  unfold NS.thereE NS.setPeer
  rw [if_pos ⟨by omega, by omega⟩]
  simp
theorem join_new (salt : UInt64) (p : Nat) (hp : p < 8) (f : Bool) : (NS.new salt).join p f = ((NS.new salt).setPeer p (true, f), 0) := by
  unfold NS.join
  rw [if_neg (not_not_intro ⟨by omega, by omega⟩), Int.toNat_natCast]
  rfl
theorem simple1 (w : World) : Calls Tryz.prog 43 #[.int .i64 1] w fun e w' => e = .returned (.agg #[.slice none 0 0, .int .i64 1, .int .i64 10, .int .i64 1]) ∧ Below w.heap.size w w' := Ju.simple_any 1 w
theorem new7 (w : World) : Calls Tryz.prog 16 #[.int .u64 7] w fun e w' => ∃ R F, e = .returned (.pointer (some ⟨R, 0, none⟩)) ∧ NodeAt w' F R (NS.new 7) ∧ (∀ k, F k → w.heap.size ≤ k) ∧ Below w.heap.size w w' := new_any 7 w
theorem join0 (w : World) (h : NodeAt w F R (NS.new 7)) : Calls Tryz.prog 29 #[.pointer (some ⟨R, 0, none⟩), .int .i64 0, .bool true] w (TurnsN w F R (.int .i64 0) ((NS.new 7).setPeer 0 (true, true))) := join_any 0 true _ (join_new 7 0 (by decide) true) w h
theorem send0 (B : ByteArray) (hB : bringB simD = B) (w : World) (h : NodeAt w F R ((NS.new 7).setPeer 0 (true, true))) : Calls Tryz.prog 30 #[.pointer (some ⟨R, 0, none⟩), .int .i64 0, .string B] w (SentN w F R (((NS.new 7).setPeer 0 (true, true)).bring 0 simD, [], 0)) :=
  send_any 0 B (by rw [← hB]; decide) (by decide) _ (by rw [← hB]; exact send_brought (p := 0) (by decide) (new_there 7 0 (by decide) true)) w h
set_option maxRecDepth 20000 in
set_option maxHeartbeats 1000000 in
theorem met_any (w : World) : Calls Tryz.prog 15 #[] w fun e w' => e = .returned (.bool true) ∧ Below w.heap.size w w' := by
  obtain ⟨B, hB⟩ : ∃ B, bringB simD = B := ⟨_, rfl⟩
  have HB := Lib.hid hB
  obtain ⟨s2, hs2⟩ : ∃ s2, ((NS.new 7).setPeer 0 (true, true)).bring 0 simD = s2 := ⟨_, rfl⟩
  have hA : s2.A = [simD] := hs2 ▸ met_A
  have HS2 := Lib.hid hs2
  have HA := Lib.hid hA
  clear hB hs2 hA
  go_enter Tryz.func15, Tryz.ntmps15
  go_wp2_with fail
  with_reducible refine (new7 _).mono ?_
  rintro e w1 ⟨R, F, rfl, h1, hF, hb1⟩
  have H1 := Lib.hid h1
  have HF := Lib.hid hF
  have HB1 := Lib.hid hb1
  clear h1 hF hb1
  go_wp2_with fail
  with_reducible refine (join0 _ H1.out).mono ?_
  rintro e w2 ⟨rfl, F2, h2, t2⟩
  have H2 := Lib.hid h2
  have HF2 : Hid (∀ k, F2 k → w.heap.size ≤ k) := Lib.hid (t2.above HF.out HB1.out.size)
  have HB2 := Lib.hid (HB1.out.trans (t2.below HF.out HB1.out.size))
  clear h2 t2
  go_wp2_with fail
  with_reducible refine (simple1 _).mono ?_
  rintro e w3 ⟨rfl, hb3⟩
  have HB3 := Lib.hid hb3
  clear hb3
  go_wp2_with fail
  with_reducible refine (bringB_simple _ B HB.out).mono ?_
  rintro e w4 ⟨rfl, hb4⟩
  have hb := kept_trans HB3.out hb4
  have H4 := Lib.hid (H2.out.kept hb)
  have HB4 := Lib.hid (kept_trans HB2.out hb)
  clear hb hb4
  go_wp2_with fail
  with_reducible refine (send0 B HB.out _ H4.out).mono ?_
  rintro e w5 ⟨v5, F5, rfl, ho5, h5, t5, hn5⟩
  obtain ⟨a5, c5, rfl, _⟩ := outs_form ho5
  have H5 : Hid (NodeAt w5 F5 R s2) := Lib.hid (HS2.out ▸ h5)
  have HB5 := Lib.hid (HB4.out.trans (t5.below HF2.out HB4.out.size))
  have HL : Hid (s2.A.length ≤ 10000000000000) := Lib.hid (by rw [HA.out]; decide)
  clear h5 t5 hn5 ho5
  go_wp2_with fail
  with_reducible refine (accepted_any HL.out _ H5.out).mono ?_
  rintro e w6 ⟨a6, c6, rfl, _, hb6⟩
  rw [HA.out]
  have HB6 := Lib.hid (kept_trans HB5.out hb6)
  clear hb6
  go_wp2_with fail
  go_ret
  exact ⟨rfl, HB6.out⟩
end Go.Proofs.YtmbejeibcncmmaaGreat
namespace Go.Proofs.YtmbejeibcncmmaaGreat.Tr
open Go.RowKit

def intV (n : Int) : Value := .int .i64 n
/-- The memory behind a slice's address holds these ints. -/
def IntsAt (w : World) (a : Option Addr) (l : List Int) : Prop :=
  ∀ i (h : i < l.length), ∃ b o, a = some ⟨b, o, none⟩ ∧ b < w.heap.size ∧ w.cell? ⟨b, o + i, none⟩ = some (.int .i64 l[i])
theorem intsAt_kept {a b : World} {x : Option Addr} {l : List Int} (h : Below a.heap.size a b) (hi : IntsAt a x l) : IntsAt b x l := fun i hl => by
  obtain ⟨bb, o, e, hb, c0⟩ := hi i hl
  exact ⟨bb, o, e, Nat.lt_of_lt_of_le hb h.size, kept_cell h c0⟩
theorem intsAt_nil (w : World) (a : Option Addr) : IntsAt w a [] := fun i hi => absurd hi (by simp)
/-- The slice v holds these ints, in a block of its own from block B on. -/
abbrev OwnInts (w : World) (B : Nat) (v : Value) (d : List Int) : Prop := w.ownsRow B 3 1 v d.length (d.map intV)
theorem ownInts_nil (w : World) (B : Nat) : OwnInts w B (.slice none 0 0) [] := World.ownsRow_nil w B _ 1
theorem ownInts_at {w : World} {B : Nat} {v : Value} {l : List Int} (h : OwnInts w B v l) : ∃ a cap, v = .slice a l.length cap ∧ l.length ≤ cap ∧ IntsAt w a l ∧ Fresh B a := by
  rcases h.2 with ⟨hv, hn⟩ | ⟨g, cap, cur, hv, hB, hg, hc, _, _, _⟩
  · exact ⟨none, 0, by rw [hn]; exact hv, by omega, fun i hi => absurd hi (by omega), fun _ _ _ e => by cases e⟩
  · refine ⟨some ⟨g, 0, none⟩, cap, hv, hc, fun i hi => ?_, fun b o sp e => by cases e; exact hB⟩
    have a0 := h.cells (g := g) (by rw [hv]; rfl) i (intV l[i]) (by rw [List.getElem?_map, List.getElem?_eq_getElem hi]; rfl)
    have f0 : (⟨g, 0, none⟩ : Addr).add i = ⟨g, 0 + i, none⟩ := by unfold Addr.add; split <;> simp_all
    rw [f0] at a0
    exact ⟨g, 0, rfl, (Array.getElem?_eq_some_iff.1 hg).1, a0⟩
theorem own_same' {w w' : World} {B : Nat} {e : TypeId} {size n : Nat} {v : Value} {xs : List Value} (h : w.ownsRow B e size v n xs) (hs : ∀ g, v.ownBlock = some g → w'.heap[g]? = w.heap[g]?) : w'.ownsRow B e size v n xs := ⟨h.1, h.2.imp id fun ⟨g, cap, cur, hv, hb, hh, r⟩ => ⟨g, cap, cur, hv, hb, (hs g (by rw [hv]; rfl)).trans hh, r⟩⟩
theorem ownInts_block {w : World} {B : Nat} {v : Value} {d : List Int} (h : OwnInts w B v d) : ∀ k, v.ownBlock = some k → B ≤ k ∧ k < w.heap.size := fun k hk => h.lt k hk
theorem info_int : (Tryz.prog.info? 3).map (fun i => (i.zero, i.size, i.bytes)) = some (some (.int .i64 0), 1, 8) := by kernel_rfl
/-- 'append(s, x)': the new int lies in a block of its own, laid just ahead. -/
theorem append_int {ops : Array Oper} {rest : List Oper} {o : Oper} {a : Act} {Q : Exit → Act → World → Prop} {w : World} (hgd : o.guard = none) (s x : Operand) (ho : o.op = .call { callee := .builtin .append, args := #[s, x], argTypes := #[72, 72] })
    {B : Nat} {v : Value} {d : List Int} (y : Int) (hs : a.eval s = v) (hx : a.eval x = .slice (some ⟨w.heap.size, 0, none⟩) 1 1) (hown : OwnInts w B v d) (hlen : d.length ≤ 1000000) (hB : B ≤ w.heap.size)
    (h : ∀ g cap w', OwnInts w' B (.slice (some ⟨g, 0, none⟩) (d.length + 1) cap) (d ++ [y]) → (w.alloc (.cells #[.int .i64 y] 3)).grownBy w' v.ownBlock → w.grownBy w' v.ownBlock → (v.ownBlock = some g ∨ w.heap.size ≤ g) → wpList Tryz.prog ops Q rest (a.put o.dst (.slice (some ⟨g, 0, none⟩) (d.length + 1) cap)) w') :
    wpList Tryz.prog ops Q (o :: rest) a (w.alloc (.cells #[.int .i64 y] 3)) := by
  obtain ⟨i0, hi0, hz0, hz1, hz2⟩ := info_parts info_int
  refine wpList_append_lies _ hgd s x 72 ho B 3 i0 (.int .i64 0) 1 8 Tryz.underlying72 hi0 hz0 hz1 hz2 rfl (by decide) v d.length (d.map intV) hs (hown.alloc _) ⟨w.heap.size, 0, none⟩ 1 1 [.int .i64 y] hx rfl (cells_new w _ _) (by simp [Value.oneCell']) (by decide) (by unfold maxLen; omega) (by omega) (by simp; omega) _ rfl ?_
  intro g cap w1 hown' hgrow hat _
  refine h g cap w1 ?_ hgrow ((World.grownBy_alloc w _ _).trans hgrow) (hat.imp id (fun e => by rw [e]; simp))
  unfold OwnInts
  rw [List.length_append, List.map_append]
  exact hown'

end Go.Proofs.YtmbejeibcncmmaaGreat.Tr
namespace Go.Proofs.YtmbejeibcncmmaaGreat.Tr
open Go.RowKit

theorem intsAt_take {w : World} {a : Option Addr} {l : List Int} (k : Nat) (h : IntsAt w a l) : IntsAt w a (l.take k) := fun i hi => by
  have h1 : i < l.length := by rw [List.length_take] at hi; omega
  rw [List.getElem_take]
  exact h i h1
theorem contains_int {l : List Int} {x : Int} {k : Nat} (h : k < l.length) (e : x = l[k]) : l.contains x = true := by
  rw [List.contains_iff_mem]; rw [e]; exact List.getElem_mem h
theorem take_contains_int {l : List Int} {x : Int} {k : Nat} (h : k < l.length) (n : (l.take k).contains x = false) (e : x ≠ l[k]) : (l.take (k + 1)).contains x = false := by
  rw [List.take_succ_eq_append_getElem h, ← Bool.not_eq_true, List.contains_iff_mem, List.mem_append, not_or]
  refine ⟨by rw [← List.contains_iff_mem, n]; simp, by simpa using e⟩

end Go.Proofs.YtmbejeibcncmmaaGreat.Tr
namespace Go.Proofs.YtmbejeibcncmmaaGreat.Tr
open Go.ChangeShapes Go.WideShapes Go.ChangeAt Go.RowKit Go.Joins Go.Deep

set_option maxRecDepth 100000 in
theorem open_ints_arg {H : Type} {enc : TypeId × Value → H} {w : World} {r : Reach} {b0 : Nat} {v : Value} {d : DataW H} {p : List MemPlace} (hv : Value.okWide Tryz.prog w r b0 72 v) (h : DataW.Trod enc Tryz.prog w 0 (fun _ => true) true 72 v d p) :
    ∃ (a : Option Addr) (cap : Nat) (l : List Int), v = .slice a l.length cap ∧ l.length ≤ cap ∧ l.length ≤ maxLen ∧ IntsAt w a l := by
  obtain ⟨xa, xl, xc, rfl⟩ := okWide_slice Tryz.underlying72 hv
  obtain ⟨n, hf⟩ := h
  rcases open_slice Tryz.underlying72 hf with ⟨hc, _⟩ | ⟨a, len, cap, m, k, D, Pl, hcs, hb, hl, hm, hmm, _, hx⟩
  · simp only [Value.cells, List.cons.injEq, and_true] at hc
    exact ⟨none, 0, [], hc, Nat.le_refl _, Nat.zero_le _, fun i hi => absurd hi (by simp)⟩
  · simp only [Value.cells, List.cons.injEq, and_true] at hcs
    simp only [if_true] at hmm
    subst hmm
    have ce : Tryz.prog.cellsOf 3 = 1 := by kernel_rfl
    have each : ∀ i, i < m → ∃ q : Int, w.cell? (a.add i) = some (.int .i64 q) := by
      intro i hi
      obtain ⟨cs', h1, h2⟩ := hx i hi
      rw [ce, Nat.mul_one] at h1
      obtain ⟨_, hlen, hcell⟩ := World.cells?_some h1
      match cs', hlen with
      | [v0], _ =>
        obtain ⟨u0, e0, _, _⟩ := DataW.trod_int Tryz.underlying3 h2
        simp only [List.cons.injEq, and_true] at e0
        subst e0
        have := hcell 0 (by omega)
        rw [add_add, Nat.add_zero] at this
        exact ⟨u0, this⟩
    obtain ⟨f, hf⟩ := choose_lt each
    refine ⟨some a, m, (List.range len).map f, by simp [hcs], by simpa using hl, by simp; omega, fun i hi => ?_⟩
    have hi' : i < len := by simpa using hi
    have g := hf i (by omega)
    obtain ⟨hs, hb⟩ := cell_spot (hf 0 (by omega))
    have hs : a.spot = none := by simpa [Addr.add] using hs
    have hb : a.block < w.heap.size := by simpa [Addr.add] using hb
    obtain ⟨b, o, sp⟩ := a
    simp only at hs hb
    subst hs
    have e : ∀ k, (⟨b, o, none⟩ : Addr).add k = ⟨b, o + k, none⟩ := fun k => by unfold Addr.add; split <;> simp_all
    rw [e] at g
    refine ⟨b, o, rfl, hb, ?_⟩
    simp only [List.getElem_map, List.getElem_range]
    exact g
/-- The memory behind a slice's address holds these bools. -/
def BoolsAt (w : World) (a : Option Addr) (l : List Bool) : Prop :=
  ∀ i (h : i < l.length), ∃ b o, a = some ⟨b, o, none⟩ ∧ b < w.heap.size ∧ w.cell? ⟨b, o + i, none⟩ = some (.bool l[i])
theorem boolsAt_kept {a b : World} {x : Option Addr} {l : List Bool} (h : Below a.heap.size a b) (hi : BoolsAt a x l) : BoolsAt b x l := fun i hl => by
  obtain ⟨bb, o, e, hb, c0⟩ := hi i hl
  exact ⟨bb, o, e, Nat.lt_of_lt_of_le hb h.size, kept_cell h c0⟩
end Go.Proofs.YtmbejeibcncmmaaGreat.Tr
namespace Go.Proofs.YtmbejeibcncmmaaGreat
open Go.ChangeShapes Go.WideShapes Go.ChangeAt Go.RowKit Go.Joins Go.Deep

/-- An act as plain data. -/
structure ActD where
  kind : Int
  peer : Int
  n : Int
  flag : Bool
  bytes : ByteArray
instance : Inhabited ActD := ⟨⟨0, 0, 0, false, ⟨#[]⟩⟩⟩
/-- The five cells of an act from an address on. -/
def ActCells (w : World) (b o : Nat) (d : ActD) : Prop :=
  w.cell? ⟨b, o, none⟩ = some (.int .i64 d.kind) ∧ w.cell? ⟨b, o + 1, none⟩ = some (.int .i64 d.peer) ∧ w.cell? ⟨b, o + 2, none⟩ = some (.int .i64 d.n) ∧ w.cell? ⟨b, o + 3, none⟩ = some (.bool d.flag) ∧ w.cell? ⟨b, o + 4, none⟩ = some (.string d.bytes)
/-- The memory behind a slice's address holds these acts. -/
def ActsAt (w : World) (a : Option Addr) (l : List ActD) : Prop := ∀ i (h : i < l.length), (∃ b o, a = some ⟨b, o, none⟩ ∧ b < w.heap.size ∧ ActCells w b (o + i * 5) l[i]) ∧ l[i].bytes.size ≤ maxLen
theorem actsAt_kept {w w' : World} {a : Option Addr} {l : List ActD} (hb : Below w.heap.size w w') (h : ActsAt w a l) : ActsAt w' a l := fun i hi => by
  obtain ⟨⟨b, o, e, hlt, c0, c1, c2, c3, c4⟩, hs⟩ := h i hi
  exact ⟨⟨b, o, e, Nat.lt_of_lt_of_le hlt hb.size, kept_cell hb c0, kept_cell hb c1, kept_cell hb c2, kept_cell hb c3, kept_cell hb c4⟩, hs⟩
set_option maxRecDepth 100000 in
theorem open_acts_sized {H : Type} {enc : TypeId × Value → H} {w : World} {r : Reach} {b0 : Nat} {v : Value} {d : DataW H} {p : List MemPlace} (hv : Value.okWide Tryz.prog w r b0 23 v) (h : DataW.Trod enc Tryz.prog w 0 (fun _ => true) true 23 v d p) :
    ∃ (a : Option Addr) (cap : Nat) (l : List ActD), v = .slice a l.length cap ∧ l.length ≤ cap ∧ l.length ≤ maxLen ∧ ActsAt w a l ∧ (l = [] ∨ ∃ elems spare, d = .slice elems spare ∧ elems.length = l.length) := by
  obtain ⟨xa, xl, xc, rfl⟩ := okWide_slice Tryz.underlying23 hv
  obtain ⟨n, hf⟩ := h
  rcases open_slice Tryz.underlying23 hf with ⟨hc, _⟩ | ⟨a, len, cap, m, k, D, Pl, hcs, hb, hl, hm, hmm, hy, hx⟩
  · simp only [Value.cells, List.cons.injEq, and_true] at hc
    exact ⟨none, 0, [], hc, Nat.le_refl _, Nat.zero_le _, fun i hi => absurd hi (by simp), .inl rfl⟩
  · simp only [Value.cells, List.cons.injEq, and_true] at hcs
    simp only [if_true] at hmm
    subst hmm
    have ce : Tryz.prog.cellsOf 28 = 5 := by kernel_rfl
    have each : ∀ i, i < m → ∃ q : ActD, (w.cell? (a.add (i * 5)) = some (.int .i64 q.kind) ∧ w.cell? (a.add (i * 5 + 1)) = some (.int .i64 q.peer) ∧ w.cell? (a.add (i * 5 + 2)) = some (.int .i64 q.n) ∧ w.cell? (a.add (i * 5 + 3)) = some (.bool q.flag) ∧ w.cell? (a.add (i * 5 + 4)) = some (.string q.bytes)) ∧ q.bytes.size ≤ maxLen := by
      intro i hi
      obtain ⟨cs', h1, h2⟩ := hx i hi
      rw [ce] at h1
      obtain ⟨_, hlen, hcell⟩ := World.cells?_some h1
      obtain ⟨xs, k', hk, hxy, _, hxl, hf⟩ := DataW.trod_struct Tryz.underlying28 h2
      have ci : Tryz.prog.cellsOf 3 = 1 := by kernel_rfl
      have c4 : Tryz.prog.cellsOf 4 = 1 := by kernel_rfl
      have c5 : Tryz.prog.cellsOf 9 = 1 := by kernel_rfl
      match cs', hlen with
      | [v0, v1, v2, v3, v4], _ =>
        have g0 : DataW.trod enc Tryz.prog w 0 (fun _ => true) true k' 3 ([v0, v1, v2, v3, v4].take (Tryz.prog.cellsOf 3)) = xs[0]? := hf 0 _ rfl
        have g1 : DataW.trod enc Tryz.prog w 0 (fun _ => true) true k' 3 ([v1, v2, v3, v4].take (Tryz.prog.cellsOf 3)) = xs[1]? := hf 1 _ rfl
        have g2 : DataW.trod enc Tryz.prog w 0 (fun _ => true) true k' 3 ([v2, v3, v4].take (Tryz.prog.cellsOf 3)) = xs[2]? := hf 2 _ rfl
        have g3 : DataW.trod enc Tryz.prog w 0 (fun _ => true) true k' 4 ([v3, v4].take (Tryz.prog.cellsOf 4)) = xs[3]? := hf 3 _ rfl
        have g4 : DataW.trod enc Tryz.prog w 0 (fun _ => true) true k' 9 ([v4].take (Tryz.prog.cellsOf 9)) = xs[4]? := hf 4 _ rfl
        rw [ci, List.take_succ_cons, List.take_zero, List.getElem?_eq_getElem (by rw [hxl]; decide)] at g0 g1 g2
        rw [c4, List.take_succ_cons, List.take_zero, List.getElem?_eq_getElem (by rw [hxl]; decide)] at g3
        rw [c5, List.take_succ_cons, List.take_zero, List.getElem?_eq_getElem (by rw [hxl]; decide)] at g4
        obtain ⟨u0, e0, _, _⟩ := DataW.trod_int Tryz.underlying3 g0
        obtain ⟨u1, e1, _, _⟩ := DataW.trod_int Tryz.underlying3 g1
        obtain ⟨u2, e2, _, _⟩ := DataW.trod_int Tryz.underlying3 g2
        obtain ⟨u3, e3, _⟩ := DataW.trod_bool Tryz.underlying4 g3
        obtain ⟨u4, e4, _, hs4⟩ := DataW.trod_string Tryz.underlying9 g4
        simp only [List.cons.injEq, and_true] at e0 e1 e2 e3 e4
        subst e0 e1 e2 e3 e4
        have hc : ∀ j, j < 5 → w.cell? (a.add (i * 5 + j)) = [Value.int .i64 u0, Value.int .i64 u1, Value.int .i64 u2, Value.bool u3, Value.string u4][j]? := fun j hj => by
          have := hcell j hj
          rw [add_add] at this
          exact this
        exact ⟨⟨u0, u1, u2, u3, u4⟩, ⟨hc 0 (by omega), hc 1 (by omega), hc 2 (by omega), hc 3 (by omega), hc 4 (by omega)⟩, hs4⟩
    obtain ⟨f, hf⟩ := choose_lt each
    refine ⟨some a, m, (List.range len).map f, by simp [hcs], by simpa using hl, by simp; omega, fun i hi => ?_, .inr ⟨_, _, (Prod.mk.inj hy).1, by simp⟩⟩
    · have hi' : i < len := by simpa using hi
      have g := hf i (by omega)
      obtain ⟨hs, hb⟩ := cell_spot (hf 0 (by omega)).1.1
      have hs : a.spot = none := by simpa [Addr.add] using hs
      have hb : a.block < w.heap.size := by simpa [Addr.add] using hb
      obtain ⟨b, o, sp⟩ := a
      simp only at hs hb
      subst hs
      have e : ∀ k, (⟨b, o, none⟩ : Addr).add k = ⟨b, o + k, none⟩ := fun k => by unfold Addr.add; split <;> simp_all
      simp only [e, ← Nat.add_assoc] at g
      refine ⟨⟨b, o, rfl, hb, ?_⟩, ?_⟩
      · unfold ActCells
        simp only [List.getElem_map, List.getElem_range]
        exact g.1
      · simp only [List.getElem_map, List.getElem_range]
        exact g.2
set_option maxRecDepth 100000 in
/-- A slice of acts as the second argument, behind a number: its length, by the form's own reach. -/
theorem open_acts_room {H : Type} {enc : TypeId × Value → H} {w : World} {r : Reach} {b0 : Nat} {v : Value} {d d0 : DataW H} {p : List MemPlace} {t0 : TypeId} {ts : List TypeId} {ds : List (DataW H)} (hv : Value.okWide Tryz.prog w r b0 23 v) (h : DataW.Trod enc Tryz.prog w 0 (fun _ => true) true 23 v d p)
    (hsz : (DataW.weightsEach Tryz.prog (t0 :: 23 :: ts) (d0 :: d :: ds)).all (· ≤ reachBytes) = true) :
    ∃ (a : Option Addr) (cap : Nat) (l : List ActD), v = .slice a l.length cap ∧ l.length ≤ cap ∧ l.length ≤ 2932031007402 ∧ ActsAt w a l := by
  obtain ⟨a, cap, l, h1, h2, h3, h4, h5⟩ := open_acts_sized hv h
  refine ⟨a, cap, l, h1, h2, ?_, h4⟩
  rcases h5 with rfl | ⟨elems, spare, rfl, he⟩
  · simp
  · have hb : Tryz.prog.bytesOf 28 = 48 := by kernel_rfl
    have hw : (elems.length + spare.length) * 48 ≤ reachBytes := of_decide_eq_true (List.all_eq_true.1 hsz _ (by
      unfold DataW.weightsEach
      refine List.mem_append_right _ ?_
      unfold DataW.weightsEach DataW.weights
      rw [Tryz.underlying23]
      simp only [hb]
      simp))
    unfold reachBytes at hw
    omega
end Go.Proofs.YtmbejeibcncmmaaGreat
namespace Go.Proofs.YtmbejeibcncmmaaGreat
open Go.RowKit

theorem eqID_any (l m : List UInt64) (a b : Option Addr) (ca cb : Nat) (w : World) (hl : l.length ≤ maxLen) (ha : IdsAt w a l) (hb : IdsAt w b m) :
    Calls Tryz.prog 19 #[.slice a l.length ca, .slice b m.length cb] w fun e w' => e = .returned (.bool (l == m)) ∧ w = w' := by
  unfold maxLen at hl
  by_cases hlen : l.length = m.length
  · have hln : ((l.length : Int) != (m.length : Int)) = false := by simp [hlen]
    have HL := Lib.hid hlen
    clear hlen
    go_enter Tryz.func19, Tryz.ntmps19
    go_wp2
    go_loop [14] (fun i => ∃ k : Nat, k ≤ l.length ∧ i = .int .i64 k ∧ Hid (l.take k = m.take k)) (fun i => l.length - (intOf i).toNat)
    case atStart => exact ⟨0, Nat.zero_le _, rfl, Lib.hid (by simp)⟩
    case round =>
      obtain ⟨k, hk, rfl, NO⟩ := hrel
      by_cases hlt : k < l.length
      · have hlm : k < m.length := by have := HL.out; omega
        obtain ⟨b1, o1, rfl, hb1, hd0⟩ := ha k hlt
        obtain ⟨b2, o2, rfl, hb2, hf0⟩ := hb k hlm
        by_cases hx : l[k] = m[k]
        · have hxb : ((l[k].toNat : Int) != (m[k].toNat : Int)) = false := by rw [bne, u64_beq, beq_iff_eq.2 hx]; rfl
          have HX := Lib.hid hx
          clear hx
          go_wp2
          go_round
          case rel => exact ⟨k + 1, by omega, by go_num, Lib.hid (take_eq_step hlt hlm NO.out HX.out)⟩
          case measure => simp [intOf]; omega
        · have hxb : ((l[k].toNat : Int) != (m[k].toNat : Int)) = true := by rw [bne, u64_beq, beq_eq_false_iff_ne.2 hx]; rfl
          have HX := Lib.hid hx
          clear hx
          go_wp2
          go_ret
          exact ⟨ret_bool (beq_eq_false_iff_ne.2 (ne_of_at hlt hlm HX.out)).symm, rfl⟩
      · go_wp2
        go_ret
        refine ⟨ret_bool ?_, rfl⟩
        have h1 := NO.out
        rw [List.take_of_length_le (by omega), List.take_of_length_le (by have := HL.out; omega)] at h1
        exact (beq_iff_eq.2 h1).symm
  · have hln : ((l.length : Int) != (m.length : Int)) = true := by simp; omega
    have HL := Lib.hid hlen
    clear hlen
    go_enter Tryz.func19, Tryz.ntmps19
    go_wp2
    go_ret
    exact ⟨ret_bool (beq_eq_false_iff_ne.2 fun h => HL.out (by rw [h])).symm, rfl⟩
theorem eqID_is (l m : List UInt64) (a b : Option Addr) (ca cb : Nat) (w : World) (r : Bool) (hl : l.length ≤ maxLen) (ha : IdsAt w a l) (hb : IdsAt w b m) (h : (l == m) = r) :
    Calls Tryz.prog 19 #[.slice a l.length ca, .slice b m.length cb] w fun e w' => e = .returned (.bool r) ∧ w = w' := h ▸ eqID_any l m a b ca cb w hl ha hb

end Go.Proofs.YtmbejeibcncmmaaGreat
namespace Go.Proofs.YtmbejeibcncmmaaGreat
open Go.RowKit Go.Maps

variable {w w' : World} {F : Nat → Prop} {R : Nat} {s : NS}

theorem message_none (p : Nat) : message p ⟨2, [], ⟨#[]⟩⟩ = [] := by unfold message; rw [if_neg (by decide)]
theorem asks_none (h : s.T = []) (p : Nat) : s.asks p = [] := by unfold NS.asks; rw [h]; rfl
theorem wait_none (h : s.T = []) : ∀ k, s.wait k = (s, [])
  | 0 => rfl
  | k + 1 => by
    have ih := wait_none h k
    simp only [NS.wait, ih]
    unfold NS.request
    rw [asks_none h, message_none]
    rfl
theorem pass_none (h : s.T = []) {k : Int} (hk : ¬ (k < 0 ∨ k > 1099511627776 - s.now)) : s.pass k = ({ s with now := s.now + k }, [], 0) := by
  unfold NS.pass
  rw [if_neg hk]
  have hd : ∀ t, Tr.dueL t s.T = [] := fun t => by rw [h]; rfl
  rw [wait_none (s := ({ s with now := s.now + k, T := Tr.dueL (s.now + k) s.T } : NS)) (hd _)]
  simp only [hd]
  rw [← h]
theorem fly_none (h : s.T = []) : Fly s := fun p _ => by unfold flies; rw [h]; simp
/-- A node that a law has made since the world w0. -/
structure Mine (w0 w : World) (F : Nat → Prop) (R : Nat) (s : NS) : Prop where
  node : NodeAt w F R s
  above : ∀ k, F k → w0.heap.size ≤ k
  below : Below w0.heap.size w0 w
theorem Mine.kept {w0 : World} (h : Mine w0 w F R s) (hb : Below w.heap.size w w') : Mine w0 w' F R s := ⟨h.node.kept hb, h.above, kept_trans h.below hb⟩
theorem Mine.turned {w0 : World} {F' : Nat → Prop} {s' : NS} (h : Mine w0 w F R s) (hn : NodeAt w' F' R s') (ht : Turn F F' w w') : Mine w0 w' F' R s' := ⟨hn, ht.above h.above h.below.size, h.below.trans (ht.below h.above h.below.size)⟩
theorem mine_new {w0 : World} (salt : UInt64) (w : World) (hb : Below w0.heap.size w0 w) : Calls Tryz.prog 16 #[.int .u64 salt.toNat] w fun e w' => ∃ R F, e = .returned (.pointer (some ⟨R, 0, none⟩)) ∧ Mine w0 w' F R (NS.new salt) ∧ (∀ k, F k → w.heap.size ≤ k) ∧ Below w.heap.size w w' :=
  (new_any salt w).mono fun _ _ ⟨R, F, h1, h2, h3, h4⟩ => ⟨R, F, h1, ⟨h2, fun k hk => Nat.le_trans hb.size (h3 k hk), kept_trans hb h4⟩, h3, h4⟩
set_option maxRecDepth 20000 in
set_option maxHeartbeats 2000000 in
theorem nodeWaits_walk (salt : UInt64) (l : List Int) (a : Option Addr) (cap : Nat) (hl : l.length ≤ maxLen) (w : World) (hi : Tr.IntsAt w a l) : Calls Tryz.prog 9 #[.int .u64 salt.toNat, .slice a l.length cap] w fun e w' => e = .returned (.bool true) ∧ Below w.heap.size w w' := by
  have HI := Lib.hid hi
  have hml : maxLen = 9223372036854775807 := rfl
  clear hi
  go_enter Tryz.func9, Tryz.ntmps9
  go_wp2_with fail
  with_reducible refine (met_any _).mono ?_
  rintro e w1 ⟨rfl, hb1⟩
  have HB1 := Lib.hid hb1
  clear hb1
  go_wp2_with fail
  with_reducible refine (mine_new salt _ HB1.out).mono ?_
  rintro e w2 ⟨R, F, rfl, h2, _, _⟩
  have H2 := Lib.hid h2
  clear h2
  go_wp2_with fail
  go_loopw [6, 19] (fun v6 i wr => ∃ (k : Nat) (t : Int) (F' : Nat → Prop), k ≤ l.length ∧ i = .int .i64 k ∧ v6 = .int .i64 t ∧ 0 ≤ t ∧ t ≤ 1099511627776 ∧ Hid (Mine w wr F' R { NS.new salt with now := t })) (fun _ i _ => l.length - (intOf i).toNat)
  case atStart => exact ⟨0, 0, F, Nat.zero_le _, rfl, rfl, Int.le_refl _, by decide, H2⟩
  case round =>
    obtain ⟨k, t, F4, hk, rfl, rfl, ht0, ht1, H4⟩ := hrel
    by_cases hkl : k < l.length
    · obtain ⟨g, o, rfl, hg, hc2⟩ := HI.out k hkl
      have hc3 := cell_later H4.out.below hc2
      obtain ⟨y, hy⟩ : ∃ y, l[k] = y := ⟨_, rfl⟩
      rw [hy] at hc2 hc3
      have l5 := (cell_spot hc3).2
      have HFL : Hid (Fly ({ NS.new salt with now := t } : NS)) := Lib.hid (fly_none rfl)
      clear hy hc2
      by_cases hbad : y < 0 ∨ y > 1099511627776 - t
      · have HP : Hid (({ NS.new salt with now := t } : NS).pass y = ({ NS.new salt with now := t }, [], 1)) := Lib.hid (by unfold NS.pass; rw [if_pos hbad])
        go_wp2_with fail
        with_reducible refine (wait_any y HFL.out _ HP.out _ H4.out.node).mono ?_
        rintro e w5 ⟨v5, F5, rfl, ho5, h5, t5, _⟩
        obtain ⟨a5, c5, rfl, _⟩ := outs_form ho5
        have H5 := Lib.hid (H4.out.turned h5 t5)
        clear h5 t5 ho5
        by_cases hy0 : y < 0
        · go_wp2_with fail
          with_reducible refine (now_any _ H5.out.node).mono ?_
          rintro e w6 ⟨rfl, rfl⟩
          go_wp2_with fail
          go_roundw
          case rel => exact ⟨k + 1, t, F5, by omega, by go_num, rfl, ht0, ht1, H5⟩
          case measure => simp [intOf]; omega
        · have hy1 : y > 1099511627776 - t := hbad.resolve_left hy0
          clear hbad
          go_wp2_with fail
          with_reducible refine (now_any _ H5.out.node).mono ?_
          rintro e w6 ⟨rfl, rfl⟩
          go_wp2_with fail
          go_roundw
          case rel => exact ⟨k + 1, t, F5, by omega, by go_num, rfl, ht0, ht1, H5⟩
          case measure => simp [intOf]; omega
      · have HP : Hid (({ NS.new salt with now := t } : NS).pass y = ({ NS.new salt with now := t + y }, [], 0)) := Lib.hid (pass_none rfl hbad)
        have hy0 : ¬ y < 0 := fun e => hbad (.inl e)
        have hy1 : ¬ y > 1099511627776 - t := fun e => hbad (.inr e)
        clear hbad
        go_wp2_with fail
        with_reducible refine (wait_any y HFL.out _ HP.out _ H4.out.node).mono ?_
        rintro e w5 ⟨v5, F5, rfl, ho5, h5, t5, _⟩
        obtain ⟨a5, c5, rfl, _⟩ := outs_form ho5
        have H5 := Lib.hid (H4.out.turned h5 t5)
        clear h5 t5 ho5
        go_wp2_with fail
        with_reducible refine (now_any _ H5.out.node).mono ?_
        rintro e w6 ⟨rfl, rfl⟩
        go_wp2_with fail
        go_roundw
        case rel => exact ⟨k + 1, t + y, F5, by omega, by go_num, rfl, by omega, by omega, H5⟩
        case measure => simp [intOf]; omega
    · go_wp2_with fail
      go_ret
      exact ⟨rfl, H4.out.below⟩
end Go.Proofs.YtmbejeibcncmmaaGreat
namespace Go.Proofs.YtmbejeibcncmmaaGreat
open Go.RowKit Go.Maps

variable {w w' : World} {F : Nat → Prop} {R : Nat} {s : NS}

/-- No more requests are under way than were. -/
def Calm (T T' : List Tr.TEnt) : Prop := ∀ p, flies T' p ≤ flies T p
theorem Calm.refl (T : List Tr.TEnt) : Calm T T := fun _ => Nat.le_refl _
theorem Calm.trans {a b c : List Tr.TEnt} (h : Calm a b) (k : Calm b c) : Calm a c := fun p => Nat.le_trans (k p) (h p)
theorem calm_forget (T : List Tr.TEnt) (x : UInt64) : Calm T (Tr.forgetL T x) := fun p => flies_sub List.filter_sublist p
theorem calm_answer (T : List Tr.TEnt) (p : Int) (x : UInt64) : Calm T (Tr.answerC T p x).2 := fun q => by
  unfold Tr.answerC
  split
  · unfold Tr.answerL
    split
    · refine Nat.le_trans (flies_settle _ q) (flies_map q fun e _ h => ?_)
      unfold Tr.doneE at h
      split at h
      · simp at h
      · exact h
    · exact Nat.le_refl _
  · exact Nat.le_refl _
theorem calm_ann (T : List Tr.TEnt) (p : Int) (x : UInt64) (t : Int) (f : Bool) : Calm T (Tr.annC T p x t f).2 := fun q => by
  unfold Tr.annC
  split
  · unfold Tr.annL
    split
    · exact Nat.le_refl _
    · split
      · exact Nat.le_refl _
      · unfold flies
        rw [List.filter_append]
        simp
  · exact Nat.le_refl _
theorem calm_drop (T : List Tr.TEnt) (p : Nat) : Calm T (Tr.dropL T p) := fun q => Nat.le_trans (flies_settle _ q) (flies_sub List.filter_sublist q)
/-- What is accepted and kept grows by at most n; requests do not grow. -/
structure Grow (n : Nat) (s t : NS) : Prop where
  sum : t.A.length + t.P.length ≤ s.A.length + s.P.length + n
  calm : Calm s.T t.T
theorem Grow.refl (s : NS) : Grow 0 s s := ⟨Nat.le_refl _, Calm.refl _⟩
theorem Grow.trans {a b : Nat} {s t u : NS} (h : Grow a s t) (k : Grow b t u) : Grow (a + b) s u := ⟨by have := h.sum; have := k.sum; omega, h.calm.trans k.calm⟩
theorem Grow.mono {a b : Nat} {s t : NS} (h : Grow a s t) (hab : a ≤ b) : Grow b s t := ⟨by have := h.sum; omega, h.calm⟩
theorem settle_T (s : NS) (x : UInt64) : Calm s.T (s.settle x).T := calm_forget _ _
theorem accept_T (s : NS) (x : UInt64) (d : DeedD) : Calm s.T (s.accept x d).T := calm_forget _ _
theorem seek_T (s : NS) (x : UInt64) (d : DeedD) : Calm s.T (s.seek x d).1.T := by
  unfold NS.seek
  split
  · exact Calm.refl _
  · exact (accept_T _ _ _).trans (accept_T _ _ _)
theorem examine_T (s : NS) (x : UInt64) (d : DeedD) : Calm s.T (s.examine x d).1.T := by
  unfold NS.examine
  split
  · exact accept_T _ _ _
  · split
    · exact (settle_T { s with Q := s.Q.put x } x).trans (seek_T _ x d)
    · split
      · exact settle_T { s with W := s.W.put x } x
      · exact Calm.refl _
theorem follow_grow (s : NS) (q : List UInt64) : Grow 0 s (s.follow q) := by
  induction s, q using NS.follow.induct with
  | case1 s => rw [follow_nil]; exact Grow.refl _
  | case2 s x r h ih => rw [follow_none _ _ _ h]; exact ih
  | case3 s x r d h ih =>
    rw [follow_some _ _ _ _ h]
    have h1 : Grow 0 s (s.examine x d).1 := ⟨examine_sum' s x d d h, examine_T s x d⟩
    exact h1.trans ih
theorem want_grow (s : NS) (p : Nat) (x : UInt64) : Grow 0 s (s.want p x) := by
  unfold NS.want
  split
  · exact Grow.refl _
  · exact ⟨Nat.le_refl _, calm_ann _ _ _ _ _⟩
theorem wants_grow (p : Nat) : ∀ (l : List UInt64) (s : NS), Grow 0 s (l.foldl (fun s m => s.want p m) s)
  | [], _ => Grow.refl _
  | x :: r, s => (want_grow s p x).trans (wants_grow p r _)
theorem add_len (L : List Ho.LinkD) (p : Int) (x : UInt64) (d : DeedD) : (Ho.addC L p x d).2.length ≤ L.length + 1 := by
  unfold Ho.addC
  split
  · simp
  · split
    · simp
    · split
      · simp
      · have := (Ho.room_sub (Ho.newL L p.toNat x d)).length_le
        refine Nat.le_trans this ?_
        unfold Ho.newL
        simp
theorem adopt_grow (s : NS) (p : Nat) (x : UInt64) (d : DeedD) (ms : List UInt64) : Grow 1 s (s.adopt p x d ms) := by
  have h1 : Grow 1 s { s with T := Tr.forgetL s.T x, P := (Ho.addC s.P p x d).2 } := ⟨by have := add_len s.P p x d; show s.A.length + (Ho.addC s.P p x d).2.length ≤ _; omega, calm_forget _ _⟩
  unfold NS.adopt
  simp only
  split
  · exact h1.trans (wants_grow p ms _)
  · exact h1
/-- What is missing is Lost. -/
theorem miss_lost {L : List DeedD} {d : DeedD} (h : (Ju.judgeL L d).2.1 ≠ []) : (Ju.judgeL L d).1 = 2 := by
  unfold Ju.judgeL at h ⊢
  split at h
  · exact absurd rfl h
  · rename_i hc
    rw [if_neg hc]
    show Ju.stateL L d = 2
    unfold Ju.stateL Ju.stateM
    rw [if_pos h]
theorem bring_grow (s : NS) (p : Nat) (d : DeedD) : Grow 1 s (s.bring p d) := by
  have h0 : Grow 0 s { s with T := (Tr.answerC s.T p (Ju.idD d)).2 } := ⟨Nat.le_refl _, calm_answer _ _ _⟩
  by_cases hk : ((Ju.findL s.A (Ju.idD d)).isSome || s.W.has (Ju.idD d)) = true
  · rw [bring_known hk]
    exact h0.mono (by omega)
  · rw [Bool.not_eq_true, Bool.or_eq_false_iff] at hk
    rw [bring_new rfl hk.1 hk.2]
    refine h0.trans (Grow.trans (a := 1) ?_ (follow_grow _ _))
    split
    · rename_i hm
      have hl := miss_lost hm
      have he := examine_lost (s := ({ s with T := (Tr.answerC s.T p (Ju.idD d)).2 } : NS)) (x := Ju.idD d) (d := d) (by rw [hl]; decide) (by rw [hl]; decide) (by rw [hl]; decide)
      rw [he]
      exact adopt_grow _ _ _ _ _
    · exact ⟨examine_sum _ _ _, examine_T _ _ _⟩
theorem ann1_grow (s : NS) (p : Nat) (x : UInt64) : Grow 0 s (s.announce1 p x) := by
  unfold NS.announce1
  split
  · exact Grow.refl _
  · exact ⟨Nat.le_refl _, calm_ann _ _ _ _ _⟩
theorem announce_grow (p : Nat) : ∀ (l : List UInt64) (s : NS), Grow 0 s (s.announce p l)
  | [], _ => Grow.refl _
  | x :: r, s => (ann1_grow s p x).trans (announce_grow p r _)
theorem missing_grow (p : Nat) : ∀ (l : List UInt64) (s : NS), Grow 0 s (s.missing p l)
  | [], _ => Grow.refl _
  | x :: r, s => (show Grow 0 s { s with T := (Tr.answerC s.T p x).2 } from ⟨Nat.le_refl _, calm_answer _ _ _⟩).trans (missing_grow p r _)
theorem send_grow (s : NS) (p : Int) (b : ByteArray) : Grow 1 s (s.send p b).1 := by
  unfold NS.send
  simp only
  split
  · exact (Grow.refl _).mono (by omega)
  · split
    · exact (Grow.refl _).mono (by omega)
    · split
      · exact (announce_grow _ _ _).mono (by omega)
      · split
        · exact (missing_grow _ _ _).mono (by omega)
        · split
          · exact (Grow.refl _).mono (by omega)
          · split
            · exact (Grow.refl _).mono (by omega)
            · exact bring_grow _ _ _
theorem asks_good (p : Nat) : ∀ (l : List UInt64) (u : NS), Tr.Good u.T → Tr.Good (l.foldl (fun s x => { s with T := (Tr.askC s.T p x (s.later 10)).2 }) u).T
  | [], _, h => h
  | x :: r, u, h => asks_good p r { u with T := (Tr.askC u.T p x (u.later 10)).2 } (askC_good h p x _)
theorem asks_rest (p : Nat) : ∀ (l : List UInt64) (u : NS), (l.foldl (fun s x => { s with T := (Tr.askC s.T p x (s.later 10)).2 }) u).A = u.A ∧ (l.foldl (fun s x => { s with T := (Tr.askC s.T p x (s.later 10)).2 }) u).P = u.P
  | [], _ => ⟨rfl, rfl⟩
  | x :: r, u => asks_rest p r { u with T := (Tr.askC u.T p x (u.later 10)).2 }
theorem wait_keeps (u : NS) (hf : Fly u) (hg : Tr.Good u.T) : ∀ k, Fly (u.wait k).1 ∧ Tr.Good (u.wait k).1.T ∧ (u.wait k).1.A = u.A ∧ (u.wait k).1.P = u.P
  | 0 => ⟨hf, hg, rfl, rfl⟩
  | k + 1 => by
    obtain ⟨h1, h2, h3, h4⟩ := wait_keeps u hf hg k
    simp only [NS.wait]
    refine ⟨fly_request h1 h2 k, asks_good k _ _ h2, ?_, ?_⟩
    · unfold NS.request
      rw [(asks_rest k _ _).1, h3]
    · unfold NS.request
      rw [(asks_rest k _ _).2, h4]
theorem pass_keeps (hf : Fly s) (hg : Tr.Good s.T) (k : Int) : Fly (s.pass k).1 ∧ (s.pass k).1.A = s.A ∧ (s.pass k).1.P = s.P := by
  by_cases hk : k < 0 ∨ k > 1099511627776 - s.now
  · have : s.pass k = (s, [], 1) := by unfold NS.pass; rw [if_pos hk]
    rw [this]
    exact ⟨hf, rfl, rfl⟩
  · obtain ⟨u, hu⟩ : ∃ u : NS, ({ s with now := s.now + k, T := Tr.dueL (s.now + k) s.T } : NS) = u := ⟨_, rfl⟩
    have he : s.pass k = ((u.wait 8).1, (u.wait 8).2, 0) := by unfold NS.pass; rw [if_neg hk, hu]
    have hA : u.A = s.A := by rw [← hu]
    have hP : u.P = s.P := by rw [← hu]
    have hF : Fly u := by rw [← hu]; exact fun p hp => Nat.le_trans (flies_due _ _ p) (hf p hp)
    have hG : Tr.Good u.T := by rw [← hu]; exact Tr.good_due hg _
    have hk := wait_keeps u hF hG 8
    obtain ⟨r, hr⟩ : ∃ r, u.wait 8 = r := ⟨_, rfl⟩
    rw [hr] at hk he
    obtain ⟨h1, _, h3, h4⟩ := hk
    rw [he]
    exact ⟨h1, h3.trans hA, h4.trans hP⟩
/-- What is so of a node behind n acts. -/
structure NInv (n : Nat) (s : NS) : Prop where
  fly : Fly s
  sum : s.A.length + s.P.length ≤ n
theorem Grow.inv {n : Nat} {t : NS} (h : Grow 1 s t) (hi : NInv n s) : NInv (n + 1) t := ⟨fun p hp => Nat.le_trans (h.calm p) (hi.fly p hp), by have := h.sum; have := hi.sum; omega⟩
theorem inv_new (salt : UInt64) : NInv 0 (NS.new salt) := ⟨fly_none rfl, Nat.le_refl _⟩
/-- An act. -/
def NS.did (s : NS) (a : ActD) : NS × List OutD × Int :=
  if a.kind = 1 then ((s.join a.peer a.flag).1, [], (s.join a.peer a.flag).2)
  else if a.kind = 2 then ((s.leave a.peer).1, [], (s.leave a.peer).2)
  else if a.kind = 3 then s.send a.peer a.bytes
  else if a.kind = 4 then s.pass a.n
  else (s, [], 1)
theorem join_grow (s : NS) (p : Int) (f : Bool) : Grow 1 s (s.join p f).1 := by
  unfold NS.join
  split
  · exact (Grow.refl _).mono (by omega)
  · split
    · exact (Grow.refl _).mono (by omega)
    · exact ⟨by show s.A.length + s.P.length ≤ _; omega, Calm.refl _⟩
theorem leave_grow (s : NS) (p : Int) : Grow 1 s (s.leave p).1 := by
  unfold NS.leave
  split
  · exact (Grow.refl _).mono (by omega)
  · refine ⟨?_, calm_drop _ _⟩
    have : (Ho.dropL s.P p.toNat).length ≤ s.P.length := List.length_filter_le _ _
    show s.A.length + (Ho.dropL s.P p.toNat).length ≤ _
    omega
theorem did_inv {n : Nat} (hi : NInv n s) (hg : Tr.Good s.T) (a : ActD) : NInv (n + 1) (s.did a).1 := by
  unfold NS.did
  split
  · exact (join_grow s _ _).inv hi
  · split
    · exact (leave_grow s _).inv hi
    · split
      · exact (send_grow s _ _).inv hi
      · split
        · obtain ⟨h1, h2, h3⟩ := pass_keeps hi.fly hg a.n
          exact ⟨h1, by rw [h2, h3]; have := hi.sum; omega⟩
        · exact ((Grow.refl s).mono (by omega)).inv hi
theorem turns_sent {v : Int} {s' : NS} {e : Ending} (h : TurnsN w F R (.int .i64 v) s' e w') : e = .returned (.int .i64 v) ∧ SentN w F R (s', [], v) (.returned (.tuple #[.slice none 0 0, .int .i64 v])) w' := by
  obtain ⟨he, F', h1, h2⟩ := h
  exact ⟨he, sent_none h1 h2⟩
set_option maxRecDepth 20000 in
set_option maxHeartbeats 1000000 in
theorem did_any (a : ActD) (n : Nat) (hn : n ≤ 2950000000000) (hi : NInv n s) (hs : a.bytes.size ≤ maxLen) (q : NS × List OutD × Int) (hq : s.did a = q) (w : World) (h : NodeAt w F R s) :
    Calls Tryz.prog 17 #[.pointer (some ⟨R, 0, none⟩), .agg #[.int .i64 a.kind, .int .i64 a.peer, .int .i64 a.n, .bool a.flag, .string a.bytes]] w (SentN w F R q) := by
  obtain ⟨kd, pe, nn, fl, by'⟩ := a
  simp only at hs
  unfold NS.did at hq
  simp only at hq ⊢
  obtain ⟨wb, hwb⟩ : ∃ wb, w.alloc (.cells #[.int .i64 kd, .int .i64 pe, .int .i64 nn, .bool fl, .string by'] 28) = wb := ⟨_, rfl⟩
  have hk0 : Below w.heap.size w wb := hwb ▸ kept_new _ _
  have b0 : wb.cell? ⟨w.heap.size, 0, none⟩ = some (.int .i64 kd) := by rw [← hwb]; simp [go_sem]
  have b1 : wb.cell? ⟨w.heap.size, 1, none⟩ = some (.int .i64 pe) := by rw [← hwb]; simp [go_sem]
  have b2 : wb.cell? ⟨w.heap.size, 2, none⟩ = some (.int .i64 nn) := by rw [← hwb]; simp [go_sem]
  have b3 : wb.cell? ⟨w.heap.size, 3, none⟩ = some (.bool fl) := by rw [← hwb]; simp [go_sem]
  have b4 : wb.cell? ⟨w.heap.size, 4, none⟩ = some (.string by') := by rw [← hwb]; simp [go_sem]
  have l0 := (cell_spot b0).2
  have HK := Lib.hid hk0
  have H := Lib.hid (h.kept hk0)
  have HB : Hid (∀ (q : NS × List OutD × Int) (v : Value) (w' : World), SentN wb F R q (.returned v) w' → SentN w F R q (.returned v) w') := Lib.hid fun q v w' ⟨u, F', h1, h2, h3, h4, h5⟩ => ⟨u, F', h1, ⟨h2.1, h2.2.imp id fun ⟨g, cap, cur, q1, q2, q3⟩ => ⟨g, cap, cur, q1, Nat.le_trans hk0.size q2, q3⟩⟩, h3, (Turn.of_below hk0).trans h4, h5⟩
  have HFL := Lib.hid hi.fly
  have hA : s.A.length ≤ 2950000000000 := by have := hi.sum; omega
  clear h hk0 hi
  by_cases h1 : kd = 1
  · subst h1
    rw [if_pos rfl] at hq
    have HQ := Lib.hid hq
    clear hq
    go_enter Tryz.func17, Tryz.ntmps17
    go_wp2_with fail
    with_reducible refine (join_any pe fl _ rfl _ H.out).mono ?_
    rintro e w1 h1
    obtain ⟨rfl, h2⟩ := turns_sent h1
    have H2 := Lib.hid h2
    clear h1 h2
    go_wp2_with fail
    go_ret2
    rw [← HQ.out]
    exact HB.out _ _ _ H2.out
  · rw [if_neg h1] at hq
    by_cases h2 : kd = 2
    · subst h2
      rw [if_pos rfl] at hq
      have HQ := Lib.hid hq
      clear hq
      go_enter Tryz.func17, Tryz.ntmps17
      go_wp2_with fail
      with_reducible refine (leave_any pe _ rfl _ H.out).mono ?_
      rintro e w1 h1
      obtain ⟨rfl, h2⟩ := turns_sent h1
      have H2 := Lib.hid h2
      clear h1 h2
      go_wp2_with fail
      go_ret2
      rw [← HQ.out]
      exact HB.out _ _ _ H2.out
    · rw [if_neg h2] at hq
      by_cases h3 : kd = 3
      · subst h3
        rw [if_pos rfl] at hq
        have HQ := Lib.hid hq
        clear hq
        go_enter Tryz.func17, Tryz.ntmps17
        go_wp2_with fail
        with_reducible refine (send_any pe by' hs hA _ HQ.out _ H.out).mono ?_
        rintro e w1 h1
        have h1' := h1
        obtain ⟨v, F', rfl, ho, _, _, _⟩ := h1
        obtain ⟨a5, c5, rfl, _⟩ := outs_form ho
        have H2 := Lib.hid h1'
        clear h1' ho
        obtain ⟨m, hm⟩ : ∃ m, q.2.1.length = m := ⟨_, rfl⟩
        obtain ⟨r, hr⟩ : ∃ r, q.2.2 = r := ⟨_, rfl⟩
        rw [hm, hr] at H2 ⊢
        clear hm hr
        go_wp2_with fail
        go_ret2
        exact HB.out _ _ _ H2.out
      · rw [if_neg h3] at hq
        by_cases h4 : kd = 4
        · subst h4
          rw [if_pos rfl] at hq
          have HQ := Lib.hid hq
          clear hq
          go_enter Tryz.func17, Tryz.ntmps17
          go_wp2_with fail
          with_reducible refine (wait_any nn HFL.out _ HQ.out _ H.out).mono ?_
          rintro e w1 h1
          have h1' := h1
          obtain ⟨v, F', rfl, ho, _, _, _⟩ := h1
          obtain ⟨a5, c5, rfl, _⟩ := outs_form ho
          have H2 := Lib.hid h1'
          clear h1' ho
          obtain ⟨m, hm⟩ : ∃ m, q.2.1.length = m := ⟨_, rfl⟩
          obtain ⟨r, hr⟩ : ∃ r, q.2.2 = r := ⟨_, rfl⟩
          rw [hm, hr] at H2 ⊢
          clear hm hr
          go_wp2_with fail
          go_ret2
          exact HB.out _ _ _ H2.out
        · rw [if_neg h4] at hq
          have HQ := Lib.hid hq
          clear hq
          go_enter Tryz.func17, Tryz.ntmps17
          go_wp2_with fail
          go_ret2
          rw [← HQ.out]
          exact sent_none (H.out) (Turn.of_below HK.out)
end Go.Proofs.YtmbejeibcncmmaaGreat
