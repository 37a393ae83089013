/-
  New.
  The laws' closed fact: a node takes a deed that is brought; bytesOf, bring.
  NodeWaits: the walk.
  A slice of acts among the arguments of a law: how it lies in memory, what its reading says.
-/
import Derived.Test.YtaaaplbjeknbkaaGreatJ30
import Derived.Test.YtaaaplbjeknbkaaGreatJ12
import Derived.Test.YtaaaplbjeknbkaaGreatJ4
import Derived.Deep.Slices
set_option maxRecDepth 20000
namespace Go.Proofs.YtaaaplbjeknbkaaGreat
open Go.RowKit Go.Maps

variable {w w' : World} {F : Nat → Prop} {R : Nat} {s : NS}

/-- The cells of a node without filters: its maps lie in blocks t, h, j and k. -/
def rawC (salt : UInt64) (t h j k : Nat) : Array Value := #[.bool false, .bool false, .bool false, .bool false, .bool false, .bool false, .bool false, .bool false, .bool false, .bool false, .bool false, .bool false, .bool false, .bool false, .bool false, .bool false, .int .i64 0, .int .u64 salt.toNat, .map (some t), .slice none 0 0, .slice none 0 0, .slice none 0 0, .slice none 0 0, .slice none 0 0, .slice none 0 0, .slice none 0 0, .slice none 0 0, .map (some h), .slice none 0 0, .map (some j), .slice none 0 0, .map (some k), .pointer none, .pointer none]
/-- The world behind the three News and the node's own block. -/
def rawW (w : World) (salt : UInt64) : World := (((((((w.alloc (.map #[] 0)).alloc (.cells #[.int .u64 salt.toNat, .map (some w.heap.size), .slice none 0 0, .slice none 0 0, .slice none 0 0, .slice none 0 0, .slice none 0 0, .slice none 0 0, .slice none 0 0, .slice none 0 0] 97)).alloc (.map #[] 0)).alloc (.cells #[.map (some (w.heap.size + 2)), .slice none 0 0] 102)).alloc (.map #[] 0)).alloc (.map #[] 0)).alloc (.cells #[.map (some (w.heap.size + 4)), .slice none 0 0, .map (some (w.heap.size + 5))] 106)).alloc (.cells (rawC salt w.heap.size (w.heap.size + 2) (w.heap.size + 4) (w.heap.size + 5)) 114)
theorem raw_below (w : World) (salt : UInt64) : Below w.heap.size w (rawW w salt) := kept_alloc (kept_alloc (kept_alloc (kept_alloc (kept_alloc (kept_alloc (kept_alloc (kept_new _ _) _) _) _) _) _) _) _
theorem raw_size (w : World) (salt : UInt64) : (rawW w salt).heap.size = w.heap.size + 8 := by unfold rawW; simp
theorem raw_head (w : World) (salt : UInt64) : Cells (rawW w salt) (w.heap.size + 7) (rawC salt w.heap.size (w.heap.size + 2) (w.heap.size + 4) (w.heap.size + 5)) := by
  unfold rawW
  have := heap_alloc_new (((((((w.alloc (.map #[] 0)).alloc (.cells #[.int .u64 salt.toNat, .map (some w.heap.size), .slice none 0 0, .slice none 0 0, .slice none 0 0, .slice none 0 0, .slice none 0 0, .slice none 0 0, .slice none 0 0, .slice none 0 0] 97)).alloc (.map #[] 0)).alloc (.cells #[.map (some (w.heap.size + 2)), .slice none 0 0] 102)).alloc (.map #[] 0)).alloc (.map #[] 0)).alloc (.cells #[.map (some (w.heap.size + 4)), .slice none 0 0, .map (some (w.heap.size + 5))] 106)) (.cells (rawC salt w.heap.size (w.heap.size + 2) (w.heap.size + 4) (w.heap.size + 5)) 114)
  simp only [World.size_alloc] at this
  exact this
theorem raw_T (w : World) (salt : UInt64) : Tr.TL (rawW w salt) (fun k => k = w.heap.size ∨ k = w.heap.size + 7) ⟨w.heap.size + 7, ocOf (rawC salt w.heap.size (w.heap.size + 2) (w.heap.size + 4) (w.heap.size + 5))⟩ salt [] := by
  refine ⟨Tr.good_nil, w.heap.size, fun _ => none, fun _ => .slice none 0 0, ?_⟩
  have hz := raw_size w salt
  exact {
    head := raw_head w salt
    map := Tr.tmap_same (Tr.tmap_new w) (by
      unfold rawW
      rw [heap_alloc_old _ _ (by simp <;> omega), heap_alloc_old _ _ (by simp <;> omega), heap_alloc_old _ _ (by simp <;> omega), heap_alloc_old _ _ (by simp <;> omega), heap_alloc_old _ _ (by simp <;> omega), heap_alloc_old _ _ (by simp <;> omega), heap_alloc_old _ _ (by simp)]) (fun i hi => by cases hi)
    ents := fun x => .inl ⟨rfl, rfl⟩
    ids := fun p _ => World.ownsRow_nil _ _ _ _
    eapart := fun x y u v g h => by cases h
    papart := fun p q g _ _ h => by cases h
    fR := .inr rfl
    fb := .inl rfl
    fe := fun x v g h => by cases h
    fp := fun p g _ h => by cases h
    there := fun k hk => by rw [hz]; omega
    out := fun i hi => by cases hi }
theorem raw_P (w : World) (salt : UInt64) : Ho.HL (rawW w salt) (fun k => k = w.heap.size + 2 ∨ k = w.heap.size + 7) ⟨w.heap.size + 7, ocOf (rawC salt w.heap.size (w.heap.size + 2) (w.heap.size + 4) (w.heap.size + 5))⟩ [] := by
  refine ⟨Ho.good_none, w.heap.size + 2, fun _ => none, .slice none 0 0, ?_⟩
  have hz := raw_size w salt
  have hm := tmap_new ((w.alloc (.map #[] 0)).alloc (.cells #[.int .u64 salt.toNat, .map (some w.heap.size), .slice none 0 0, .slice none 0 0, .slice none 0 0, .slice none 0 0, .slice none 0 0, .slice none 0 0, .slice none 0 0, .slice none 0 0] 97))
  simp only [World.size_alloc] at hm
  exact {
    head := raw_head w salt
    map := tmap_same hm (by
      unfold rawW
      rw [heap_alloc_old _ _ (by simp <;> omega), heap_alloc_old _ _ (by simp <;> omega), heap_alloc_old _ _ (by simp <;> omega), heap_alloc_old _ _ (by simp <;> omega), heap_alloc_old _ _ (by simp)]) (fun i hi => by cases hi)
    deeds := fun x => .inl ⟨rfl, rfl⟩
    fine := fun x d h => by cases h
    links := World.ownsRow_nil _ _ _ _
    fR := .inr rfl
    fb := .inl rfl
    fv := fun g hg => by cases hg
    there := fun k hk => by rw [hz]; omega
    out := fun i hi => by cases hi }
theorem raw_A (w : World) (salt : UInt64) : Ju.LedL (rawW w salt) (fun k => k = w.heap.size + 4 ∨ k = w.heap.size + 5 ∨ k = w.heap.size + 7) ⟨w.heap.size + 7, ocOf (rawC salt w.heap.size (w.heap.size + 2) (w.heap.size + 4) (w.heap.size + 5))⟩ [] := by
  refine ⟨w.heap.size + 4, w.heap.size + 5, 0, fun _ => none, .slice none 0 0, Nat.le_refl _, ?_⟩
  have hz := raw_size w salt
  have hm := tmap_new ((((w.alloc (.map #[] 0)).alloc (.cells #[.int .u64 salt.toNat, .map (some w.heap.size), .slice none 0 0, .slice none 0 0, .slice none 0 0, .slice none 0 0, .slice none 0 0, .slice none 0 0, .slice none 0 0, .slice none 0 0] 97)).alloc (.map #[] 0)).alloc (.cells #[.map (some (w.heap.size + 2)), .slice none 0 0] 102))
  simp only [World.size_alloc] at hm
  have hS := set_new (P := Tryz.prog) (k := 62) (e := 4) (ok := inOk) (kl := inKey) (((((w.alloc (.map #[] 0)).alloc (.cells #[.int .u64 salt.toNat, .map (some w.heap.size), .slice none 0 0, .slice none 0 0, .slice none 0 0, .slice none 0 0, .slice none 0 0, .slice none 0 0, .slice none 0 0, .slice none 0 0] 97)).alloc (.map #[] 0)).alloc (.cells #[.map (some (w.heap.size + 2)), .slice none 0 0] 102)).alloc (.map #[] 0))
  simp only [World.size_alloc] at hS
  exact {
    head := raw_head w salt
    map := tmap_same hm (by
      unfold rawW
      rw [heap_alloc_old _ _ (by simp <;> omega), heap_alloc_old _ _ (by simp <;> omega), heap_alloc_old _ _ (by simp)]) (fun i hi => by cases hi)
    deeds := fun x => .inl ⟨rfl, rfl⟩
    fine := fun x d h => by cases h
    order := World.ownsRow_nil _ _ _ _
    spent := Ju.seen_same hS (by
      unfold rawW
      rw [heap_alloc_old _ _ (by simp <;> omega), heap_alloc_old _ _ (by simp)])
    ne := by omega
    fR := .inr (.inr rfl)
    fb := .inl rfl
    fs := .inr (.inl rfl)
    fv := fun g hg => by cases hg
    there := fun k hk => by rw [hz]; omega }
theorem rawC_size (salt : UInt64) (t h j k : Nat) : (rawC salt t h j k).size = 34 := rfl
theorem ring50 (w : World) : Calls Tryz.prog 85 #[.int .i64 50] w fun e w' => e = .returned (.tuple #[.pointer (some ⟨w.heap.size + 1, 0, none⟩), .int .i64 0]) ∧ Ri.RingAt w' (fun k => k = w.heap.size ∨ k = w.heap.size + 1) (w.heap.size + 1) (Ri.RingS.none 50) ∧ Below w.heap.size w w' := Ri.ring_new 50 w (by decide) (by decide)
theorem ring20 (w : World) : Calls Tryz.prog 85 #[.int .i64 20] w fun e w' => e = .returned (.tuple #[.pointer (some ⟨w.heap.size + 1, 0, none⟩), .int .i64 0]) ∧ Ri.RingAt w' (fun k => k = w.heap.size ∨ k = w.heap.size + 1) (w.heap.size + 1) (Ri.RingS.none 20) ∧ Below w.heap.size w w' := Ri.ring_new 20 w (by decide) (by decide)
set_option maxRecDepth 20000 in
/-- The filters are made. -/
theorem filters_any (cs : Array Value) (hs : cs.size = 34) (w : World) (h : Cells w R cs) : Calls Tryz.prog 55 #[.pointer (some ⟨R, 0, none⟩)] w fun e w' => e = .returned (.tuple #[]) ∧ ∃ (a z : Nat) (FW FQ : Nat → Prop), Cells w' R ((cs.setIfInBounds 32 (.pointer (some ⟨a, 0, none⟩))).setIfInBounds 33 (.pointer (some ⟨z, 0, none⟩))) ∧ Ri.RingAt w' FW a (Ri.RingS.none 50) ∧ Ri.RingAt w' FQ z (Ri.RingS.none 20) ∧ (∀ k, FW k → w.heap.size ≤ k) ∧ (∀ k, FQ k → w.heap.size ≤ k) ∧ Apart FW FQ ∧ Turn (fun k => k = R) (fun k => k = R) w w' := by
  have hlt : R < w.heap.size := (Array.getElem?_eq_some_iff.1 h).1
  have HC := Lib.hid h
  clear h
  go_enter Tryz.func55, Tryz.ntmps55
  go_wp2_with fail
  with_reducible refine (ring50 _).mono ?_
  rintro e w1 ⟨rfl, h1, hb1⟩
  have hc1 : Cells w1 R cs := (hb1.block R hlt).trans HC.out
  obtain ⟨c32, f32⟩ := cells_at hc1 (i := 32) (u := cs[32]'(by omega)) (Array.getElem?_eq_getElem _)
  have l1 : R < w1.heap.size := Nat.lt_of_lt_of_le hlt hb1.size
  have t1 : Turn (fun k => k = R) (fun k => k = R) w (w1.setCell ⟨R, 32, none⟩ (.pointer (some ⟨w.heap.size + 1, 0, none⟩))) := (Turn.of_below hb1).trans (Turn.set w1 ⟨R, 32, none⟩ _ rfl)
  have hc2 : Cells (w1.setCell ⟨R, 32, none⟩ (.pointer (some ⟨w.heap.size + 1, 0, none⟩))) R (cs.setIfInBounds 32 (.pointer (some ⟨w.heap.size + 1, 0, none⟩))) := heap_setCell_same w1 R 32 _ _ _ hc1
  have r1 := Ri.ringAt_turn h1 (Turn.set (F := fun k => k = R) w1 ⟨R, 32, none⟩ (.pointer (some ⟨w.heap.size + 1, 0, none⟩)) rfl) (fun k hk e => by omega)
  have T1 := Lib.hid t1
  have HC2 := Lib.hid hc2
  have HR1 := Lib.hid r1
  have HSZ : Hid (w.heap.size + 1 < w1.heap.size) := Lib.hid (Ri.ringAt_there h1 _ (.inr rfl))
  clear hc1 h1 hb1 t1 hc2 r1
  go_wp2_with fail
  with_reducible refine (ring20 _).mono ?_
  rintro e w2 ⟨rfl, h2, hb2⟩
  have hsz2 : (w1.setCell ⟨R, 32, none⟩ (.pointer (some ⟨w.heap.size + 1, 0, none⟩))).heap.size = w1.heap.size := World.size_setCell ..
  rw [hsz2] at h2 ⊢
  have hc3 : Cells w2 R (cs.setIfInBounds 32 (.pointer (some ⟨w.heap.size + 1, 0, none⟩))) := (hb2.block R (by omega)).trans HC2.out
  obtain ⟨c33, f33⟩ := cells_at hc3 (i := 33) (u := (cs.setIfInBounds 32 (.pointer (some ⟨w.heap.size + 1, 0, none⟩)))[33]'(by rw [Array.size_setIfInBounds]; omega)) (Array.getElem?_eq_getElem _)
  have l2 : R < w2.heap.size := by have := hb2.size; omega
  have t2 : Turn (fun k => k = R) (fun k => k = R) w (w2.setCell ⟨R, 33, none⟩ (.pointer (some ⟨w1.heap.size + 1, 0, none⟩))) := (T1.out.trans (Turn.of_below hb2)).trans (Turn.set w2 ⟨R, 33, none⟩ _ rfl)
  have hc4 : Cells (w2.setCell ⟨R, 33, none⟩ (.pointer (some ⟨w1.heap.size + 1, 0, none⟩))) R ((cs.setIfInBounds 32 (.pointer (some ⟨w.heap.size + 1, 0, none⟩))).setIfInBounds 33 (.pointer (some ⟨w1.heap.size + 1, 0, none⟩))) := heap_setCell_same w2 R 33 _ _ _ hc3
  have ts := Turn.set (F := fun k => k = R) w2 ⟨R, 33, none⟩ (.pointer (some ⟨w1.heap.size + 1, 0, none⟩)) rfl
  have r2 := Ri.ringAt_turn h2 ts (fun k hk e => by omega)
  have r3 := Ri.ringAt_turn (Ri.ringAt_kept HR1.out hb2) ts (fun k hk e => by omega)
  have T2 := Lib.hid t2
  have HC4 := Lib.hid hc4
  have HR2 := Lib.hid r2
  have HR3 := Lib.hid r3
  clear hc3 h2 hb2 t2 hc4 r2 r3 ts
  go_wp2_with fail
  go_end0
  exact ⟨rfl, _, _, _, _, HC4.out, HR3.out, HR2.out, fun k hk => by omega, fun k hk => by have := HSZ.out; omega, fun k h1 h2 => by have := HSZ.out; omega, T2.out⟩
theorem raw_node (salt : UInt64) (w : World) {a z : Nat} {FW FQ : Nat → Prop} {cs : Array Value} (hcs : (((rawC salt w.heap.size (w.heap.size + 2) (w.heap.size + 4) (w.heap.size + 5)).setIfInBounds 32 (.pointer (some ⟨a, 0, none⟩))).setIfInBounds 33 (.pointer (some ⟨z, 0, none⟩))) = cs) (hc : Cells w' (w.heap.size + 7) cs) (hW : Ri.RingAt w' FW a (Ri.RingS.none 50)) (hQ : Ri.RingAt w' FQ z (Ri.RingS.none 20)) (hw : ∀ k, FW k → w.heap.size + 8 ≤ k) (hq : ∀ k, FQ k → w.heap.size + 8 ≤ k) (ha : Apart FW FQ) (ht : Turn (fun k => k = w.heap.size + 7) (fun k => k = w.heap.size + 7) (rawW w salt) w') :
    ∃ F, NodeAt w' F (w.heap.size + 7) (NS.new salt) ∧ ∀ k, F k → w.heap.size ≤ k := by
  have hs : cs.size = 34 := by rw [← hcs]; rfl
  have hb : ∀ G : Nat → Prop, But G (w.heap.size + 7) (rawW w salt) w' := fun G => ⟨ht.size, fun k hk _ hn => ht.block k hk hn⟩
  have ho : ∀ i, i < 32 → cs[i]? = (rawC salt w.heap.size (w.heap.size + 2) (w.heap.size + 4) (w.heap.size + 5))[i]? := fun i hi => by rw [← hcs, Array.getElem?_setIfInBounds_ne (by omega), Array.getElem?_setIfInBounds_ne (by omega)]
  refine ⟨fun k => (k = w.heap.size ∨ k = w.heap.size + 7) ∨ (k = w.heap.size + 2 ∨ k = w.heap.size + 7) ∨ (k = w.heap.size + 4 ∨ k = w.heap.size + 5 ∨ k = w.heap.size + 7) ∨ FW k ∨ FQ k, ⟨cs, fun k => k = w.heap.size ∨ k = w.heap.size + 7, fun k => k = w.heap.size + 2 ∨ k = w.heap.size + 7, fun k => k = w.heap.size + 4 ∨ k = w.heap.size + 5 ∨ k = w.heap.size + 7, FW, FQ, a, z, ?_⟩, ?_⟩
  · exact {
      head := hc
      size := hs
      peers := fun p hp => by
        rw [ho _ (by omega), ho _ (by omega)]
        match p, hp with
        | 0, _ => exact ⟨rfl, rfl⟩
        | 1, _ => exact ⟨rfl, rfl⟩
        | 2, _ => exact ⟨rfl, rfl⟩
        | 3, _ => exact ⟨rfl, rfl⟩
        | 4, _ => exact ⟨rfl, rfl⟩
        | 5, _ => exact ⟨rfl, rfl⟩
        | 6, _ => exact ⟨rfl, rfl⟩
        | 7, _ => exact ⟨rfl, rfl⟩
      now := by rw [ho _ (by omega)]; rfl
      T := TL_again (raw_T w salt) (raw_head w salt) hc hs (fun i _ h2 => ho i (by omega)) (hb _)
      P := HL_again (raw_P w salt) (raw_head w salt) hc hs (fun i _ h2 => ho i (by omega)) (hb _)
      A := LedL_again (raw_A w salt) (raw_head w salt) hc hs (fun i _ h2 => ho i (by omega)) (hb _)
      cW := by rw [← hcs]; rfl
      cQ := by rw [← hcs]; rfl
      W := hW
      Q := hQ
      good := ⟨⟨(by decide : (0 : Int) ≤ 0), (by decide : (0 : Int) ≤ 1099511627776)⟩, Tr.good_nil, Ho.good_none, ⟨fun d hd => by simp [NS.new] at hd, by simp [NS.new]⟩, Ri.none_good (by decide) (by decide), Ri.none_good (by decide) (by decide)⟩
      th := fun k h1 h2 => by omega
      tj := fun k h1 h2 => by omega
      hj := fun k h1 h2 => by omega
      tw := fun k h1 h2 => by have := hw k h2; omega
      hw := fun k h1 h2 => by have := hw k h2; omega
      jw := fun k h1 h2 => by have := hw k h2; omega
      tq := fun k h1 h2 => by have := hq k h2; omega
      hq := fun k h1 h2 => by have := hq k h2; omega
      jq := fun k h1 h2 => by have := hq k h2; omega
      wq := ha
      all := fun k => Iff.rfl }
  · intro k hk
    rcases hk with hk | hk | hk | hk | hk
    · omega
    · omega
    · omega
    · have := hw k hk; omega
    · have := hq k hk; omega
set_option maxRecDepth 20000 in
set_option maxHeartbeats 4000000 in
theorem new_any (salt : UInt64) (w : World) : Calls Tryz.prog 16 #[.int .u64 salt.toNat] w fun e w' => ∃ R F, e = .returned (.pointer (some ⟨R, 0, none⟩)) ∧ NodeAt w' F R (NS.new salt) ∧ (∀ k, F k → w.heap.size ≤ k) ∧ Below w.heap.size w w' := by
  go_enter Tryz.func16, Tryz.ntmps16
  go_upto_region 1 with fail
  go_cut [3] from 4 to 18 (fun v3 wx => v3 = .pointer (some ⟨w.heap.size + 7, 0, none⟩) ∧ wx = rawW w.drew salt)
  case first =>
    go_region_law (first
      | (go_simp; go_at_call 52; (with_reducible refine (Tr.new_any salt _).mono ?_); rintro e w1 ⟨rfl, rfl⟩)
      | (go_simp; go_at_call 53; (with_reducible refine (Ho.home_new _).mono ?_); rintro e w1 ⟨rfl, rfl⟩)
      | (go_simp; go_at_call 54; (with_reducible refine (Ju.led_new _).mono ?_); rintro e w1 ⟨rfl, rfl⟩))
    all_goals
      go_wp2_with fail
      go_meet
      case rel => exact ⟨rfl, rfl⟩
  case rest =>
    obtain ⟨rfl, hwx⟩ := hcut
    have hd : w.drew.heap.size = w.heap.size := rfl
    obtain ⟨wx, hx⟩ : ∃ wx, rawW w.drew salt = wx := ⟨_, rfl⟩
    have HH : Hid (Cells wx (w.heap.size + 7) (rawC salt w.heap.size (w.heap.size + 2) (w.heap.size + 4) (w.heap.size + 5))) := Lib.hid (hx ▸ raw_head w.drew salt)
    have HX := Lib.hid hx
    have hz : wx.heap.size = w.heap.size + 8 := hx ▸ raw_size w.drew salt
    have HB : Hid (Below w.heap.size w wx) := Lib.hid (kept_trans ((Below.refl w.heap.size w).drew) (hx ▸ raw_below w.drew salt))
    rw [hwx, hx]
    clear hwx hx hd
    go_wp2_with fail
    with_reducible refine (filters_any _ (rawC_size _ _ _ _ _) _ HH.out).mono ?_
    rintro e w2 ⟨rfl, a, z, FW, FQ, h1, h2, h3, h4, h5, h6, h7⟩
    obtain ⟨F, hn, hF⟩ := raw_node salt w.drew rfl h1 h2 h3 (fun k hk => by have := h4 k hk; show w.heap.size + 8 ≤ k; omega) (fun k hk => by have := h5 k hk; show w.heap.size + 8 ≤ k; omega) h6 (HX.out ▸ h7)
    have HN := Lib.hid hn
    have HF : Hid (∀ k, F k → w.heap.size ≤ k) := Lib.hid hF
    have HB2 : Hid (Below w.heap.size w w2) := Lib.hid (HB.out.trans (h7.below (fun k hk => by omega) (by omega)))
    clear h1 h2 h3 h4 h5 h6 h7 hn hF
    go_wp2_with fail
    go_ret
    exact ⟨_, F, rfl, HN.out, HF.out, HB2.out⟩
end Go.Proofs.YtaaaplbjeknbkaaGreat
namespace Go.Proofs.YtaaaplbjeknbkaaGreat
open Go.RowKit Go.Maps

variable {w w' : World} {F : Nat → Prop} {R : Nat} {s : NS}

/-- The bytes of a message, as the laws write them. -/
def bytesM (m : Ms.MsgD) : ByteArray := if Ms.checkM m = 0 then str (Ms.encM m) else ⟨#[]⟩
/-- A deed as a message. -/
def bringB (d : DeedD) : ByteArray := str (Ms.encM ⟨3, [], str (encB d)⟩)
theorem bringM_ok {d : DeedD} (h : checkD d = 0) : Ms.checkM ⟨3, [], str (encB d)⟩ = 0 := by
  obtain ⟨h1, h2⟩ := Ju.enc_small d (str (encB d)) h rfl
  rw [Ms.checkM_rest (by show within 3 1 4 = true; decide) (by simp) (by
    rintro (h | h)
    · simp at h
    · simp only at h
      omega) (by
    rintro ⟨_, h⟩
    simp only at h
    omega)]
  rfl
theorem str_data (l : List UInt8) : (str l).data.toList = l := str_list l
theorem send_brought {p : Nat} {d : DeedD} (hd : checkD d = 0) (ht : s.thereE p = 0) : s.send p (bringB d) = (s.bring p d, [], 0) := by
  have hm := bringM_ok hd
  obtain ⟨c0, c1, _, c2, c3, c4⟩ := check_ok hd
  unfold NS.send bringB
  rw [if_neg (not_not_intro ht), str_data, if_neg (not_not_intro (Ms.errM_enc hm)), Ms.ansM_enc hm]
  have he : errD (encB d) = 0 := by
    unfold errD
    rw [if_neg (not_not_intro (form_enc d c0)), read_enc d c0 c1 c2 c3 c4]
    exact hd
  simp only [str_data, Int.toNat_natCast]
  rw [if_neg (by decide), if_neg (by decide), if_neg (by decide), if_neg (not_not_intro he), read_enc d c0 c1 c2 c3 c4]
set_option maxRecDepth 20000 in
theorem bytesOf_any (m : Ms.MsgD) (a : Option Addr) (cap : Nat) (w : World) (hi : IdsAt w a m.ids) (E : ByteArray) (hE : bytesM m = E) :
    Calls Tryz.prog 40 #[.agg #[.int .i64 m.kind, .slice a m.ids.length cap, .string m.body]] w fun e w' => e = .returned (.string E) ∧ Below w.heap.size w w' := by
  obtain ⟨wb, hwb⟩ : ∃ wb, w.alloc (.cells #[.int .i64 m.kind, .slice a m.ids.length cap, .string m.body] 38) = wb := ⟨_, rfl⟩
  have hk0 : Below w.heap.size w wb := hwb ▸ kept_new _ _
  obtain ⟨b0, b1, b2⟩ : MsgBox wb w.heap.size a cap m := hwb ▸ box_msg w a cap m
  have l0 := (cell_spot b0).2
  have HI := Lib.hid (idsAt_kept hk0 hi)
  have HK := Lib.hid hk0
  unfold bytesM at hE
  clear hk0 hi
  by_cases h : Ms.checkM m = 0
  · rw [if_pos h] at hE
    have HE := Lib.hid hE
    have HC := Lib.hid h
    clear h hE
    go_enter Tryz.func40, Tryz.ntmps40
    go_wp2_with fail
    with_reducible refine (mencode_ok m a cap _ E HI.out HC.out HE.out).mono ?_
    rintro e w1 ⟨rfl, hb1⟩
    have HB1 := Lib.hid (kept_trans HK.out hb1)
    clear hb1
    go_wp2_with fail
    go_ret
    exact ⟨rfl, HB1.out⟩
  · rw [if_neg h] at hE
    subst hE
    obtain ⟨r, hr⟩ : ∃ r, Ms.checkM m = r := ⟨_, rfl⟩
    have h0 : r ≠ 0 := fun e => h (by rw [hr]; exact e)
    have HC := Lib.hid hr
    clear h hr
    go_enter Tryz.func40, Tryz.ntmps40
    go_wp2_with fail
    with_reducible refine (Ms.mencode_err m a cap _ r HI.out HC.out h0).mono ?_
    rintro e w1 ⟨rfl, hb1⟩
    have HB1 := Lib.hid (kept_trans HK.out hb1)
    clear hb1
    go_wp2_with fail
    go_ret
    exact ⟨rfl, HB1.out⟩
theorem bytesOf_bring (E B : ByteArray) (hB : bytesM ⟨3, [], E⟩ = B) (w : World) : Calls Tryz.prog 40 #[.agg #[.int .i64 3, .slice none 0 0, .string E]] w fun e w' => e = .returned (.string B) ∧ Below w.heap.size w w' :=
  bytesOf_any ⟨3, [], E⟩ none 0 w (fun i hi => absurd hi (by simp)) B hB
set_option maxRecDepth 20000 in
theorem bringB_any (d : DeedD) (hd : checkD d = 0) (a : Option Addr) (cap : Nat) (B : ByteArray) (hB : bringB d = B) (w : World) (hi : InsAt w a d.ins) :
    Calls Tryz.prog 37 #[.agg #[.slice a d.ins.length cap, .int .i64 d.outs, .int .i64 d.weight, .int .i64 d.fee]] w fun e w' => e = .returned (.string B) ∧ Below w.heap.size w w' := by
  obtain ⟨wb, hwb⟩ : ∃ wb, w.alloc (.cells #[.slice a d.ins.length cap, .int .i64 d.outs, .int .i64 d.weight, .int .i64 d.fee] 50) = wb := ⟨_, rfl⟩
  have hk0 : Below w.heap.size w wb := hwb ▸ kept_new _ _
  obtain ⟨b0, b1, b2, b3⟩ : DeedBox wb w.heap.size a cap d := hwb ▸ box_deed w a cap d
  have l0 := (cell_spot b0).2
  have HI := Lib.hid (insAt_kept hk0 hi)
  have HK := Lib.hid hk0
  obtain ⟨E, hE⟩ : ∃ E, str (encB d) = E := ⟨_, rfl⟩
  have HE := Lib.hid hE
  have HD := Lib.hid hd
  have HB : Hid (bytesM ⟨3, [], E⟩ = B) := Lib.hid (by unfold bytesM; rw [← hE, if_pos (bringM_ok hd)]; exact hB)
  clear hk0 hi hE hd hB
  go_enter Tryz.func37, Tryz.ntmps37
  go_wp2_with fail
  with_reducible refine (Ju.encode_is d a cap _ E HI.out HD.out HE.out).mono ?_
  rintro e w1 ⟨rfl, hb1⟩
  have HB1 := Lib.hid (kept_trans HK.out hb1)
  clear hb1
  go_wp2_with fail
  with_reducible refine (bytesOf_bring E B HB.out _).mono ?_
  rintro e w2 ⟨rfl, hb2⟩
  have HB2 := Lib.hid (kept_trans HB1.out hb2)
  clear hb2
  go_wp2_with fail
  go_ret
  exact ⟨rfl, HB2.out⟩
/-- The deed of the closed fact. -/
def simD : DeedD := ⟨[], 1, 10, 1⟩
theorem bringB_simple (w : World) (B : ByteArray) (hB : bringB simD = B) : Calls Tryz.prog 37 #[.agg #[.slice none 0 0, .int .i64 1, .int .i64 10, .int .i64 1]] w fun e w' => e = .returned (.string B) ∧ Below w.heap.size w w' :=
  bringB_any simD (by decide) none 0 B hB w (fun i hi => absurd hi (by simp [simD]))
/-- A Good deed is brought to a node without orphans. -/
theorem bring_plain {p : Nat} {d : DeedD} (hP : s.P = []) (h1 : Ju.findL s.A (Ju.idD d) = none) (h2 : s.W.has (Ju.idD d) = false) (hj : Ju.judgeL s.A d = (0, [], 0)) (ha : Ju.acceptL s.A d = (0, s.A ++ [d])) : s.bring p d = { s with T := Tr.forgetL (Tr.answerC s.T p (Ju.idD d)).2 (Ju.idD d), A := s.A ++ [d] } := by
  rw [bring_new rfl (by rw [h1]; rfl) h2]
  simp only
  rw [hj, if_neg (by simp), examine_good (by rw [hj])]
  have hc : ∀ x, Ho.childL (Ho.removeL s.P x) x = [] := fun x => by rw [hP]; rfl
  simp only [NS.accept, NS.settle]
  rw [hc, follow_nil, ha, hP]
  rfl
theorem met_A : ((((NS.new 7).setPeer 0 (true, true)).bring 0 simD).A) = [simD] := by
  rw [bring_plain rfl rfl rfl (by decide) rfl]
  rfl
theorem new_there (salt : UInt64) (p : Nat) (hp : p < 8) (f : Bool) : ((NS.new salt).setPeer p (true, f)).thereE p = 0 := by
  unfold NS.thereE NS.setPeer
  rw [if_pos ⟨by omega, by omega⟩]
  simp
theorem join_new (salt : UInt64) (p : Nat) (hp : p < 8) (f : Bool) : (NS.new salt).join p f = ((NS.new salt).setPeer p (true, f), 0) := by
  unfold NS.join
  rw [if_neg (not_not_intro ⟨by omega, by omega⟩), Int.toNat_natCast]
  rfl
theorem simple1 (w : World) : Calls Tryz.prog 51 #[.int .i64 1] w fun e w' => e = .returned (.agg #[.slice none 0 0, .int .i64 1, .int .i64 10, .int .i64 1]) ∧ Below w.heap.size w w' := Ju.simple_any 1 w
theorem new7 (w : World) : Calls Tryz.prog 16 #[.int .u64 7] w fun e w' => ∃ R F, e = .returned (.pointer (some ⟨R, 0, none⟩)) ∧ NodeAt w' F R (NS.new 7) ∧ (∀ k, F k → w.heap.size ≤ k) ∧ Below w.heap.size w w' := new_any 7 w
theorem join0 (w : World) (h : NodeAt w F R (NS.new 7)) : Calls Tryz.prog 35 #[.pointer (some ⟨R, 0, none⟩), .int .i64 0, .bool true] w (TurnsN w F R (.int .i64 0) ((NS.new 7).setPeer 0 (true, true))) := join_any 0 true _ (join_new 7 0 (by decide) true) w h
theorem send0 (B : ByteArray) (hB : bringB simD = B) (w : World) (h : NodeAt w F R ((NS.new 7).setPeer 0 (true, true))) : Calls Tryz.prog 36 #[.pointer (some ⟨R, 0, none⟩), .int .i64 0, .string B] w (SentN w F R (((NS.new 7).setPeer 0 (true, true)).bring 0 simD, [], 0)) :=
  send_any 0 B (by rw [← hB]; decide) (by decide) _ (by rw [← hB]; exact send_brought (p := 0) (by decide) (new_there 7 0 (by decide) true)) w h
set_option maxRecDepth 20000 in
set_option maxHeartbeats 1000000 in
theorem met_any (w : World) : Calls Tryz.prog 15 #[] w fun e w' => e = .returned (.bool true) ∧ Below w.heap.size w w' := by
  obtain ⟨B, hB⟩ : ∃ B, bringB simD = B := ⟨_, rfl⟩
  have HB := Lib.hid hB
  obtain ⟨s2, hs2⟩ : ∃ s2, ((NS.new 7).setPeer 0 (true, true)).bring 0 simD = s2 := ⟨_, rfl⟩
  have hA : s2.A = [simD] := hs2 ▸ met_A
  have HS2 := Lib.hid hs2
  have HA := Lib.hid hA
  clear hB hs2 hA
  go_enter Tryz.func15, Tryz.ntmps15
  go_wp2_with fail
  with_reducible refine (new7 _).mono ?_
  rintro e w1 ⟨R, F, rfl, h1, hF, hb1⟩
  have H1 := Lib.hid h1
  have HF := Lib.hid hF
  have HB1 := Lib.hid hb1
  clear h1 hF hb1
  go_wp2_with fail
  with_reducible refine (join0 _ H1.out).mono ?_
  rintro e w2 ⟨rfl, F2, h2, t2⟩
  have H2 := Lib.hid h2
  have HF2 : Hid (∀ k, F2 k → w.heap.size ≤ k) := Lib.hid (t2.above HF.out HB1.out.size)
  have HB2 := Lib.hid (HB1.out.trans (t2.below HF.out HB1.out.size))
  clear h2 t2
  go_wp2_with fail
  with_reducible refine (simple1 _).mono ?_
  rintro e w3 ⟨rfl, hb3⟩
  have HB3 := Lib.hid hb3
  clear hb3
  go_wp2_with fail
  with_reducible refine (bringB_simple _ B HB.out).mono ?_
  rintro e w4 ⟨rfl, hb4⟩
  have hb := kept_trans HB3.out hb4
  have H4 := Lib.hid (H2.out.kept hb)
  have HB4 := Lib.hid (kept_trans HB2.out hb)
  clear hb hb4
  go_wp2_with fail
  with_reducible refine (send0 B HB.out _ H4.out).mono ?_
  rintro e w5 ⟨v5, F5, rfl, ho5, h5, t5, hn5⟩
  obtain ⟨a5, c5, rfl, _⟩ := outs_form ho5
  have H5 : Hid (NodeAt w5 F5 R s2) := Lib.hid (HS2.out ▸ h5)
  have HB5 := Lib.hid (HB4.out.trans (t5.below HF2.out HB4.out.size))
  have HL : Hid (s2.A.length ≤ 10000000000000) := Lib.hid (by rw [HA.out]; decide)
  clear h5 t5 hn5 ho5
  go_wp2_with fail
  with_reducible refine (accepted_any HL.out _ H5.out).mono ?_
  rintro e w6 ⟨a6, c6, rfl, _, hb6⟩
  rw [HA.out]
  have HB6 := Lib.hid (kept_trans HB5.out hb6)
  clear hb6
  go_wp2_with fail
  go_ret
  exact ⟨rfl, HB6.out⟩
end Go.Proofs.YtaaaplbjeknbkaaGreat
namespace Go.Proofs.YtaaaplbjeknbkaaGreat
open Go.RowKit Go.Maps

variable {w w' : World} {F : Nat → Prop} {R : Nat} {s : NS}

theorem message_none (p : Nat) : message p ⟨2, [], ⟨#[]⟩⟩ = [] := by unfold message; rw [if_neg (by decide)]
theorem asks_none (h : s.T = []) (p : Nat) : s.asks p = [] := by unfold NS.asks; rw [h]; rfl
theorem wait_none (h : s.T = []) : ∀ k, s.wait k = (s, [])
  | 0 => rfl
  | k + 1 => by
    have ih := wait_none h k
    simp only [NS.wait, ih]
    unfold NS.request
    rw [asks_none h, message_none]
    rfl
theorem pass_none (h : s.T = []) {k : Int} (hk : ¬ (k < 0 ∨ k > 1099511627776 - s.now)) : s.pass k = ({ s with now := s.now + k }, [], 0) := by
  unfold NS.pass
  rw [if_neg hk]
  have hd : ∀ t, Tr.dueL t s.T = [] := fun t => by rw [h]; rfl
  rw [wait_none (s := ({ s with now := s.now + k, T := Tr.dueL (s.now + k) s.T } : NS)) (hd _)]
  simp only [hd]
  rw [← h]
theorem fly_none (h : s.T = []) : Fly s := fun p _ => by unfold flies; rw [h]; simp
/-- A node that a law has made since the world w0. -/
structure Mine (w0 w : World) (F : Nat → Prop) (R : Nat) (s : NS) : Prop where
  node : NodeAt w F R s
  above : ∀ k, F k → w0.heap.size ≤ k
  below : Below w0.heap.size w0 w
theorem Mine.kept {w0 : World} (h : Mine w0 w F R s) (hb : Below w.heap.size w w') : Mine w0 w' F R s := ⟨h.node.kept hb, h.above, kept_trans h.below hb⟩
theorem Mine.turned {w0 : World} {F' : Nat → Prop} {s' : NS} (h : Mine w0 w F R s) (hn : NodeAt w' F' R s') (ht : Turn F F' w w') : Mine w0 w' F' R s' := ⟨hn, ht.above h.above h.below.size, h.below.trans (ht.below h.above h.below.size)⟩
theorem mine_new {w0 : World} (salt : UInt64) (w : World) (hb : Below w0.heap.size w0 w) : Calls Tryz.prog 16 #[.int .u64 salt.toNat] w fun e w' => ∃ R F, e = .returned (.pointer (some ⟨R, 0, none⟩)) ∧ Mine w0 w' F R (NS.new salt) ∧ (∀ k, F k → w.heap.size ≤ k) ∧ Below w.heap.size w w' :=
  (new_any salt w).mono fun _ _ ⟨R, F, h1, h2, h3, h4⟩ => ⟨R, F, h1, ⟨h2, fun k hk => Nat.le_trans hb.size (h3 k hk), kept_trans hb h4⟩, h3, h4⟩
end Go.Proofs.YtaaaplbjeknbkaaGreat
namespace Go.Proofs.YtaaaplbjeknbkaaGreat
open Go.ChangeShapes Go.WideShapes Go.ChangeAt Go.RowKit Go.Joins Go.Deep

/-- An act as plain data. -/
structure ActD where
  kind : Int
  peer : Int
  n : Int
  flag : Bool
  bytes : ByteArray
instance : Inhabited ActD := ⟨⟨0, 0, 0, false, ⟨#[]⟩⟩⟩
/-- The five cells of an act from an address on. -/
def ActCells (w : World) (b o : Nat) (d : ActD) : Prop :=
  w.cell? ⟨b, o, none⟩ = some (.int .i64 d.kind) ∧ w.cell? ⟨b, o + 1, none⟩ = some (.int .i64 d.peer) ∧ w.cell? ⟨b, o + 2, none⟩ = some (.int .i64 d.n) ∧ w.cell? ⟨b, o + 3, none⟩ = some (.bool d.flag) ∧ w.cell? ⟨b, o + 4, none⟩ = some (.string d.bytes)
/-- The memory behind a slice's address holds these acts. -/
def ActsAt (w : World) (a : Option Addr) (l : List ActD) : Prop := ∀ i (h : i < l.length), (∃ b o, a = some ⟨b, o, none⟩ ∧ b < w.heap.size ∧ ActCells w b (o + i * 5) l[i]) ∧ l[i].bytes.size ≤ maxLen
theorem actsAt_kept {w w' : World} {a : Option Addr} {l : List ActD} (hb : Below w.heap.size w w') (h : ActsAt w a l) : ActsAt w' a l := fun i hi => by
  obtain ⟨⟨b, o, e, hlt, c0, c1, c2, c3, c4⟩, hs⟩ := h i hi
  exact ⟨⟨b, o, e, Nat.lt_of_lt_of_le hlt hb.size, kept_cell hb c0, kept_cell hb c1, kept_cell hb c2, kept_cell hb c3, kept_cell hb c4⟩, hs⟩
set_option maxRecDepth 100000 in
theorem open_acts_sized {H : Type} {enc : TypeId × Value → H} {w : World} {r : Reach} {b0 : Nat} {v : Value} {d : DataW H} {p : List MemPlace} (hv : Value.okWide Tryz.prog w r b0 23 v) (h : DataW.Trod enc Tryz.prog w 0 (fun _ => true) true 23 v d p) :
    ∃ (a : Option Addr) (cap : Nat) (l : List ActD), v = .slice a l.length cap ∧ l.length ≤ cap ∧ l.length ≤ maxLen ∧ ActsAt w a l ∧ (l = [] ∨ ∃ elems spare, d = .slice elems spare ∧ elems.length = l.length) := by
  obtain ⟨xa, xl, xc, rfl⟩ := okWide_slice Tryz.underlying23 hv
  obtain ⟨n, hf⟩ := h
  rcases open_slice Tryz.underlying23 hf with ⟨hc, _⟩ | ⟨a, len, cap, m, k, D, Pl, hcs, hb, hl, hm, hmm, hy, hx⟩
  · simp only [Value.cells, List.cons.injEq, and_true] at hc
    exact ⟨none, 0, [], hc, Nat.le_refl _, Nat.zero_le _, fun i hi => absurd hi (by simp), .inl rfl⟩
  · simp only [Value.cells, List.cons.injEq, and_true] at hcs
    simp only [if_true] at hmm
    subst hmm
    have ce : Tryz.prog.cellsOf 29 = 5 := by kernel_rfl
    have each : ∀ i, i < m → ∃ q : ActD, (w.cell? (a.add (i * 5)) = some (.int .i64 q.kind) ∧ w.cell? (a.add (i * 5 + 1)) = some (.int .i64 q.peer) ∧ w.cell? (a.add (i * 5 + 2)) = some (.int .i64 q.n) ∧ w.cell? (a.add (i * 5 + 3)) = some (.bool q.flag) ∧ w.cell? (a.add (i * 5 + 4)) = some (.string q.bytes)) ∧ q.bytes.size ≤ maxLen := by
      intro i hi
      obtain ⟨cs', h1, h2⟩ := hx i hi
      rw [ce] at h1
      obtain ⟨_, hlen, hcell⟩ := World.cells?_some h1
      obtain ⟨xs, k', hk, hxy, _, hxl, hf⟩ := DataW.trod_struct Tryz.underlying29 h2
      have ci : Tryz.prog.cellsOf 3 = 1 := by kernel_rfl
      have c4 : Tryz.prog.cellsOf 4 = 1 := by kernel_rfl
      have c5 : Tryz.prog.cellsOf 9 = 1 := by kernel_rfl
      match cs', hlen with
      | [v0, v1, v2, v3, v4], _ =>
        have g0 : DataW.trod enc Tryz.prog w 0 (fun _ => true) true k' 3 ([v0, v1, v2, v3, v4].take (Tryz.prog.cellsOf 3)) = xs[0]? := hf 0 _ rfl
        have g1 : DataW.trod enc Tryz.prog w 0 (fun _ => true) true k' 3 ([v1, v2, v3, v4].take (Tryz.prog.cellsOf 3)) = xs[1]? := hf 1 _ rfl
        have g2 : DataW.trod enc Tryz.prog w 0 (fun _ => true) true k' 3 ([v2, v3, v4].take (Tryz.prog.cellsOf 3)) = xs[2]? := hf 2 _ rfl
        have g3 : DataW.trod enc Tryz.prog w 0 (fun _ => true) true k' 4 ([v3, v4].take (Tryz.prog.cellsOf 4)) = xs[3]? := hf 3 _ rfl
        have g4 : DataW.trod enc Tryz.prog w 0 (fun _ => true) true k' 9 ([v4].take (Tryz.prog.cellsOf 9)) = xs[4]? := hf 4 _ rfl
        rw [ci, List.take_succ_cons, List.take_zero, List.getElem?_eq_getElem (by rw [hxl]; decide)] at g0 g1 g2
        rw [c4, List.take_succ_cons, List.take_zero, List.getElem?_eq_getElem (by rw [hxl]; decide)] at g3
        rw [c5, List.take_succ_cons, List.take_zero, List.getElem?_eq_getElem (by rw [hxl]; decide)] at g4
        obtain ⟨u0, e0, _, _⟩ := DataW.trod_int Tryz.underlying3 g0
        obtain ⟨u1, e1, _, _⟩ := DataW.trod_int Tryz.underlying3 g1
        obtain ⟨u2, e2, _, _⟩ := DataW.trod_int Tryz.underlying3 g2
        obtain ⟨u3, e3, _⟩ := DataW.trod_bool Tryz.underlying4 g3
        obtain ⟨u4, e4, _, hs4⟩ := DataW.trod_string Tryz.underlying9 g4
        simp only [List.cons.injEq, and_true] at e0 e1 e2 e3 e4
        subst e0 e1 e2 e3 e4
        have hc : ∀ j, j < 5 → w.cell? (a.add (i * 5 + j)) = [Value.int .i64 u0, Value.int .i64 u1, Value.int .i64 u2, Value.bool u3, Value.string u4][j]? := fun j hj => by
          have := hcell j hj
          rw [add_add] at this
          exact this
        exact ⟨⟨u0, u1, u2, u3, u4⟩, ⟨hc 0 (by omega), hc 1 (by omega), hc 2 (by omega), hc 3 (by omega), hc 4 (by omega)⟩, hs4⟩
    obtain ⟨f, hf⟩ := choose_lt each
    refine ⟨some a, m, (List.range len).map f, by simp [hcs], by simpa using hl, by simp; omega, fun i hi => ?_, .inr ⟨_, _, (Prod.mk.inj hy).1, by simp⟩⟩
    · have hi' : i < len := by simpa using hi
      have g := hf i (by omega)
      obtain ⟨hs, hb⟩ := cell_spot (hf 0 (by omega)).1.1
      have hs : a.spot = none := by simpa [Addr.add] using hs
      have hb : a.block < w.heap.size := by simpa [Addr.add] using hb
      obtain ⟨b, o, sp⟩ := a
      simp only at hs hb
      subst hs
      have e : ∀ k, (⟨b, o, none⟩ : Addr).add k = ⟨b, o + k, none⟩ := fun k => by unfold Addr.add; split <;> simp_all
      simp only [e, ← Nat.add_assoc] at g
      refine ⟨⟨b, o, rfl, hb, ?_⟩, ?_⟩
      · unfold ActCells
        simp only [List.getElem_map, List.getElem_range]
        exact g.1
      · simp only [List.getElem_map, List.getElem_range]
        exact g.2
set_option maxRecDepth 100000 in
/-- A slice of acts as the second argument, behind a number: its length, by the form's own reach. -/
theorem open_acts_room {H : Type} {enc : TypeId × Value → H} {w : World} {r : Reach} {b0 : Nat} {v : Value} {d d0 : DataW H} {p : List MemPlace} {t0 : TypeId} {ts : List TypeId} {ds : List (DataW H)} (hv : Value.okWide Tryz.prog w r b0 23 v) (h : DataW.Trod enc Tryz.prog w 0 (fun _ => true) true 23 v d p)
    (hsz : (DataW.weightsEach Tryz.prog (t0 :: 23 :: ts) (d0 :: d :: ds)).all (· ≤ reachBytes) = true) :
    ∃ (a : Option Addr) (cap : Nat) (l : List ActD), v = .slice a l.length cap ∧ l.length ≤ cap ∧ l.length ≤ 2932031007402 ∧ ActsAt w a l := by
  obtain ⟨a, cap, l, h1, h2, h3, h4, h5⟩ := open_acts_sized hv h
  refine ⟨a, cap, l, h1, h2, ?_, h4⟩
  rcases h5 with rfl | ⟨elems, spare, rfl, he⟩
  · simp
  · have hb : Tryz.prog.bytesOf 29 = 48 := by kernel_rfl
    have hw : (elems.length + spare.length) * 48 ≤ reachBytes := of_decide_eq_true (List.all_eq_true.1 hsz _ (by
      unfold DataW.weightsEach
      refine List.mem_append_right _ ?_
      unfold DataW.weightsEach DataW.weights
      rw [Tryz.underlying23]
      simp only [hb]
      simp))
    unfold reachBytes at hw
    omega
end Go.Proofs.YtaaaplbjeknbkaaGreat
