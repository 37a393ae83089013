/-
  Contracts of package orphan: Usage, burden, worst; a range over the map of a pool; isFull.
-/
import Derived.Test.YtaaaplbjeknbkaaGreatSHomeW3
import Derived.Deep.CutRange
import Derived.Deep.RegionHeld3
set_option maxRecDepth 20000
namespace Go.Proofs.YtaaaplbjeknbkaaGreat.So.Ho
open Go.Proofs.YtaaaplbjeknbkaaGreat.Ho
open Go.RowKit Go.Maps

variable {w w' : World} {F : Nat → Prop} {R : Nat} {it : Option It} {ls : List LD} {M : UInt64 → Option DeedD} {b : Nat} {ev : UInt64 → Option Value} {v : Value}

theorem index_us (u : Nat → Int × Int) (p : Nat) (hp : p < 8) (w : World) : (Instr.index 190 (.agg (usC u)) (.int .i64 p)).run Tryz.prog w = .ok (.agg #[.int .i64 (u p).1, .int .i64 (u p).2]) w :=
  match p, hp with
  | 0, _ => by kernel_rfl
  | 1, _ => by kernel_rfl
  | 2, _ => by kernel_rfl
  | 3, _ => by kernel_rfl
  | 4, _ => by kernel_rfl
  | 5, _ => by kernel_rfl
  | 6, _ => by kernel_rfl
  | 7, _ => by kernel_rfl
/-- What a usage weighs. -/
def burd (x : Int × Int) : Int := max (x.1 * 24) (x.2 * 3000)
theorem burden_any (x : Int × Int) (w : World) (h : 0 ≤ x.1 ∧ x.1 ≤ 1000000 ∧ 0 ≤ x.2 ∧ x.2 ≤ 1000) :
    Calls Tryz.prog 140 #[.agg #[.int .i64 x.1, .int .i64 x.2]] w fun e w' => e = .returned (.int .i64 (burd x)) ∧ Below w.heap.size w w' := by
  obtain ⟨h0, h1, h2, h3⟩ := h
  unfold burd
  go_enter Tryz.func140, Tryz.ntmps140
  go_wp2
  all_goals (go_ret; exact ⟨ret_i64 (by omega), kept_new _ _⟩)
theorem burden_is (x : Int × Int) (r : Int) (w : World) (h : 0 ≤ x.1 ∧ x.1 ≤ 1000000 ∧ 0 ≤ x.2 ∧ x.2 ≤ 1000) (hr : burd x = r) :
    Calls Tryz.prog 140 #[.agg #[.int .i64 x.1, .int .i64 x.2]] w fun e w' => e = .returned (.int .i64 r) ∧ Below w.heap.size w w' := hr ▸ burden_any x w h
/-- The first of the greatest among k numbers. -/
def wst (B : Nat → Int) : Nat → Nat
  | 0 => 0
  | k + 1 => if B k > B (wst B k) then k else wst B k
theorem wst_lt (B : Nat → Int) : ∀ k, k ≤ 8 → wst B k < 8
  | 0, _ => by show 0 < 8; decide
  | k + 1, h => by
    unfold wst
    split
    · omega
    · exact wst_lt B k (by omega)
theorem two_us {wX w1 w2 : World} {n U m : Nat} {u : Nat → Int × Int} {x : Int × Int} (hm : m < 8) (h0 : wX.cell? ⟨n, 0, none⟩ = some (.int .i64 x.1)) (h1 : wX.cell? ⟨n, 1, none⟩ = some (.int .i64 x.2)) (hU : UsAt wX U u) (hb : Below wX.heap.size wX w1) (hb2 : Below w1.heap.size w1 w2) :
    ((w2.cell? ⟨n, 0, none⟩ = some (.int .i64 x.1) ∧ w2.cell? ⟨n, 1, none⟩ = some (.int .i64 x.2)) ∧ (w2.cell? ⟨U, m * 2, none⟩ = some (.int .i64 (u m).1) ∧ w2.cell? ⟨U, m * 2 + 1, none⟩ = some (.int .i64 (u m).2))) ∧ Below wX.heap.size wX w2 := by
  have hk := kept_trans hb hb2
  obtain ⟨q0, q1, _, _⟩ := usAt_cell hU hm
  exact ⟨⟨⟨kept_cell hk h0, kept_cell hk h1⟩, ⟨kept_cell hk q0, kept_cell hk q1⟩⟩, hk⟩
set_option maxRecDepth 20000 in
theorem worst_any (w : World) (h : HomeAt w F R it ls M b ev v) (hl : ls.length ≤ 1000) (hp8 : ∀ l ∈ ls, l.peer < 8) :
    Calls Tryz.prog 103 #[.pointer (some ⟨R, 0, none⟩)] w fun e w' => e = .returned (.int .i64 (wst (fun p => burd (usageF M ls p)) 8)) ∧ Below w.heap.size w w' := by
  have H := Lib.hid h
  have HP := Lib.hid hp8
  have HB0 : Hid (∀ p, 0 ≤ (usageF M ls p).1 ∧ (usageF M ls p).1 ≤ 1000000 ∧ 0 ≤ (usageF M ls p).2 ∧ (usageF M ls p).2 ≤ 1000) := Lib.hid (fun p => by
    have := usage_bound h.weight ls p
    omega)
  clear h hp8
  go_enter Tryz.func103, Tryz.ntmps103
  go_wp2_with fail
  with_reducible refine (usages_any _ H.out hl HP.out).mono ?_
  rintro e w1 ⟨rfl, hb1⟩
  obtain ⟨u, hu⟩ : ∃ u, usageF M ls = u := ⟨_, rfl⟩
  have HUU := Lib.hid hu
  rw [hu] at HB0 ⊢
  have HU1 : Hid (UsAt (w1.alloc (.cells (usC u) 190)) w1.heap.size u) := Lib.hid (heap_alloc_new _ _)
  have HK1 := Lib.hid (kept_alloc hb1 (.cells (usC u) 190))
  unfold usC at HU1 HK1 ⊢
  have hix := index_us u
  unfold usC at hix
  clear hu hb1
  go_wp2_with fail
  go_loopw [4, 10] (fun vm vk wr => ∃ m k : Nat, vm = .int .i64 m ∧ vk = .int .i64 k ∧ k ≤ 8 ∧ m < 8 ∧ Hid (m = wst (fun p => burd (u p)) k) ∧ Hid (UsAt wr w1.heap.size u) ∧ Hid (Below w.heap.size w wr)) (fun _ k _ => 8 - (intOf k).toNat)
  case atStart => exact ⟨0, 0, rfl, rfl, by omega, by omega, Lib.hid rfl, HU1, HK1⟩
  case round =>
    clear HU1 HK1
    obtain ⟨m, k, rfl, rfl, hk, hm, HM, HU, HB⟩ := hrel
    by_cases hkl : k < 8
    · have hixk := hix k hkl
      have hki : (k : Int) < 8 := by omega
      have hmi : (m : Int) < 8 := by omega
      obtain ⟨bk, hbk⟩ : ∃ x, burd (u k) = x := ⟨_, rfl⟩
      obtain ⟨bm, hbm⟩ : ∃ x, burd (u m) = x := ⟨_, rfl⟩
      have HBK := Lib.hid hbk
      have HBM := Lib.hid hbm
      obtain ⟨wX, hwX⟩ : ∃ x, x = wr.alloc (.cells #[.int .i64 (u k).1, .int .i64 (u k).2] 189) := ⟨_, rfl⟩
      have hbX : Below wr.heap.size wr wX := hwX ▸ kept_new _ _
      have a0 : wX.cell? ⟨wr.heap.size, 0, none⟩ = some (.int .i64 (u k).1) := by rw [hwX]; simp [go_sem]
      have a1 : wX.cell? ⟨wr.heap.size, 1, none⟩ = some (.int .i64 (u k).2) := by rw [hwX]; simp [go_sem]
      have hUX : UsAt wX w1.heap.size u := (hbX.block _ (Array.getElem?_eq_some_iff.1 HU.out).1).trans HU.out
      obtain ⟨q0, q1, _, _⟩ := usAt_cell hUX hm
      have hsU : w1.heap.size < wX.heap.size := (cell_spot q0).2
      have hsX : wr.heap.size < wX.heap.size := (cell_spot a0).2
      have HUX := Lib.hid hUX
      have HWX := Lib.hid hwX
      have HBX := Lib.hid (kept_trans HB.out hbX)
      clear hbk hbm hix hUX hwX hbX
      by_cases hgt : bk > bm
      · have HN : Hid (k = wst (fun p => burd (u p)) (k + 1)) := Lib.hid (by
          unfold wst
          rw [← HM.out, HBK.out, HBM.out, if_pos hgt])
        go_wp2_with fail
        rw [← HWX.out]
        go_region_held3 (fun w' => ((w'.cell? ⟨wr.heap.size, 0, none⟩ = some (.int .i64 (u k).1) ∧ w'.cell? ⟨wr.heap.size, 1, none⟩ = some (.int .i64 (u k).2)) ∧ (w'.cell? ⟨w1.heap.size, m * 2, none⟩ = some (.int .i64 (u m).1) ∧ w'.cell? ⟨w1.heap.size, m * 2 + 1, none⟩ = some (.int .i64 (u m).2))) ∧ Below wX.heap.size wX w')
          (first | exact two_us hm a0 a1 HUX.out (Below.refl _ _) ((Below.refl _ _).drew) | (go_split_ands; exact two_us hm a0 a1 HUX.out (by assumption) hb2) | (go_split_ands; exact two_us hm a0 a1 HUX.out (by assumption) (Below.refl _ _)))
          (first
            | (go_at_call 140; (go_split_ands; (with_reducible refine (burden_is (u k) bk _ (HB0.out k) HBK.out).mono ?_); rintro e w2 ⟨rfl, hb2⟩))
            | (go_at_call 140; (go_split_ands; (with_reducible refine (burden_is (u m) bm _ (HB0.out m) HBM.out).mono ?_); rintro e w2 ⟨rfl, hb2⟩)))
        go_split_ands
        rename_i hb9 _ _ _ _
        have HB9 := Lib.hid hb9
        clear hb9
        go_wp2_with fail
        go_roundw
        case rel => exact ⟨k, k + 1, rfl, by go_num, by omega, by omega, HN, Lib.hid ((HB9.out.block _ hsU).trans HUX.out), Lib.hid (kept_trans HBX.out HB9.out)⟩
        case measure => simp [intOf]; omega
      · have HN : Hid (m = wst (fun p => burd (u p)) (k + 1)) := Lib.hid (by
          unfold wst
          rw [← HM.out, HBK.out, HBM.out, if_neg hgt])
        go_wp2_with fail
        rw [← HWX.out]
        go_region_held3 (fun w' => ((w'.cell? ⟨wr.heap.size, 0, none⟩ = some (.int .i64 (u k).1) ∧ w'.cell? ⟨wr.heap.size, 1, none⟩ = some (.int .i64 (u k).2)) ∧ (w'.cell? ⟨w1.heap.size, m * 2, none⟩ = some (.int .i64 (u m).1) ∧ w'.cell? ⟨w1.heap.size, m * 2 + 1, none⟩ = some (.int .i64 (u m).2))) ∧ Below wX.heap.size wX w')
          (first | exact two_us hm a0 a1 HUX.out (Below.refl _ _) ((Below.refl _ _).drew) | (go_split_ands; exact two_us hm a0 a1 HUX.out (by assumption) hb2) | (go_split_ands; exact two_us hm a0 a1 HUX.out (by assumption) (Below.refl _ _)))
          (first
            | (go_at_call 140; (go_split_ands; (with_reducible refine (burden_is (u k) bk _ (HB0.out k) HBK.out).mono ?_); rintro e w2 ⟨rfl, hb2⟩))
            | (go_at_call 140; (go_split_ands; (with_reducible refine (burden_is (u m) bm _ (HB0.out m) HBM.out).mono ?_); rintro e w2 ⟨rfl, hb2⟩)))
        go_split_ands
        rename_i hb9 _ _ _ _
        have HB9 := Lib.hid hb9
        clear hb9
        go_wp2_with fail
        go_roundw
        case rel => exact ⟨m, k + 1, rfl, by go_num, by omega, by omega, HN, Lib.hid ((HB9.out.block _ hsU).trans HUX.out), Lib.hid (kept_trans HBX.out HB9.out)⟩
        case measure => simp [intOf]; omega
    · have HE : Hid (m = wst (fun p => burd (u p)) 8) := Lib.hid (by have := HM.out; rw [show k = 8 by omega] at this; exact this)
      have hki : ¬ (k : Int) < 8 := by omega
      clear hix
      go_wp2_with fail
      go_ret
      refine ⟨ret_i64 ?_, HB.out⟩
      rw [HUU.out, ← HE.out]
end Go.Proofs.YtaaaplbjeknbkaaGreat.So.Ho
