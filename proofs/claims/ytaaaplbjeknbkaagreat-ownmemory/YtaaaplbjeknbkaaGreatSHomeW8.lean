/-
  The contract of removeOldest.
-/
import Derived.Test.YtaaaplbjeknbkaaGreatSHomeW7
set_option maxRecDepth 20000
namespace Go.Proofs.YtaaaplbjeknbkaaGreat.So.Ho
open Go.Proofs.YtaaaplbjeknbkaaGreat.Ho
open Go.RowKit Go.Maps

variable {w w' : World} {F : Nat → Prop} {R : Nat} {it : Option It} {ls : List LD} {M : UInt64 → Option DeedD} {b : Nat} {ev : UInt64 → Option Value} {v : Value}

theorem box_two {w w1 : World} {o : Obj} {t : TypeId} (h : Below ((w.alloc o).alloc (.cells #[.int .i64 0, .int .u64 0] t)).drew.heap.size ((w.alloc o).alloc (.cells #[.int .i64 0, .int .u64 0] t)).drew w1) :
    w1.cell? ⟨w.heap.size + 1, 0, none⟩ = some (.int .i64 0) ∧ w1.cell? ⟨w.heap.size + 1, 1, none⟩ = some (.int .u64 0) ∧ w1.frozen? ⟨w.heap.size + 1, 0, none⟩ = false ∧ w1.frozen? ⟨w.heap.size + 1, 1, none⟩ = false ∧ w.heap.size + 1 < w1.heap.size := by
  have hs : ((w.alloc o).alloc (.cells #[.int .i64 0, .int .u64 0] t)).drew.heap.size = w.heap.size + 2 := by show ((w.alloc o).alloc _).heap.size = _; simp
  have hB : w1.heap[w.heap.size + 1]? = some (.cells #[.int .i64 0, .int .u64 0] t (0, 0)) := (h.block _ (by omega)).trans (heap_alloc2_new _ _ _)
  exact ⟨head_cell hB 0, head_cell hB 1, frozen_of_row w1 _ 0 _ _ hB, frozen_of_row w1 _ 1 _ _ hB, (cell_spot (head_cell hB 0)).2⟩
set_option maxRecDepth 20000 in
set_option maxHeartbeats 4000000 in
/-- The oldest link of a peer that has one goes (and its deed, if no link has it then). -/
theorem removeOldest_any (p i : Nat) (hi : i < ls.length) (hf : ls.findIdx? (fun l => l.peer == p) = some i) (w : World) (h : HomeAt w F R none ls M b ev v) (hl : ls.length ≤ 1000) :
    Calls Tryz.prog 102 #[.pointer (some ⟨R, 0, none⟩), .int .i64 p] w fun e w' => e = .returned (.tuple #[]) ∧ ∃ F' ev' v', HomeAt w' F' R none (ls.filter fun e => !decide (e = ls[i])) (linkedM (ls.filter fun e => !decide (e = ls[i])) M) b ev' v' ∧ Turn F F' w w' := by
  have hkd := (kept_new w (.cells #[.int .i64 p] 3)).drew
  obtain ⟨la, lcap, rfl, hcap, hat⟩ := h.linkForm
  have hlc := h.linkc.1
  have hlt := h.lt
  obtain ⟨g, o, rfl, hg, c0, c1⟩ := hat i hi
  have hk0 := kept_new w (.cells #[.int .i64 p] 3)
  have HX : Hid (∀ W, Below (w.alloc (.cells #[.int .i64 p] 3)).heap.size (w.alloc (.cells #[.int .i64 p] 3)) W → CellIs w.heap.size (.int .i64 p) W ∧ LinksAt W (some ⟨g, o, none⟩) ls ∧ HomeAt W F R none ls M b ev (.slice (some ⟨g, o, none⟩) ls.length lcap) ∧ W.cell? ⟨g, o + i * 2, none⟩ = some (.int .i64 ls[i].peer) ∧ W.cell? ⟨g, o + i * 2 + 1, none⟩ = some (.int .u64 ls[i].id.toNat)) := Lib.hid (fun W hW => by
    have hb := kept_trans hk0 hW
    exact ⟨cellIs_kept _ _ _ _ (cellIs_new w _ 3) hW, linksAt_kept hb hat, h.kept hb, kept_cell hb c0, kept_cell hb c1⟩)
  have HK0 := Lib.hid hk0
  have HNB : Hid (∀ g, F g → g < w.heap.size) := Lib.hid h.there
  have HF : Hid (firstAt (fun l : LD => l.peer == p) ls = i) := Lib.hid (by unfold firstAt; rw [hf])
  obtain ⟨l0, hl0⟩ : ∃ l0, ls[i] = l0 := ⟨_, rfl⟩
  rw [hl0] at c0 c1 HX ⊢
  have hii : (i : Int) < ls.length := by omega
  clear h hat hkd hf hl0 hk0
  go_enter Tryz.func102, Tryz.ntmps102
  go_upto_region 1 with fail
  go_cut [4] from 5 to 16 (fun v4 wx => ∃ c, v4 = .pointer (some ⟨c, 0, none⟩) ∧ Hid (LinkIs c l0 wx) ∧ Hid (w.heap.size ≤ c) ∧ Hid (HomeAt wx F R none ls M b ev (.slice (some ⟨g, o, none⟩) ls.length lcap)) ∧ Hid (Below w.heap.size w wx))
  case first =>
    go_region_law (first
      | (go_simp; go_at_call 137; (refine (linkIndex_any _ (cellIs_kept _ _) _ _ _ (picks_peer w.heap.size p) ls _ _ ((w.alloc (.cells #[.int .i64 p] 3)).drew) (HX.out _ ((Below.refl _ _).drew)).1 hl (HX.out _ ((Below.refl _ _).drew)).2.1).mono ?_); rintro e w1 ⟨rfl, hb1⟩; rw [HF.out]; have hb2 := kept_trans ((Below.refl _ (w.alloc (.cells #[.int .i64 p] 3))).drew) hb1; obtain ⟨q0, q1, q2, q3, q4⟩ := HX.out _ hb2; have j0 := q2.linkc.1; have j1 := q2.lt; have j2 := (cell_spot q3).2; have j3 := (cell_spot q0).2; have HB1 := Lib.hid hb2; clear hb1 hb2 q0 q1 q2)
      | (go_simp; go_at_call 137; (refine (linkIndex_any _ (cellIs_kept _ _) _ _ _ (picks_peer w.heap.size p) ls _ _ (((w.alloc (.cells #[.int .i64 p] 3)).alloc (.cells #[.int .i64 0, .int .u64 0] 153)).drew) (HX.out _ ((kept_new _ _).drew)).1 hl (HX.out _ ((kept_new _ _).drew)).2.1).mono ?_); rintro e w1 ⟨rfl, hb1⟩; rw [HF.out]; have hb2 := kept_trans ((kept_new (w.alloc (.cells #[.int .i64 p] 3)) (.cells #[.int .i64 0, .int .u64 0] 153)).drew) hb1; obtain ⟨q0, q1, q2, q3, q4⟩ := HX.out _ hb2; have j0 := q2.linkc.1; have j1 := q2.lt; have j2 := (cell_spot q3).2; have j3 := (cell_spot q0).2; have HB1 := Lib.hid hb2; obtain ⟨k0, k1, k2, k3, k4⟩ := box_two hb1; clear hb1 hb2 q0 q1 q2))
    all_goals
      go_wp2_with fail
      go_meet
      case rel =>
        first
          | exact ⟨_, rfl, Lib.hid ⟨by simp [go_sem], by simp [go_sem]⟩, Lib.hid (by omega), Lib.hid (HX.out _ (kept_alloc HB1.out _)).2.2.1, Lib.hid (kept_alloc (kept_trans HK0.out HB1.out) _)⟩
          | exact ⟨_, rfl, Lib.hid ⟨by simp [go_sem, k0], by simp [go_sem, k1]⟩, Lib.hid (by omega), Lib.hid (HX.out _ (below_set (below_set HB1.out (by simp)) (by simp))).2.2.1, Lib.hid (below_set (below_set (kept_trans HK0.out HB1.out) (by simp)) (by simp))⟩
  case rest =>
    obtain ⟨c, rfl, HL, HCW, HH, HB⟩ := hcut
    go_wp2_with fail
    refine (unlink_any _ (linkIs_kept _ _) _ _ _ (picks_same c l0) _ HL.out HH.out (fun g hg => linkIs_set _ (by have := HNB.out g hg; have := HCW.out; omega)) hl).mono ?_
    rintro e w2 ⟨rfl, F2, ev2, v2, h2, t2⟩
    have H2 := Lib.hid h2
    have T2 := Lib.hid t2
    clear h2 t2
    go_wp2_with fail
    go_end0
    exact ⟨rfl, F2, ev2, v2, H2.out, (Turn.of_below HB.out).trans T2.out⟩
end Go.Proofs.YtaaaplbjeknbkaaGreat.So.Ho
