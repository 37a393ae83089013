/-
  The law's own closed fact of a pool: housed.
-/
import Derived.Test.YtaaaplbjeknbkaaGreatSHomeC
import Derived.Test.YtaaaplbjeknbkaaGreatJ5
set_option maxRecDepth 20000
namespace Go.Proofs.YtaaaplbjeknbkaaGreat.So.Ho
open Go.Proofs.YtaaaplbjeknbkaaGreat.Ho
open Go.RowKit Go.Maps

/-- No blocks. -/
def noZ : Nat → Prop := fun _ => False
theorem there_no (w : World) : There w noZ := fun _ h => h.elim
/-- The deed of the closed fact. -/
def d49 : DeedD := ⟨[(4, 0)], 1, 9, 0⟩
theorem add49 : addC [] 1 5 d49 = ((true, 0), [⟨1, 5, d49⟩]) := by rfl
theorem child49 : childL [⟨1, 5, d49⟩] 4 = [5] := by rfl
theorem insAt_one {w : World} {n : Nat} (h : w.heap[n]? = some (.cells #[.int .u64 4, .int .i64 0] 62 (0, 0))) : InsAt w (some ⟨n, 0, none⟩) d49.ins := fun i hi => by
  have hi : i < 1 := hi
  obtain rfl : i = 0 := by omega
  exact ⟨n, 0, rfl, (cell_spot (head_cell h 0)).2, head_cell h 0, head_cell h 1, rfl⟩
set_option maxRecDepth 20000 in
theorem housed_any (w : World) : Calls Tryz.prog 27 #[] w fun e w' => e = .returned (.bool true) ∧ Below w.heap.size w w' := by
  go_enter Tryz.func27, Tryz.ntmps27
  go_wp2_with fail
  with_reducible refine (hd_new w w (Below.refl _ _) noZ (there_no w)).mono ?_
  rintro e w1 ⟨R, rfl, h1, hb1⟩
  have H2 := Lib.hid (h1.new (.cells #[.int .u64 4, .int .i64 0] 62))
  have HIN : Hid (InsAt (w1.alloc (.cells #[.int .u64 4, .int .i64 0] 62)) (some ⟨w1.heap.size, 0, none⟩) d49.ins) := Lib.hid (insAt_one (heap_alloc_new _ _))
  clear h1 hb1
  go_wp2_with fail
  refine (show Calls Tryz.prog 66 #[.pointer (some ⟨R, 0, none⟩), .int .i64 1, .int .u64 5, .agg #[.slice (some ⟨w1.heap.size, 0, none⟩) 1 1, .int .i64 1, .int .i64 9, .int .i64 0]] (w1.alloc (.cells #[.int .u64 4, .int .i64 0] 62)) fun e w' => e = .returned (.tuple #[.bool true, .int .i64 0]) ∧ Held w w' (fun k => noZ k ∨ k = w1.heap.size) R [⟨1, 5, d49⟩] from by
    have := hd_addG w _ R [] _ H2.out 1 5 d49 (some ⟨w1.heap.size, 0, none⟩) 1 HIN.out (fun bb o _ e => .inr (.inr (by cases e; rfl)))
    rw [add49] at this
    exact this.mono fun e w' ⟨h1, h2, _⟩ => ⟨h1, h2⟩).mono ?_
  rintro e w3 ⟨rfl, h3⟩
  have H3 := Lib.hid h3
  clear h3
  go_wp2_with fail
  refine (show Calls Tryz.prog 67 #[.pointer (some ⟨R, 0, none⟩), .int .u64 4] w3 (GaveIds w3 [5]) from by
    have := hd_children w _ R _ w3 H3.out 4
    rw [child49] at this
    exact this).mono ?_
  rintro e w4 ⟨a4, c4, rfl, ho4, hb4⟩
  obtain ⟨a5, c5, e5, _, hids, _⟩ := owns_idsAt ho4
  have hk5 := kept_new w4 (.cells #[.int .u64 5] 22)
  have HI4 : Hid (IdsAt (w4.alloc (.cells #[.int .u64 5] 22)) a4 [5]) := Lib.hid (by
    simp only [Value.slice.injEq] at e5
    rw [e5.1]
    exact idsAt_kept hk5 hids)
  have HI5 : Hid (IdsAt (w4.alloc (.cells #[.int .u64 5] 22)) (some ⟨w4.heap.size, 0, none⟩) [5]) := Lib.hid (fun i hi => by
    have hi : i < 1 := hi
    obtain rfl : i = 0 := by omega
    exact ⟨w4.heap.size, 0, rfl, by simp, by simp [go_sem]⟩)
  have HB5 := Lib.hid (kept_trans (kept_trans H3.out.below hb4) hk5)
  clear ho4 hb4 e5 hids hk5
  go_wp2_with fail
  refine (eqID_is [5] [5] _ _ _ _ _ true (by decide) HI4.out HI5.out rfl).mono ?_
  rintro e w6 ⟨rfl, rfl⟩
  go_wp2_with fail
  go_ret
  exact ⟨rfl, HB5.out⟩
end Go.Proofs.YtaaaplbjeknbkaaGreat.So.Ho
