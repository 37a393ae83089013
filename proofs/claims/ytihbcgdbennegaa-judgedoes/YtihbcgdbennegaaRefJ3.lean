/-
  The reference's ledger: Judge, with, Accept.
-/
import Derived.Test.YtihbcgdbennegaaRefJ2
import Derived.Deep.RegionLaw
namespace Go.Proofs.Ytihbcgdbennegaa
open Go.RowKit Go.Maps

variable {w w' : World} {a : Option Addr} {l : List DeedH}
set_option maxRecDepth 20000 in
theorem refJudgeJ_any (cap : Nat) (d : DeedD) (da : Option Addr) (dc : Nat) (w : World) (h : RowJ w a l) (hl : l.length ≤ 2932031007402) (hdc : d.ins.length ≤ dc) (hi : InsAt w da d.ins) (k : Int) (m : List UInt64) (r : Int) (hr : judgeL (dOf l) d = (k, m, r)) :
    Calls Try.prog 12 #[.agg #[.slice a l.length cap], .agg #[.slice da d.ins.length dc, .int .i64 d.outs, .int .i64 d.weight, .int .i64 d.fee]] w (GaveJ w (k, m, r)) := by
  have hk0 : Below w.heap.size w ((w.alloc (.cells #[.slice a l.length cap] 27)).alloc (.cells #[.slice da d.ins.length dc, .int .i64 d.outs, .int .i64 d.weight, .int .i64 d.fee] 30)) := kept_alloc (kept_new _ _) _
  have H := Lib.hid (h.kept hk0)
  have HI := Lib.hid (insAt_kept hk0 hi)
  have HK := Lib.hid hk0
  clear h hi hk0
  unfold judgeL at hr
  by_cases hc : checkD d = 0
  · rw [if_neg (not_not_intro hc)] at hr
    simp only [Prod.mk.injEq] at hr
    obtain ⟨h1, h2, rfl⟩ := hr
    have H1 := Lib.hid h1
    have H2 := Lib.hid h2
    have HC := Lib.hid hc
    clear h1 h2 hc
    go_enter Try.func12, Try.ntmps12
    go_wp2_with fail
    with_reducible refine (refCheck_is d _ _ _ 0 hdc HI.out HC.out).mono ?_
    rintro e w1 ⟨rfl, hb1⟩
    obtain ⟨c0, c1, c2, c3, hs1⟩ := box_four hb1
    have hb : w1.cell? ⟨w.heap.size, 0, none⟩ = some (.slice a l.length cap) := kept_cell hb1 (by simp [go_sem])
    have hbs := (cell_spot hb).2
    have HR1 := Lib.hid (H.out.kept hb1)
    have HI1 := Lib.hid (insAt_kept hb1 HI.out)
    have HB1 := Lib.hid (kept_trans HK.out hb1)
    clear hb1
    have hz : (w.alloc (.cells #[.slice a l.length cap] 27)).heap.size = w.heap.size + 1 := by simp
    rw [hz] at c0 c1 c2 c3 hs1
    clear hz
    go_wp2_with fail
    with_reducible refine (refjudge_any cap d da dc _ HR1.out hl HC.out HI1.out k m H1.out H2.out).mono ?_
    rintro e w2 ⟨a2, k2, rfl, ho2, hb2⟩
    have HO2 := Lib.hid (own_mono ho2 HB1.out.size)
    have HB2 := Lib.hid (kept_trans HB1.out hb2)
    clear ho2 hb2
    go_wp2_with fail
    go_ret3
    exact ⟨a2, k2, rfl, HO2.out, HB2.out⟩
  · rw [if_pos hc] at hr
    simp only [Prod.mk.injEq] at hr
    obtain ⟨rfl, rfl, hr⟩ := hr
    rw [hr] at hc
    have HR := Lib.hid hr
    have hrb : (r != 0) = true := by simpa using hc
    clear hr hc
    go_enter Try.func12, Try.ntmps12
    go_wp2_with fail
    with_reducible refine (refCheck_is d _ _ _ r hdc HI.out HR.out).mono ?_
    rintro e w1 ⟨rfl, hb1⟩
    go_wp2_with fail
    go_ret3
    exact ⟨none, 0, rfl, ownIds_nil _ _, kept_trans HK.out hb1⟩
/-- A ledger with a deed more, in new memory. -/
def WithJ (w : World) (l : List DeedH) (q : DeedH) (e : Ending) (w' : World) : Prop := ∃ a cap, e = .returned (.agg #[.slice a (l.length + 1) cap]) ∧ OwnD w' w.heap.size (.slice a (l.length + 1) cap) (l ++ [q]) ∧ Below w.heap.size w w'
theorem with_end {w w0 w3 : World} {l : List DeedH} {q : DeedH} {g3 cap3 : Nat} (hk : Below w.heap.size w w0) (hz : w0.heap.size = w.heap.size + 3) (ho : w3.ownsRow w0.heap.size 30 4 (.slice (some ⟨g3, 0, none⟩) (l.length + 1) cap3) (l.length + 1) (dhsC l ++ dhC q)) (hb : Below w0.heap.size w0 w3) :
    WithJ w l q (.returned (.agg #[.slice (some ⟨g3, 0, none⟩) (l.length + 1) cap3])) (w3.setCell ⟨w.heap.size + 1 + 1, 0, none⟩ (.slice (some ⟨g3, 0, none⟩) (l.length + 1) cap3)) := by
  have ht := Turn.set (F := fun k => k = w.heap.size + 1 + 1) w3 ⟨w.heap.size + 1 + 1, 0, none⟩ (.slice (some ⟨g3, 0, none⟩) (l.length + 1) cap3) rfl
  have ho2 := own_turn ho ht (fun k hk e => by have := (ho.lt k hk).1; omega)
  refine ⟨_, _, rfl, ?_, (kept_trans hk hb).trans (ht.below (fun k hk => by omega) (kept_trans hk hb).size)⟩
  have ho3 := own_mono ho2 hk.size
  unfold OwnD
  rw [List.length_append, dhsC_append]
  have : dhsC [q] = dhC q := by simp [dhsC]
  rw [this]
  exact ho3
set_option maxRecDepth 20000 in
set_option maxHeartbeats 2000000 in
theorem with_any (cap : Nat) (d : DeedD) (da : Option Addr) (dc : Nat) (w : World) (h : RowOf w a l) (hl : l.length ≤ 2932031007401) :
    Calls Try.prog 39 #[.agg #[.slice a l.length cap], .agg #[.slice da d.ins.length dc, .int .i64 d.outs, .int .i64 d.weight, .int .i64 d.fee]] w (WithJ w l ⟨da, dc, d⟩) := by
  obtain ⟨w0, hw0⟩ : ∃ y, y = ((w.alloc (.cells #[.slice a l.length cap] 27)).alloc (.cells #[.slice da d.ins.length dc, .int .i64 d.outs, .int .i64 d.weight, .int .i64 d.fee] 30)).alloc (.cells #[.slice none 0 0] 27) := ⟨_, rfl⟩
  have hk0 : Below w.heap.size w w0 := hw0 ▸ kept_alloc (kept_alloc (kept_new _ _) _) _
  have hz0 : w0.heap.size = w.heap.size + 3 := by rw [hw0]; simp
  have hbx : w0.heap[w.heap.size]? = some (.cells #[.slice a l.length cap] 27 (0, 0)) := by rw [hw0]; exact (heap_alloc_old _ _ (by simp; omega)).trans (heap_alloc2_old _ _ _)
  have hby : w0.heap[w.heap.size + 1]? = some (.cells #[.slice da d.ins.length dc, .int .i64 d.outs, .int .i64 d.weight, .int .i64 d.fee] 30 (0, 0)) := by rw [hw0]; exact (heap_alloc_old _ _ (by simp)).trans (heap_alloc2_new _ _ _)
  have hbz : w0.heap[w.heap.size + 2]? = some (.cells #[.slice none 0 0] 27 (0, 0)) := by
    rw [hw0]
    have := heap_alloc_new ((w.alloc (.cells #[.slice a l.length cap] 27)).alloc (.cells #[.slice da d.ins.length dc, .int .i64 d.outs, .int .i64 d.weight, .int .i64 d.fee] 30)) (.cells #[.slice none 0 0] 27)
    simpa using this
  have c0 : w0.cell? ⟨w.heap.size, 0, none⟩ = some (.slice a l.length cap) := head_cell hbx 0
  have d0 : w0.cell? ⟨w.heap.size + 1, 0, none⟩ = some (.slice da d.ins.length dc) := head_cell hby 0
  have d1 : w0.cell? ⟨w.heap.size + 1, 1, none⟩ = some (.int .i64 d.outs) := head_cell hby 1
  have d2 : w0.cell? ⟨w.heap.size + 1, 2, none⟩ = some (.int .i64 d.weight) := head_cell hby 2
  have d3 : w0.cell? ⟨w.heap.size + 1, 3, none⟩ = some (.int .i64 d.fee) := head_cell hby 3
  have HZ := Lib.hid hbz
  have HR := Lib.hid (rowOf_kept h hk0)
  have HK := Lib.hid hk0
  have HW0 := Lib.hid hw0
  have HZ0 := Lib.hid hz0
  have hs0 : w.heap.size < w0.heap.size := by omega
  have hs1 : w.heap.size + 1 < w0.heap.size := by omega
  clear h hk0 hbx hby hbz hw0 hz0
  go_enter Try.func39, Try.ntmps39
  go_wp2_with fail
  rw [← HW0.out]
  obtain ⟨iE, hiE, hy0, hy1, hy2⟩ := info_parts info_deed
  have hone : ∀ u ∈ dhC ⟨da, dc, d⟩, u.oneCell' = true := by simp [dhC, Value.oneCell']
  have HRA : Hid (∀ wx, Below w0.heap.size w0 wx → RowOf wx a l) := Lib.hid (fun wx hb => rowOf_kept HR.out hb)
  have HZA : Hid (∀ wx, Below w0.heap.size w0 wx → wx.heap[w.heap.size + 1 + 1]? = some (.cells #[.slice none 0 0] 27 (0, 0))) := Lib.hid (fun wx hb => (hb.block _ (by have := HZ0.out; omega)).trans HZ.out)
  go_region_law (first
    | (go_simp; go_at_call 56; (with_reducible refine (copyDeeds_any l a cap w0.drew (by omega) (HRA.out _ ((Below.refl _ _).drew))).mono ?_); rintro e w1 ⟨a1, k1, rfl, ho1, hb1⟩; have hbb := kept_trans ((Below.refl w0.heap.size w0).drew) hb1; have j0 := kept_cell hbb d0; have j1 := kept_cell hbb d1; have j2 := kept_cell hbb d2; have j3 := kept_cell hbb d3; have j4 := (cell_spot j0).2)
    | (go_simp; go_at_call 56; (with_reducible refine (copyDeeds_any l a cap (w0.alloc (.cells #[.slice da d.ins.length dc, .int .i64 d.outs, .int .i64 d.weight, .int .i64 d.fee] 30)).drew (by omega) (HRA.out _ ((kept_new _ _).drew))).mono ?_); rintro e w1 ⟨a1, k1, rfl, ho1, hb1⟩; have hbb := kept_trans ((kept_new w0 (.cells #[.slice da d.ins.length dc, .int .i64 d.outs, .int .i64 d.weight, .int .i64 d.fee] 30)).drew) hb1; have hrow : ∀ j u, (dhC ⟨da, dc, d⟩)[j]? = some u → w1.cell? ((⟨w0.heap.size, 0, none⟩ : Addr).add j) = some u := (fun j u hj => kept_cell hb1 (cells_new w0 _ _ j u hj)); have j0 := kept_cell hbb d0; have j1 := kept_cell hbb d1; have j2 := kept_cell hbb d2; have j3 := kept_cell hbb d3; have j4 := (cell_spot j0).2)
    | (refine step_append_lies _ (by rfl) _ _ _ (by rfl) w0.heap.size 30 iE _ 4 48 Try.underlying22 hiE hy0 hy1 hy2 rfl (by omega) (.slice a1 l.length k1) l.length _ (by rfl) (ho1.alloc _) ⟨w1.heap.size, 0, none⟩ 1 1 (dhC ⟨da, dc, d⟩) (by rfl) (by rfl) (cells_new w1 _ _) hone (by omega) (by unfold maxLen; omega) (by omega) (by have := hbb.size; simp; omega) _ rfl ?_; intro g3 cap3 w3 hown3 hgrow3 hat3 hlt3; have hbel3 := (kept_alloc hbb (.cells #[.slice da d.ins.length dc, .int .i64 d.outs, .int .i64 d.weight, .int .i64 d.fee] 30)).grown hgrow3 (by have := hbb.size; simp; omega) (fun j hj => (ho1.lt j hj).1); have hz3 := HZA.out _ hbel3; have y0 : w3.cell? ⟨w.heap.size + 1 + 1, 0, none⟩ = some (.slice none 0 0) := head_cell hz3 0; have y1 := frozen_of_row w3 _ 0 _ _ hz3; have y2 := (cell_spot y0).2; have HO3 := Lib.hid hown3; have HB3 := Lib.hid hbel3; clear hown3 hgrow3 hat3 hbel3 hz3)
    | (refine step_append_lies _ (by rfl) _ _ _ (by rfl) w0.heap.size 30 iE _ 4 48 Try.underlying22 hiE hy0 hy1 hy2 rfl (by omega) (.slice a1 l.length k1) l.length _ (by rfl) (own_mono ho1 (by simp)) ⟨w0.heap.size, 0, none⟩ 1 1 (dhC ⟨da, dc, d⟩) (by rfl) (by rfl) hrow hone (by omega) (by unfold maxLen; omega) (by omega) (by have := hbb.size; omega) _ rfl ?_; intro g3 cap3 w3 hown3 hgrow3 hat3 hlt3; have hbel3 := hbb.grown hgrow3 hbb.size (fun j hj => by have := (ho1.lt j hj).1; simp at this; omega); have hz3 := HZA.out _ hbel3; have y0 : w3.cell? ⟨w.heap.size + 1 + 1, 0, none⟩ = some (.slice none 0 0) := head_cell hz3 0; have y1 := frozen_of_row w3 _ 0 _ _ hz3; have y2 := (cell_spot y0).2; have HO3 := Lib.hid hown3; have HB3 := Lib.hid hbel3; clear hown3 hgrow3 hat3 hbel3 hz3))
  all_goals
    go_wp2_with fail
    refine bodyPost_ret (v := .agg #[.slice (some ⟨g3, 0, none⟩) (l.length + 1) cap3]) (by simp [results, Try.results39, go_sem, y0]) rfl ?_
    exact with_end HK.out HZ0.out HO3.out HB3.out
end Go.Proofs.Ytihbcgdbennegaa
