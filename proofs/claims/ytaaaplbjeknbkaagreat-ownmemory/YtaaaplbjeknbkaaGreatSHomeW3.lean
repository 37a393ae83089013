/-
  Contracts of package orphan: usages, Usage.
-/
import Derived.Test.YtaaaplbjeknbkaaGreatSHomeW2
set_option maxRecDepth 20000
namespace Go.Proofs.YtaaaplbjeknbkaaGreat.So.Ho
open Go.Proofs.YtaaaplbjeknbkaaGreat.Ho
open Go.RowKit Go.Maps

variable {w w' : World} {F : Nat → Prop} {R : Nat} {it : Option It} {ls : List LD} {M : UInt64 → Option DeedD} {b : Nat} {ev : UInt64 → Option Value} {v : Value}

theorem below_set {n : Nat} {a c : World} (h : Below n a c) {p : Addr} {u : Value} (hp : n ≤ p.block) : Below n a (c.setCell p u) :=
  ⟨h.os, h.tape, h.output, by rw [World.size_setCell]; exact h.size, fun k hk => (Below.heap_setCell c p u k (by omega)).trans (h.block k hk)⟩
theorem HomeAt.linkForm (h : HomeAt w F R it ls M b ev v) : ∃ a cap, v = .slice a ls.length cap ∧ ls.length ≤ cap ∧ LinksAt w a ls := ownLinks_form h.links
theorem HomeAt.linksAt {a : Option Addr} {n cap : Nat} (h : HomeAt w F R it ls M b ev (.slice a n cap)) : LinksAt w a ls := by
  obtain ⟨a', cap', e, _, hat⟩ := h.linkForm
  simp only [Value.slice.injEq] at e
  rw [e.1]
  exact hat
/-- Block U holds these usages. -/
def UsAt (w : World) (U : Nat) (u : Nat → Int × Int) : Prop := w.heap[U]? = some (.cells (usC u) 190 (0, 0))
theorem usAt_cell {U : Nat} {u : Nat → Int × Int} (h : UsAt w U u) {p : Nat} (hp : p < 8) : w.cell? ⟨U, p * 2, none⟩ = some (.int .i64 (u p).1) ∧ w.cell? ⟨U, p * 2 + 1, none⟩ = some (.int .i64 (u p).2) ∧ w.frozen? ⟨U, p * 2, none⟩ = false ∧ w.frozen? ⟨U, p * 2 + 1, none⟩ = false :=
  ⟨(head_cell h _).trans (usC_at u p hp).1, (head_cell h _).trans (usC_at u p hp).2, frozen_of_row w U _ _ _ h, frozen_of_row w U _ _ _ h⟩
theorem usAt_set {U : Nat} {u : Nat → Int × Int} (h : UsAt w U u) {p : Nat} (hp : p < 8) (x y : Int) : UsAt ((w.setCell ⟨U, p * 2, none⟩ (.int .i64 x)).setCell ⟨U, p * 2 + 1, none⟩ (.int .i64 y)) U (upd u p (x, y)) := by
  unfold UsAt
  rw [← usC_set u p hp x y]
  exact heap_setCell_same _ U _ _ _ _ (heap_setCell_same _ U _ _ _ _ h)
theorem HomeAt.look_weight (h : HomeAt w F R it ls M b ev v) (x : UInt64) : ∃ a c, (Instr.lookup 47 (.map (some b)) (.int .u64 x.toNat) false).run Tryz.prog w = .ok (.agg #[.slice a ((M x).getD nod).ins.length c, .int .i64 ((M x).getD nod).outs, .int .i64 ((M x).getD nod).weight, .int .i64 ((M x).getD nod).fee]) w := by
  obtain ⟨a, c, e, _⟩ := h.deed x
  exact ⟨a, c, by rw [h.look x, e]; rfl⟩
theorem field_weight (a : Option Addr) (n c : Nat) (o z f : Int) (w : World) : (Instr.field 50 (.agg #[.slice a n c, .int .i64 o, .int .i64 z, .int .i64 f]) 2).run Tryz.prog w = .ok (.int .i64 z) w := by kernel_rfl
set_option maxRecDepth 20000 in
theorem usages_any (w : World) (h : HomeAt w F R it ls M b ev v) (hl : ls.length ≤ 1000) (hp8 : ∀ l ∈ ls, l.peer < 8) :
    Calls Tryz.prog 136 #[.pointer (some ⟨R, 0, none⟩)] w fun e w' => e = .returned (.agg (usC (usageF M ls))) ∧ Below w.heap.size w w' := by
  have HW := Lib.hid h.weight
  obtain ⟨a, cap, rfl, hcap, _⟩ := h.linkForm
  have hk2 : Below w.heap.size w ((w.alloc (.cells (usC fun _ => (0, 0)) 190)).alloc (.cells (usC fun _ => (0, 0)) 190)) := kept_alloc (kept_new _ _) _
  have HK2 := Lib.hid hk2
  have H := Lib.hid (h.kept hk2)
  have hlc := (h.linkc).1
  have hlt := h.lt
  have HP := Lib.hid hp8
  have HTH := Lib.hid h.there
  have HIR : Hid (∀ i, it = some i → i.r < w.heap.size) := Lib.hid (fun i hi => (h.out i hi).2)
  have HU0 : Hid (UsAt ((w.alloc (.cells (usC fun _ => (0, 0)) 190)).alloc (.cells (usC fun _ => (0, 0)) 190)) w.heap.size (fun _ => (0, 0))) := Lib.hid (heap_alloc2_old _ _ _)
  have HU1 : Hid (UsAt ((w.alloc (.cells (usC fun _ => (0, 0)) 190)).alloc (.cells (usC fun _ => (0, 0)) 190)) (w.heap.size + 1) (usageF M (ls.take 0))) := Lib.hid (heap_alloc2_new _ _ _)
  unfold usC at HU0 HU1 HK2 H
  simp only at HU0 HU1 HK2 H
  clear h hp8 hk2
  go_enter Tryz.func136, Tryz.ntmps136
  go_wp2_with fail
  go_loopw [11] (fun i wr => ∃ k : Nat, k ≤ ls.length ∧ i = .int .i64 k ∧ Hid (HomeAt wr F R it ls M b ev (.slice a ls.length cap)) ∧ Hid (UsAt wr w.heap.size (fun _ => (0, 0))) ∧ Hid (UsAt wr (w.heap.size + 1) (usageF M (ls.take k))) ∧ Hid (Below w.heap.size w wr)) (fun i _ => ls.length - (intOf i).toNat)
  case atStart => exact ⟨0, Nat.zero_le _, rfl, H, HU0, HU1, HK2⟩
  case round =>
    clear H HU0 HU1 HK2
    obtain ⟨k, hk, rfl, H, HU0, HU1, HB⟩ := hrel
    by_cases hkl : k < ls.length
    · obtain ⟨g, o, rfl, hg, hc2⟩ := H.out.linksAt k hkl
      have hpk := HP.out _ (List.getElem_mem hkl)
      have hstep := usageF_step (M := M) hkl
      obtain ⟨l0, hl0⟩ : ∃ l0, ls[k] = l0 := ⟨_, rfl⟩
      rw [hl0] at hc2 hpk hstep
      obtain ⟨c0, c1⟩ := hc2
      have HST := Lib.hid hstep
      have hpi : (l0.peer : Int) < 8 := by omega
      obtain ⟨wd, hwd⟩ : ∃ wd, (wr.alloc (.cells #[.int .i64 l0.peer, .int .u64 l0.id.toNat] 153)).drew = wd := ⟨_, rfl⟩
      have hbd : Below wr.heap.size wr wd := hwd ▸ (kept_new _ _).drew
      have HD := H.out.kept hbd
      have hmd := HD.mapc
      have hRd := HD.lt
      obtain ⟨ia, ic, hlk⟩ := HD.look_weight l0.id
      have hU1 : UsAt wd (w.heap.size + 1) (usageF M (ls.take k)) := (hbd.block _ (by have := HU1.out; unfold UsAt at this; exact (Array.getElem?_eq_some_iff.1 this).1)).trans HU1.out
      have hU0 : UsAt wd w.heap.size (fun _ => (0, 0)) := (hbd.block _ (by have := HU0.out; unfold UsAt at this; exact (Array.getElem?_eq_some_iff.1 this).1)).trans HU0.out
      obtain ⟨u0, u1, f0, f1⟩ := usAt_cell hU1 hpk
      have d0 : wd.cell? ⟨wr.heap.size, 0, none⟩ = some (.int .i64 l0.peer) := by rw [← hwd]; show (wr.alloc _).cell? _ = _; simp [go_sem]
      have d1 : wd.cell? ⟨wr.heap.size, 1, none⟩ = some (.int .u64 l0.id.toNat) := by rw [← hwd]; show (wr.alloc _).cell? _ = _; simp [go_sem]
      have hub := usage_bound HW.out (ls.take k) l0.peer
      have hwb := HW.out l0
      have htk : ((ls.take k).length : Int) ≤ 1000 := by rw [List.length_take]; omega
      obtain ⟨x, hx⟩ : ∃ x, (usageF M (ls.take k) l0.peer).1 = x := ⟨_, rfl⟩
      obtain ⟨y, hy⟩ : ∃ y, (usageF M (ls.take k) l0.peer).2 = y := ⟨_, rfl⟩
      obtain ⟨z, hz⟩ : ∃ z, wM M l0 = z := ⟨_, rfl⟩
      have hz' : ((M l0.id).getD nod).weight = z := hz
      rw [hx, hy] at hub
      rw [hx] at u0
      rw [hy] at u1
      rw [hz] at hwb
      rw [hz'] at hlk
      have HXX := Lib.hid hx
      have HYY := Lib.hid hy
      have HZZ := Lib.hid hz
      have hx1 : x ≤ 1000000 := by omega
      have hy1 : y ≤ 1000 := by omega
      have hx0 := hub.1
      have hy0 := hub.2.2.1
      obtain ⟨hz0, hz1⟩ := hwb
      have hs0 := (cell_spot u0).2
      have hs1 := (cell_spot d0).2
      have hne : wr.heap.size ≠ w.heap.size + 1 := by
        have := HU1.out
        unfold UsAt at this
        have := (Array.getElem?_eq_some_iff.1 this).1
        omega
      have HWD := Lib.hid hwd
      have HHD := Lib.hid HD
      have HU1' := Lib.hid hU1
      have HU0' := Lib.hid hU0
      have HBD := Lib.hid (kept_trans HB.out hbd)
      clear hl0 hstep HD hbd hU1 hU0 hub htk hx hy hz hz' hwd
      have hfd := field_weight
      go_wp2_with fail
      refine region_tail 16 (by kernel_rfl) (by kernel_rfl) HWD.out ?_
      simp only [List.take_succ_cons, List.take_zero, List.drop_succ_cons, List.drop_zero]
      repeat still_step
      refine wpStill_nil ?_
      go_wp2_with fail
      go_roundw
      case rel =>
        have ht : Turn (fun j => j = w.heap.size + 1) (fun j => j = w.heap.size + 1) wd _ := (Turn.set (F := fun j => j = w.heap.size + 1) wd ⟨w.heap.size + 1, l0.peer * 2, none⟩ (.int .i64 (x + z)) rfl).trans (Turn.set (F := fun j => j = w.heap.size + 1) _ ⟨w.heap.size + 1, l0.peer * 2 + 1, none⟩ (.int .i64 (y + 1)) rfl)
        refine ⟨k + 1, by omega, by go_num, Lib.hid (HHD.out.turn ht (fun j hj e => by have := HTH.out j hj; omega) (fun i hi e => by have := HIR.out i hi; omega)), Lib.hid ?_, Lib.hid ?_, Lib.hid (HBD.out.trans (ht.below (fun j hj => by omega) HBD.out.size))⟩
        · exact (ht.block _ (Nat.lt_trans (Nat.lt_succ_self _) hs0) (by omega)).trans HU0'.out
        · rw [HST.out, HXX.out, HYY.out, HZZ.out]
          exact usAt_set HU1'.out hpk _ _
      case measure => simp [intOf]; omega
    · have he : ls.take k = ls := List.take_of_length_le (by omega)
      have h1 := HU1.out
      rw [he] at h1
      have h0 := HU0.out
      unfold UsAt at h0 h1
      have hs1 := (Array.getElem?_eq_some_iff.1 h1).1
      have hs0 := (Array.getElem?_eq_some_iff.1 h0).1
      obtain ⟨u, hu⟩ : ∃ u, usageF M ls = u := ⟨_, rfl⟩
      rw [hu] at h1
      have HUU := Lib.hid hu
      have a0 : wr.cell? ⟨w.heap.size + 1, 0, none⟩ = some (.int .i64 (u 0).1) := (head_cell h1 0).trans rfl
      have b0 : wr.cell? ⟨w.heap.size, 0, none⟩ = some (.int .i64 0) := (head_cell h0 0).trans rfl
      have f0 := frozen_of_row wr _ 0 _ _ h0
      have a1 : wr.cell? ⟨w.heap.size + 1, 1, none⟩ = some (.int .i64 (u 0).2) := (head_cell h1 1).trans rfl
      have b1 : wr.cell? ⟨w.heap.size, 1, none⟩ = some (.int .i64 0) := (head_cell h0 1).trans rfl
      have f1 := frozen_of_row wr _ 1 _ _ h0
      have a2 : wr.cell? ⟨w.heap.size + 1, 2, none⟩ = some (.int .i64 (u 1).1) := (head_cell h1 2).trans rfl
      have b2 : wr.cell? ⟨w.heap.size, 2, none⟩ = some (.int .i64 0) := (head_cell h0 2).trans rfl
      have f2 := frozen_of_row wr _ 2 _ _ h0
      have a3 : wr.cell? ⟨w.heap.size + 1, 3, none⟩ = some (.int .i64 (u 1).2) := (head_cell h1 3).trans rfl
      have b3 : wr.cell? ⟨w.heap.size, 3, none⟩ = some (.int .i64 0) := (head_cell h0 3).trans rfl
      have f3 := frozen_of_row wr _ 3 _ _ h0
      have a4 : wr.cell? ⟨w.heap.size + 1, 4, none⟩ = some (.int .i64 (u 2).1) := (head_cell h1 4).trans rfl
      have b4 : wr.cell? ⟨w.heap.size, 4, none⟩ = some (.int .i64 0) := (head_cell h0 4).trans rfl
      have f4 := frozen_of_row wr _ 4 _ _ h0
      have a5 : wr.cell? ⟨w.heap.size + 1, 5, none⟩ = some (.int .i64 (u 2).2) := (head_cell h1 5).trans rfl
      have b5 : wr.cell? ⟨w.heap.size, 5, none⟩ = some (.int .i64 0) := (head_cell h0 5).trans rfl
      have f5 := frozen_of_row wr _ 5 _ _ h0
      have a6 : wr.cell? ⟨w.heap.size + 1, 6, none⟩ = some (.int .i64 (u 3).1) := (head_cell h1 6).trans rfl
      have b6 : wr.cell? ⟨w.heap.size, 6, none⟩ = some (.int .i64 0) := (head_cell h0 6).trans rfl
      have f6 := frozen_of_row wr _ 6 _ _ h0
      have a7 : wr.cell? ⟨w.heap.size + 1, 7, none⟩ = some (.int .i64 (u 3).2) := (head_cell h1 7).trans rfl
      have b7 : wr.cell? ⟨w.heap.size, 7, none⟩ = some (.int .i64 0) := (head_cell h0 7).trans rfl
      have f7 := frozen_of_row wr _ 7 _ _ h0
      have a8 : wr.cell? ⟨w.heap.size + 1, 8, none⟩ = some (.int .i64 (u 4).1) := (head_cell h1 8).trans rfl
      have b8 : wr.cell? ⟨w.heap.size, 8, none⟩ = some (.int .i64 0) := (head_cell h0 8).trans rfl
      have f8 := frozen_of_row wr _ 8 _ _ h0
      have a9 : wr.cell? ⟨w.heap.size + 1, 9, none⟩ = some (.int .i64 (u 4).2) := (head_cell h1 9).trans rfl
      have b9 : wr.cell? ⟨w.heap.size, 9, none⟩ = some (.int .i64 0) := (head_cell h0 9).trans rfl
      have f9 := frozen_of_row wr _ 9 _ _ h0
      have a10 : wr.cell? ⟨w.heap.size + 1, 10, none⟩ = some (.int .i64 (u 5).1) := (head_cell h1 10).trans rfl
      have b10 : wr.cell? ⟨w.heap.size, 10, none⟩ = some (.int .i64 0) := (head_cell h0 10).trans rfl
      have f10 := frozen_of_row wr _ 10 _ _ h0
      have a11 : wr.cell? ⟨w.heap.size + 1, 11, none⟩ = some (.int .i64 (u 5).2) := (head_cell h1 11).trans rfl
      have b11 : wr.cell? ⟨w.heap.size, 11, none⟩ = some (.int .i64 0) := (head_cell h0 11).trans rfl
      have f11 := frozen_of_row wr _ 11 _ _ h0
      have a12 : wr.cell? ⟨w.heap.size + 1, 12, none⟩ = some (.int .i64 (u 6).1) := (head_cell h1 12).trans rfl
      have b12 : wr.cell? ⟨w.heap.size, 12, none⟩ = some (.int .i64 0) := (head_cell h0 12).trans rfl
      have f12 := frozen_of_row wr _ 12 _ _ h0
      have a13 : wr.cell? ⟨w.heap.size + 1, 13, none⟩ = some (.int .i64 (u 6).2) := (head_cell h1 13).trans rfl
      have b13 : wr.cell? ⟨w.heap.size, 13, none⟩ = some (.int .i64 0) := (head_cell h0 13).trans rfl
      have f13 := frozen_of_row wr _ 13 _ _ h0
      have a14 : wr.cell? ⟨w.heap.size + 1, 14, none⟩ = some (.int .i64 (u 7).1) := (head_cell h1 14).trans rfl
      have b14 : wr.cell? ⟨w.heap.size, 14, none⟩ = some (.int .i64 0) := (head_cell h0 14).trans rfl
      have f14 := frozen_of_row wr _ 14 _ _ h0
      have a15 : wr.cell? ⟨w.heap.size + 1, 15, none⟩ = some (.int .i64 (u 7).2) := (head_cell h1 15).trans rfl
      have b15 : wr.cell? ⟨w.heap.size, 15, none⟩ = some (.int .i64 0) := (head_cell h0 15).trans rfl
      have f15 := frozen_of_row wr _ 15 _ _ h0
      clear h0 h1 he HU0 HU1 hu
      go_wp2_with fail
      refine bodyPost_ret (v := .agg (usC u)) (by simp [results, Tryz.results136, go_sem, usC, b0, b1, b2, b3, b4, b5, b6, b7, b8, b9, b10, b11, b12, b13, b14, b15]) rfl ?_
      rw [HUU.out]
      refine ⟨rfl, ?_⟩
      iterate 16 refine below_set ?_ (Nat.le_refl _)
      exact HB.out
end Go.Proofs.YtaaaplbjeknbkaaGreat.So.Ho
