/-
  chained, apart.
-/
import Derived.Test.YtaaaplbjeknbkabGreatDeedRow
import Derived.Test.YtaaaplbjeknbkabGreatJ12
set_option maxRecDepth 20000
namespace Go.Proofs.YtaaaplbjeknbkabGreat
open Go.RowKit Go.Maps

variable {w w' w0 : World}

theorem Deeds.low {B : Nat} {v : Value} {H : List DeedH} (h : Deeds w B v H) (e : ∀ k, k < w.heap.size → w'.heap[k]? = w.heap[k]?) : Deeds w' B v H :=
  ⟨own_same h.row (fun g hg => e g (h.row.lt g hg).2), fun q hq => (h.ins q hq).same fun g _ hg => e g (Array.getElem?_eq_some_iff.1 hg).1⟩
theorem chain_more {l : List Int} {k : Nat} (h : k < l.length) {H : List DeedH} {q : DeedH} (hM : H.map (fun q => q.d) = chainD (l.take k)) (hq : q.d = ⟨match (H.map fun q => q.d).getLast? with | none => [] | some p => [(Ju.idD p, 0)], 1 + (H.length : Int) % 3, 10, 1 + l[k] % 900⟩) : (H ++ [q]).map (fun q => q.d) = chainD (l.take (k + 1)) := by
  rw [chainD_step h, ← hM, List.map_append, List.map_cons, List.map_nil, hq]
  unfold chainS
  rw [List.length_map]
  rfl
/-- The world in which a chained deed is appended. -/
theorem chain_world {wr wd w6 : World} {D : Nat} (hD : wr.heap.size = D) (hw : w.heap.size ≤ D) (hb : Below w.heap.size w wr) (h1 : Below D wr wd) (h2 : Below wd.heap.size wd w6) (hlt : D < w6.heap.size) (u : Value) (cs : Array Value) :
    (∀ k, k < wr.heap.size → ((w6.setCell ⟨D, 0, none⟩ u).alloc (.cells cs 50)).heap[k]? = wr.heap[k]?) ∧ Below w.heap.size w ((w6.setCell ⟨D, 0, none⟩ u).alloc (.cells cs 50)) ∧ ((w6.setCell ⟨D, 0, none⟩ u).alloc (.cells cs 50)).heap[w6.heap.size]? = some (.cells cs 50 (0, 0)) ∧ w.heap.size ≤ ((w6.setCell ⟨D, 0, none⟩ u).alloc (.cells cs 50)).heap.size := by
  have h0 : Below D wr w6 := h1.trans ⟨h2.os, h2.tape, h2.output, h2.size, fun k hk => h2.block k (by have := h1.size; omega)⟩
  have hs : Below D w6 (w6.setCell ⟨D, 0, none⟩ u) := (Turn.set (F := fun k => k = D) w6 ⟨D, 0, none⟩ u rfl).below (fun k hk => by omega) (by omega)
  have ha : Below D (w6.setCell ⟨D, 0, none⟩ u) ((w6.setCell ⟨D, 0, none⟩ u).alloc (.cells cs 50)) := by
    have := kept_new (w6.setCell ⟨D, 0, none⟩ u) (.cells cs 50)
    exact ⟨this.os, this.tape, this.output, this.size, fun k hk => this.block k (by have := hs.size; omega)⟩
  have hall := (h0.trans hs).trans ha
  refine ⟨fun k hk => hall.block k (by omega), hb.trans ⟨hall.os, hall.tape, hall.output, hall.size, fun k hk => hall.block k (by omega)⟩, ?_, by have := hall.size; omega⟩
  have := heap_alloc_new (w6.setCell ⟨D, 0, none⟩ u) (.cells cs 50)
  simpa using this
set_option maxRecDepth 20000 in
set_option maxHeartbeats 2000000 in
theorem chained_any (l : List Int) (a : Option Addr) (cap : Nat) (hl : l.length ≤ 12) (w : World) (hi : Tr.IntsAt w a l) : Calls Tryz.prog 7 #[.slice a l.length cap] w fun e w' => ∃ v H, e = .returned v ∧ Deeds w' w.heap.size v H ∧ H.map (fun q => q.d) = chainD l ∧ Below w.heap.size w w' := by
  have HI := Lib.hid hi
  clear hi
  go_enter Tryz.func7, Tryz.ntmps7
  go_wp2_with fail
  go_loopw [3, 9] (fun v3 i wr => ∃ (k : Nat) (H : List DeedH), k ≤ l.length ∧ i = .int .i64 k ∧ Hid (Deeds wr w.heap.size v3 H) ∧ Hid (H.map (fun q => q.d) = chainD (l.take k)) ∧ Hid (Below w.heap.size w wr)) (fun _ i _ => l.length - (intOf i).toNat)
  case atStart => exact ⟨0, [], Nat.zero_le _, rfl, Lib.hid (Deeds.nil w _), Lib.hid rfl, Lib.hid (Below.refl _ _)⟩
  case round =>
    obtain ⟨k, H, hk, rfl, HD, HM, HB⟩ := hrel
    by_cases hkl : k < l.length
    · obtain ⟨g, o, rfl, hg, c0⟩ := HI.out k hkl
      obtain ⟨f, hf⟩ : ∃ f, l[k] = f := ⟨_, rfl⟩
      rw [hf] at c0
      have k0 := cell_later HB.out c0
      have l5 := (cell_spot k0).2
      have hHl : H.length = k := by
        have := congrArg List.length HM.out
        rw [List.length_map, chainD_length, List.length_take] at this
        omega
      obtain ⟨q, hq⟩ : ∃ q : Int, f % 900 = q := ⟨_, rfl⟩
      have hq0 : 0 ≤ q ∧ q < 900 := by omega
      have HQ := Lib.hid hq
      have HF := Lib.hid hf
      clear hf c0 hq
      obtain ⟨hq1, hq2⟩ := hq0
      go_wp2_with fail
      with_reducible refine (rest_is f 900 q _ (by decide) (by decide) HQ.out).mono ?_
      rintro e w5 ⟨rfl, rfl⟩
      by_cases hk0 : k = 0
      · subst hk0
        have hrow := (HD.out.kept (kept_new wr (.cells #[.slice none 0 0, .int .i64 1, .int .i64 10, .int .i64 (1 + q)] 35))).row
        have hH0 : H = [] := List.length_eq_zero_iff.1 hHl
        subst hH0
        have HR := Lib.hid hrow
        have HS : Hid (w.heap.size ≤ (wr.alloc (.cells #[.slice none 0 0, .int .i64 1, .int .i64 10, .int .i64 (1 + q)] 35)).heap.size) := Lib.hid (by have := HB.out.size; simp; omega)
        clear hrow hHl
        go_wp2_with (at_builtin; refine append_deed (q := ⟨none, 0, ⟨[], 1, 10, 1 + q⟩⟩) rfl _ _ rfl rfl (Eq.trans (b := .slice (some ⟨wr.heap.size + 1, 0, none⟩) 1 1) rfl (by simp)) HR.out (by simp) HS.out ?_; intro g7 cap7 w7 ho7 hg7; refine Hid.out ?_)
        refine Lib.hid ?_
        have hDn := (HD.out.kept (kept_new wr (.cells #[.slice none 0 0, .int .i64 1, .int .i64 10, .int .i64 (1 + q)] 35))).grown hg7 ho7 (.inl ⟨rfl, rfl⟩)
        have HDN := Lib.hid hDn
        have HMN := Lib.hid (chain_more hkl (q := ⟨none, 0, ⟨[], 1, 10, 1 + q⟩⟩) HM.out (by rw [HF.out, HQ.out]; rfl))
        have HBN := Lib.hid ((kept_trans HB.out (kept_new wr (.cells #[.slice none 0 0, .int .i64 1, .int .i64 10, .int .i64 (1 + q)] 35))).grown hg7 HS.out (fun g hg => (HR.out.lt g hg).1))
        clear hDn ho7 hg7
        go_wp2_with fail
        go_roundw
        case rel => exact ⟨1, [] ++ [⟨none, 0, ⟨[], 1, 10, 1 + q⟩⟩], by omega, by go_num, HDN, HMN, HBN⟩
        case measure => simp [intOf]; omega
      · obtain ⟨j, rfl⟩ : ∃ j, k = j + 1 := ⟨k - 1, by omega⟩
        have HHL := Lib.hid hHl
        have hj : j < H.length := by omega
        have hgood := (chainD_good (l.take (j + 1))).fine
        rw [← HM.out] at hgood
        have hck : checkD H[j].d = 0 := by have := hgood j (by simpa using hj); simpa using this
        obtain ⟨ra, rc, rfl, hrc, hat, _⟩ := HD.out.form
        obtain ⟨⟨b, o2, rfl, hb, d0, d1, d2, d3⟩, hins, hcap⟩ := hat j hj
        obtain ⟨z, hz⟩ : ∃ z, H[j] = z := ⟨_, rfl⟩
        rw [hz] at d0 d1 d2 d3 hins hcap hck
        obtain ⟨x, hx⟩ : ∃ x, Ju.idD z.d = x := ⟨_, rfl⟩
        have HZ := Lib.hid hz
        have HX := Lib.hid hx
        have HCK := Lib.hid hck
        obtain ⟨wd, hwd⟩ : ∃ wd, wr.alloc (.cells #[.slice none 0 0, .int .i64 (1 + ((j : Int) + 1) % 3), .int .i64 10, .int .i64 (1 + q)] 35) = wd := ⟨_, rfl⟩
        have hbd : Below wr.heap.size wr wd := hwd ▸ kept_new _ _
        have HWD := Lib.hid hwd
        obtain ⟨b0, b1, b2, b3⟩ : DeedBox wd wr.heap.size none 0 ⟨[], 1 + ((j : Int) + 1) % 3, 10, 1 + q⟩ := hwd ▸ box_deed wr none 0 ⟨[], 1 + ((j : Int) + 1) % 3, 10, 1 + q⟩
        simp only [List.length_nil] at b0 b1 b2 b3
        have d0 := kept_cell hbd d0
        have d1 := kept_cell hbd d1
        have d2 := kept_cell hbd d2
        have d3 := kept_cell hbd d3
        have l6 := (cell_spot d0).2
        have l7 := (cell_spot b0).2
        have HI5 := Lib.hid (insAt_kept hbd hins)
        have HBD := Lib.hid hbd
        clear hat hz hx hck hgood hbd
        go_wp2_with fail
        with_reducible refine (tidOf_any z.d HCK.out z.ia z.ic x HX.out _ HI5.out).mono ?_
        rintro e w6 ⟨rfl, hb6⟩
        have hB0 : wd.heap[wr.heap.size]? = some (.cells #[.slice none 0 0, .int .i64 (1 + ((j : Int) + 1) % 3), .int .i64 10, .int .i64 (1 + q)] 35 (0, 0)) := HWD.out ▸ heap_alloc_new wr _
        have hB6 := (hb6.block wr.heap.size l7).trans hB0
        have b0 := (head_cell hB6 0).trans rfl
        have b1 := (head_cell hB6 1).trans rfl
        have b2 := (head_cell hB6 2).trans rfl
        have b3 := (head_cell hB6 3).trans rfl
        have f0 := frozen_of_row w6 _ 0 _ _ hB6
        have l7 := (cell_spot b0).2
        clear hB0 hB6
        obtain ⟨e1, e2, e3, e4⟩ := chain_world rfl HB.out.size HB.out HBD.out hb6 l7 (.slice (some ⟨w6.heap.size, 0, none⟩) 1 1) #[.int .u64 x.toNat, .int .i64 0]
        have hDX := HD.out.low e1
        have HDX := Lib.hid hDX
        have HRX := Lib.hid (hHl ▸ hDX.row)
        have HQX : Hid (InsB ((w6.setCell ⟨wr.heap.size, 0, none⟩ (.slice (some ⟨w6.heap.size, 0, none⟩) 1 1)).alloc (.cells #[.int .u64 x.toNat, .int .i64 0] 50)) ⟨some ⟨w6.heap.size, 0, none⟩, 1, ⟨[(x, 0)], 1 + ((j : Int) + 1) % 3, 10, 1 + q⟩⟩) := Lib.hid (.inr ⟨_, x, rfl, rfl, rfl, e3⟩)
        have HBX := Lib.hid e2
        have HSX := Lib.hid e4
        have hHn : H.length ≤ 1000000 := by omega
        have hls : ((H.map fun q => q.d).getLast?) = some z.d := by
          rw [List.getLast?_eq_getElem?, List.length_map, hHl, Nat.add_sub_cancel, List.getElem?_map, List.getElem?_eq_getElem hj, HZ.out]
          rfl
        have HMN := Lib.hid (chain_more hkl (q := ⟨some ⟨w6.heap.size, 0, none⟩, 1, ⟨[(x, 0)], 1 + ((j : Int) + 1) % 3, 10, 1 + q⟩⟩) HM.out (by rw [HF.out, HQ.out, hls, hHl]; simp only [HX.out]; rfl))
        clear hDX e1 e2 e3 e4 hb6 hls
        go_wp2_with (at_builtin; refine append_deed (q := ⟨some ⟨w6.heap.size, 0, none⟩, 1, ⟨[(x, 0)], 1 + ((j : Int) + 1) % 3, 10, 1 + q⟩⟩) rfl _ _ rfl rfl (Eq.trans (b := .slice (some ⟨w6.heap.size + 1, 0, none⟩) 1 1) rfl (by simp)) HRX.out hHn HSX.out ?_; intro g7 cap7 w7 ho7 hg7; refine Hid.out ?_)
        refine Lib.hid ?_
        replace hg7 : World.grownBy _ w7 (Value.slice (some ⟨b, o2, none⟩) (j + 1) rc).ownBlock := hg7
        have hDn := (show Deeds _ w.heap.size (.slice (some ⟨b, o2, none⟩) (j + 1) rc) H from hHl ▸ HDX.out).grown hg7 ho7 HQX.out
        rw [hHl] at hDn
        have HDN := Lib.hid hDn
        have HBN := Lib.hid (HBX.out.grown hg7 HSX.out (fun g hg => (HRX.out.lt g hg).1))
        clear hDn ho7 hg7
        go_wp2_with fail
        go_roundw
        case rel => exact ⟨j + 1 + 1, H ++ [⟨some ⟨w6.heap.size, 0, none⟩, 1, ⟨[(x, 0)], 1 + ((j : Int) + 1) % 3, 10, 1 + q⟩⟩], by omega, by go_num, HDN, HMN, HBN⟩
        case measure => simp [intOf]; omega
    · have he : l.take k = l := List.take_of_length_le (by omega)
      have HME := Lib.hid (he ▸ HM.out)
      clear he
      go_wp2_with fail
      go_ret
      exact ⟨_, H, rfl, HD.out, HME.out, HB.out⟩
theorem count_same {b k c : Nat} {l : List UInt64} (h : Ms.CountIs w b k l c) (e : w'.heap[b]? = w.heap[b]?) : Ms.CountIs w' b k l c := by
  obtain ⟨D, ⟨es, clock, hb, r⟩, r2⟩ := h
  exact ⟨D, ⟨es, clock, e.trans hb, r⟩, r2⟩
theorem count_lt {b k c : Nat} {l : List UInt64} (h : Ms.CountIs w b k l c) : b < w.heap.size := by
  obtain ⟨D, hD, _⟩ := h
  exact hD.lt
set_option maxRecDepth 20000 in
set_option maxHeartbeats 2000000 in
theorem apart_any (l : List DeedH) (a : Option Addr) (cap : Nat) (hl : l.length ≤ 12) (hck : ∀ q ∈ l, checkD q.d = 0) (w : World) (hi : DeedsAt w a l) (r : Bool) (hr : decide (((l.map fun q => Ju.idD q.d)).Nodup) = r) :
    Calls Tryz.prog 10 #[.slice a l.length cap] w fun e w' => e = .returned (.bool r) ∧ Below w.heap.size w w' := by
  have hmm := @run_makeMap Tryz.prog
  obtain ⟨ids, hids⟩ : ∃ ids, (l.map fun q => Ju.idD q.d) = ids := ⟨_, rfl⟩
  have HI := Lib.hid hi
  have HIDS := Lib.hid hids
  have HCK := Lib.hid hck
  rw [hids] at hr
  have HR := Lib.hid hr
  have HIL : Hid (ids.length = l.length) := Lib.hid (by rw [← hids, List.length_map])
  clear hi hids hck hr
  go_enter Tryz.func10, Tryz.ntmps10
  go_wp2_with fail
  go_loopw [9] (fun i wr => ∃ k c : Nat, k ≤ l.length ∧ i = .int .i64 k ∧ Hid (Ms.CountIs wr w.heap.size k ids c) ∧ Hid (Below w.heap.size w wr)) (fun i _ => l.length - (intOf i).toNat)
  case atStart => exact ⟨0, 0, Nat.zero_le _, rfl, Lib.hid (Ms.count_new w ids), Lib.hid (kept_new w _)⟩
  case round =>
    obtain ⟨k, c, hk, rfl, HC, HB⟩ := hrel
    by_cases hkl : k < l.length
    · obtain ⟨⟨b, o, rfl, hb, d0, d1, d2, d3⟩, hins, hcap⟩ := deedsAt_kept HB.out HI.out k hkl
      obtain ⟨z, hz⟩ : ∃ z, l[k] = z := ⟨_, rfl⟩
      rw [hz] at d0 d1 d2 d3 hins
      have HZK : Hid (checkD z.d = 0) := Lib.hid (HCK.out z (hz ▸ List.getElem_mem _))
      obtain ⟨x, hx⟩ : ∃ x, Ju.idD z.d = x := ⟨_, rfl⟩
      have hkx : ids[k]'(by rw [HIL.out]; exact hkl) = x := by
        have : ids[k]? = some x := by rw [← HIDS.out, List.getElem?_map, List.getElem?_eq_getElem hkl, hz, ← hx]; rfl
        exact (List.getElem?_eq_some_iff.1 this).2
      have HX := Lib.hid hx
      have HKX := Lib.hid hkx
      have l5 := (cell_spot d0).2
      obtain ⟨wd, hwd⟩ : ∃ wd, wr.alloc (.cells #[.slice z.ia z.d.ins.length z.ic, .int .i64 z.d.outs, .int .i64 z.d.weight, .int .i64 z.d.fee] 35) = wd := ⟨_, rfl⟩
      have hbd : Below wr.heap.size wr wd := hwd ▸ kept_new _ _
      obtain ⟨b0, b1, b2, b3⟩ : DeedBox wd wr.heap.size z.ia z.ic z.d := hwd ▸ box_deed wr z.ia z.ic z.d
      have l6 := (cell_spot b0).2
      have HIN := Lib.hid (insAt_kept hbd hins)
      have HBD := Lib.hid hbd
      clear hz hx hkx hins hcap hbd
      go_wp2_with fail
      with_reducible refine (tidOf_any z.d HZK.out z.ia z.ic x HX.out _ HIN.out).mono ?_
      rintro e w6 ⟨rfl, hb6⟩
      have hb7 := kept_trans HBD.out hb6
      have hc6 := count_same HC.out (hb7.block _ (count_lt HC.out))
      obtain ⟨w7, c7, hput, hc7, hg7⟩ := Ms.count_put hc6 (by rw [HIL.out]; exact hkl) (by unfold maxLen; omega)
      rw [HKX.out] at hput
      have HC7 := Lib.hid hc7
      have HB7 := Lib.hid ((kept_trans HB.out hb7).grown hg7 (by have := (kept_trans HB.out hb7).size; omega) (fun j hj => by cases hj; exact Nat.le_refl _))
      clear hb6 hb7 hc6 hc7 hg7
      go_wp2_with fail
      go_roundw
      case rel => exact ⟨k + 1, c7, by omega, by go_num, HC7, HB7⟩
      case measure => simp [intOf]; omega
    · have hlen := fun ty => Ms.count_len HC.out ty
      have hrr : ((c : Int) == l.length) = r := by
        obtain ⟨D, _, _, _, _, hc1, hc2⟩ := HC.out
        have he : ids.take k = ids := List.take_of_length_le (by rw [HIL.out]; omega)
        rw [he] at hc2
        rw [← HR.out, Bool.eq_iff_iff, decide_eq_true_iff, ← hc2]
        simp
        omega
      have HRR := Lib.hid hrr
      clear hrr
      go_wp2_with fail
      go_ret
      exact ⟨ret_bool HRR.out, HB.out⟩
end Go.Proofs.YtaaaplbjeknbkabGreat
