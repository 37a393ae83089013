/-
  Contracts of package judge: add.
-/
import Derived.Test.YtaaaplbjeknbkaaGreatSJW4
import Derived.BigQuiet
import Derived.Deep.QuietTactic
set_option maxRecDepth 20000
namespace Go.Proofs.YtaaaplbjeknbkaaGreat.So.Ju
open Go.Proofs.YtaaaplbjeknbkaaGreat.Ju
open Go.RowKit Go.Maps

variable {w w' : World} {F : Nat → Prop} {R : Nat} {M : UInt64 → Option DeedD} {os : List UInt64} {sp : List InD} {b s n : Nat} {ev : UInt64 → Option Value} {v : Value}

set_option maxRecDepth 20000 in
set_option maxHeartbeats 1000000 in
theorem add_any (x : UInt64) (d : DeedD) (a : Option Addr) (cap : Nat) (hos : ∀ y, (M y).isSome = true → y ∈ os) (hol : os.length ≤ 5000000000000) (hn : n ≤ 100000000000000) (hd : checkD d = 0) (w : World) (h : LedAt w F R M os sp b s n ev v) (hi : InsAt w a d.ins) (hout : ∀ bb o, d.ins ≠ [] → a = some ⟨bb, o, none⟩ → ¬ F bb) :
    Calls Tryz.prog 108 #[.pointer (some ⟨R, 0, none⟩), .int .u64 x.toNat, .agg #[.slice a d.ins.length cap, .int .i64 d.outs, .int .i64 d.weight, .int .i64 d.fee]] w fun e w' => e = .returned (.tuple #[]) ∧ ∃ F' ev' v', LedAt w' F' R (upd M x (some d)) (os ++ [x]) (sp ++ d.ins) b s (n + d.ins.length) ev' v' ∧ Turn F F' w w' := by
  obtain ⟨l, o, g, f⟩ := d
  simp only at hi hout ⊢
  obtain ⟨w0, hw0⟩ : ∃ x, x = w.alloc (.cells #[.slice a l.length cap, .int .i64 o, .int .i64 g, .int .i64 f] 50) := ⟨_, rfl⟩
  have hk0 : Below w.heap.size w w0 := hw0 ▸ kept_new _ _
  have hbox0 : w0.heap[w.heap.size]? = some (.cells #[.slice a l.length cap, .int .i64 o, .int .i64 g, .int .i64 f] 50 (0, 0)) := hw0 ▸ heap_alloc_new _ _
  have hmc := h.mapc
  have hlt := h.lt
  have hnn := map_not_nil
  have HD := Lib.hid (h.kept hk0.drew)
  have HI := Lib.hid (insAt_kept hk0.drew hi)
  have hl := (check_ok hd).1
  have HC := Lib.hid hd
  have HOS := Lib.hid hos
  have HTD : Hid (Turn F F w w0.drew) := Lib.hid (Turn.of_below hk0.drew)
  have HNB : Hid (∀ k, F k → k < w.heap.size) := Lib.hid h.there
  have HOUT := Lib.hid hout
  have HBOX : Hid (w0.drew.heap[w.heap.size]? = some (.cells #[.slice a l.length cap, .int .i64 o, .int .i64 g, .int .i64 f] 50 (0, 0))) := Lib.hid hbox0
  have HW0 := Lib.hid hw0
  have HBI : Hid (∀ bb oo, l ≠ [] → a = some ⟨bb, oo, none⟩ → bb < w.heap.size) := Lib.hid (fun bb oo hne e => by
    obtain ⟨b', o', e', hb', _⟩ := hi 0 (List.length_pos_iff.2 hne)
    rw [e] at e'
    cases e'
    exact hb')
  simp only at hl
  clear h hi hos hd hout hw0 hbox0 hk0
  go_enter Tryz.func108, Tryz.ntmps108
  go_wp2_with fail
  rw [← HW0.out]
  have hmc0 : w0.cell? ⟨R, 0, none⟩ = some (.map (some b)) := HD.out.mapc
  have hlt0 : R < w0.heap.size := HD.out.lt
  have c0 : w0.cell? ⟨w.heap.size, 0, none⟩ = some (.slice a l.length cap) := head_cell HBOX.out 0
  have c1 : w0.cell? ⟨w.heap.size, 1, none⟩ = some (.int .i64 o) := head_cell HBOX.out 1
  have c2 : w0.cell? ⟨w.heap.size, 2, none⟩ = some (.int .i64 g) := head_cell HBOX.out 2
  have c3 : w0.cell? ⟨w.heap.size, 3, none⟩ = some (.int .i64 f) := head_cell HBOX.out 3
  have hs0 : w.heap.size < w0.heap.size := (cell_spot c0).2
  go_region_law (first
    | (go_simp; go_at_call 135; (with_reducible refine (clone_any ⟨l, o, g, f⟩ a cap _ hl HI.out).mono ?_); rintro e w1 ⟨v1, rfl, a1, kk, rfl, ho1, hb1⟩; obtain ⟨w2, hput, F2, h2, t2⟩ := HD.out.put os HOS.out (by omega) x HC.out hb1 ho1; have j0 := (HD.out.kept hb1).mapc; have j1 := (HD.out.kept hb1).lt; have H2 := Lib.hid h2; have T2 := Lib.hid t2; unfold deedV at hput; clear h2 t2 ho1 hb1))
  all_goals
    have hbx : ∀ k, k < w0.heap.size → ¬ F k → ¬ F2 k := fun k hk hn hf => (T2.out.own k hf).elim hn (fun hle => by have : w0.heap.size ≤ k := hle; omega)
    have hbx2 : w2.heap[w.heap.size]? = some (.cells #[.slice a l.length cap, .int .i64 o, .int .i64 g, .int .i64 f] 50 (0, 0)) := (T2.out.block _ hs0 (fun hf => by have := HNB.out _ hf; omega)).trans HBOX.out
    have HBX2 := Lib.hid hbx2
    have HI2 := Lib.hid (insAt_turn HI.out T2.out HOUT.out)
    have hoc := H2.out.orderc
    have hlt2 := H2.out.lt
    have HNF := Lib.hid hbx
    have HT2 := Lib.hid (HTD.out.trans T2.out)
    have HO2 := Lib.hid H2.out.order
    clear hbx hbx2 hput
    go_wp2_with (at_builtin; refine append_idN rfl _ _ rfl x rfl rfl HO2.out (by omega) (Nat.zero_le _) ?_; intro g3 cap3 w3 ho3 hg3 hat3; refine Hid.out ?_)
    refine Lib.hid ?_
    have ht3 : Turn (fun k => v.ownBlock = some k) (fun k => v.ownBlock = some k) w2 w3 := Turn.of_grown hg3 (fun k hk => hk)
    have hR3 := (ht3.block R hlt2 (fun hg => (H2.out.v_ne hg).1 rfl)).trans H2.out.head
    have k1 : w3.cell? ⟨R, 1, none⟩ = some v := (head_cell hR3 1).trans rfl
    have k2 := frozen_of_row w3 R 1 _ _ hR3
    have k3 := (cell_spot k1).2
    obtain ⟨h4, t4⟩ := H2.out.setOrder (u := .slice (some ⟨g3, 0, none⟩) (os.length + 1) cap3) (fun k hk => hk) ht3 ho3 (fun k hk => by
      have hk : g3 = k := by simpa [Value.ownBlock] using hk
      rw [← hk]
      exact hat3)
    obtain ⟨w4, hw4⟩ : ∃ x, x = w3.setCell ⟨R, 1, none⟩ (.slice (some ⟨g3, 0, none⟩) (os.length + 1) cap3) := ⟨_, rfl⟩
    rw [← hw4] at h4 t4
    obtain ⟨F4, hF4⟩ : ∃ F4, F4 = (fun k => F2 k ∨ (Value.slice (some ⟨g3, 0, none⟩) (os.length + 1) cap3).ownBlock = some k) := ⟨_, rfl⟩
    rw [← hF4] at h4 t4
    have hnb : ¬ F2 w.heap.size := HNF.out _ hs0 (fun hf => by have := HNB.out _ hf; omega)
    have hbx4 : w4.heap[w.heap.size]? = some (.cells #[.slice a l.length cap, .int .i64 o, .int .i64 g, .int .i64 f] 50 (0, 0)) := (t4.block _ (cell_spot (head_cell HBX2.out 0)).2 hnb).trans HBX2.out
    have HI4 := Lib.hid (insAt_turn HI2.out t4 (fun bb oo hne e => HNF.out bb (by have := HBI.out bb oo hne e; omega) (HOUT.out bb oo hne e)))
    have HT4 := Lib.hid (HT2.out.trans t4)
    have HN4 : Hid (∀ bb oo, l ≠ [] → a = some ⟨bb, oo, none⟩ → ¬ F4 bb) := Lib.hid (fun bb oo hne e hf => (t4.own bb hf).elim (HNF.out bb (by have := HBI.out bb oo hne e; omega) (HOUT.out bb oo hne e)) (fun hle => by
      have h1 := HBI.out bb oo hne e
      have h2 := T2.out.size
      have h3 : w0.drew.heap.size = w0.heap.size := rfl
      omega))
    have H4 := Lib.hid h4
    have d0 : w4.cell? ⟨w.heap.size, 0, none⟩ = some (.slice a l.length cap) := head_cell hbx4 0
    have d1 := (cell_spot d0).2
    have HW4 := Lib.hid hw4
    rw [hw4] at d0 d1
    clear h4 t4 hw4 hF4 hbx4 hnb ho3 hg3 hat3 ht3 hR3 HI2 HO2 HBX2 HT2 HI HBOX
    go_wp2_with fail
    rw [← HW4.out] at d0 d1 ⊢
    go_loopw [38] (fun i wr => ∃ k : Nat, k ≤ l.length ∧ i = .int .i64 k ∧ Hid (LedAt wr F4 R (upd M x (some ⟨l, o, g, f⟩)) (os ++ [x]) (sp ++ l.take k) b s (n + k) (upd ev x (some (deedV a1 kk ⟨l, o, g, f⟩))) (.slice (some ⟨g3, 0, none⟩) (os.length + 1) cap3)) ∧ Hid (Turn F4 F4 w4 wr)) (fun i _ => l.length - (intOf i).toNat)
    case atStart => exact ⟨0, Nat.zero_le _, rfl, Lib.hid (by rw [List.take_zero, List.append_nil, Nat.add_zero]; exact H4.out), Lib.hid (Turn.refl _ _)⟩
    case round =>
      obtain ⟨k, hk, rfl, H5, T5⟩ := hrel
      by_cases hkl : k < l.length
      · have hi5 := insAt_turn HI4.out T5.out HN4.out
        obtain ⟨bb, oo, rfl, hbb, p0, p1, hok⟩ := hi5 k hkl
        obtain ⟨⟨ix, ia⟩, hix⟩ : ∃ q, l[k] = q := ⟨_, rfl⟩
        have hts : sp ++ l.take (k + 1) = (sp ++ l.take k) ++ [(ix, ia)] := by rw [List.take_succ_eq_append_getElem hkl, hix, List.append_assoc]
        rw [hix] at p0 p1 hok
        simp only at p0 p1 hok
        obtain ⟨wd, hwd⟩ : ∃ wd, (wr.alloc (.cells #[.int .u64 ix.toNat, .int .i64 ia] 62)).drew = wd := ⟨_, rfl⟩
        have hbd : Below wr.heap.size wr wd := hwd ▸ (kept_new _ _).drew
        have h6 := H5.out.kept hbd
        have q0 : wd.cell? ⟨wr.heap.size, 0, none⟩ = some (.int .u64 ix.toNat) := by rw [← hwd]; show (wr.alloc _).cell? _ = _; simp [go_sem]
        have q1 : wd.cell? ⟨wr.heap.size, 1, none⟩ = some (.int .i64 ia) := by rw [← hwd]; show (wr.alloc _).cell? _ = _; simp [go_sem]
        have q2 := (cell_spot q0).2
        have q3 := h6.spentc
        have q4 := h6.lt
        obtain ⟨w7, hput, h7, t7⟩ := h6.spend (ix, ia) hok (by omega)
        have H7 := Lib.hid h7
        have T7 := Lib.hid ((T5.out.trans (Turn.of_below hbd)).trans t7)
        have HWD := Lib.hid hwd
        have HTS := Lib.hid hts
        clear hi5 hix hts hwd hbd h6 h7 t7 hok
        simp only at hput
        go_wp2_with fail
        refine region_tail 5 (by kernel_rfl) (by kernel_rfl) HWD.out ?_
        simp only [List.take_succ_cons, List.take_zero, List.drop_succ_cons, List.drop_zero]
        repeat still_step
        refine wpStill_nil ?_
        go_wp2_with fail
        go_roundw
        case rel => exact ⟨k + 1, by omega, by go_num, Lib.hid (by rw [HTS.out, ← Nat.add_assoc]; exact H7.out), T7⟩
        case measure => simp [intOf]; omega
      · have he : l.take k = l := List.take_of_length_le (by omega)
        obtain rfl : k = l.length := by omega
        have H5' := H5.out
        rw [he] at H5'
        have HE := Lib.hid H5'
        clear H5' he
        go_wp2_with fail
        go_end0
        exact ⟨rfl, F4, _, _, HE.out, HT4.out.trans T5.out⟩
end Go.Proofs.YtaaaplbjeknbkaaGreat.So.Ju
