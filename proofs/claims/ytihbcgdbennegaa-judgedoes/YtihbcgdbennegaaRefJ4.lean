/-
  The reference's ledger behind a pointer; Accept.
-/
import Derived.Test.YtihbcgdbennegaaRefJ3
import Derived.Deep.RegionHeld3
namespace Go.Proofs.Ytihbcgdbennegaa
open Go.RowKit Go.Maps

/-- Block B is the reference's ledger; nothing of it lies in a block of F. -/
def RefJ (w : World) (F : Nat → Prop) (B : Nat) (L : List DeedD) : Prop :=
  ∃ a cap l, w.heap[B]? = some (.cells #[.slice a l.length cap] 27 (0, 0)) ∧ dOf l = L ∧ RowJ w a l ∧ ¬ F B ∧ (∀ bb o, l ≠ [] → a = some ⟨bb, o, none⟩ → ¬ F bb ∧ bb ≠ B) ∧ ∀ q ∈ l, ∀ bb o, q.d.ins ≠ [] → q.ia = some ⟨bb, o, none⟩ → ¬ F bb ∧ bb ≠ B
variable {w w' : World} {F F' : Nat → Prop} {B : Nat} {L : List DeedD}
theorem rowJ_same {a : Option Addr} {l : List DeedH} (h : RowJ w a l) (e1 : ∀ bb o, l ≠ [] → a = some ⟨bb, o, none⟩ → w'.heap[bb]? = w.heap[bb]?) (e2 : ∀ q ∈ l, ∀ bb o, q.d.ins ≠ [] → q.ia = some ⟨bb, o, none⟩ → w'.heap[bb]? = w.heap[bb]?) (hs : w.heap.size ≤ w'.heap.size) : RowJ w' a l :=
  ⟨fun i hi => by
    obtain ⟨b, o, e, hlt, c0, c1, c2, c3⟩ := h.row i hi
    have hb := e1 b o (fun e => by rw [e] at hi; simp at hi) e
    exact ⟨b, o, e, Nat.lt_of_lt_of_le hlt hs, (World.cell?_of_block (a := ⟨b, o + i * 4, none⟩) hb).trans c0, (World.cell?_of_block (a := ⟨b, o + i * 4 + 1, none⟩) hb).trans c1, (World.cell?_of_block (a := ⟨b, o + i * 4 + 2, none⟩) hb).trans c2, (World.cell?_of_block (a := ⟨b, o + i * 4 + 3, none⟩) hb).trans c3⟩,
   fun q hq => insAt_same (h.ins q hq) (e2 q hq) hs, h.fine⟩
theorem RefJ.lt (h : RefJ w F B L) : B < w.heap.size := by
  obtain ⟨a, cap, l, hh, _⟩ := h
  exact (Array.getElem?_eq_some_iff.1 hh).1
theorem row_lt {a : Option Addr} {l : List DeedH} (h : RowJ w a l) : ∀ bb o, l ≠ [] → a = some ⟨bb, o, none⟩ → bb < w.heap.size := fun bb o hne e => by
  obtain ⟨b, o', e', hlt, _⟩ := h.row 0 (List.length_pos_iff.2 hne)
  rw [e] at e'
  cases e'
  exact hlt
theorem ins_lt {a : Option Addr} {l : List InD} (h : InsAt w a l) : ∀ bb o, l ≠ [] → a = some ⟨bb, o, none⟩ → bb < w.heap.size := fun bb o hne e => by
  obtain ⟨b, o', e', hlt, _⟩ := h 0 (List.length_pos_iff.2 hne)
  rw [e] at e'
  cases e'
  exact hlt
/-- The program's ledger turned. -/
theorem RefJ.turn (h : RefJ w F B L) (ht : Turn F F' w w') : RefJ w' F' B L := by
  have hB := h.lt
  obtain ⟨a, cap, l, hh, hd, hr, hn, h1, h2⟩ := h
  have hout : ∀ k, k < w.heap.size → ¬ F k → ¬ F' k := fun k hk hf hf' => (ht.own k hf').elim hf (fun hle => by omega)
  exact ⟨a, cap, l, (ht.block B hB hn).trans hh, hd, rowJ_same hr (fun bb o hne e => ht.block bb (row_lt hr bb o hne e) (h1 bb o hne e).1) (fun q hq bb o hne e => ht.block bb (ins_lt (hr.ins q hq) bb o hne e) (h2 q hq bb o hne e).1) ht.size, hout B hB hn,
    fun bb o hne e => ⟨hout bb (row_lt hr bb o hne e) (h1 bb o hne e).1, (h1 bb o hne e).2⟩, fun q hq bb o hne e => ⟨hout bb (ins_lt (hr.ins q hq) bb o hne e) (h2 q hq bb o hne e).1, (h2 q hq bb o hne e).2⟩⟩
theorem RefJ.kept (h : RefJ w F B L) (hb : Below w.heap.size w w') : RefJ w' F B L := h.turn (Turn.of_below hb)
/-- A new value is stored. -/
theorem refJ_stored {a : Option Addr} {cap : Nat} {l : List DeedH} (hlt : B < w.heap.size) (hh : w'.heap[B]? = some (.cells #[.slice a l.length cap] 27 (0, 0))) (hr : RowJ w a l) (hn : ¬ F B) (h2 : ∀ q ∈ l, ∀ bb o, q.d.ins ≠ [] → q.ia = some ⟨bb, o, none⟩ → ¬ F bb ∧ bb ≠ B)
    {w3 : World} {q : DeedH} {a3 : Option Addr} {cap3 : Nat} (hb : Below w.heap.size w w') (hq : InsAt w' q.ia q.d.ins) (hqd : checkD q.d = 0) (hqo : ∀ bb o, q.d.ins ≠ [] → q.ia = some ⟨bb, o, none⟩ → ¬ F bb ∧ bb ≠ B) (hF : There w F) (hb3 : Below w'.heap.size w' w3) (ho : OwnD w3 w'.heap.size (.slice a3 (l.length + 1) cap3) (l ++ [q])) :
    RefJ (w3.setCell ⟨B, 0, none⟩ (.slice a3 (l.length + 1) cap3)) F B (dOf l ++ [q.d]) ∧ Turn (fun k => k = B) (fun k => k = B) w (w3.setCell ⟨B, 0, none⟩ (.slice a3 (l.length + 1) cap3)) := by
  have hbb := kept_trans hb hb3
  have hset : ∀ k, k ≠ B → (w3.setCell ⟨B, 0, none⟩ (.slice a3 (l.length + 1) cap3)).heap[k]? = w3.heap[k]? := fun k hk => Below.heap_setCell w3 ⟨B, 0, none⟩ _ k hk
  have hBw' : B < w'.heap.size := Nat.lt_of_lt_of_le hlt hb.size
  have ht : Turn (fun k => k = B) (fun k => k = B) w (w3.setCell ⟨B, 0, none⟩ (.slice a3 (l.length + 1) cap3)) := (Turn.of_below hbb).trans (Turn.set w3 ⟨B, 0, none⟩ _ rfl)
  refine ⟨?_, ht⟩
  obtain ⟨a4, c4, e4, _, hrow, hup⟩ := ownD_form ho
  simp only [List.length_append, List.length_cons, List.length_nil, Value.slice.injEq] at e4
  obtain ⟨rfl, _, rfl⟩ := e4
  have hq3 : ∀ y ∈ l ++ [q], InsAt w3 y.ia y.d.ins ∧ (∀ bb o, y.d.ins ≠ [] → y.ia = some ⟨bb, o, none⟩ → ¬ F bb ∧ bb ≠ B) ∧ checkD y.d = 0 := fun y hy => by
    rcases List.mem_append.1 hy with hy | hy
    · exact ⟨insAt_kept hbb (hr.ins y hy), h2 y hy, hr.fine y hy⟩
    · rw [List.mem_singleton.1 hy]
      exact ⟨insAt_kept hb3 hq, hqo, hqd⟩
  have hR : RowJ w3 a3 (l ++ [q]) := ⟨hrow, fun y hy => (hq3 y hy).1, fun y hy => (hq3 y hy).2.2⟩
  have ha : ∀ bb o, (l ++ [q]) ≠ [] → a3 = some ⟨bb, o, none⟩ → ¬ F bb ∧ bb ≠ B := fun bb o _ e => by
    have := hup bb o none e
    have := hb.size
    exact ⟨fun hf => by have := hF bb hf; omega, by omega⟩
  refine ⟨a3, cap3, l ++ [q], ?_, by simp [dOf], rowJ_same hR (fun bb o hne e => hset bb (ha bb o hne e).2) (fun y hy bb o hne e => hset bb ((hq3 y hy).2.1 bb o hne e).2) (by rw [World.size_setCell]; exact Nat.le_refl _), hn, ha, fun y hy => (hq3 y hy).2.1⟩
  have := heap_setCell_same w3 B 0 _ _ (.slice a3 (l.length + 1) cap3) ((hb3.block B hBw').trans hh)
  simpa using this
set_option maxRecDepth 20000 in
set_option maxHeartbeats 2000000 in
theorem refAccept_any (d : DeedD) (da : Option Addr) (dc : Nat) (w : World) (h : RefJ w F B L) (hF : There w F) (hl : L.length ≤ 2932031007401) (hdc : d.ins.length ≤ dc) (hi : InsAt w da d.ins) (r : Int) (L' : List DeedD) (hr : acceptL L d = (r, L')) :
    Calls Try.prog 15 #[.pointer (some ⟨B, 0, none⟩), .agg #[.slice da d.ins.length dc, .int .i64 d.outs, .int .i64 d.weight, .int .i64 d.fee]] w fun e w' => e = .returned (.int .i64 r) ∧ RefJ w' F B L' ∧ Turn (fun k => k = B) (fun k => k = B) w w' := by
  have hBlt := h.lt
  have HJ := Lib.hid h
  obtain ⟨a, cap, l, hh, rfl, hrow, hn, h1, h2⟩ := h
  rw [dOf_len] at hl
  have hk0 := kept_new w (.cells #[.slice da d.ins.length dc, .int .i64 d.outs, .int .i64 d.weight, .int .i64 d.fee] 30)
  have HH := Lib.hid hh
  have HROW := Lib.hid hrow
  have HN := Lib.hid hn
  have HQ2 := Lib.hid h2
  have HFT := Lib.hid hF
  have HI := Lib.hid (insAt_kept hk0 hi)
  have HK := Lib.hid hk0
  have HBB : Hid (∀ wx, Below w.heap.size w wx → wx.cell? ⟨B, 0, none⟩ = some (.slice a l.length cap)) := Lib.hid (fun wx hb => kept_cell hb (head_cell hh 0))
  have hacc := hr
  unfold acceptL at hr
  clear h1 h2 hF hi hk0 hrow hn hh
  by_cases hc : checkD d = 0
  · rw [if_neg (not_not_intro hc)] at hr
    have HC := Lib.hid hc
    obtain ⟨ix, hix⟩ : ∃ ix, idD d = ix := ⟨_, rfl⟩
    rw [hix] at hr
    have HIX := Lib.hid hix
    clear hc hix
    cases hf : (findL (dOf l) ix).isSome with
    | true =>
      rw [if_pos hf] at hr
      simp only [Prod.mk.injEq] at hr
      obtain ⟨rfl, rfl⟩ := hr
      have HF := Lib.hid hf
      clear hf hacc
      go_enter Try.func15, Try.ntmps15
      go_wp2_with fail
      with_reducible refine (refCheck_is d _ _ _ 0 hdc HI.out HC.out).mono ?_
      rintro e w1 ⟨rfl, hb1⟩
      obtain ⟨c0, c1, c2, c3, hs1⟩ := box_four hb1
      have HB1 := Lib.hid (kept_trans HK.out hb1)
      have HI1 := Lib.hid (insAt_kept hb1 HI.out)
      have b0 := HBB.out _ HB1.out
      have b1 := (cell_spot b0).2
      clear hb1
      go_wp2_with fail
      go_region_held3 (fun w' => w'.cell? ⟨B, 0, none⟩ = some (.slice a l.length cap) ∧ w'.cell? ⟨w.heap.size, 0, none⟩ = some (.slice da d.ins.length dc) ∧ w'.cell? ⟨w.heap.size, 1, none⟩ = some (.int .i64 d.outs) ∧ w'.cell? ⟨w.heap.size, 2, none⟩ = some (.int .i64 d.weight) ∧ w'.cell? ⟨w.heap.size, 3, none⟩ = some (.int .i64 d.fee) ∧ Below w1.heap.size w1 w')
        (first | exact ⟨b0, c0, c1, c2, c3, (Below.refl _ _).drew⟩ | (go_split_ands; exact ⟨kept_cell hb2 (by assumption), kept_cell hb2 (by assumption), kept_cell hb2 (by assumption), kept_cell hb2 (by assumption), kept_cell hb2 (by assumption), kept_trans (by assumption) hb2⟩))
        (first | (go_split_ands; go_at_call 37; ((with_reducible refine (idOf_any d da dc _ (insAt_kept (by assumption) HI1.out) HC.out ix HIX.out).mono ?_); rintro e w2 ⟨rfl, hb2⟩)) | (go_split_ands; go_at_call 22; ((with_reducible refine (refHasJ_any ix cap _ (HROW.out.kept (kept_trans HB1.out (by assumption))) (by omega) true HF.out).mono ?_); rintro e w2 ⟨rfl, hb2⟩)))
      go_wp2_with fail
      go_split_ands
      have hbe : Below w1.heap.size w1 w2 := by assumption
      go_ret
      exact ⟨rfl, HJ.out.kept (kept_trans HB1.out hbe), Turn.of_below (kept_trans HB1.out hbe)⟩
    | false =>
      rw [if_neg (by rw [hf]; simp)] at hr
      have HF := Lib.hid hf
      obtain ⟨st, hst⟩ : ∃ st, stateL (dOf l) d = st := ⟨_, rfl⟩
      obtain ⟨mm, hmm⟩ : ∃ mm, missL (findL (dOf l)) d.ins = mm := ⟨_, rfl⟩
      rw [hst] at hr
      have HST := Lib.hid hst
      have HMM := Lib.hid hmm
      clear hf hacc hst hmm
      go_enter Try.func15, Try.ntmps15
      go_wp2_with fail
      with_reducible refine (refCheck_is d _ _ _ 0 hdc HI.out HC.out).mono ?_
      rintro e w1 ⟨rfl, hb1⟩
      obtain ⟨c0, c1, c2, c3, hs1⟩ := box_four hb1
      have HB1 := Lib.hid (kept_trans HK.out hb1)
      have HI1 := Lib.hid (insAt_kept hb1 HI.out)
      have b0 := HBB.out _ HB1.out
      have b1 := (cell_spot b0).2
      have HBX1 : Hid (w1.heap[w.heap.size]? = some (.cells #[.slice da d.ins.length dc, .int .i64 d.outs, .int .i64 d.weight, .int .i64 d.fee] 30 (0, 0))) := Lib.hid ((hb1.block _ (by simp)).trans (heap_alloc_new _ _))
      clear hb1
      go_wp2_with fail
      go_region_held3 (fun w' => w'.cell? ⟨B, 0, none⟩ = some (.slice a l.length cap) ∧ w'.cell? ⟨w.heap.size, 0, none⟩ = some (.slice da d.ins.length dc) ∧ w'.cell? ⟨w.heap.size, 1, none⟩ = some (.int .i64 d.outs) ∧ w'.cell? ⟨w.heap.size, 2, none⟩ = some (.int .i64 d.weight) ∧ w'.cell? ⟨w.heap.size, 3, none⟩ = some (.int .i64 d.fee) ∧ Below w1.heap.size w1 w')
        (first | exact ⟨b0, c0, c1, c2, c3, (Below.refl _ _).drew⟩ | (go_split_ands; exact ⟨kept_cell hb2 (by assumption), kept_cell hb2 (by assumption), kept_cell hb2 (by assumption), kept_cell hb2 (by assumption), kept_cell hb2 (by assumption), kept_trans (by assumption) hb2⟩))
        (first | (go_split_ands; go_at_call 37; ((with_reducible refine (idOf_any d da dc _ (insAt_kept (by assumption) HI1.out) HC.out ix HIX.out).mono ?_); rintro e w2 ⟨rfl, hb2⟩)) | (go_split_ands; go_at_call 22; ((with_reducible refine (refHasJ_any ix cap _ (HROW.out.kept (kept_trans HB1.out (by assumption))) (by omega) false HF.out).mono ?_); rintro e w2 ⟨rfl, hb2⟩)))
      have hbe : Below w1.heap.size w1 w2 := by go_split_ands; assumption
      obtain ⟨w3, hw3⟩ : ∃ x, x = w2 := ⟨_, rfl⟩
      subst hw3
      have HB3 := Lib.hid (kept_trans HB1.out hbe)
      have q0 : w3.cell? ⟨B, 0, none⟩ = some (.slice a l.length cap) := by go_split_ands; assumption
      have q1 : w3.cell? ⟨w.heap.size, 0, none⟩ = some (.slice da d.ins.length dc) := by go_split_ands; assumption
      have q2 : w3.cell? ⟨w.heap.size, 1, none⟩ = some (.int .i64 d.outs) := by go_split_ands; assumption
      have q3 : w3.cell? ⟨w.heap.size, 2, none⟩ = some (.int .i64 d.weight) := by go_split_ands; assumption
      have q4 : w3.cell? ⟨w.heap.size, 3, none⟩ = some (.int .i64 d.fee) := by go_split_ands; assumption
      have q5 : B < w3.heap.size := (cell_spot q0).2
      have q6 : w.heap.size < w3.heap.size := (cell_spot q1).2
      have HI3 := Lib.hid (insAt_kept hbe HI1.out)
      have HBX3 : Hid (w3.heap[w.heap.size]? = some (.cells #[.slice da d.ins.length dc, .int .i64 d.outs, .int .i64 d.weight, .int .i64 d.fee] 30 (0, 0))) := Lib.hid ((hbe.block _ hs1).trans HBX1.out)
      clear hbe
      go_wp2_with fail
      go_region_held3 (fun w' => w'.cell? ⟨B, 0, none⟩ = some (.slice a l.length cap) ∧ w'.cell? ⟨w.heap.size, 0, none⟩ = some (.slice da d.ins.length dc) ∧ w'.cell? ⟨w.heap.size, 1, none⟩ = some (.int .i64 d.outs) ∧ w'.cell? ⟨w.heap.size, 2, none⟩ = some (.int .i64 d.weight) ∧ w'.cell? ⟨w.heap.size, 3, none⟩ = some (.int .i64 d.fee) ∧ Below w3.heap.size w3 w')
        (first | exact ⟨q0, q1, q2, q3, q4, (Below.refl _ _).drew⟩ | (go_split_ands; exact ⟨kept_cell hb2 (by assumption), kept_cell hb2 (by assumption), kept_cell hb2 (by assumption), kept_cell hb2 (by assumption), kept_cell hb2 (by assumption), kept_trans (by assumption) hb2⟩))
        (first | (go_split_ands; go_at_call 35; ((with_reducible refine (refjudge_any cap d da dc _ (HROW.out.kept (kept_trans HB3.out (by assumption))) (by omega) HC.out (insAt_kept (by assumption) HI3.out) st mm HST.out HMM.out).mono ?_); rintro e w2 ⟨a9, k9, rfl, _, hb2⟩)))
      go_split_ands
      have hbf : Below w3.heap.size w3 w2 := by assumption
      have HB4 := Lib.hid (kept_trans HB3.out hbf)
      have HI4 := Lib.hid (insAt_kept hbf HI3.out)
      have p0 : w2.cell? ⟨B, 0, none⟩ = some (.slice a l.length cap) := by assumption
      have p1 : w2.cell? ⟨w.heap.size, 0, none⟩ = some (.slice da d.ins.length dc) := by assumption
      have p5 : B < w2.heap.size := (cell_spot p0).2
      have p6 : w.heap.size < w2.heap.size := (cell_spot p1).2
      have HBX : Hid (w2.heap[w.heap.size]? = some (.cells #[.slice da d.ins.length dc, .int .i64 d.outs, .int .i64 d.weight, .int .i64 d.fee] 30 (0, 0))) := Lib.hid ((hbf.block _ q6).trans HBX3.out)
      clear hbf
      by_cases hge : st ≥ 2
      · rw [if_pos hge] at hr
        simp only [Prod.mk.injEq] at hr
        obtain ⟨rfl, rfl⟩ := hr
        have hgt : st > 1 := by omega
        clear hge
        go_wp2_with fail
        go_ret
        exact ⟨rfl, HJ.out.kept HB4.out, Turn.of_below HB4.out⟩
      · rw [if_neg hge] at hr
        simp only [Prod.mk.injEq] at hr
        obtain ⟨rfl, rfl⟩ := hr
        have hgt : ¬ st > 1 := by omega
        have hl8 := (check_ok HC.out).1
        clear hge
        go_wp2_with fail
        with_reducible refine (copyIns_any d.ins da dc w2 (by omega) HI4.out).mono ?_
        rintro e w5 ⟨a5, k5, rfl, ho5, hb5⟩
        have hbx5 := (hb5.block _ p6).trans HBX.out
        have s0 : w5.cell? ⟨w.heap.size, 0, none⟩ = some (.slice da d.ins.length dc) := head_cell hbx5 0
        have f0 := frozen_of_row w5 _ 0 _ _ hbx5
        have s1 : w.heap.size < w5.heap.size := (cell_spot s0).2
        obtain ⟨w6, hw6⟩ : ∃ x, x = w5.setCell ⟨w.heap.size, 0, none⟩ (.slice a5 d.ins.length k5) := ⟨_, rfl⟩
        have ht6 : Turn (fun k => k = w.heap.size) (fun k => k = w.heap.size) w5 w6 := hw6 ▸ Turn.set w5 ⟨w.heap.size, 0, none⟩ (.slice a5 d.ins.length k5) rfl
        have hB5 := kept_trans HB4.out hb5
        have hB6 : Below w.heap.size w w6 := hB5.trans (ht6.below (fun k hk => by omega) hB5.size)
        have hbx6 : w6.heap[w.heap.size]? = some (.cells #[.slice a5 d.ins.length k5, .int .i64 d.outs, .int .i64 d.weight, .int .i64 d.fee] 30 (0, 0)) := by
          rw [hw6]
          have := heap_setCell_same w5 w.heap.size 0 _ _ (.slice a5 d.ins.length k5) hbx5
          simpa using this
        have ho6 := own_turn ho5 ht6 (fun k hk e => by have := (ho5.lt k hk).1; omega)
        have hin6 : InsAt w6 a5 d.ins := (ownIns_slice (show OwnIns w6 (.slice a5 d.ins.length k5) d.ins from own_mono ho6 (Nat.zero_le _)) (ins_ok HC.out)).2.2
        have HQO : Hid (∀ bb o, d.ins ≠ [] → a5 = some ⟨bb, o, none⟩ → ¬ F bb ∧ bb ≠ B) := Lib.hid (fun bb o _ e => by
          have h5 := (ho5.lt bb (by rw [e]; rfl)).1
          exact ⟨fun hf => by have := HFT.out bb hf; omega, by omega⟩)
        have HIN6 := Lib.hid hin6
        have HB6 := Lib.hid hB6
        have t0 : w6.cell? ⟨w.heap.size, 0, none⟩ = some (.slice a5 d.ins.length k5) := head_cell hbx6 0
        have t1 : w6.cell? ⟨w.heap.size, 1, none⟩ = some (.int .i64 d.outs) := head_cell hbx6 1
        have t2 : w6.cell? ⟨w.heap.size, 2, none⟩ = some (.int .i64 d.weight) := head_cell hbx6 2
        have t3 : w6.cell? ⟨w.heap.size, 3, none⟩ = some (.int .i64 d.fee) := head_cell hbx6 3
        have t4 : w.heap.size < w6.heap.size := (cell_spot t0).2
        have t5 := HBB.out _ hB6
        have t6 : B < w6.heap.size := (cell_spot t5).2
        have HHB : Hid (w6.drew.heap[B]? = some (.cells #[.slice a l.length cap] 27 (0, 0))) := Lib.hid ((hB6.block B hBlt).trans HH.out)
        have HW6 := Lib.hid hw6
        have HROW6 : Hid (RowOf w6.drew a l) := Lib.hid (rowOf_kept HROW.out.row hB6.drew)
        clear hbx5 ht6 hB5 hB6 hbx6 ho6 hin6 ho5 hb5 hw6
        go_wp2_with fail
        rw [← HW6.out]
        go_region_law (first
          | (go_simp; go_at_call 39; (with_reducible refine (with_any cap d a5 k5 w6.drew HROW6.out hl).mono ?_); rintro e w7 ⟨a7, c7, rfl, ho7, hb7⟩; have hB7 := (hb7.block B t6).trans HHB.out; have u0 : w7.cell? ⟨B, 0, none⟩ = some (.slice a l.length cap) := head_cell hB7 0; have u1 := frozen_of_row w7 _ 0 _ _ hB7; have u2 : B < w7.heap.size := (cell_spot u0).2; have HO7 := Lib.hid ho7; have HB7 := Lib.hid hb7; clear ho7 hb7 hB7))
        all_goals
          go_wp2_with fail
          go_ret
          exact ⟨rfl, refJ_stored (q := ⟨a5, k5, d⟩) hBlt HHB.out HROW.out HN.out HQ2.out (HB6.out.drew) (show InsAt w6.drew a5 d.ins from HIN6.out) HC.out HQO.out HFT.out HB7.out HO7.out⟩
  · rw [if_pos hc] at hr
    simp only [Prod.mk.injEq] at hr
    obtain ⟨hr, rfl⟩ := hr
    rw [hr] at hc
    have HR := Lib.hid hr
    have hrb : (r != 0) = true := by simpa using hc
    clear hr hc hacc
    go_enter Try.func15, Try.ntmps15
    go_wp2_with fail
    with_reducible refine (refCheck_is d _ _ _ r hdc HI.out HR.out).mono ?_
    rintro e w1 ⟨rfl, hb1⟩
    go_wp2_with fail
    go_ret
    exact ⟨rfl, HJ.out.kept (kept_trans HK.out hb1), Turn.of_below (kept_trans HK.out hb1)⟩
end Go.Proofs.Ytihbcgdbennegaa
