/-
  The walk of JudgeOrder.
-/
import Derived.Test.YtihbcgdbennegaaJLaws1
import Derived.Deep.RegionHeld3
import Derived.Deep.RegionWith
namespace Go.Proofs.Ytihbcgdbennegaa
open Go.RowKit Go.Maps

/-- Two ledgers that a law made. -/
structure Two (w0 w : World) (F1 F2 : Nat → Prop) (R1 R2 : Nat) (L1 L2 : List DeedD) : Prop where
  one : HeldJ w0 w F1 R1 L1
  two : HeldJ w0 w F2 R2 L2
  apart : Apart F1 F2
variable {w0 w w' : World} {F1 F2 : Nat → Prop} {R1 R2 : Nat} {L1 L2 : List DeedD}
theorem Two.swap (h : Two w0 w F1 F2 R1 R2 L1 L2) : Two w0 w F2 F1 R2 R1 L2 L1 := ⟨h.two, h.one, h.apart.symm⟩
theorem Two.kept (h : Two w0 w F1 F2 R1 R2 L1 L2) (hb : Below w.heap.size w w') : Two w0 w' F1 F2 R1 R2 L1 L2 := ⟨h.one.kept hb, h.two.kept hb, h.apart⟩
theorem two_accept1 (w0 : World) (w : World) (h : Two w0 w F1 F2 R1 R2 L1 L2) (hl : L1.length ≤ 5000000000000) (d : DeedD) (a : Option Addr) (cap : Nat) (hi : InsAt w0 a d.ins) (r : Int) (L' : List DeedD) (hr : acceptL L1 d = (r, L')) :
    Calls Try.prog 14 #[.pointer (some ⟨R1, 0, none⟩), .agg #[.slice a d.ins.length cap, .int .i64 d.outs, .int .i64 d.weight, .int .i64 d.fee]] w fun e w' => e = .returned (.int .i64 r) ∧ ∃ F', Two w0 w' F' F2 R1 R2 L' L2 :=
  (hj_accept w0 F1 R1 L1 w h.one hl d a cap hi r L' hr).mono fun _ _ ⟨h1, F', h2, h3⟩ => ⟨h1, F', h2, h.two.beside h3 h.apart.symm h.one.above, h3.apart h.apart h.two.led.there⟩
theorem two_accept2 (w0 : World) (w : World) (h : Two w0 w F1 F2 R1 R2 L1 L2) (hl : L2.length ≤ 5000000000000) (d : DeedD) (a : Option Addr) (cap : Nat) (hi : InsAt w0 a d.ins) (r : Int) (L' : List DeedD) (hr : acceptL L2 d = (r, L')) :
    Calls Try.prog 14 #[.pointer (some ⟨R2, 0, none⟩), .agg #[.slice a d.ins.length cap, .int .i64 d.outs, .int .i64 d.weight, .int .i64 d.fee]] w fun e w' => e = .returned (.int .i64 r) ∧ ∃ F', Two w0 w' F1 F' R1 R2 L1 L' :=
  (two_accept1 w0 w h.swap hl d a cap hi r L' hr).mono fun _ _ ⟨h1, F', h2⟩ => ⟨h1, F', h2.swap⟩
theorem two_new (w0 w : World) {F : Nat → Prop} {R : Nat} {L : List DeedD} (h : HeldJ w0 w F R L) : Calls Try.prog 10 #[] w fun e w' => ∃ R' F', e = .returned (.pointer (some ⟨R', 0, none⟩)) ∧ Two w0 w' F F' R R' L [] :=
  (hj_new w0 w h.below).mono fun _ _ ⟨R', F', h1, h2, h3, h4⟩ => ⟨R', F', h1, h.kept h4, h2, fun k hk hk' => by
    have := h.led.there k hk
    have := h3 k hk'
    omega⟩
/-- What is known of a deed that was accepted. -/
theorem acceptL_zero {L L' : List DeedD} {d : DeedD} (h : acceptL L d = (0, L')) : checkD d = 0 ∧ (findL L (idD d)).isSome = false ∧ ¬ stateL L d ≥ 2 ∧ L' = L ++ [d] := by
  unfold acceptL at h
  by_cases h1 : checkD d = 0
  · rw [if_neg (not_not_intro h1)] at h
    by_cases h2 : (findL L (idD d)).isSome = true
    · rw [if_pos h2] at h; simp at h
    · rw [if_neg h2] at h
      by_cases h3 : stateL L d ≥ 2
      · rw [if_pos h3] at h; simp at h
      · rw [if_neg h3] at h
        simp only [Prod.mk.injEq, true_and] at h
        exact ⟨h1, by simpa using h2, h3, h.symm⟩
  · rw [if_pos h1] at h
    simp only [Prod.mk.injEq] at h
    exact absurd h.1 h1
theorem find_grows {L : List DeedD} {b : DeedD} {x : UInt64} (h : (findL L x).isSome = true) : findL (L ++ [b]) x = findL L x := by rw [findL_snoc, if_pos h]
theorem order_math {L L1 L2 L3 L4 : List DeedD} {a b : DeedD} {h : Int} (e1 : acceptL L a = (0, L1)) (e2 : acceptL L1 b = (0, L2)) (e3 : acceptL L b = (0, L3)) (e4 : acceptL L3 a = (h, L4)) : h = 0 ∧ L2.length = L4.length := by
  obtain ⟨a1, a2, a3, rfl⟩ := acceptL_zero e1
  obtain ⟨b1, b2, b3, rfl⟩ := acceptL_zero e2
  obtain ⟨_, c2, c3, rfl⟩ := acceptL_zero e3
  have hne : idD b ≠ idD a := fun e => by
    have := find_snoc_self L a
    rw [← e, b2] at this
    cases this
  have hf : (findL (L ++ [b]) (idD a)).isSome = false := by
    rw [findL_snoc, if_neg (by rw [a2]; simp), if_neg hne]
    rfl
  have hs : ¬ stateL (L ++ [b]) a ≥ 2 := by
    unfold stateL at a3 b3 ⊢
    rw [stateM_may] at a3 b3 ⊢
    intro e he
    obtain ⟨q1, q2, q3⟩ := a3 e he
    rw [find_grows q1]
    refine ⟨q1, q2, ?_⟩
    unfold spentL at q3 ⊢
    rw [insL_snoc]
    rw [← Bool.not_eq_true, List.contains_iff_mem] at q3 ⊢
    intro hm
    rcases List.mem_append.1 hm with hm | hm
    · exact q3 hm
    · have q4 := (b3 e hm).2.2
      unfold spentL at q4
      rw [insL_snoc, ← Bool.not_eq_true, List.contains_iff_mem] at q4
      exact q4 (List.mem_append.2 (.inr he))
  rw [acceptL_new a1 hf hs] at e4
  simp only [Prod.mk.injEq] at e4
  obtain ⟨rfl, rfl⟩ := e4
  exact ⟨rfl, by simp⟩
set_option maxRecDepth 20000 in
set_option maxHeartbeats 4000000 in
theorem judgeOrder_walk (l : List DeedH) (a : Option Addr) (cap : Nat) (d : DeedD) (da : Option Addr) (dc : Nat) (_hdc : d.ins.length ≤ dc) (c : DeedD) (ca : Option Addr) (cc : Nat) (_hcc : c.ins.length ≤ cc) (hm : l.length ≤ 2932031007402) (w : World) (hi : DeedsAt w a l) (hd : InsAt w da d.ins) (hc : InsAt w ca c.ins) :
    Calls Try.prog 8 #[.slice a l.length cap, deedV da dc d, deedV ca cc c] w fun e w' => e = .returned (.bool true) ∧ Below w.heap.size w w' := by
  unfold deedV
  obtain ⟨w0, hw0⟩ : ∃ x, x = (w.alloc (.cells #[.slice da d.ins.length dc, .int .i64 d.outs, .int .i64 d.weight, .int .i64 d.fee] 30)).alloc (.cells #[.slice ca c.ins.length cc, .int .i64 c.outs, .int .i64 c.weight, .int .i64 c.fee] 30) := ⟨_, rfl⟩
  have hk0 : Below w.heap.size w w0 := hw0 ▸ kept_alloc (kept_new _ _) _
  have hbx : w0.heap[w.heap.size]? = some (.cells #[.slice da d.ins.length dc, .int .i64 d.outs, .int .i64 d.weight, .int .i64 d.fee] 30 (0, 0)) := hw0 ▸ heap_alloc2_old _ _ _
  have hby : w0.heap[w.heap.size + 1]? = some (.cells #[.slice ca c.ins.length cc, .int .i64 c.outs, .int .i64 c.weight, .int .i64 c.fee] 30 (0, 0)) := hw0 ▸ heap_alloc2_new _ _ _
  have BX := Lib.hid hbx
  have BY := Lib.hid hby
  have HI := Lib.hid (deedsAt_kept hi hk0)
  have HD := Lib.hid (insAt_kept hk0 hd)
  have HC := Lib.hid (insAt_kept hk0 hc)
  have HK := Lib.hid hk0
  have HW0 := Lib.hid hw0
  clear hi hd hc hk0 hw0 hbx hby
  go_enter Try.func8, Try.ntmps8
  go_wp2_with fail
  rw [← HW0.out]
  with_reducible refine (judged_any w0).mono ?_
  rintro e w1 ⟨rfl, hb1⟩
  have HB1 := Lib.hid hb1
  clear hb1
  go_wp2_with fail
  with_reducible refine (hj_new w0 w1 HB1.out).mono ?_
  rintro e w2 ⟨R, F2, rfl, h2, _, _⟩
  have H2 := Lib.hid h2
  clear h2
  go_wp2_with fail
  with_reducible refine (two_new w0 w2 H2.out).mono ?_
  rintro e w3 ⟨S, G3, rfl, h3⟩
  have H3 := Lib.hid h3
  clear h3 H2
  go_wp2_with fail
  go_loopw [27] (fun i wr => ∃ (k : Nat) (F G : Nat → Prop), k ≤ l.length ∧ i = .int .i64 k ∧ Hid (Two w0 wr F G R S (runJ (l.take k)) (runJ (l.take k)))) (fun i _ => l.length - (intOf i).toNat)
  case atStart => exact ⟨0, F2, G3, Nat.zero_le _, rfl, H3⟩
  case round =>
    clear H3
    obtain ⟨k, F, G, hk, rfl, H⟩ := hrel
    by_cases hkl : k < l.length
    · obtain ⟨g, o, rfl, hg, q0, q1, q2, q3⟩ := deedsJ_at HI.out H.out.one.below k hkl
      have hst := runJ_step hkl
      have hlen := runJ_len l k
      have hin := (HI.out k hkl).2.1
      obtain ⟨⟨xa, xc, xd⟩, hx⟩ : ∃ q, l[k] = q := ⟨_, rfl⟩
      rw [hx] at q0 q1 q2 q3 hst hin
      simp only at q0 q1 q2 q3 hst hin
      obtain ⟨⟨r, L'⟩, hr⟩ : ∃ q, acceptL (runJ (l.take k)) xd = q := ⟨_, rfl⟩
      rw [hr] at hst
      have HST := Lib.hid hst
      have HR := Lib.hid hr
      have HIN := Lib.hid hin
      have hbn := kept_new wr (.cells #[.slice xa xd.ins.length xc, .int .i64 xd.outs, .int .i64 xd.weight, .int .i64 xd.fee] 30)
      have HX := Lib.hid (H.out.kept hbn)
      have HXX : Hid (Two w0 wr F G R S (runJ (l.take k)) (runJ (l.take k))) := H
      have HBN : Hid ((wr.alloc (.cells #[.slice xa xd.ins.length xc, .int .i64 xd.outs, .int .i64 xd.weight, .int .i64 xd.fee] 30)).heap[wr.heap.size]? = some (.cells #[.slice xa xd.ins.length xc, .int .i64 xd.outs, .int .i64 xd.weight, .int .i64 xd.fee] 30 (0, 0))) := Lib.hid (heap_alloc_new _ _)
      clear hx hst hr hin hbn
      go_wp2_with fail
      with_reducible refine (hj_accept w0 F R _ _ HX.out.one (by omega) xd xa xc HIN.out r L' HR.out).mono ?_
      rintro e w4 ⟨rfl, F4, h4, t4⟩
      have hbx4 : w4.heap[wr.heap.size]? = some (.cells #[.slice xa xd.ins.length xc, .int .i64 xd.outs, .int .i64 xd.weight, .int .i64 xd.fee] 30 (0, 0)) := (t4.block _ (by simp) (fun hf => by have := HXX.out.one.led.there _ hf; omega)).trans HBN.out
      have H4 : Hid (Two w0 w4 F4 G R S L' (runJ (l.take k))) := Lib.hid ⟨h4, HX.out.two.beside t4 HX.out.apart.symm HX.out.one.above, t4.apart HX.out.apart HX.out.two.led.there⟩
      have d0 : w4.cell? ⟨wr.heap.size, 0, none⟩ = some (.slice xa xd.ins.length xc) := head_cell hbx4 0
      have d1 : w4.cell? ⟨wr.heap.size, 1, none⟩ = some (.int .i64 xd.outs) := head_cell hbx4 1
      have d2 : w4.cell? ⟨wr.heap.size, 2, none⟩ = some (.int .i64 xd.weight) := head_cell hbx4 2
      have d3 : w4.cell? ⟨wr.heap.size, 3, none⟩ = some (.int .i64 xd.fee) := head_cell hbx4 3
      have d4 := (cell_spot d0).2
      clear h4 t4 hbx4 HXX HX HBN
      go_wp2_with fail
      with_reducible refine (two_accept2 w0 _ H4.out (by omega) xd xa xc HIN.out r L' HR.out).mono ?_
      rintro e w5 ⟨rfl, G5, h5⟩
      have H5 := Lib.hid h5
      clear h5
      go_wp2_with fail
      go_roundw
      case rel => exact ⟨k + 1, F4, G5, by omega, by go_num, Lib.hid (by rw [HST.out]; exact H5.out)⟩
      case measure => simp [intOf]; omega
    · have he : l.take k = l := List.take_of_length_le (by omega)
      have hlen := runJ_len l k
      have H' := H.out
      rw [he] at H' hlen
      obtain ⟨L, hL⟩ : ∃ L, runJ l = L := ⟨_, rfl⟩
      rw [hL] at H' hlen
      have HL := Lib.hid H'
      clear H H' he hL
      have hcell : ∀ wx, Below w0.heap.size w0 wx → wx.cell? ⟨w.heap.size, 0, none⟩ = some (.slice da d.ins.length dc) ∧ wx.cell? ⟨w.heap.size, 1, none⟩ = some (.int .i64 d.outs) ∧ wx.cell? ⟨w.heap.size, 2, none⟩ = some (.int .i64 d.weight) ∧ wx.cell? ⟨w.heap.size, 3, none⟩ = some (.int .i64 d.fee) ∧
          wx.cell? ⟨w.heap.size + 1, 0, none⟩ = some (.slice ca c.ins.length cc) ∧ wx.cell? ⟨w.heap.size + 1, 1, none⟩ = some (.int .i64 c.outs) ∧ wx.cell? ⟨w.heap.size + 1, 2, none⟩ = some (.int .i64 c.weight) ∧ wx.cell? ⟨w.heap.size + 1, 3, none⟩ = some (.int .i64 c.fee) ∧ w.heap.size + 1 < wx.heap.size := fun wx hb =>
        ⟨kept_cell hb (head_cell BX.out 0), kept_cell hb (head_cell BX.out 1), kept_cell hb (head_cell BX.out 2), kept_cell hb (head_cell BX.out 3), kept_cell hb (head_cell BY.out 0), kept_cell hb (head_cell BY.out 1), kept_cell hb (head_cell BY.out 2), kept_cell hb (head_cell BY.out 3), (cell_spot (kept_cell hb (head_cell BY.out 0))).2⟩
      have HCELL := Lib.hid hcell
      obtain ⟨c0, c1, c2, c3, c4, c5, c6, c7, c8⟩ := hcell _ HL.out.one.below
      clear hcell
      obtain ⟨⟨r1, M1⟩, hr1⟩ : ∃ q, acceptL L d = q := ⟨_, rfl⟩
      obtain ⟨⟨r2, M2⟩, hr2⟩ : ∃ q, acceptL M1 c = q := ⟨_, rfl⟩
      obtain ⟨⟨r3, M3⟩, hr3⟩ : ∃ q, acceptL L c = q := ⟨_, rfl⟩
      obtain ⟨⟨r4, M4⟩, hr4⟩ : ∃ q, acceptL M3 d = q := ⟨_, rfl⟩
      have l1 := acceptL_length L d
      have l2 := acceptL_length M1 c
      have l3 := acceptL_length L c
      have l4 := acceptL_length M3 d
      rw [hr1] at l1
      rw [hr2] at l2
      rw [hr3] at l3
      rw [hr4] at l4
      simp only at l1 l2 l3 l4
      have A1 := Lib.hid hr1
      have A2 := Lib.hid hr2
      have A3 := Lib.hid hr3
      have A4 := Lib.hid hr4
      clear hr1 hr2 hr3 hr4
      have HLD := Lib.hid (HL.out.kept ((Below.refl wr.heap.size wr).drew))
      go_wp2_with fail
      go_region_law (first
        | (go_simp; go_at_call 14; (with_reducible refine (two_accept1 w0 _ HLD.out (by omega) d da dc HD.out r1 M1 A1.out).mono ?_); rintro e w4 ⟨rfl, F4, h4⟩; have H4 := Lib.hid h4; obtain ⟨c0, c1, c2, c3, c4, c5, c6, c7, c8⟩ := HCELL.out _ h4.one.below; clear h4)
        | (go_simp; go_at_call 14; (with_reducible refine (two_accept1 w0 _ H4.out (by omega) c ca cc HC.out r2 M2 A2.out).mono ?_); rintro e w5 ⟨rfl, F5, h5⟩; have H5 := Lib.hid h5; obtain ⟨c0, c1, c2, c3, c4, c5, c6, c7, c8⟩ := HCELL.out _ h5.one.below; clear h5))
      all_goals
        have HLE := Lib.hid (H5.out.kept ((Below.refl w5.heap.size w5).drew))
        go_wp2_with fail
        go_region_law (first
          | (go_simp; go_at_call 14; (with_reducible refine (two_accept2 w0 _ HLE.out (by omega) c ca cc HC.out r3 M3 A3.out).mono ?_); rintro e w6 ⟨rfl, F6, h6⟩; have H6 := Lib.hid h6; obtain ⟨c0, c1, c2, c3, c4, c5, c6, c7, c8⟩ := HCELL.out _ h6.one.below; clear h6)
          | (go_simp; go_at_call 14; (with_reducible refine (two_accept2 w0 _ H6.out (by omega) d da dc HD.out r4 M4 A4.out).mono ?_); rintro e w7 ⟨rfl, F7, h7⟩; have H7 := Lib.hid h7; obtain ⟨c0, c1, c2, c3, c4, c5, c6, c7, c8⟩ := HCELL.out _ h7.one.below; clear h7))
      all_goals
        have HB := Lib.hid (kept_trans HK.out H7.out.one.below)
        by_cases z1 : r1 = 0
        · by_cases z2 : r2 = 0
          · by_cases z3 : r3 = 0
            · subst z1 z2 z3
              obtain ⟨rfl, hll⟩ := order_math A1.out A2.out A3.out A4.out
              have hle : (((M2.map idD).length : Int) == ((M4.map idD).length : Int)) = true := by rw [List.length_map, List.length_map, hll]; simp
              go_wp2_with fail
              refine (hj_all w0 _ R M2 _ H7.out.one (by omega)).mono ?_
              rintro e w8 ⟨a8, k8, rfl, _, hb8⟩
              have H8 := Lib.hid (H7.out.kept hb8)
              have HB8 := Lib.hid (kept_trans HB.out hb8)
              clear hb8
              go_wp2_with fail
              refine (hj_all w0 _ S M4 _ H8.out.two (by omega)).mono ?_
              rintro e w9 ⟨a9, k9, rfl, _, hb9⟩
              go_wp2_with fail
              go_ret
              exact ⟨rfl, kept_trans HB8.out hb9⟩
            · have b3 : (r3 == 0) = false := beq_eq_false_iff_ne.2 z3
              subst z1 z2
              clear z3
              go_wp2_with fail
              go_ret
              exact ⟨rfl, HB.out⟩
          · have b2 : (r2 == 0) = false := beq_eq_false_iff_ne.2 z2
            subst z1
            clear z2
            go_wp2_with fail
            go_ret
            exact ⟨rfl, HB.out⟩
        · have b1 : (r1 == 0) = false := beq_eq_false_iff_ne.2 z1
          clear z1
          go_wp2_with fail
          go_ret
          exact ⟨rfl, HB.out⟩
end Go.Proofs.Ytihbcgdbennegaa
