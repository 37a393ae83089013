/-
  The walk of JudgeDoes.
-/
import Derived.Test.YtihbcgdbennegaaRefJ4
namespace Go.Proofs.Ytihbcgdbennegaa
open Go.RowKit Go.Maps

/-- A ledger and the reference's, side by side. -/
structure PairJ (w0 w : World) (F : Nat → Prop) (R B : Nat) (L : List DeedD) : Prop where
  one : HeldJ w0 w F R L
  ref : RefJ w F B L
  up : w0.heap.size ≤ B
variable {w0 w w' : World} {F F' : Nat → Prop} {R B : Nat} {L : List DeedD}
theorem PairJ.kept (h : PairJ w0 w F R B L) (hb : Below w.heap.size w w') : PairJ w0 w' F R B L := ⟨h.one.kept hb, h.ref.kept hb, h.up⟩
theorem runJ_lenk (l : List DeedH) (k : Nat) : (runJ (l.take k)).length ≤ k := by
  have := (acceptAll_facts ((l.take k).map fun q => q.d)).2
  rw [List.length_map, List.length_take] at this
  unfold runJ
  omega
/-- A new block is no block of F, and not B. -/
theorem PairJ.fresh (h : PairJ w0 w F R B L) {k : Nat} (hk : w.heap.size ≤ k) : ¬ F k ∧ k ≠ B := ⟨fun hf => by have := h.one.led.there k hf; omega, fun e => by have := h.ref.lt; omega⟩
/-- A stronger condition on all worlds of a region serves. -/
theorem wpAnyH_mono {P : Program} {md : Region.Mode} {ops : Array Oper} {Q : Exit → Act → World → Prop} {S S' : World → Prop} (hS : ∀ w, S' w → S w) : ∀ (fuel : Nat) (listed : Array Bool) (a : Act) (w : World), wpAnyH P md ops Q S' fuel listed a w → wpAnyH P md ops Q S fuel listed a w
  | 0, _, _, _, h => h
  | fuel + 1, _, _, _, h => ⟨h.1, fun i hi => wpOp_mono (fun _ _ h' => ⟨hS _ h'.1, wpAnyH_mono hS fuel _ _ _ h'.2⟩) (h.2 i hi)⟩
theorem RefJ.notF (h : RefJ w F B L) : ¬ F B := by
  obtain ⟨_, _, _, _, _, _, hn, _⟩ := h
  exact hn
theorem judge_len {d : DeedD} {k : Int} {m : List UInt64} {r : Int} (h : judgeL L d = (k, m, r)) : m.length ≤ 8 := by
  unfold judgeL at h
  split at h
  · simp only [Prod.mk.injEq] at h
    rw [← h.2.1]
    simp
  · rename_i hc
    simp only [Prod.mk.injEq] at h
    rw [← h.2.1]
    have := missL_length (findL L) d.ins
    have := (check_ok (Classical.not_not.1 hc)).1
    omega
theorem ids_of {C : Nat} {a : Option Addr} {n c : Nat} {ids : List UInt64} (h : w.ownsRow C 36 1 (.slice a n c) ids.length (ids.map idV)) : IdsAt w a ids := by
  obtain ⟨a', c', e, _, hi, _⟩ := owns_idsAt h
  simp only [Value.slice.injEq] at e
  rw [e.1]
  exact hi
theorem acceptL_one {d : DeedD} (h : checkD d = 1) : acceptL L d = (1, L) := by
  unfold acceptL
  rw [if_pos (by rw [h]; decide), h]
set_option maxRecDepth 20000 in
set_option maxHeartbeats 4000000 in
theorem judgeDoes_walk (l : List DeedH) (a : Option Addr) (cap : Nat) (hm : l.length ≤ 2932031007402) (w : World) (hi : DeedsAt w a l) :
    Calls Try.prog 3 #[.slice a l.length cap] w fun e w' => e = .returned (.bool true) ∧ Below w.heap.size w w' := by
  have HI := Lib.hid hi
  clear hi
  go_enter Try.func3, Try.ntmps3
  go_wp2_with fail
  with_reducible refine (hj_new w w (Below.refl _ _)).mono ?_
  rintro e w1 ⟨R, F1, rfl, h1, hup1, hb1⟩
  have hP : PairJ w (w1.alloc (.cells #[.slice none 0 0] 27)) F1 R w1.heap.size [] := ⟨h1.kept (kept_new _ _), ⟨none, 0, [], heap_alloc_new _ _, rfl, ⟨fun i hi => absurd hi (by simp), fun q hq => by simp at hq, fun q hq => by simp at hq⟩, fun hf => by have := h1.led.there _ hf; omega, fun bb o hne => absurd rfl hne, fun q hq => by simp at hq⟩, hb1.size⟩
  have HP := Lib.hid hP
  obtain ⟨B, hB⟩ : ∃ B, B = w1.heap.size := ⟨_, rfl⟩
  rw [← hB] at HP
  have HBB := Lib.hid hB
  clear h1 hup1 hb1 hP hB
  go_wp2_with fail
  rw [← HBB.out]
  go_loopw [20] (fun i wr => ∃ (k : Nat) (F : Nat → Prop), k ≤ l.length ∧ i = .int .i64 k ∧ Hid (PairJ w wr F R B (runJ (l.take k)))) (fun i _ => l.length - (intOf i).toNat)
  case atStart => exact ⟨0, F1, Nat.zero_le _, rfl, HP⟩
  case round =>
    clear HP
    obtain ⟨k, F, hk, rfl, H⟩ := hrel
    by_cases hkl : k < l.length
    · obtain ⟨g, o, rfl, hg, q0, q1, q2, q3⟩ := deedsJ_at HI.out H.out.one.below k hkl
      have hst := runJ_step hkl
      have hlen := runJ_lenk l k
      have hin := (HI.out k hkl).2.1
      have hcp := (HI.out k hkl).2.2
      obtain ⟨⟨xa, xc, xd⟩, hx⟩ : ∃ q, l[k] = q := ⟨_, rfl⟩
      rw [hx] at q0 q1 q2 q3 hst hin hcp
      simp only at q0 q1 q2 q3 hst hin hcp
      obtain ⟨L, hL⟩ : ∃ L, runJ (l.take k) = L := ⟨_, rfl⟩
      have hP := H.out
      rw [hL] at hst hlen hP
      obtain ⟨⟨r, L'⟩, hr⟩ : ∃ q, acceptL L xd = q := ⟨_, rfl⟩
      obtain ⟨⟨kk, m, er⟩, hj⟩ : ∃ q, judgeL L xd = q := ⟨_, rfl⟩
      rw [hr] at hst
      have hlen' := acceptL_length L xd
      rw [hr] at hlen'
      simp only at hlen'
      have HST := Lib.hid hst
      have HR := Lib.hid hr
      have HJ := Lib.hid hj
      have HIN := Lib.hid hin
      have hk2 := kept_new wr (.cells #[.slice xa xd.ins.length xc, .int .i64 xd.outs, .int .i64 xd.weight, .int .i64 xd.fee] 30)
      have HX := Lib.hid (hP.kept hk2)
      have HFR := Lib.hid (hP.fresh (Nat.le_refl wr.heap.size))
      clear hx hst hr hj hin H hL hP hk2
      go_wp2_with fail
      with_reducible refine (hj_judge w F R L _ HX.out.one xd xa xc (insAt_kept HX.out.one.below HIN.out) kk m er HJ.out).mono ?_
      rintro e w3 ⟨ma, mc, rfl, ho3, hb3⟩
      simp only
      obtain ⟨c0, c1, c2, c3, hs3⟩ := box_four hb3
      have H3 := Lib.hid (HX.out.kept hb3)
      obtain ⟨ma', mc', em, _, hids3, _⟩ := owns_idsAt ho3
      simp only [Value.slice.injEq] at em
      obtain ⟨rfl, _, rfl⟩ := em
      have HID3 := Lib.hid hids3
      obtain ⟨ra, rcap, rl, hrh, hrd, hrr, _⟩ := H3.out.ref
      have b0 : w3.cell? ⟨B, 0, none⟩ = some (.slice ra rl.length rcap) := head_cell hrh 0
      have b1 : B < w3.heap.size := (cell_spot b0).2
      have hrl : rl.length ≤ 2932031007402 := by rw [← dOf_len, hrd]; omega
      have BX3 : Hid (w3.heap[wr.heap.size]? = some (.cells #[.slice xa xd.ins.length xc, .int .i64 xd.outs, .int .i64 xd.weight, .int .i64 xd.fee] 30 (0, 0))) := Lib.hid ((hb3.block _ (by simp)).trans (heap_alloc_new _ _))
      have HJR : Hid (judgeL (dOf rl) xd = (kk, m, er)) := Lib.hid (by rw [hrd]; exact HJ.out)
      have HRR := Lib.hid hrr
      clear ho3 hb3 hids3 hrh hrd hrr
      go_wp2_with fail
      go_region_held3 (fun w' => w'.cell? ⟨B, 0, none⟩ = some (.slice ra rl.length rcap) ∧ w'.cell? ⟨wr.heap.size, 0, none⟩ = some (.slice xa xd.ins.length xc) ∧ w'.cell? ⟨wr.heap.size, 1, none⟩ = some (.int .i64 xd.outs) ∧ w'.cell? ⟨wr.heap.size, 2, none⟩ = some (.int .i64 xd.weight) ∧ w'.cell? ⟨wr.heap.size, 3, none⟩ = some (.int .i64 xd.fee) ∧ Below w3.heap.size w3 w')
        (first | exact ⟨b0, c0, c1, c2, c3, (Below.refl _ _).drew⟩ | (go_split_ands; exact ⟨kept_cell hb2 (by assumption), kept_cell hb2 (by assumption), kept_cell hb2 (by assumption), kept_cell hb2 (by assumption), kept_cell hb2 (by assumption), kept_trans (by assumption) hb2⟩))
        (first | (go_split_ands; go_at_call 12; ((with_reducible refine (refJudgeJ_any rcap xd xa xc _ (HRR.out.kept (by assumption)) hrl hcp (insAt_kept (kept_trans H3.out.one.below (by assumption)) HIN.out) kk m er HJR.out).mono ?_); rintro e w2 ⟨na, nc, rfl, ho2, hb2⟩)))
      have hbf : Below w3.heap.size w3 w2 := by go_split_ands; assumption
      obtain ⟨w4, hw4⟩ : ∃ x, x = w2 := ⟨_, rfl⟩
      subst hw4
      have H4 := Lib.hid (H3.out.kept hbf)
      have P4D := Lib.hid (H3.out.kept (hbf.drew))
      have bx4 := (hbf.block _ hs3).trans BX3.out
      have BX4 := Lib.hid bx4
      have s0 : w4.cell? ⟨wr.heap.size, 0, none⟩ = some (.slice xa xd.ins.length xc) := head_cell bx4 0
      have s1 : w4.cell? ⟨wr.heap.size, 1, none⟩ = some (.int .i64 xd.outs) := head_cell bx4 1
      have s2 : w4.cell? ⟨wr.heap.size, 2, none⟩ = some (.int .i64 xd.weight) := head_cell bx4 2
      have s3 : w4.cell? ⟨wr.heap.size, 3, none⟩ = some (.int .i64 xd.fee) := head_cell bx4 3
      have s4 : wr.heap.size < w4.heap.size := (cell_spot s0).2
      obtain ⟨na', nc', en, _, hidn, _⟩ := owns_idsAt ho2
      simp only [Value.slice.injEq] at en
      obtain ⟨rfl, _, rfl⟩ := en
      have HIDN : Hid (IdsAt w4.drew na m) := Lib.hid hidn
      have HIDM : Hid (IdsAt w4.drew ma m) := Lib.hid (idsAt_kept hbf.drew HID3.out)
      have hml : m.length ≤ 8 := judge_len HJ.out
      have heq : (m == m) = true := beq_self_eq_true m
      have HEQ := Lib.hid heq
      clear hbf bx4 ho2 hidn heq q0 q1 q2 q3 c0 c1 c2 c3 b0 b1 HX H3 HID3 HRR HJR BX3 H4 hs3 hg hrl
      go_wp2_with fail
      refine wp_region_held_drew (S := fun w' => w'.cell? ⟨wr.heap.size, 0, none⟩ = some (.slice xa xd.ins.length xc) ∧ w'.cell? ⟨wr.heap.size, 1, none⟩ = some (.int .i64 xd.outs) ∧ w'.cell? ⟨wr.heap.size, 2, none⟩ = some (.int .i64 xd.weight) ∧ w'.cell? ⟨wr.heap.size, 3, none⟩ = some (.int .i64 xd.fee)) (by kernel_rfl) ⟨s0, s1, s2, s3⟩ (fun hHeld => ?_)
      (try simp only [Act.put, List.setIfInBounds_toArray, List.set_cons_zero, List.set_cons_succ])
      repeat ((first | refine wpAnyH_take (i := 0) (oi := ⟨some 40, _, _, _, _, _⟩) (v := ?_) rfl (by kernel_rfl) (by kernel_rfl) (by decide +kernel) (fun _ _ _ h => h) (Or.inl ⟨by rfl, fun w hSw => ?_⟩) (by assumption) ?_ | refine wpAnyH_take (i := 1) (oi := ⟨some 41, _, _, _, _, _⟩) (v := ?_) rfl (by kernel_rfl) (by kernel_rfl) (by decide +kernel) (fun _ _ _ h => h) (Or.inl ⟨by rfl, fun w hSw => ?_⟩) (by assumption) ?_ | refine wpAnyH_take (i := 2) (oi := ⟨some 42, _, _, _, _, _⟩) (v := ?_) rfl (by kernel_rfl) (by kernel_rfl) (by decide +kernel) (fun _ _ _ h => h) (Or.inl ⟨by rfl, fun w hSw => ?_⟩) (by assumption) ?_ | refine wpAnyH_take (i := 3) (oi := ⟨some 43, _, _, _, _, _⟩) (v := ?_) rfl (by kernel_rfl) (by kernel_rfl) (by decide +kernel) (fun _ _ _ h => h) (Or.inl ⟨by rfl, fun w hSw => ?_⟩) (by assumption) ?_ | refine wpAnyH_take (i := 4) (oi := ⟨some 44, _, _, _, _, _⟩) (v := ?_) rfl (by kernel_rfl) (by kernel_rfl) (by decide +kernel) (fun _ _ _ h => h) (Or.inl ⟨by rfl, fun w hSw => ?_⟩) (by assumption) ?_ | refine wpAnyH_take (i := 5) (oi := ⟨some 45, _, _, _, _, _⟩) (v := ?_) rfl (by kernel_rfl) (by kernel_rfl) (by decide +kernel) (fun _ _ _ h => h) (Or.inl ⟨by rfl, fun w hSw => ?_⟩) (by assumption) ?_ | refine wpAnyH_take (i := 7) (oi := ⟨some 47, _, _, _, _, _⟩) (v := ?_) rfl (by kernel_rfl) (by kernel_rfl) (by decide +kernel) (fun _ _ _ h => h) (Or.inl ⟨by rfl, fun w hSw => ?_⟩) (by assumption) ?_ | refine wpAnyH_take (i := 8) (oi := ⟨some 48, _, _, _, _, _⟩) (v := ?_) rfl (by kernel_rfl) (by kernel_rfl) (by decide +kernel) (fun _ _ _ h => h) (Or.inl ⟨by rfl, fun w hSw => ?_⟩) (by assumption) ?_ | refine wpAnyH_take (i := 9) (oi := ⟨some 49, _, _, _, _, _⟩) (v := ?_) rfl (by kernel_rfl) (by kernel_rfl) (by decide +kernel) (fun _ _ _ h => h) (Or.inl ⟨by rfl, fun w hSw => ?_⟩) (by assumption) ?_ | refine wpAnyH_take (i := 10) (oi := ⟨some 50, _, _, _, _, _⟩) (v := ?_) rfl (by kernel_rfl) (by kernel_rfl) (by decide +kernel) (fun _ _ _ h => h) (Or.inl ⟨by rfl, fun w hSw => ?_⟩) (by assumption) ?_ | refine wpAnyH_take (i := 11) (oi := ⟨some 51, _, _, _, _, _⟩) (v := ?_) rfl (by kernel_rfl) (by kernel_rfl) (by decide +kernel) (fun _ _ _ h => h) (Or.inl ⟨by rfl, fun w hSw => ?_⟩) (by assumption) ?_ | refine wpAnyH_take (i := 12) (oi := ⟨some 52, _, _, _, _, _⟩) (v := ?_) rfl (by kernel_rfl) (by kernel_rfl) (by decide +kernel) (fun _ _ _ h => h) (Or.inl ⟨by rfl, fun w hSw => ?_⟩) (by assumption) ?_ | refine wpAnyH_take (i := 13) (oi := ⟨some 53, _, _, _, _, _⟩) (v := ?_) rfl (by kernel_rfl) (by kernel_rfl) (by decide +kernel) (fun _ _ _ h => h) (Or.inl ⟨by rfl, fun w hSw => ?_⟩) (by assumption) ?_ | refine wpAnyH_take (i := 14) (oi := ⟨some 54, _, _, _, _, _⟩) (v := ?_) rfl (by kernel_rfl) (by kernel_rfl) (by decide +kernel) (fun _ _ _ h => h) (Or.inl ⟨by rfl, fun w hSw => ?_⟩) (by assumption) ?_ | refine wpAnyH_take (i := 15) (oi := ⟨some 55, _, _, _, _, _⟩) (v := ?_) rfl (by kernel_rfl) (by kernel_rfl) (by decide +kernel) (fun _ _ _ h => h) (Or.inl ⟨by rfl, fun w hSw => ?_⟩) (by assumption) ?_ | refine wpAnyH_take (i := 16) (oi := ⟨some 56, _, _, _, _, _⟩) (v := ?_) rfl (by kernel_rfl) (by kernel_rfl) (by decide +kernel) (fun _ _ _ h => h) (Or.inl ⟨by rfl, fun w hSw => ?_⟩) (by assumption) ?_ | refine wpAnyH_take (i := 18) (oi := ⟨some 58, _, _, _, _, _⟩) (v := ?_) rfl (by kernel_rfl) (by kernel_rfl) (by decide +kernel) (fun _ _ _ h => h) (Or.inl ⟨by rfl, fun w hSw => ?_⟩) (by assumption) ?_ | refine wpAnyH_take (i := 19) (oi := ⟨some 59, _, _, _, _, _⟩) (v := ?_) rfl (by kernel_rfl) (by kernel_rfl) (by decide +kernel) (fun _ _ _ h => h) (Or.inl ⟨by rfl, fun w hSw => ?_⟩) (by assumption) ?_ | refine wpAnyH_take (i := 21) (oi := ⟨some 61, _, _, _, _, _⟩) (v := ?_) rfl (by kernel_rfl) (by kernel_rfl) (by decide +kernel) (fun _ _ _ h => h) (Or.inl ⟨by rfl, fun w hSw => ?_⟩) (by assumption) ?_ | refine wpAnyH_take (i := 22) (oi := ⟨some 62, _, _, _, _, _⟩) (v := ?_) rfl (by kernel_rfl) (by kernel_rfl) (by decide +kernel) (fun _ _ _ h => h) (Or.inl ⟨by rfl, fun w hSw => ?_⟩) (by assumption) ?_ | refine wpAnyH_take (i := 23) (oi := ⟨some 63, _, _, _, _, _⟩) (v := ?_) rfl (by kernel_rfl) (by kernel_rfl) (by decide +kernel) (fun _ _ _ h => h) (Or.inl ⟨by rfl, fun w hSw => ?_⟩) (by assumption) ?_ | refine wpAnyH_take (i := 24) (oi := ⟨some 64, _, _, _, _, _⟩) (v := ?_) rfl (by kernel_rfl) (by kernel_rfl) (by decide +kernel) (fun _ _ _ h => h) (Or.inl ⟨by rfl, fun w hSw => ?_⟩) (by assumption) ?_ | refine wpAnyH_take (i := 26) (oi := ⟨some 66, _, _, _, _, _⟩) (v := ?_) rfl (by kernel_rfl) (by kernel_rfl) (by decide +kernel) (fun _ _ _ h => h) (Or.inl ⟨by rfl, fun w hSw => ?_⟩) (by assumption) ?_ | refine wpAnyH_take (i := 27) (oi := ⟨some 67, _, _, _, _, _⟩) (v := ?_) rfl (by kernel_rfl) (by kernel_rfl) (by decide +kernel) (fun _ _ _ h => h) (Or.inl ⟨by rfl, fun w hSw => ?_⟩) (by assumption) ?_ | refine wpAnyH_take (i := 28) (oi := ⟨some 68, _, _, _, _, _⟩) (v := ?_) rfl (by kernel_rfl) (by kernel_rfl) (by decide +kernel) (fun _ _ _ h => h) (Or.inl ⟨by rfl, fun w hSw => ?_⟩) (by assumption) ?_ | refine wpAnyH_take (i := 31) (oi := ⟨some 71, _, _, _, _, _⟩) (v := ?_) rfl (by kernel_rfl) (by kernel_rfl) (by decide +kernel) (fun _ _ _ h => h) (Or.inl ⟨by rfl, fun w hSw => ?_⟩) (by assumption) ?_ | refine wpAnyH_take (i := 32) (oi := ⟨some 72, _, _, _, _, _⟩) (v := ?_) rfl (by kernel_rfl) (by kernel_rfl) (by decide +kernel) (fun _ _ _ h => h) (Or.inl ⟨by rfl, fun w hSw => ?_⟩) (by assumption) ?_); rotate_left 1; (next => ((try dsimp only at hSw); go_simp; first | done | with_reducible rfl)); (try simp only [Act.put, List.setIfInBounds_toArray, List.set_cons_zero, List.set_cons_succ]))
      refine wpAnyH_ready (rs := [6]) (by kernel_rfl) (by simp) ?_
      refine AllReadyH.cons (o := _) rfl (fun K hK => ?_) AllReadyH.nil
      go_simp
      go_at_call 13; (with_reducible refine (eqID_is m m _ _ _ _ w4.drew true (by unfold maxLen; omega) HIDM.out HIDN.out HEQ.out).mono ?_); rintro e w5 ⟨rfl, rfl⟩
      go_wp2_with fail
      refine hK.out _ _ ⟨s0, s1, s2, s3⟩ (fun hHeld => ?_)
      clear hK K
      (try simp only [Act.put, List.setIfInBounds_toArray, List.set_cons_zero, List.set_cons_succ])
      repeat ((first | refine wpAnyH_take (i := 0) (oi := ⟨some 40, _, _, _, _, _⟩) (v := ?_) rfl (by kernel_rfl) (by kernel_rfl) (by decide +kernel) (fun _ _ _ h => h) (Or.inl ⟨by rfl, fun w hSw => ?_⟩) (by assumption) ?_ | refine wpAnyH_take (i := 1) (oi := ⟨some 41, _, _, _, _, _⟩) (v := ?_) rfl (by kernel_rfl) (by kernel_rfl) (by decide +kernel) (fun _ _ _ h => h) (Or.inl ⟨by rfl, fun w hSw => ?_⟩) (by assumption) ?_ | refine wpAnyH_take (i := 2) (oi := ⟨some 42, _, _, _, _, _⟩) (v := ?_) rfl (by kernel_rfl) (by kernel_rfl) (by decide +kernel) (fun _ _ _ h => h) (Or.inl ⟨by rfl, fun w hSw => ?_⟩) (by assumption) ?_ | refine wpAnyH_take (i := 3) (oi := ⟨some 43, _, _, _, _, _⟩) (v := ?_) rfl (by kernel_rfl) (by kernel_rfl) (by decide +kernel) (fun _ _ _ h => h) (Or.inl ⟨by rfl, fun w hSw => ?_⟩) (by assumption) ?_ | refine wpAnyH_take (i := 4) (oi := ⟨some 44, _, _, _, _, _⟩) (v := ?_) rfl (by kernel_rfl) (by kernel_rfl) (by decide +kernel) (fun _ _ _ h => h) (Or.inl ⟨by rfl, fun w hSw => ?_⟩) (by assumption) ?_ | refine wpAnyH_take (i := 5) (oi := ⟨some 45, _, _, _, _, _⟩) (v := ?_) rfl (by kernel_rfl) (by kernel_rfl) (by decide +kernel) (fun _ _ _ h => h) (Or.inl ⟨by rfl, fun w hSw => ?_⟩) (by assumption) ?_ | refine wpAnyH_take (i := 7) (oi := ⟨some 47, _, _, _, _, _⟩) (v := ?_) rfl (by kernel_rfl) (by kernel_rfl) (by decide +kernel) (fun _ _ _ h => h) (Or.inl ⟨by rfl, fun w hSw => ?_⟩) (by assumption) ?_ | refine wpAnyH_take (i := 8) (oi := ⟨some 48, _, _, _, _, _⟩) (v := ?_) rfl (by kernel_rfl) (by kernel_rfl) (by decide +kernel) (fun _ _ _ h => h) (Or.inl ⟨by rfl, fun w hSw => ?_⟩) (by assumption) ?_ | refine wpAnyH_take (i := 9) (oi := ⟨some 49, _, _, _, _, _⟩) (v := ?_) rfl (by kernel_rfl) (by kernel_rfl) (by decide +kernel) (fun _ _ _ h => h) (Or.inl ⟨by rfl, fun w hSw => ?_⟩) (by assumption) ?_ | refine wpAnyH_take (i := 10) (oi := ⟨some 50, _, _, _, _, _⟩) (v := ?_) rfl (by kernel_rfl) (by kernel_rfl) (by decide +kernel) (fun _ _ _ h => h) (Or.inl ⟨by rfl, fun w hSw => ?_⟩) (by assumption) ?_ | refine wpAnyH_take (i := 11) (oi := ⟨some 51, _, _, _, _, _⟩) (v := ?_) rfl (by kernel_rfl) (by kernel_rfl) (by decide +kernel) (fun _ _ _ h => h) (Or.inl ⟨by rfl, fun w hSw => ?_⟩) (by assumption) ?_ | refine wpAnyH_take (i := 12) (oi := ⟨some 52, _, _, _, _, _⟩) (v := ?_) rfl (by kernel_rfl) (by kernel_rfl) (by decide +kernel) (fun _ _ _ h => h) (Or.inl ⟨by rfl, fun w hSw => ?_⟩) (by assumption) ?_ | refine wpAnyH_take (i := 13) (oi := ⟨some 53, _, _, _, _, _⟩) (v := ?_) rfl (by kernel_rfl) (by kernel_rfl) (by decide +kernel) (fun _ _ _ h => h) (Or.inl ⟨by rfl, fun w hSw => ?_⟩) (by assumption) ?_ | refine wpAnyH_take (i := 14) (oi := ⟨some 54, _, _, _, _, _⟩) (v := ?_) rfl (by kernel_rfl) (by kernel_rfl) (by decide +kernel) (fun _ _ _ h => h) (Or.inl ⟨by rfl, fun w hSw => ?_⟩) (by assumption) ?_ | refine wpAnyH_take (i := 15) (oi := ⟨some 55, _, _, _, _, _⟩) (v := ?_) rfl (by kernel_rfl) (by kernel_rfl) (by decide +kernel) (fun _ _ _ h => h) (Or.inl ⟨by rfl, fun w hSw => ?_⟩) (by assumption) ?_ | refine wpAnyH_take (i := 16) (oi := ⟨some 56, _, _, _, _, _⟩) (v := ?_) rfl (by kernel_rfl) (by kernel_rfl) (by decide +kernel) (fun _ _ _ h => h) (Or.inl ⟨by rfl, fun w hSw => ?_⟩) (by assumption) ?_ | refine wpAnyH_take (i := 18) (oi := ⟨some 58, _, _, _, _, _⟩) (v := ?_) rfl (by kernel_rfl) (by kernel_rfl) (by decide +kernel) (fun _ _ _ h => h) (Or.inl ⟨by rfl, fun w hSw => ?_⟩) (by assumption) ?_ | refine wpAnyH_take (i := 19) (oi := ⟨some 59, _, _, _, _, _⟩) (v := ?_) rfl (by kernel_rfl) (by kernel_rfl) (by decide +kernel) (fun _ _ _ h => h) (Or.inl ⟨by rfl, fun w hSw => ?_⟩) (by assumption) ?_ | refine wpAnyH_take (i := 21) (oi := ⟨some 61, _, _, _, _, _⟩) (v := ?_) rfl (by kernel_rfl) (by kernel_rfl) (by decide +kernel) (fun _ _ _ h => h) (Or.inl ⟨by rfl, fun w hSw => ?_⟩) (by assumption) ?_ | refine wpAnyH_take (i := 22) (oi := ⟨some 62, _, _, _, _, _⟩) (v := ?_) rfl (by kernel_rfl) (by kernel_rfl) (by decide +kernel) (fun _ _ _ h => h) (Or.inl ⟨by rfl, fun w hSw => ?_⟩) (by assumption) ?_ | refine wpAnyH_take (i := 23) (oi := ⟨some 63, _, _, _, _, _⟩) (v := ?_) rfl (by kernel_rfl) (by kernel_rfl) (by decide +kernel) (fun _ _ _ h => h) (Or.inl ⟨by rfl, fun w hSw => ?_⟩) (by assumption) ?_ | refine wpAnyH_take (i := 24) (oi := ⟨some 64, _, _, _, _, _⟩) (v := ?_) rfl (by kernel_rfl) (by kernel_rfl) (by decide +kernel) (fun _ _ _ h => h) (Or.inl ⟨by rfl, fun w hSw => ?_⟩) (by assumption) ?_ | refine wpAnyH_take (i := 26) (oi := ⟨some 66, _, _, _, _, _⟩) (v := ?_) rfl (by kernel_rfl) (by kernel_rfl) (by decide +kernel) (fun _ _ _ h => h) (Or.inl ⟨by rfl, fun w hSw => ?_⟩) (by assumption) ?_ | refine wpAnyH_take (i := 27) (oi := ⟨some 67, _, _, _, _, _⟩) (v := ?_) rfl (by kernel_rfl) (by kernel_rfl) (by decide +kernel) (fun _ _ _ h => h) (Or.inl ⟨by rfl, fun w hSw => ?_⟩) (by assumption) ?_ | refine wpAnyH_take (i := 28) (oi := ⟨some 68, _, _, _, _, _⟩) (v := ?_) rfl (by kernel_rfl) (by kernel_rfl) (by decide +kernel) (fun _ _ _ h => h) (Or.inl ⟨by rfl, fun w hSw => ?_⟩) (by assumption) ?_ | refine wpAnyH_take (i := 31) (oi := ⟨some 71, _, _, _, _, _⟩) (v := ?_) rfl (by kernel_rfl) (by kernel_rfl) (by decide +kernel) (fun _ _ _ h => h) (Or.inl ⟨by rfl, fun w hSw => ?_⟩) (by assumption) ?_ | refine wpAnyH_take (i := 32) (oi := ⟨some 72, _, _, _, _, _⟩) (v := ?_) rfl (by kernel_rfl) (by kernel_rfl) (by decide +kernel) (fun _ _ _ h => h) (Or.inl ⟨by rfl, fun w hSw => ?_⟩) (by assumption) ?_); rotate_left 1; (next => ((try dsimp only at hSw); go_simp; first | done | with_reducible rfl)); (try simp only [Act.put, List.setIfInBounds_toArray, List.set_cons_zero, List.set_cons_succ]))
      refine wpAnyH_ready (rs := [17]) (by kernel_rfl) (by simp) ?_
      refine AllReadyH.cons (o := _) rfl (fun K hK => ?_) AllReadyH.nil
      go_simp
      go_at_call 14; (with_reducible refine (hj_accept w F R L w4.drew P4D.out.one (by omega) xd xa xc HIN.out r L' HR.out).mono ?_); rintro e w5 ⟨rfl, F5, h5, t5⟩; have H5 : Hid (HeldJ w w5 F5 R L') := Lib.hid h5; have R5 : Hid (RefJ w5 F5 B L) := Lib.hid (P4D.out.ref.turn t5); have bx5 := (t5.block wr.heap.size s4 HFR.out.1).trans BX4.out; have BX5 := Lib.hid bx5; have v0 : w5.cell? ⟨wr.heap.size, 0, none⟩ = some (.slice xa xd.ins.length xc) := head_cell bx5 0; have v1 : w5.cell? ⟨wr.heap.size, 1, none⟩ = some (.int .i64 xd.outs) := head_cell bx5 1; have v2 : w5.cell? ⟨wr.heap.size, 2, none⟩ = some (.int .i64 xd.weight) := head_cell bx5 2; have v3 : w5.cell? ⟨wr.heap.size, 3, none⟩ = some (.int .i64 xd.fee) := head_cell bx5 3; have v4 : wr.heap.size < w5.heap.size := (cell_spot v0).2; clear h5 t5 bx5
      go_wp2_with fail
      refine hK.out _ _ ⟨v0, v1, v2, v3⟩ (fun hHeld => ?_)
      clear hK K
      refine wpAnyH_ready (rs := [20]) (by kernel_rfl) (by simp) ?_
      refine AllReadyH.cons (o := _) rfl (fun K hK => ?_) AllReadyH.nil
      go_simp
      go_at_call 15; (with_reducible refine (refAccept_any xd xa xc w5 R5.out H5.out.led.there (by omega) hcp (insAt_kept H5.out.below HIN.out) r L' HR.out).mono ?_); rintro e w6 ⟨rfl, h6, t6⟩; have H6 : Hid (HeldJ w w6 F5 R L') := Lib.hid (H5.out.beside t6 (fun k hf e => R5.out.notF (e ▸ hf)) (fun k e => e ▸ P4D.out.up)); have R6 := Lib.hid h6; obtain ⟨ra6, rc6, rl6, hh6, hd6, hr6, _⟩ := h6; have y0 : w6.cell? ⟨B, 0, none⟩ = some (.slice ra6 rl6.length rc6) := head_cell hh6 0; have y1 : B < w6.heap.size := (cell_spot y0).2; have HR6 := Lib.hid hr6; have HD6 := Lib.hid hd6; have bx6 := (t6.block wr.heap.size v4 HFR.out.2).trans BX5.out; have x0 : w6.cell? ⟨wr.heap.size, 0, none⟩ = some (.slice xa xd.ins.length xc) := head_cell bx6 0; have x1 : w6.cell? ⟨wr.heap.size, 1, none⟩ = some (.int .i64 xd.outs) := head_cell bx6 1; have x2 : w6.cell? ⟨wr.heap.size, 2, none⟩ = some (.int .i64 xd.weight) := head_cell bx6 2; have x3 : w6.cell? ⟨wr.heap.size, 3, none⟩ = some (.int .i64 xd.fee) := head_cell bx6 3; have BX6 := Lib.hid bx6; clear t6 hh6 hr6 hd6 bx6
      go_wp2_with fail
      refine hK.out _ _ ⟨x0, x1, x2, x3⟩ (fun hHeld => ?_)
      clear hK K
      have hHeld2 : (fun w' => w'.cell? ⟨wr.heap.size, 0, none⟩ = some (.slice xa xd.ins.length xc) ∧ w'.cell? ⟨wr.heap.size, 1, none⟩ = some (.int .i64 xd.outs) ∧ w'.cell? ⟨wr.heap.size, 2, none⟩ = some (.int .i64 xd.weight) ∧ w'.cell? ⟨wr.heap.size, 3, none⟩ = some (.int .i64 xd.fee) ∧ w'.cell? ⟨B, 0, none⟩ = some (.slice ra6 rl6.length rc6)) w6 := ⟨x0, x1, x2, x3, y0⟩
      refine wpAnyH_mono (S' := fun w' => w'.cell? ⟨wr.heap.size, 0, none⟩ = some (.slice xa xd.ins.length xc) ∧ w'.cell? ⟨wr.heap.size, 1, none⟩ = some (.int .i64 xd.outs) ∧ w'.cell? ⟨wr.heap.size, 2, none⟩ = some (.int .i64 xd.weight) ∧ w'.cell? ⟨wr.heap.size, 3, none⟩ = some (.int .i64 xd.fee) ∧ w'.cell? ⟨B, 0, none⟩ = some (.slice ra6 rl6.length rc6)) (fun w' h => ⟨h.1, h.2.1, h.2.2.1, h.2.2.2.1⟩) _ _ _ _ ?_
      clear hHeld
      (try simp only [Act.put, List.setIfInBounds_toArray, List.set_cons_zero, List.set_cons_succ])
      repeat ((first | refine wpAnyH_take (i := 0) (oi := ⟨some 40, _, _, _, _, _⟩) (v := ?_) rfl (by kernel_rfl) (by kernel_rfl) (by decide +kernel) (fun _ _ _ h => h) (Or.inl ⟨by rfl, fun w hSw => ?_⟩) (by assumption) ?_ | refine wpAnyH_take (i := 1) (oi := ⟨some 41, _, _, _, _, _⟩) (v := ?_) rfl (by kernel_rfl) (by kernel_rfl) (by decide +kernel) (fun _ _ _ h => h) (Or.inl ⟨by rfl, fun w hSw => ?_⟩) (by assumption) ?_ | refine wpAnyH_take (i := 2) (oi := ⟨some 42, _, _, _, _, _⟩) (v := ?_) rfl (by kernel_rfl) (by kernel_rfl) (by decide +kernel) (fun _ _ _ h => h) (Or.inl ⟨by rfl, fun w hSw => ?_⟩) (by assumption) ?_ | refine wpAnyH_take (i := 3) (oi := ⟨some 43, _, _, _, _, _⟩) (v := ?_) rfl (by kernel_rfl) (by kernel_rfl) (by decide +kernel) (fun _ _ _ h => h) (Or.inl ⟨by rfl, fun w hSw => ?_⟩) (by assumption) ?_ | refine wpAnyH_take (i := 4) (oi := ⟨some 44, _, _, _, _, _⟩) (v := ?_) rfl (by kernel_rfl) (by kernel_rfl) (by decide +kernel) (fun _ _ _ h => h) (Or.inl ⟨by rfl, fun w hSw => ?_⟩) (by assumption) ?_ | refine wpAnyH_take (i := 5) (oi := ⟨some 45, _, _, _, _, _⟩) (v := ?_) rfl (by kernel_rfl) (by kernel_rfl) (by decide +kernel) (fun _ _ _ h => h) (Or.inl ⟨by rfl, fun w hSw => ?_⟩) (by assumption) ?_ | refine wpAnyH_take (i := 7) (oi := ⟨some 47, _, _, _, _, _⟩) (v := ?_) rfl (by kernel_rfl) (by kernel_rfl) (by decide +kernel) (fun _ _ _ h => h) (Or.inl ⟨by rfl, fun w hSw => ?_⟩) (by assumption) ?_ | refine wpAnyH_take (i := 8) (oi := ⟨some 48, _, _, _, _, _⟩) (v := ?_) rfl (by kernel_rfl) (by kernel_rfl) (by decide +kernel) (fun _ _ _ h => h) (Or.inl ⟨by rfl, fun w hSw => ?_⟩) (by assumption) ?_ | refine wpAnyH_take (i := 9) (oi := ⟨some 49, _, _, _, _, _⟩) (v := ?_) rfl (by kernel_rfl) (by kernel_rfl) (by decide +kernel) (fun _ _ _ h => h) (Or.inl ⟨by rfl, fun w hSw => ?_⟩) (by assumption) ?_ | refine wpAnyH_take (i := 10) (oi := ⟨some 50, _, _, _, _, _⟩) (v := ?_) rfl (by kernel_rfl) (by kernel_rfl) (by decide +kernel) (fun _ _ _ h => h) (Or.inl ⟨by rfl, fun w hSw => ?_⟩) (by assumption) ?_ | refine wpAnyH_take (i := 11) (oi := ⟨some 51, _, _, _, _, _⟩) (v := ?_) rfl (by kernel_rfl) (by kernel_rfl) (by decide +kernel) (fun _ _ _ h => h) (Or.inl ⟨by rfl, fun w hSw => ?_⟩) (by assumption) ?_ | refine wpAnyH_take (i := 12) (oi := ⟨some 52, _, _, _, _, _⟩) (v := ?_) rfl (by kernel_rfl) (by kernel_rfl) (by decide +kernel) (fun _ _ _ h => h) (Or.inl ⟨by rfl, fun w hSw => ?_⟩) (by assumption) ?_ | refine wpAnyH_take (i := 13) (oi := ⟨some 53, _, _, _, _, _⟩) (v := ?_) rfl (by kernel_rfl) (by kernel_rfl) (by decide +kernel) (fun _ _ _ h => h) (Or.inl ⟨by rfl, fun w hSw => ?_⟩) (by assumption) ?_ | refine wpAnyH_take (i := 14) (oi := ⟨some 54, _, _, _, _, _⟩) (v := ?_) rfl (by kernel_rfl) (by kernel_rfl) (by decide +kernel) (fun _ _ _ h => h) (Or.inl ⟨by rfl, fun w hSw => ?_⟩) (by assumption) ?_ | refine wpAnyH_take (i := 15) (oi := ⟨some 55, _, _, _, _, _⟩) (v := ?_) rfl (by kernel_rfl) (by kernel_rfl) (by decide +kernel) (fun _ _ _ h => h) (Or.inl ⟨by rfl, fun w hSw => ?_⟩) (by assumption) ?_ | refine wpAnyH_take (i := 16) (oi := ⟨some 56, _, _, _, _, _⟩) (v := ?_) rfl (by kernel_rfl) (by kernel_rfl) (by decide +kernel) (fun _ _ _ h => h) (Or.inl ⟨by rfl, fun w hSw => ?_⟩) (by assumption) ?_ | refine wpAnyH_take (i := 18) (oi := ⟨some 58, _, _, _, _, _⟩) (v := ?_) rfl (by kernel_rfl) (by kernel_rfl) (by decide +kernel) (fun _ _ _ h => h) (Or.inl ⟨by rfl, fun w hSw => ?_⟩) (by assumption) ?_ | refine wpAnyH_take (i := 19) (oi := ⟨some 59, _, _, _, _, _⟩) (v := ?_) rfl (by kernel_rfl) (by kernel_rfl) (by decide +kernel) (fun _ _ _ h => h) (Or.inl ⟨by rfl, fun w hSw => ?_⟩) (by assumption) ?_ | refine wpAnyH_take (i := 21) (oi := ⟨some 61, _, _, _, _, _⟩) (v := ?_) rfl (by kernel_rfl) (by kernel_rfl) (by decide +kernel) (fun _ _ _ h => h) (Or.inl ⟨by rfl, fun w hSw => ?_⟩) (by assumption) ?_ | refine wpAnyH_take (i := 22) (oi := ⟨some 62, _, _, _, _, _⟩) (v := ?_) rfl (by kernel_rfl) (by kernel_rfl) (by decide +kernel) (fun _ _ _ h => h) (Or.inl ⟨by rfl, fun w hSw => ?_⟩) (by assumption) ?_ | refine wpAnyH_take (i := 23) (oi := ⟨some 63, _, _, _, _, _⟩) (v := ?_) rfl (by kernel_rfl) (by kernel_rfl) (by decide +kernel) (fun _ _ _ h => h) (Or.inl ⟨by rfl, fun w hSw => ?_⟩) (by assumption) ?_ | refine wpAnyH_take (i := 24) (oi := ⟨some 64, _, _, _, _, _⟩) (v := ?_) rfl (by kernel_rfl) (by kernel_rfl) (by decide +kernel) (fun _ _ _ h => h) (Or.inl ⟨by rfl, fun w hSw => ?_⟩) (by assumption) ?_ | refine wpAnyH_take (i := 26) (oi := ⟨some 66, _, _, _, _, _⟩) (v := ?_) rfl (by kernel_rfl) (by kernel_rfl) (by decide +kernel) (fun _ _ _ h => h) (Or.inl ⟨by rfl, fun w hSw => ?_⟩) (by assumption) ?_ | refine wpAnyH_take (i := 27) (oi := ⟨some 67, _, _, _, _, _⟩) (v := ?_) rfl (by kernel_rfl) (by kernel_rfl) (by decide +kernel) (fun _ _ _ h => h) (Or.inl ⟨by rfl, fun w hSw => ?_⟩) (by assumption) ?_ | refine wpAnyH_take (i := 28) (oi := ⟨some 68, _, _, _, _, _⟩) (v := ?_) rfl (by kernel_rfl) (by kernel_rfl) (by decide +kernel) (fun _ _ _ h => h) (Or.inl ⟨by rfl, fun w hSw => ?_⟩) (by assumption) ?_ | refine wpAnyH_take (i := 31) (oi := ⟨some 71, _, _, _, _, _⟩) (v := ?_) rfl (by kernel_rfl) (by kernel_rfl) (by decide +kernel) (fun _ _ _ h => h) (Or.inl ⟨by rfl, fun w hSw => ?_⟩) (by assumption) ?_ | refine wpAnyH_take (i := 32) (oi := ⟨some 72, _, _, _, _, _⟩) (v := ?_) rfl (by kernel_rfl) (by kernel_rfl) (by decide +kernel) (fun _ _ _ h => h) (Or.inl ⟨by rfl, fun w hSw => ?_⟩) (by assumption) ?_); rotate_left 1; (next => ((try dsimp only at hSw); go_simp; first | done | with_reducible rfl)); (try simp only [Act.put, List.setIfInBounds_toArray, List.set_cons_zero, List.set_cons_succ]))
      refine wpAnyH_ready (rs := [25]) (by kernel_rfl) (by simp) ?_
      refine AllReadyH.cons (o := _) rfl (fun K hK => ?_) AllReadyH.nil
      go_simp
      go_at_call 16; (with_reducible refine (hj_all w F5 R L' w6 H6.out (by omega)).mono ?_); rintro e w7 ⟨ga, gc, rfl, ho7, hb7⟩; have z0 := kept_cell hb7 y0; have z1 : B < w7.heap.size := (cell_spot z0).2; have u0 := kept_cell hb7 x0; have u1 := kept_cell hb7 x1; have u2 := kept_cell hb7 x2; have u3 := kept_cell hb7 x3; have HO7 := Lib.hid ho7; have HB7 := Lib.hid hb7; clear ho7 hb7
      go_wp2_with fail
      refine hK.out _ _ ⟨u0, u1, u2, u3, z0⟩ (fun hHeld => ?_)
      clear hK K
      refine wpAnyH_ready (rs := [29]) (by kernel_rfl) (by simp) ?_
      refine AllReadyH.cons (o := _) rfl (fun K hK => ?_) AllReadyH.nil
      go_simp
      go_at_call 17; (with_reducible refine (refAllJ_any rc6 w7 (HR6.out.kept HB7.out) (by have := congrArg List.length HD6.out; rw [dOf_len] at this; omega)).mono ?_); rw [HD6.out]; rintro e w8 ⟨ka, kc, rfl, ho8, hb8⟩; have t0 := kept_cell hb8 u0; have t1 := kept_cell hb8 u1; have t2 := kept_cell hb8 u2; have t3 := kept_cell hb8 u3; have t4 := kept_cell hb8 z0; have HO8 := Lib.hid ho8; have HB8 := Lib.hid hb8; clear ho8 hb8
      go_wp2_with fail
      refine hK.out _ _ ⟨t0, t1, t2, t3, t4⟩ (fun hHeld => ?_)
      clear hK K
      refine wpAnyH_ready (rs := [30]) (by kernel_rfl) (by simp) ?_
      refine AllReadyH.cons (o := _) rfl (fun K hK => ?_) AllReadyH.nil
      go_simp
      go_at_call 13; have hE := eqID_is (L'.map idD) (L'.map idD) ga ka gc kc w8 true (by unfold maxLen; rw [List.length_map]; omega) (ids_of (owns_below HO7.out HB8.out)) (ids_of HO8.out) (beq_self_eq_true _); rw [List.length_map] at hE; (with_reducible refine hE.mono ?_); clear hE; rintro e w9 ⟨rfl, rfl⟩
      go_wp2_with fail
      refine hK.out _ _ ⟨t0, t1, t2, t3, t4⟩ (fun hHeld => ?_)
      clear hK K
      (try simp only [Act.put, List.setIfInBounds_toArray, List.set_cons_zero, List.set_cons_succ])
      repeat ((first | refine wpAnyH_take (i := 0) (oi := ⟨some 40, _, _, _, _, _⟩) (v := ?_) rfl (by kernel_rfl) (by kernel_rfl) (by decide +kernel) (fun _ _ _ h => h) (Or.inl ⟨by rfl, fun w hSw => ?_⟩) (by assumption) ?_ | refine wpAnyH_take (i := 1) (oi := ⟨some 41, _, _, _, _, _⟩) (v := ?_) rfl (by kernel_rfl) (by kernel_rfl) (by decide +kernel) (fun _ _ _ h => h) (Or.inl ⟨by rfl, fun w hSw => ?_⟩) (by assumption) ?_ | refine wpAnyH_take (i := 2) (oi := ⟨some 42, _, _, _, _, _⟩) (v := ?_) rfl (by kernel_rfl) (by kernel_rfl) (by decide +kernel) (fun _ _ _ h => h) (Or.inl ⟨by rfl, fun w hSw => ?_⟩) (by assumption) ?_ | refine wpAnyH_take (i := 3) (oi := ⟨some 43, _, _, _, _, _⟩) (v := ?_) rfl (by kernel_rfl) (by kernel_rfl) (by decide +kernel) (fun _ _ _ h => h) (Or.inl ⟨by rfl, fun w hSw => ?_⟩) (by assumption) ?_ | refine wpAnyH_take (i := 4) (oi := ⟨some 44, _, _, _, _, _⟩) (v := ?_) rfl (by kernel_rfl) (by kernel_rfl) (by decide +kernel) (fun _ _ _ h => h) (Or.inl ⟨by rfl, fun w hSw => ?_⟩) (by assumption) ?_ | refine wpAnyH_take (i := 5) (oi := ⟨some 45, _, _, _, _, _⟩) (v := ?_) rfl (by kernel_rfl) (by kernel_rfl) (by decide +kernel) (fun _ _ _ h => h) (Or.inl ⟨by rfl, fun w hSw => ?_⟩) (by assumption) ?_ | refine wpAnyH_take (i := 7) (oi := ⟨some 47, _, _, _, _, _⟩) (v := ?_) rfl (by kernel_rfl) (by kernel_rfl) (by decide +kernel) (fun _ _ _ h => h) (Or.inl ⟨by rfl, fun w hSw => ?_⟩) (by assumption) ?_ | refine wpAnyH_take (i := 8) (oi := ⟨some 48, _, _, _, _, _⟩) (v := ?_) rfl (by kernel_rfl) (by kernel_rfl) (by decide +kernel) (fun _ _ _ h => h) (Or.inl ⟨by rfl, fun w hSw => ?_⟩) (by assumption) ?_ | refine wpAnyH_take (i := 9) (oi := ⟨some 49, _, _, _, _, _⟩) (v := ?_) rfl (by kernel_rfl) (by kernel_rfl) (by decide +kernel) (fun _ _ _ h => h) (Or.inl ⟨by rfl, fun w hSw => ?_⟩) (by assumption) ?_ | refine wpAnyH_take (i := 10) (oi := ⟨some 50, _, _, _, _, _⟩) (v := ?_) rfl (by kernel_rfl) (by kernel_rfl) (by decide +kernel) (fun _ _ _ h => h) (Or.inl ⟨by rfl, fun w hSw => ?_⟩) (by assumption) ?_ | refine wpAnyH_take (i := 11) (oi := ⟨some 51, _, _, _, _, _⟩) (v := ?_) rfl (by kernel_rfl) (by kernel_rfl) (by decide +kernel) (fun _ _ _ h => h) (Or.inl ⟨by rfl, fun w hSw => ?_⟩) (by assumption) ?_ | refine wpAnyH_take (i := 12) (oi := ⟨some 52, _, _, _, _, _⟩) (v := ?_) rfl (by kernel_rfl) (by kernel_rfl) (by decide +kernel) (fun _ _ _ h => h) (Or.inl ⟨by rfl, fun w hSw => ?_⟩) (by assumption) ?_ | refine wpAnyH_take (i := 13) (oi := ⟨some 53, _, _, _, _, _⟩) (v := ?_) rfl (by kernel_rfl) (by kernel_rfl) (by decide +kernel) (fun _ _ _ h => h) (Or.inl ⟨by rfl, fun w hSw => ?_⟩) (by assumption) ?_ | refine wpAnyH_take (i := 14) (oi := ⟨some 54, _, _, _, _, _⟩) (v := ?_) rfl (by kernel_rfl) (by kernel_rfl) (by decide +kernel) (fun _ _ _ h => h) (Or.inl ⟨by rfl, fun w hSw => ?_⟩) (by assumption) ?_ | refine wpAnyH_take (i := 15) (oi := ⟨some 55, _, _, _, _, _⟩) (v := ?_) rfl (by kernel_rfl) (by kernel_rfl) (by decide +kernel) (fun _ _ _ h => h) (Or.inl ⟨by rfl, fun w hSw => ?_⟩) (by assumption) ?_ | refine wpAnyH_take (i := 16) (oi := ⟨some 56, _, _, _, _, _⟩) (v := ?_) rfl (by kernel_rfl) (by kernel_rfl) (by decide +kernel) (fun _ _ _ h => h) (Or.inl ⟨by rfl, fun w hSw => ?_⟩) (by assumption) ?_ | refine wpAnyH_take (i := 18) (oi := ⟨some 58, _, _, _, _, _⟩) (v := ?_) rfl (by kernel_rfl) (by kernel_rfl) (by decide +kernel) (fun _ _ _ h => h) (Or.inl ⟨by rfl, fun w hSw => ?_⟩) (by assumption) ?_ | refine wpAnyH_take (i := 19) (oi := ⟨some 59, _, _, _, _, _⟩) (v := ?_) rfl (by kernel_rfl) (by kernel_rfl) (by decide +kernel) (fun _ _ _ h => h) (Or.inl ⟨by rfl, fun w hSw => ?_⟩) (by assumption) ?_ | refine wpAnyH_take (i := 21) (oi := ⟨some 61, _, _, _, _, _⟩) (v := ?_) rfl (by kernel_rfl) (by kernel_rfl) (by decide +kernel) (fun _ _ _ h => h) (Or.inl ⟨by rfl, fun w hSw => ?_⟩) (by assumption) ?_ | refine wpAnyH_take (i := 22) (oi := ⟨some 62, _, _, _, _, _⟩) (v := ?_) rfl (by kernel_rfl) (by kernel_rfl) (by decide +kernel) (fun _ _ _ h => h) (Or.inl ⟨by rfl, fun w hSw => ?_⟩) (by assumption) ?_ | refine wpAnyH_take (i := 23) (oi := ⟨some 63, _, _, _, _, _⟩) (v := ?_) rfl (by kernel_rfl) (by kernel_rfl) (by decide +kernel) (fun _ _ _ h => h) (Or.inl ⟨by rfl, fun w hSw => ?_⟩) (by assumption) ?_ | refine wpAnyH_take (i := 24) (oi := ⟨some 64, _, _, _, _, _⟩) (v := ?_) rfl (by kernel_rfl) (by kernel_rfl) (by decide +kernel) (fun _ _ _ h => h) (Or.inl ⟨by rfl, fun w hSw => ?_⟩) (by assumption) ?_ | refine wpAnyH_take (i := 26) (oi := ⟨some 66, _, _, _, _, _⟩) (v := ?_) rfl (by kernel_rfl) (by kernel_rfl) (by decide +kernel) (fun _ _ _ h => h) (Or.inl ⟨by rfl, fun w hSw => ?_⟩) (by assumption) ?_ | refine wpAnyH_take (i := 27) (oi := ⟨some 67, _, _, _, _, _⟩) (v := ?_) rfl (by kernel_rfl) (by kernel_rfl) (by decide +kernel) (fun _ _ _ h => h) (Or.inl ⟨by rfl, fun w hSw => ?_⟩) (by assumption) ?_ | refine wpAnyH_take (i := 28) (oi := ⟨some 68, _, _, _, _, _⟩) (v := ?_) rfl (by kernel_rfl) (by kernel_rfl) (by decide +kernel) (fun _ _ _ h => h) (Or.inl ⟨by rfl, fun w hSw => ?_⟩) (by assumption) ?_ | refine wpAnyH_take (i := 31) (oi := ⟨some 71, _, _, _, _, _⟩) (v := ?_) rfl (by kernel_rfl) (by kernel_rfl) (by decide +kernel) (fun _ _ _ h => h) (Or.inl ⟨by rfl, fun w hSw => ?_⟩) (by assumption) ?_ | refine wpAnyH_take (i := 32) (oi := ⟨some 72, _, _, _, _, _⟩) (v := ?_) rfl (by kernel_rfl) (by kernel_rfl) (by decide +kernel) (fun _ _ _ h => h) (Or.inl ⟨by rfl, fun w hSw => ?_⟩) (by assumption) ?_); rotate_left 1; (next => ((try dsimp only at hSw); go_simp; first | done | with_reducible rfl)); (try simp only [Act.put, List.setIfInBounds_toArray, List.set_cons_zero, List.set_cons_succ]))
      refine wpAnyH_done (by kernel_rfl) ?_ _
      go_wp2_with fail
      go_roundw
      case rel => exact ⟨k + 1, F5, by omega, by go_num, Lib.hid (by rw [HST.out]; exact ⟨H6.out.kept (kept_trans HB7.out HB8.out), R6.out.kept (kept_trans HB7.out HB8.out), P4D.out.up⟩)⟩
      case measure => simp [intOf]; omega
    · obtain ⟨L, hL⟩ : ∃ L, runJ (l.take k) = L := ⟨_, rfl⟩
      have hlen := runJ_lenk l k
      have H' := H.out
      rw [hL] at H' hlen
      have HL := Lib.hid H'
      clear H H' hL
      go_wp2_with fail
      refine (hj_acceptG w F R L _ HL.out.one (by omega) nod none 0 (fun i hi => absurd hi (by simp [nod])) (fun bb o hne => absurd rfl hne) 1 L (acceptL_one (by decide))).mono ?_
      rintro e w3 ⟨rfl, F3, h3, _⟩
      have H3 := Lib.hid h3
      clear h3
      go_wp2_with fail
      go_ret
      exact ⟨rfl, H3.out.below⟩
end Go.Proofs.Ytihbcgdbennegaa
