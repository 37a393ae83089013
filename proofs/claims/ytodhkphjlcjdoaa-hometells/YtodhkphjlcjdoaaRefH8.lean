/-
  The reference's Children.
-/
import Derived.Test.YtodhkphjlcjdoaaRefH
namespace Go.Proofs.Ytodhkphjlcjdoaa
open Go.RowKit Go.Maps

variable {w w' : World} {G : Nat → Prop} {B : Nat} {rs : List LR} {v : Value} {n : Nat}

/-- The children among the first links. -/
def chR (rs : List LR) (x : UInt64) (k : Nat) : List UInt64 := (allL (lOf (rs.take k))).filter fun y => spendsD ((deedOf (lOf rs) y).getD nod) x
theorem chR_step (hg : GoodL n (lOf rs)) (x : UInt64) {k : Nat} (h : k < rs.length) : chR rs x (k + 1) = if (allL (lOf (rs.take k))).contains rs[k].l.id then chR rs x k else chR rs x k ++ if spendsD rs[k].l.d x then [rs[k].l.id] else [] := by
  unfold chR
  rw [allR_step h]
  split
  · rfl
  · rw [List.filter_append]
    congr 1
    have e : (deedOf (lOf rs) rs[k].l.id).getD nod = rs[k].l.d := by rw [deedOf_mem hg (mem_lOf h)]; rfl
    rw [List.filter_cons, List.filter_nil, e]
theorem chR_len (rs : List LR) (x : UInt64) (k : Nat) : (chR rs x k).length ≤ k := Nat.le_trans (List.length_filter_le _ _) (allR_len rs k)
theorem chR_all (rs : List LR) (x : UInt64) {k : Nat} (h : rs.length ≤ k) : chR rs x k = childL (lOf rs) x := by
  unfold chR
  rw [List.take_of_length_le h]
  rfl
theorem any_take_step {l : List InD} {x : UInt64} {m : Nat} (h : m < l.length) (h0 : (l.take m).any (fun e => e.1 == x) = false) (h1 : (l[m].1 == x) = false) : (l.take (m + 1)).any (fun e => e.1 == x) = false := by
  rw [List.take_succ_eq_append_getElem h, List.any_append, h0]
  simp [h1]
theorem any_here {l : List InD} {x : UInt64} {m : Nat} (h : m < l.length) (h1 : (l[m].1 == x) = true) : l.any (fun e => e.1 == x) = true := List.any_eq_true.2 ⟨l[m], List.getElem_mem h, h1⟩
set_option maxRecDepth 20000 in
set_option maxHeartbeats 1000000 in
theorem refChildren_any (x : UInt64) (w : World) (h : RefAt w G B rs v) (hl : rs.length ≤ 1000) (hg : GoodL n (lOf rs)) :
    Calls Try.prog 25 #[.pointer (some ⟨B, 0, none⟩), .int .u64 x.toNat] w (GaveIds w (childL (lOf rs) x)) := by
  have H := Lib.hid h
  have HG := Lib.hid hg
  obtain ⟨a, cap, rfl, hcap, hat, -⟩ := ownR_form h.row
  have HAT := Lib.hid hat
  have hlc := h.cell.1
  have hlt := h.lt
  clear h hat hg
  go_enter Try.func25, Try.ntmps25
  go_wp2_with fail
  go_loopw [5, 15] (fun vi i wr => ∃ k : Nat, k ≤ rs.length ∧ i = .int .i64 k ∧ Hid (OwnIds wr w.heap.size vi (chR rs x k)) ∧ Hid (Below w.heap.size w wr)) (fun _ i _ => rs.length - (intOf i).toNat)
  case atStart => exact ⟨0, Nat.zero_le _, rfl, Lib.hid (ownIds_nil _ _), Lib.hid (Below.refl _ _)⟩
  case round =>
    obtain ⟨k, hk, rfl, HO, HB⟩ := hrel
    rename_i u5
    by_cases hkl : k < rs.length
    · obtain ⟨g, o, rfl, hgl, c0, c1, c2, c3, c4, c5⟩ := lrsAt_kept HB.out HAT.out k hkl
      have hst := chR_step HG.out x hkl
      have hfh := first_here hkl
      have hlen := chR_len rs x k
      have hin := (H.out.kept HB.out).ins _ (List.getElem_mem hkl)
      have hi8 := (check_ok (HG.out.fine _ (mem_lOf hkl))).1
      obtain ⟨e0, he0⟩ : ∃ e0, rs[k] = e0 := ⟨_, rfl⟩
      rw [he0] at c0 c1 c2 c3 c4 c5 hst hfh hin hi8
      have hb1 := kept_new wr (.cells #[.int .i64 e0.l.peer, .int .u64 e0.l.id.toNat, .slice e0.ia e0.l.d.ins.length e0.ic, .int .i64 e0.l.d.outs, .int .i64 e0.l.d.weight, .int .i64 e0.l.d.fee] 73)
      have HB1 := Lib.hid hb1
      have HIN := Lib.hid hin.1
      have H1 := Lib.hid (H.out.kept (kept_trans HB.out hb1))
      clear he0 hb1 hin
      cases hq : (allL (lOf (rs.take k))).contains e0.l.id with
      | true =>
        rw [hq] at hst hfh
        simp only [Bool.not_true, if_true] at hst hfh
        have HST := Lib.hid hst
        clear hst hq
        go_wp2_with fail
        with_reducible refine (refAt_any e0.l.id _ H1.out hl).mono ?_
        rintro e w2 ⟨rfl, hb2⟩
        have hb12 := kept_trans HB1.out hb2
        have HO2 := Lib.hid (owns_below HO.out hb12)
        have HB2 := Lib.hid (kept_trans HB.out hb12)
        obtain ⟨i, hi⟩ : ∃ i, firstAt (fun e : LR => e.l.id == e0.l.id) rs = i := ⟨_, rfl⟩
        rw [hi] at hfh ⊢
        have hfn : (i != (k : Int)) = true := by rw [bne, hfh]; rfl
        clear hb2 hb12 hi
        go_wp2_with fail
        go_roundw
        case rel => exact ⟨k + 1, by omega, by go_num, Lib.hid (by rw [HST.out]; exact HO2.out), HB2⟩
        case measure => simp [intOf]; omega
      | false =>
        rw [hq] at hst hfh
        simp only [Bool.not_false, Bool.false_eq_true, if_false] at hst hfh
        have HST := Lib.hid hst
        clear hst hq
        go_wp2_with fail
        with_reducible refine (refAt_any e0.l.id _ H1.out hl).mono ?_
        rintro e w2 ⟨rfl, hb2⟩
        have hb12 := kept_trans HB1.out hb2
        have HO2 := Lib.hid (owns_below HO.out hb12)
        have HB2 := Lib.hid (kept_trans HB.out hb12)
        have HI2 := Lib.hid (insAt_kept hb12 HIN.out)
        have HD2 : Hid (LRAt w2 wr.heap.size 0 e0) := Lib.hid (lrAt_kept hb2 ⟨by simp [go_sem], by simp [go_sem], by simp [go_sem], by simp [go_sem], by simp [go_sem], by simp [go_sem]⟩)
        obtain ⟨d0, d1, d2, d3, d4, d5⟩ := HD2.out
        have hs2 := (cell_spot d0).2
        obtain ⟨i, hi⟩ : ∃ i, firstAt (fun e : LR => e.l.id == e0.l.id) rs = i := ⟨_, rfl⟩
        rw [hi] at hfh ⊢
        have hfn : (i != (k : Int)) = false := by rw [bne, hfh]; rfl
        obtain ⟨n0, hn0⟩ : ∃ n0, n0 = wr.heap.size := ⟨_, rfl⟩
        rw [← hn0] at HD2 d0 d1 d2 d3 d4 d5 hs2 ⊢
        clear hb2 hb12 hi HIN HB1 H1 hn0 HO HB
        go_wp2_with fail
        go_loopw [5, 30] (fun v5 j wr => ∃ m : Nat, m ≤ e0.l.d.ins.length ∧ j = .int .i64 m ∧ v5 = u5 ∧ Hid ((e0.l.d.ins.take m).any (fun e => e.1 == x) = false) ∧ Hid (Below w2.heap.size w2 wr)) (fun _ j _ => e0.l.d.ins.length - (intOf j).toNat)
        case atStart => exact ⟨0, Nat.zero_le _, rfl, rfl, Lib.hid rfl, Lib.hid (Below.refl _ _)⟩
        case round =>
          obtain ⟨m, hm, rfl, rfl, NO, HQ⟩ := hrel
          by_cases hml : m < e0.l.d.ins.length
          · obtain ⟨b3, o3, ea3, hb3, q0, q1, q2⟩ := insAt_kept HQ.out HI2.out m hml
            have hqx : ((e0.l.d.ins[m].1.toNat : Int) == (x.toNat : Int)) = (e0.l.d.ins[m].1 == x) := u64_beq _ _
            have HST2 : Hid ((e0.l.d.ins[m].1 == x) = false → (e0.l.d.ins.take (m + 1)).any (fun e => e.1 == x) = false) := Lib.hid (fun h1 => any_take_step hml NO.out h1)
            have HYE : Hid ((e0.l.d.ins[m].1 == x) = true → spendsD e0.l.d x = true) := Lib.hid (fun h1 => any_here hml h1)
            obtain ⟨y, hy⟩ : ∃ y, e0.l.d.ins[m] = y := ⟨_, rfl⟩
            rw [hy] at q0 q1 hqx HST2 HYE
            have hbX := kept_new wr (.cells #[.int .u64 y.1.toNat, .int .i64 y.2] 50)
            have HBX := Lib.hid (kept_trans HQ.out hbX)
            have HOX := Lib.hid (owns_below HO2.out (kept_trans HQ.out hbX))
            obtain ⟨r0, r1, r2, r3, r4, r5⟩ := lrAt_kept (kept_trans HQ.out hbX) HD2.out
            have hsX := (cell_spot r0).2
            rw [ea3]
            clear hy hbX ea3 q2
            cases hyx : y.1 == x with
            | true =>
              rw [hyx] at hqx HYE
              have HY := Lib.hid (HYE.out rfl)
              clear hyx HST2 HYE
              go_wp2_with (at_builtin; refine append_id rfl _ _ rfl e0.l.id rfl (Eq.trans (b := .slice (some ⟨wr.heap.size + 1, 0, none⟩) 1 1) rfl (by simp)) HOX.out (by omega) (Nat.le_trans HB2.out.size HBX.out.size) ?_; intro g4 cap4 w4 ho4 hg4 hg5)
              have HO4 := Lib.hid ho4
              have HB4 := Lib.hid ((kept_trans HB2.out HBX.out).grown hg5 (Nat.le_trans HB2.out.size HBX.out.size) (fun j hj => (HOX.out.lt j hj).1))
              clear ho4 hg4 hg5
              go_wp2_with fail
              go_roundw
              case rel => exact ⟨k + 1, by omega, by go_num, Lib.hid (by rw [HST.out, HY.out]; simpa using HO4.out), HB4⟩
              case measure => simp [intOf]; omega
            | false =>
              rw [hyx] at hqx HST2
              have HN := Lib.hid (HST2.out rfl)
              clear hyx HST2 HYE
              go_wp2_with fail
              go_roundw
              case rel => exact ⟨m + 1, by omega, by go_num, rfl, HN, HBX⟩
              case measure => simp [intOf]; omega
          · have hno : spendsD e0.l.d x = false := by
              have := NO.out
              rw [List.take_of_length_le (by omega)] at this
              exact this
            have HN := Lib.hid hno
            have HO3 := Lib.hid (owns_below HO2.out HQ.out)
            have HB3 := Lib.hid (kept_trans HB2.out HQ.out)
            clear hno
            go_wp2_with fail
            go_roundw
            case rel => exact ⟨k + 1, by omega, by go_num, Lib.hid (by rw [HST.out, HN.out]; simpa using HO3.out), HB3⟩
            case measure => simp [intOf]; omega
    · have he := chR_all rs x (k := k) (by omega)
      have HO' := HO.out
      rw [he] at HO'
      obtain ⟨a6, cap6, e6, _, _, _⟩ := owns_idsAt HO'
      subst e6
      have HE := Lib.hid HO'
      clear HO' he
      go_wp2_with fail
      go_ret
      exact ⟨a6, cap6, rfl, HE.out, HB.out⟩
end Go.Proofs.Ytodhkphjlcjdoaa
