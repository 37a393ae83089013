/-
  The walk of HomeChildren.
-/
import Derived.Test.YtodhkphjlcjdoaaHomeK
namespace Go.Proofs.Ytodhkphjlcjdoaa
open Go.RowKit Go.Maps

variable {L : List LinkD} {n : Nat}

theorem any_take {α : Type} {q : α → Bool} {l : List α} {k : Nat} (h : k < l.length) : (l.take (k + 1)).any q = ((l.take k).any q || q l[k]) := by
  rw [List.take_succ_eq_append_getElem h, List.any_append]
  simp
theorem child_has {ks : List UInt64} (hk : allL L = ks) {k : Nat} (h : k < ks.length) (x : UInt64) {d : DeedD} (hd : deedOf L ks[k] = some d) : (childL L x).contains ks[k] = spendsD d x := by
  rw [Bool.eq_iff_iff, List.contains_iff_mem]
  unfold childL
  rw [hk, List.mem_filter, hd]
  simp
theorem nodup_before {ks : List UInt64} (hn : ks.Nodup) {k : Nat} (h : k < ks.length) : (ks.take k).contains ks[k] = false := by
  rw [← Bool.not_eq_true, List.contains_iff_mem]
  intro hm
  obtain ⟨j, hj, e⟩ := List.mem_take_iff_getElem.1 hm
  exact (List.pairwise_iff_getElem.1 hn) j k (by omega) h (by omega) e
set_option maxRecDepth 20000 in
set_option maxHeartbeats 1000000 in
theorem homeChildren_walk (l : List OpH) (a : Option Addr) (cap : Nat) (id : UInt64) (hm : l.length ≤ maxLen) (w : World) (hi : OpsHAt w a l) :
    Calls Try.prog 7 #[.slice a l.length cap, .int .u64 id.toNat] w fun e w' => e = .returned (.bool true) ∧ Below w.heap.size w w' := by
  have HI := Lib.hid hi
  have HM := Lib.hid hm
  clear hi hm
  go_enter Try.func7, Try.ntmps7
  go_wp2_with fail
  with_reducible refine (housed_any w).mono ?_
  rintro e w1 ⟨rfl, hb1⟩
  go_wp2_with fail
  with_reducible refine (kept_any w l a cap HM.out HI.out w1 hb1).mono ?_
  rintro e w2 ⟨R, rfl, h2⟩
  obtain ⟨L, hL⟩ : ∃ L, runC l = L := ⟨_, rfl⟩
  rw [hL] at h2
  have H2 := Lib.hid h2
  clear h2 hL hb1
  go_wp2_with fail
  with_reducible refine (hd_all w _ R L w2 H2.out).mono ?_
  rintro e w3 ⟨a3, c3, rfl, ho3, hb3⟩
  obtain ⟨a5, k5, e5, hc3, hids, _⟩ := owns_idsAt ho3
  simp only [Value.slice.injEq] at e5
  obtain ⟨rfl, _, rfl⟩ := e5
  have H3 := Lib.hid (H2.out.kept hb3)
  have HID3 := Lib.hid hids
  clear ho3 hids hb3
  go_wp2_with fail
  with_reducible refine (hd_children w _ R L w3 H3.out id).mono ?_
  rintro e w4 ⟨a4, c4, rfl, ho4, hb4⟩
  obtain ⟨a6, k6, e6, _, hids4, _⟩ := owns_idsAt ho4
  simp only [Value.slice.injEq] at e6
  obtain ⟨rfl, _, rfl⟩ := e6
  have H4 := Lib.hid (H3.out.kept hb4)
  have HCH := Lib.hid hids4
  have HAL := Lib.hid (idsAt_kept hb4 HID3.out)
  have hal := Nat.le_trans (allL_len L) H2.out.good.len
  have hch : (childL L id).length ≤ (allL L).length := List.length_filter_le _ _
  have HND := Lib.hid (allL_nodup L)
  obtain ⟨ks, hks⟩ : ∃ ks, allL L = ks := ⟨_, rfl⟩
  obtain ⟨cs, hcs⟩ : ∃ cs, childL L id = cs := ⟨_, rfl⟩
  have HKS := Lib.hid hks
  have HCS := Lib.hid hcs
  rw [hks] at HAL HND hal hch hc3 ⊢
  rw [hcs] at HCH hch ⊢
  have hch24 : cs.length ≤ 24 := by omega
  clear ho4 hids4 hb4 hks hcs HID3 H3 H2
  go_wp2_with fail
  go_loopw [28] (fun vi wr => ∃ k : Nat, k ≤ ks.length ∧ vi = .int .i64 k ∧ Hid (Below w4.heap.size w4 wr)) (fun i _ => ks.length - (intOf i).toNat)
  case atStart => exact ⟨0, Nat.zero_le _, rfl, Lib.hid (Below.refl _ _)⟩
  case round =>
    obtain ⟨k, hk, rfl, HB⟩ := hrel
    by_cases hkl : k < ks.length
    · have HB0 := Lib.hid (nodup_before HND.out hkl)
      have hsome : (deedOf L ks[k]).isSome = true := (allL_some _).2 (by rw [HKS.out]; exact List.getElem_mem hkl)
      obtain ⟨d, hd⟩ := Option.isSome_iff_exists.1 hsome
      have hct := child_has HKS.out hkl id hd
      rw [HCS.out] at hct
      have HCT := Lib.hid hct
      obtain ⟨g, o, rfl, hg, cx⟩ := idsAt_kept HB.out HAL.out k hkl
      obtain ⟨x, hx⟩ : ∃ x, ks[k] = x := ⟨_, rfl⟩
      rw [hx] at cx hd HB0 HCT
      have HD := Lib.hid hd
      have HSM : Hid ((deedOf L x).isSome = true) := Lib.hid (by rw [hd]; rfl)
      have H5 := Lib.hid (H4.out.kept HB.out)
      clear hsome hx hd hct
      go_wp2_with fail
      with_reducible refine (hd_deed w _ R L wr H5.out x).mono ?_
      rintro e w5 ⟨a5, k5, rfl, hl8, _, hi5, hb5⟩
      rw [HD.out] at hl8 hi5 ⊢
      simp only [Option.getD_some, Option.isSome_some, if_true] at hl8 hi5 ⊢
      have HI5 := Lib.hid (insAt_kept (kept_new w5 (.cells #[.slice a5 d.ins.length k5, .int .i64 d.outs, .int .i64 d.weight, .int .i64 d.fee] 32)) hi5)
      have HB5 := Lib.hid (kept_trans HB.out (kept_trans hb5 (kept_new w5 (.cells #[.slice a5 d.ins.length k5, .int .i64 d.outs, .int .i64 d.weight, .int .i64 d.fee] 32))))
      obtain ⟨wY, hwY⟩ : ∃ x, w5.alloc (.cells #[.slice a5 d.ins.length k5, .int .i64 d.outs, .int .i64 d.weight, .int .i64 d.fee] 32) = x := ⟨_, rfl⟩
      rw [hwY] at HI5 HB5
      have HWY := Lib.hid hwY
      clear hb5 hi5 hwY
      obtain ⟨wB, hwB⟩ : ∃ x, x = wr := ⟨_, rfl⟩
      subst hwB
      go_wp2_with fail
      rw [HWY.out]
      go_loopw [12, 42] (fun vs vj wr => ∃ j : Nat, j ≤ d.ins.length ∧ vj = .int .i64 j ∧ vs = .bool ((d.ins.take j).any fun e => e.1 == id) ∧ Hid (Below wY.heap.size wY wr)) (fun _ j _ => d.ins.length - (intOf j).toNat)
      case atStart => exact ⟨0, Nat.zero_le _, rfl, rfl, Lib.hid (Below.refl _ _)⟩
      case round =>
        obtain ⟨j, hj, rfl, rfl, HQ⟩ := hrel
        by_cases hjl : j < d.ins.length
        · obtain ⟨g2, o2, rfl, hg2, e0, e1, _⟩ := insAt_kept HQ.out HI5.out j hjl
          have HAN : Hid ((d.ins.take (j + 1)).any (fun e => e.1 == id) = ((d.ins.take j).any (fun e => e.1 == id) || d.ins[j].1 == id)) := Lib.hid (any_take hjl)
          have hq : ((d.ins[j].1.toNat : Int) == (id.toNat : Int)) = (d.ins[j].1 == id) := u64_beq _ _
          cases hs : (d.ins.take j).any fun e => e.1 == id with
          | true =>
            rw [hs] at HAN
            clear hs
            go_wp2_with fail
            go_roundw
            case rel => exact ⟨j + 1, by omega, by go_num, by rw [HAN.out]; rfl, Lib.hid (kept_alloc HQ.out _)⟩
            case measure => simp [intOf]; omega
          | false =>
            rw [hs] at HAN
            clear hs
            go_wp2_with fail
            go_roundw
            case rel => exact ⟨j + 1, by omega, by go_num, by rw [HAN.out]; rfl, Lib.hid (kept_alloc HQ.out _)⟩
            case measure => simp [intOf]; omega
        · have he : (d.ins.take j).any (fun e => e.1 == id) = spendsD d id := by
            rw [List.take_of_length_le (by omega)]
            rfl
          rw [he]
          obtain ⟨sp, hsp⟩ : ∃ s, spendsD d id = s := ⟨_, rfl⟩
          rw [hsp] at HCT ⊢
          have HB6 := Lib.hid (kept_trans HB5.out HQ.out)
          have H6 := Lib.hid (H4.out.kept HB6.out)
          have hji : ¬ (j : Int) < d.ins.length := by omega
          clear he hsp
          go_wp2_with fail
          with_reducible refine (hd_has w _ R L wr H6.out x true HSM.out).mono ?_
          rintro e w7 ⟨rfl, hb7⟩
          have HB7 := Lib.hid (kept_trans HB6.out hb7)
          clear hb7
          go_wp2_with fail
          refine (hasID_take ks k false x _ _ _ (by omega) (by unfold maxLen; omega) (idsAt_kept HB7.out HAL.out) HB0.out).mono ?_
          rintro e w8 ⟨rfl, rfl⟩
          go_wp2_with fail
          refine (hasID_any cs x sp HCT _ _ _ (by unfold maxLen; omega) (idsAt_kept HB7.out HCH.out)).mono ?_
          rintro e w9 ⟨rfl, rfl⟩
          have hss : (sp != sp) = false := by simp
          go_wp2_with fail
          go_roundw
          case rel => exact ⟨k + 1, by omega, by go_num, HB7⟩
          case measure => simp [intOf]; omega
    · go_wp2_with fail
      go_ret
      exact ⟨ret_bool (by simp), kept_trans H4.out.below HB.out⟩
end Go.Proofs.Ytodhkphjlcjdoaa
