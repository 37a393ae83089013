/-
  The walk of HomeFair.
-/
import Derived.Test.YtodhkphjlcjdoaaFairMath
import Derived.Test.YtodhkphjlcjdoaaRest
namespace Go.Proofs.Ytodhkphjlcjdoaa
open Go.RowKit Go.Maps

theorem opBox_same {Z : Nat → Prop} {w w' : World} {n : Nat} {q : OpH} (h : OpHCells w n 0 q) (hs : SameZ Z w w') (hz : Z n) : OpHCells w' n 0 q := by
  obtain ⟨c0, c1, c2, c3, c4, c5, c6, c7, c8⟩ := h
  exact ⟨hs.cell hz c0, hs.cell hz c1, hs.cell hz c2, hs.cell hz c3, hs.cell hz c4, hs.cell hz c5, hs.cell hz c6, hs.cell hz c7, hs.cell hz c8⟩
theorem rest8 (p : Int) : ∃ m : Nat, p % 8 = m ∧ m < 8 := ⟨(p % 8).toNat, by omega, by omega⟩
/-- What the law holds: the pool, and the modest peer's usage. -/
def FairAt (w wr : World) (R pn : Nat) (z n : Int) : Prop := ∃ L, Held w wr noZ R L ∧ usageL L pn = (z, n)
set_option maxRecDepth 20000 in
set_option maxHeartbeats 2000000 in
theorem homeFair_walk (l : List OpH) (a : Option Addr) (cap : Nat) (peer : Int) (hm : l.length ≤ maxLen) (_ : -9223372036854775808 ≤ peer ∧ peer ≤ 9223372036854775807) (w : World) (hi : OpsHAt w a l) :
    Calls Try.prog 6 #[.slice a l.length cap, .int .i64 peer] w fun e w' => e = .returned (.bool true) ∧ Below w.heap.size w w' := by
  have HI := Lib.hid hi
  unfold maxLen at hm
  obtain ⟨pn, hpn, hp8⟩ := rest8 peer
  have HPN := Lib.hid hpn
  clear hi hpn
  go_enter Try.func6, Try.ntmps6
  go_wp2_with fail
  with_reducible refine (housed_any w).mono ?_
  rintro e w1 ⟨rfl, hb1⟩
  have HB1 := Lib.hid hb1
  clear hb1
  go_wp2_with fail
  with_reducible refine (rest_is peer 8 pn w1 (by omega) (by omega) HPN.out).mono ?_
  rintro e w2 ⟨rfl, rfl⟩
  go_wp2_with fail
  with_reducible refine (hd_new w w1 HB1.out noZ (there_no w1)).mono ?_
  rintro e w2 ⟨R, rfl, h2, _⟩
  have H2 : Hid (FairAt w w2 R pn 0 0) := Lib.hid ⟨[], h2, rfl⟩
  clear h2
  go_wp2_with fail
  go_loopw [6, 7, 25] (fun vn vz vi wr => ∃ (k : Nat) (n z : Int), k ≤ l.length ∧ vi = .int .i64 k ∧ vn = .int .i64 n ∧ vz = .int .i64 z ∧ 0 ≤ n ∧ n ≤ 3 ∧ 0 ≤ z ∧ z ≤ 375 ∧ Hid (FairAt w wr R pn z n)) (fun _ _ i _ => l.length - (intOf i).toNat)
  case atStart => exact ⟨0, 0, 0, Nat.zero_le _, rfl, rfl, rfl, by omega, by omega, by omega, by omega, H2⟩
  case round =>
    clear H2
    obtain ⟨k, n, z, hk, rfl, rfl, rfl, hn0, hn3, hz0, hz1, HF⟩ := hrel
    obtain ⟨L, h, hu⟩ := HF.out
    by_cases hkl : k < l.length
    · obtain ⟨g, o, rfl, hg, hc9⟩ := opsH_at HI.out h.below k hkl
      obtain ⟨_, hfi, _, hwf⟩ := (HI.out k hkl).2
      have hwb := bounds_i64 hwf
      obtain ⟨q, hq⟩ : ∃ q, l[k] = q := ⟨_, rfl⟩
      rw [hq] at hc9 hfi hwb
      obtain ⟨qk, qp, qn, qi, qf, qa, qc, qd⟩ := q
      obtain ⟨c0, c1, c2, c3, c4, c5, c6, c7, c8⟩ := hc9
      simp only at c0 c1 c2 c3 c4 c5 c6 c7 c8 hfi hwb
      have HFI := Lib.hid hfi
      have HNX := Lib.hid (h.new (.cells #[.int .i64 qk, .int .i64 qp, .int .i64 qn, .int .u64 qi.toNat, .bool qf, .slice qa qd.ins.length qc, .int .i64 qd.outs, .int .i64 qd.weight, .int .i64 qd.fee] 34))
      have HK : Hid (FairAt w (wr.alloc (.cells #[.int .i64 qk, .int .i64 qp, .int .i64 qn, .int .u64 qi.toNat, .bool qf, .slice qa qd.ins.length qc, .int .i64 qd.outs, .int .i64 qd.weight, .int .i64 qd.fee] 34)) R pn z n) := Lib.hid ⟨L, h.kept (kept_new _ _), hu⟩
      have HU := Lib.hid hu
      have HGD := Lib.hid h.good
      have HBX : Hid (OpHCells (wr.alloc (.cells #[.int .i64 qk, .int .i64 qp, .int .i64 qn, .int .u64 qi.toNat, .bool qf, .slice qa qd.ins.length qc, .int .i64 qd.outs, .int .i64 qd.weight, .int .i64 qd.fee] 34)) wr.heap.size 0 ⟨qk, qp, qn, qi, qf, qa, qc, qd⟩) := Lib.hid ⟨by simp [go_sem], by simp [go_sem], by simp [go_sem], by simp [go_sem], by simp [go_sem], by simp [go_sem], by simp [go_sem], by simp [go_sem], by simp [go_sem]⟩
      obtain ⟨m, hm8, hml⟩ := rest8 qp
      have HM8 := Lib.hid hm8
      clear hq hfi hwf h hu hm8
      by_cases k0 : qk = 0
      · subst k0
        go_wp2_with fail
        with_reducible refine (rest_is qp 8 m _ (by omega) (by omega) HM8.out).mono ?_
        rintro e w3 ⟨rfl, rfl⟩
        by_cases hmp : m = pn
        · subst hmp
          by_cases h3 : n = 3
          · subst h3
            go_wp2_with fail
            go_roundw
            case rel => exact ⟨k + 1, 3, z, by omega, by go_num, rfl, rfl, by omega, by omega, by omega, by omega, HK⟩
            case measure => simp [intOf]; omega
          · have hb3 : (n == 3) = false := beq_eq_false_iff_ne.2 h3
            by_cases hd : checkD qd = 0
            · have hwt := (check_ok hd).2.2.2.2.1
              have HD := Lib.hid hd
              obtain ⟨hw0, hw1⟩ := hwt
              clear hd hwb
              by_cases hgt : z + qd.weight > 375
              · go_wp2_with fail
                go_roundw
                case rel => exact ⟨k + 1, n, z, by omega, by go_num, rfl, rfl, by omega, by omega, by omega, by omega, HK⟩
                case measure => simp [intOf]; omega
              · cases hs : (deedOf L qi).isSome with
                | true =>
                  have HS := Lib.hid hs
                  clear hs
                  go_wp2_with fail
                  with_reducible refine (hd_has w _ R L _ HNX.out qi true HS.out).mono ?_
                  rintro e w4 ⟨rfl, hb4⟩
                  have HK4 : Hid (FairAt w w4 R m z n) := Lib.hid ⟨L, (HNX.out.kept hb4).less (fun k h => h.elim), HU.out⟩
                  clear hb4
                  go_wp2_with fail
                  go_roundw
                  case rel => exact ⟨k + 1, n, z, by omega, by go_num, rfl, rfl, by omega, by omega, by omega, by omega, HK4⟩
                  case measure => simp [intOf]; omega
                | false =>
                  have HS := Lib.hid hs
                  have hnone : deedOf L qi = none := by simpa using hs
                  obtain ⟨o1, o2⟩ := fair_own HGD.out hml HD.out hnone (by rw [HU.out]; show z + qd.weight ≤ 375; omega) (by rw [HU.out]; show n + 1 ≤ 3; omega)
                  rw [HU.out] at o2
                  have HA := Lib.hid o1
                  have HU2 : Hid (usageL (room (newL L m qi qd)) m = (z + qd.weight, n + 1)) := Lib.hid o2
                  have HUC : Hid (usageC (room (newL L m qi qd)) m = (z + qd.weight, n + 1, 0)) := Lib.hid (by rw [usageC_at hml, o2])
                  clear hs hnone o1 o2
                  go_wp2_with fail
                  with_reducible refine (hd_has w _ R L _ HNX.out qi false HS.out).mono ?_
                  rintro e w4 ⟨rfl, hb4⟩
                  have H4 := Lib.hid (HNX.out.kept hb4)
                  have hbx4 := opHCells_kept hb4 HBX.out
                  have HBX4 := Lib.hid hbx4
                  obtain ⟨b0, b1, b2, b3, b4, b5, b6, b7, b8⟩ := hbx4
                  have hs4 := (cell_spot b0).2
                  clear hb4
                  go_wp2_with fail
                  with_reducible refine (hd_add_is w _ R L w4 H4.out m qi qd qa qc HFI.out true 0 _ HA.out).mono ?_
                  rintro e w5 ⟨rfl, h5, s5⟩
                  have H5 := Lib.hid h5
                  obtain ⟨d0, d1, d2, d3, d4, d5, d6, d7, d8⟩ := opBox_same HBX4.out s5 (.inr rfl)
                  have hs5 := (cell_spot d0).2
                  clear h5 s5 b0 b1 b2 b3 b4 b5 b6 b7 b8
                  go_wp2_with fail
                  with_reducible refine (hd_usage w _ R _ w5 H5.out m (z + qd.weight) (n + 1) 0 HUC.out).mono ?_
                  rintro e w8 ⟨rfl, hb8⟩
                  have H8 := Lib.hid ((H5.out.kept hb8).less (Z' := noZ) (fun k h => h.elim))
                  clear hb8
                  have hzz : ((z + qd.weight) != (z + qd.weight)) = false := by simp
                  have hnn : ((n + 1) != (n + 1)) = false := by simp
                  go_wp2_with fail
                  go_roundw
                  case rel => exact ⟨k + 1, (n + 1), (z + qd.weight), by omega, by go_num, rfl, rfl, by omega, by omega, by omega, by omega, Lib.hid ⟨_, H8.out, HU2.out⟩⟩
                  case measure => simp [intOf]; omega
            · have HD := Lib.hid hd
              obtain ⟨r, hr⟩ : ∃ r, checkD qd = r := ⟨_, rfl⟩
              have HA := Lib.hid (addC_bad (L := L) hml qi hd)
              rw [hr] at HA hd
              have hne : (r == 0) = false := beq_eq_false_iff_ne.2 hd
              have HUC : Hid (usageC L m = (z, n, 0)) := Lib.hid (by rw [usageC_at hml, HU.out])
              clear hr hd
              by_cases hgt : wrap64 (z + qd.weight) > 375
              · go_wp2_with fail
                go_roundw
                case rel => exact ⟨k + 1, n, z, by omega, by go_num, rfl, rfl, by omega, by omega, by omega, by omega, HK⟩
                case measure => simp [intOf]; omega
              · cases hs : (deedOf L qi).isSome with
                | true =>
                  have HS := Lib.hid hs
                  clear hs
                  go_wp2_with fail
                  with_reducible refine (hd_has w _ R L _ HNX.out qi true HS.out).mono ?_
                  rintro e w4 ⟨rfl, hb4⟩
                  have HK4 : Hid (FairAt w w4 R m z n) := Lib.hid ⟨L, (HNX.out.kept hb4).less (fun k h => h.elim), HU.out⟩
                  clear hb4
                  go_wp2_with fail
                  go_roundw
                  case rel => exact ⟨k + 1, n, z, by omega, by go_num, rfl, rfl, by omega, by omega, by omega, by omega, HK4⟩
                  case measure => simp [intOf]; omega
                | false =>
                  have HS := Lib.hid hs
                  clear hs
                  go_wp2_with fail
                  with_reducible refine (hd_has w _ R L _ HNX.out qi false HS.out).mono ?_
                  rintro e w4 ⟨rfl, hb4⟩
                  have H4 := Lib.hid (HNX.out.kept hb4)
                  obtain ⟨b0, b1, b2, b3, b4, b5, b6, b7, b8⟩ := opHCells_kept hb4 HBX.out
                  have hs4 := (cell_spot b0).2
                  clear hb4
                  go_wp2_with fail
                  with_reducible refine (hd_add_is w _ R L w4 H4.out m qi qd qa qc HFI.out false r L HA.out).mono ?_
                  rintro e w5 ⟨rfl, h5, _⟩
                  have H5 := Lib.hid h5
                  clear h5 b0 b1 b2 b3 b4 b5 b6 b7 b8
                  go_wp2_with fail
                  with_reducible refine (hd_usage w _ R _ w5 H5.out m z n 0 HUC.out).mono ?_
                  rintro e w8 ⟨rfl, hb8⟩
                  have H8 := Lib.hid ((H5.out.kept hb8).less (Z' := noZ) (fun k h => h.elim))
                  clear hb8
                  have hzz : (z != z) = false := by simp
                  have hnn : (n != n) = false := by simp
                  go_wp2_with fail
                  go_roundw
                  case rel => exact ⟨k + 1, n, z, by omega, by go_num, rfl, rfl, by omega, by omega, by omega, by omega, Lib.hid ⟨_, H8.out, HU.out⟩⟩
                  case measure => simp [intOf]; omega
        · have hmi : ((m : Int) == (pn : Int)) = false := beq_eq_false_iff_ne.2 (by omega)
          have hfo := fair_other HGD.out hml hmp (by unfold Modest; rw [HU.out]; exact ⟨hz1, hn3⟩) qi qd
          rw [HU.out] at hfo
          obtain ⟨s, r, L1, hA⟩ : ∃ s r L1, addC L m qi qd = ((s, r), L1) := ⟨_, _, _, rfl⟩
          rw [hA] at hfo
          have HA := Lib.hid hA
          have HU2 : Hid (usageL L1 pn = (z, n)) := Lib.hid hfo
          have HUC : Hid (usageC L1 pn = (z, n, 0)) := Lib.hid (by rw [usageC_at hp8, HU2.out])
          clear hA hfo
          go_wp2_with fail
          with_reducible refine (hd_add_is w _ R L _ HNX.out m qi qd qa qc HFI.out s r L1 HA.out).mono ?_
          rintro e w5 ⟨rfl, h5, _⟩
          have H5 := Lib.hid h5
          clear h5
          go_wp2_with fail
          with_reducible refine (hd_usage w _ R _ w5 H5.out pn z n 0 HUC.out).mono ?_
          rintro e w8 ⟨rfl, hb8⟩
          have H8 := Lib.hid ((H5.out.kept hb8).less (Z' := noZ) (fun k h => h.elim))
          clear hb8
          have hzz : (z != z) = false := by simp
          have hnn : (n != n) = false := by simp
          go_wp2_with fail
          go_roundw
          case rel => exact ⟨k + 1, n, z, by omega, by go_num, rfl, rfl, by omega, by omega, by omega, by omega, Lib.hid ⟨_, H8.out, HU2.out⟩⟩
          case measure => simp [intOf]; omega
      · go_wp2_with fail
        go_roundw
        case rel => exact ⟨k + 1, n, z, by omega, by go_num, rfl, rfl, by omega, by omega, by omega, by omega, HK⟩
        case measure => simp [intOf]; omega
    · have HB := Lib.hid h.below
      clear h hu
      go_wp2_with fail
      go_ret
      exact ⟨rfl, HB.out⟩
end Go.Proofs.Ytodhkphjlcjdoaa
