/-
  The walk of HomeBounds.
-/
import Derived.Test.YtodhkphjlcjdoaaHomeK
namespace Go.Proofs.Ytodhkphjlcjdoaa
open Go.RowKit Go.Maps

variable {L : List LinkD} {n : Nat}

theorem addC_full (hg : GoodL 24 L) {p : Int} {x : UInt64} {d : DeedD} {s : Bool} {L' : List LinkD} (h : addC L p x d = ((s, 0), L')) : fullL L' = false := by
  unfold addC at h
  split at h
  · simp at h
  · split at h
    · rename_i h1
      simp only [Prod.mk.injEq] at h
      exact absurd h.1.2 h1
    · split at h
      · simp at h
      · rename_i h1 h2 h3
        simp only [Prod.mk.injEq] at h
        obtain ⟨m, rfl, hm, hmm⟩ := peer_nat (Classical.not_not.1 h1)
        rw [hmm] at h3 h
        rw [← h.2]
        exact room_fine _ _ rfl (newL_good hg hm (Classical.not_not.1 h2) (fun h => h3 (any_twice.2 h)))
/-- How many links the first peers have. -/
def linksF (u : Nat → Int × Int) (k : Nat) : Int := ((List.range k).map fun p => (u p).2).sum
theorem linksF_step (u : Nat → Int × Int) (k : Nat) : linksF u (k + 1) = linksF u k + (u k).2 := by
  unfold linksF
  rw [List.range_succ, List.map_append, List.sum_append]
  simp
theorem filter_lt_step (k : Nat) : ∀ (L : List LinkD), (L.filter fun l => decide (l.peer < k + 1)).length = (L.filter fun l => decide (l.peer < k)).length + (L.filter fun l => l.peer == k).length
  | [] => rfl
  | a :: r => by
    have ih := filter_lt_step k r
    by_cases h1 : a.peer < k
    · have h2 : a.peer < k + 1 := by omega
      have h3 : (a.peer == k) = false := beq_eq_false_iff_ne.2 (by omega)
      rw [List.filter_cons_of_pos (by simpa using h2), List.filter_cons_of_pos (by simpa using h1), List.filter_cons_of_neg (by rw [h3]; simp)]
      simp only [List.length_cons]
      omega
    · by_cases h2 : a.peer = k
      · rw [List.filter_cons_of_pos (by simp; omega), List.filter_cons_of_neg (by simpa using h1), List.filter_cons_of_pos (by simpa using h2)]
        simp only [List.length_cons]
        omega
      · rw [List.filter_cons_of_neg (by simp; omega), List.filter_cons_of_neg (by simpa using h1), List.filter_cons_of_neg (by simpa using h2)]
        exact ih
theorem linksF_eq (L : List LinkD) (k : Nat) : linksF (usageL L) k = ((L.filter fun l => decide (l.peer < k)).length : Int) := by
  induction k with
  | zero =>
    have : (L.filter fun l => decide (l.peer < 0)) = [] := List.filter_eq_nil_iff.2 fun l _ => by simp
    rw [this]
    rfl
  | succ k ih =>
    rw [linksF_step, ih, filter_lt_step]
    unfold usageL
    simp
theorem linksF_all (hg : GoodL n L) : linksF (usageL L) 8 = L.length := by
  rw [linksF_eq]
  have : (L.filter fun l => decide (l.peer < 8)) = L := List.filter_eq_self.2 fun l hl => by simpa using hg.peer l hl
  rw [this]
theorem linksF_le (L : List LinkD) (k : Nat) : 0 ≤ linksF (usageL L) k ∧ linksF (usageL L) k ≤ L.length := by
  rw [linksF_eq]
  have := List.length_filter_le (fun l : LinkD => decide (l.peer < k)) L
  omega
theorem sumW_take {M : UInt64 → Option DeedD} {ks : List UInt64} {k : Nat} (h : k < ks.length) : sumW M (ks.take (k + 1)) = sumW M (ks.take k) + wI M ks[k] := by
  unfold sumW
  rw [List.take_succ_eq_append_getElem h, List.map_append, List.sum_append]
  simp
theorem wI_bound (hg : GoodL n L) (x : UInt64) : 0 ≤ wI (deedOf L) x ∧ wI (deedOf L) x ≤ 1000 := by
  unfold wI
  cases hx : deedOf L x with
  | none => simp [nod]
  | some d =>
    obtain ⟨l, hl, _, rfl⟩ := deedOf_some hx
    have := (check_ok (hg.fine l hl)).2.2.2.2.1
    simp only [Option.getD_some]
    omega
theorem usage_small (L : List LinkD) (p : Nat) : 0 ≤ (usageL L p).2 ∧ (usageL L p).2 ≤ L.length := by
  have := List.length_filter_le (fun l : LinkD => l.peer == p) L
  unfold usageL
  simp only
  omega
theorem usageC_at {p : Nat} (hp : p < 8) : usageC L p = ((usageL L p).1, (usageL L p).2, 0) := by
  unfold usageC
  rw [if_pos ⟨by omega, by omega⟩]
  rfl
theorem full_not (h : fullL L = false) (hg : GoodL n L) : sumW (deedOf L) (allL L) ≤ 3000 * (peersF (usageL L) 8 : Int) ∧ L.length ≤ 24 := by
  unfold fullL fullF at h
  rw [Bool.or_eq_false_iff] at h
  have h1 := of_decide_eq_false h.1
  have h2 := of_decide_eq_false h.2
  rw [usageL_eq hg] at h1
  rw [lsOf_len] at h2
  omega
/-- A boxed operation. -/
def OpBox (n : Nat) (q : OpH) (w : World) : Prop := OpHCells w n 0 q
set_option maxRecDepth 20000 in
set_option maxHeartbeats 1000000 in
theorem homeBounds_walk (l : List OpH) (a : Option Addr) (cap : Nat) (q : OpH) (hm : l.length ≤ maxLen) (w : World) (hi : OpsHAt w a l) (hq : OpHFine w q) :
    Calls Try.prog 5 #[.slice a l.length cap, .agg #[.int .i64 q.kind, .int .i64 q.peer, .int .i64 q.n, .int .u64 q.id.toNat, .bool q.flag, .slice q.ia q.d.ins.length q.ic, .int .i64 q.d.outs, .int .i64 q.d.weight, .int .i64 q.d.fee]] w fun e w' => e = .returned (.bool true) ∧ Below w.heap.size w w' := by
  have hk := kept_new w (.cells #[.int .i64 q.kind, .int .i64 q.peer, .int .i64 q.n, .int .u64 q.id.toNat, .bool q.flag, .slice q.ia q.d.ins.length q.ic, .int .i64 q.d.outs, .int .i64 q.d.weight, .int .i64 q.d.fee] 34)
  obtain ⟨wX, hwX⟩ : ∃ x, w.alloc (.cells #[.int .i64 q.kind, .int .i64 q.peer, .int .i64 q.n, .int .u64 q.id.toNat, .bool q.flag, .slice q.ia q.d.ins.length q.ic, .int .i64 q.d.outs, .int .i64 q.d.weight, .int .i64 q.d.fee] 34) = x := ⟨_, rfl⟩
  have hbx : OpBox w.heap.size q wX := by
    rw [← hwX]
    exact ⟨by simp [go_sem], by simp [go_sem], by simp [go_sem], by simp [go_sem], by simp [go_sem], by simp [go_sem], by simp [go_sem], by simp [go_sem], by simp [go_sem]⟩
  have hiX : OpsHAt wX a l := fun i h => by
    rw [← hwX]
    obtain ⟨⟨b, o, e, hlt, hc⟩, h1, h2, h3⟩ := hi i h
    exact ⟨⟨b, o, e, Nat.lt_of_lt_of_le hlt hk.size, opHCells_kept hk hc⟩, h1, insAt_kept hk h2, h3⟩
  have hdX : InsAt wX q.ia q.d.ins := hwX ▸ insAt_kept hk hq.2.1
  rw [hwX] at hk
  have HWX := Lib.hid hwX
  have HK := Lib.hid hk
  have HBX := Lib.hid hbx
  have HIX := Lib.hid hiX
  have HDX := Lib.hid hdX
  have HM := Lib.hid hm
  clear hwX hk hbx hiX hdX hm hi hq
  go_enter Try.func5, Try.ntmps5
  go_wp2_with fail
  rw [HWX.out]
  with_reducible refine (housed_any wX).mono ?_
  rintro e w1 ⟨rfl, hb1⟩
  go_wp2_with fail
  with_reducible refine (kept_any wX l a cap HM.out HIX.out w1 hb1).mono ?_
  rintro e w2 ⟨R, rfl, h2⟩
  obtain ⟨L, hL⟩ : ∃ L, runC l = L := ⟨_, rfl⟩
  rw [hL] at h2
  have H2 := Lib.hid h2
  obtain ⟨c0, c1, c2, c3, c4, c5, c6, c7, c8⟩ := opHCells_kept h2.below HBX.out
  have hs2 := (cell_spot c0).2
  obtain ⟨s, r, L1, hA⟩ : ∃ s r L1, addC L q.peer q.id q.d = ((s, r), L1) := ⟨_, _, _, rfl⟩
  have HA := Lib.hid hA
  clear h2 hL hb1 hA
  go_wp2_with fail
  with_reducible refine (hd_add_is wX _ R L w2 H2.out q.peer q.id q.d q.ia q.ic HDX.out s r L1 HA.out).mono ?_
  rintro e w3 ⟨rfl, h3, _⟩
  have H3 := Lib.hid h3
  clear h3
  by_cases hr : r = 0
  · subst hr
    have HF := Lib.hid (addC_full H2.out.good HA.out)
    clear c0 c1 c2 c3 c4 c5 c6 c7 c8 hs2
    go_wp2_with fail
    with_reducible refine (hd_all wX _ R L1 w3 H3.out).mono ?_
    rintro e w4 ⟨a4, k4, rfl, ho4, hb4⟩
    obtain ⟨a5, k5, e5, _, hids, _⟩ := owns_idsAt ho4
    simp only [Value.slice.injEq] at e5
    obtain ⟨rfl, _, rfl⟩ := e5
    have HIDS := Lib.hid hids
    have H4 := Lib.hid (H3.out.kept hb4)
    have hal := Nat.le_trans (allL_len L1) H3.out.good.len
    have hgl := H3.out.good.len
    obtain ⟨ks, hks⟩ : ∃ ks, allL L1 = ks := ⟨_, rfl⟩
    have HKS := Lib.hid hks
    rw [hks] at HIDS hal ⊢
    clear ho4 hids hb4 hks
    go_wp2_with fail
    go_loopw [8, 41] (fun vz vi wr => ∃ (k : Nat) (z : Int), k ≤ ks.length ∧ vz = .int .i64 z ∧ vi = .int .i64 k ∧ 0 ≤ z ∧ z ≤ 1000 * (k : Int) ∧ Hid (z = sumW (deedOf L1) (ks.take k)) ∧ Hid (Below w4.heap.size w4 wr)) (fun _ i _ => ks.length - (intOf i).toNat)
    case atStart => exact ⟨0, 0, Nat.zero_le _, rfl, rfl, by omega, by omega, Lib.hid rfl, Lib.hid (Below.refl _ _)⟩
    case round =>
      obtain ⟨k, z, hk, rfl, rfl, hz0, hz1, HZ, HB⟩ := hrel
      by_cases hkl : k < ks.length
      · obtain ⟨g, o, rfl, hg, cx⟩ := idsAt_kept HB.out HIDS.out k hkl
        have HST : Hid (sumW (deedOf L1) (ks.take (k + 1)) = sumW (deedOf L1) (ks.take k) + wI (deedOf L1) ks[k]) := Lib.hid (sumW_take hkl)
        have hsome : (deedOf L1 ks[k]).isSome = true := (allL_some _).2 (by rw [HKS.out]; exact List.getElem_mem hkl)
        obtain ⟨d, hd⟩ := Option.isSome_iff_exists.1 hsome
        have hwb := wI_bound H3.out.good ks[k]
        obtain ⟨x, hx⟩ : ∃ x, ks[k] = x := ⟨_, rfl⟩
        rw [hx] at cx HST hd hwb
        have HD := Lib.hid hd
        have hwx : wI (deedOf L1) x = d.weight := by unfold wI; rw [hd]; rfl
        rw [hwx] at hwb HST
        obtain ⟨hw0, hw1⟩ := hwb
        have H5 := Lib.hid (H4.out.kept HB.out)
        clear hsome hx hd hwx
        go_wp2_with fail
        with_reducible refine (hd_deed wX _ R L1 wr H5.out x).mono ?_
        rintro e w5 ⟨a5, k5, rfl, _, _, _, hb5⟩
        rw [HD.out]
        simp only [Option.getD_some, Option.isSome_some, if_true]
        have HB5 := Lib.hid (kept_trans HB.out hb5)
        clear hb5
        go_wp2_with fail
        go_roundw
        case rel => exact ⟨k + 1, z + d.weight, by omega, rfl, by go_num, by omega, by omega, Lib.hid (by rw [HST.out, HZ.out]), Lib.hid (kept_alloc HB5.out _)⟩
        case measure => simp [intOf]; omega
      · have he : z = sumW (deedOf L1) ks := by
          have := HZ.out
          rw [List.take_of_length_le (by omega)] at this
          exact this
        obtain ⟨hfull, _⟩ := full_not HF.out H3.out.good
        rw [HKS.out, ← he] at hfull
        have HFU := Lib.hid hfull
        have H5 := Lib.hid (H4.out.kept HB.out)
        have hz2 : z ≤ 24000 := by omega
        obtain ⟨wB, hwB⟩ : ∃ x, x = wr := ⟨_, rfl⟩
        subst hwB
        clear he hfull HZ
        go_wp2_with fail
        go_loopw [9, 10, 58] (fun vp vl vi wr => ∃ k : Nat, k ≤ 8 ∧ vp = .int .i64 (peersF (usageL L1) k) ∧ vl = .int .i64 (linksF (usageL L1) k) ∧ vi = .int .i64 k ∧ Hid (Below wB.heap.size wB wr)) (fun _ _ i _ => 8 - (intOf i).toNat)
        case atStart => exact ⟨0, by omega, rfl, rfl, rfl, Lib.hid (Below.refl _ _)⟩
        case round =>
          obtain ⟨j, hj, rfl, rfl, rfl, HQ⟩ := hrel
          have hpl := peersF_le (usageL L1) j
          have hll := linksF_le L1 j
          by_cases hjl : j < 8
          · have hji : (j : Int) < 8 := by omega
            have hus := usage_small L1 j
            have HU := Lib.hid (usageC_at (L := L1) hjl)
            have HP1 := Lib.hid (peersF_step (usageL L1) j)
            have HL1 := Lib.hid (linksF_step (usageL L1) j)
            have H6 := Lib.hid (H5.out.kept HQ.out)
            obtain ⟨x, hx⟩ : ∃ x, (usageL L1 j).1 = x := ⟨_, rfl⟩
            obtain ⟨y, hy⟩ : ∃ y, (usageL L1 j).2 = y := ⟨_, rfl⟩
            obtain ⟨pk, hpk⟩ : ∃ p, peersF (usageL L1) j = p := ⟨_, rfl⟩
            obtain ⟨lk, hlk⟩ : ∃ p, linksF (usageL L1) j = p := ⟨_, rfl⟩
            rw [hx, hy] at HU
            rw [hy] at HL1 HP1 hus
            rw [hlk] at hll HL1 ⊢
            rw [hpk] at hpl HP1 ⊢
            obtain ⟨hy0, hy1⟩ := hus
            obtain ⟨hl0, hl1⟩ := hll
            have hy2 : y ≤ 24 := by omega
            have hl2 : lk ≤ 24 := by omega
            clear hx hy hpk hlk hy1 hl1
            go_wp2_with fail
            with_reducible refine (hd_usage wX _ R L1 wr H6.out j x y 0 HU.out).mono ?_
            rintro e w6 ⟨rfl, hb6⟩
            have HB6 := Lib.hid (kept_trans HQ.out hb6)
            clear hb6
            by_cases hy3 : 0 < y
            · go_wp2_with fail
              go_roundw
              case rel => exact ⟨j + 1, by omega, by rw [HP1.out, if_pos hy3]; go_num, by rw [HL1.out], by go_num, HB6⟩
              case measure => simp [intOf]; omega
            · go_wp2_with fail
              go_roundw
              case rel => exact ⟨j + 1, by omega, by rw [HP1.out, if_neg (by omega)], by rw [HL1.out], by go_num, HB6⟩
              case measure => simp [intOf]; omega
          · obtain rfl : j = 8 := by omega
            have hji : ¬ ((8 : Nat) : Int) < 8 := by omega
            have hla := linksF_all H3.out.good
            have hfu := HFU.out
            obtain ⟨pk, hpk⟩ : ∃ p, peersF (usageL L1) 8 = p := ⟨_, rfl⟩
            obtain ⟨lk, hlk⟩ : ∃ p, linksF (usageL L1) 8 = p := ⟨_, rfl⟩
            rw [hpk] at hfu hpl ⊢
            rw [hlk] at hla ⊢
            have hl24 : lk ≤ 24 := by omega
            clear hpk hlk hla hll
            go_wp2_with fail
            go_ret
            exact ⟨ret_bool (by simp), kept_trans HK.out (kept_trans H5.out.below HQ.out)⟩
  · have hne : (r != 0) = true := bne_iff_ne.2 hr
    go_wp2_with fail
    go_ret
    exact ⟨rfl, kept_trans HK.out H3.out.below⟩
end Go.Proofs.Ytodhkphjlcjdoaa
