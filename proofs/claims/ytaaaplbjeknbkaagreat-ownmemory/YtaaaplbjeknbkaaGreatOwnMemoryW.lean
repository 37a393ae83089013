/-
  OwnMemory: the walk.
-/
import Derived.Test.YtaaaplbjeknbkaaGreatOwnMem
import Derived.Test.YtaaaplbjeknbkaaGreatSHoused
import Derived.Test.YtaaaplbjeknbkaaGreatSJC
import Derived.Test.YtaaaplbjeknbkaaGreatJ32
import Derived.Test.YtaaaplbjeknbkaaGreatRefEq
import Derived.Test.YtaaaplbjeknbkaaGreatJ5
set_option maxRecDepth 20000
namespace Go.Proofs.YtaaaplbjeknbkaaGreat
open Go.RowKit Go.Maps

variable {w w' : World} {F G : Nat → Prop} {R : Nat} {s u : NS}

set_option maxRecDepth 20000 in
set_option maxHeartbeats 4000000 in
theorem ownMemory_walk (salt : UInt64) (l : List ActD) (a : Option Addr) (ca : Nat) (d : DeedD) (da : Option Addr) (dc : Nat) (_ : d.ins.length ≤ dc) (hl : l.length ≤ 2932031007402) (hd : d.ins.length ≤ 8796093022208) (w : World) (hi : ActsAt w a l) (hj : InsAt w da d.ins) :
    Calls Tryz.prog 6 #[.int .u64 salt.toNat, .slice a l.length ca, .agg #[.slice da d.ins.length dc, .int .i64 d.outs, .int .i64 d.weight, .int .i64 d.fee]] w fun e w' => e = .returned (.bool true) ∧ Below w.heap.size w w' := by
  have hml : maxLen = 9223372036854775807 := rfl
  obtain ⟨D, hD⟩ : ∃ D, w.heap.size = D := ⟨_, rfl⟩
  obtain ⟨wd, hwd⟩ : ∃ wd, w.alloc (.cells #[.slice da d.ins.length dc, .int .i64 d.outs, .int .i64 d.weight, .int .i64 d.fee] 50) = wd := ⟨_, rfl⟩
  have hbd : Below w.heap.size w wd := hwd ▸ kept_new _ _
  obtain ⟨x0, x1, x2, x3⟩ : DeedBox wd D da dc d := hD ▸ hwd ▸ box_deed w da dc d
  have HB0 := Lib.hid hbd
  have HI := Lib.hid (actsAt_kept hbd hi)
  have HJ := Lib.hid (insAt_kept hbd hj)
  have HX : Hid (DeedBox wd D da dc d) := Lib.hid ⟨x0, x1, x2, x3⟩
  have HDL : Hid (D < wd.heap.size) := Lib.hid (cell_spot x0).2
  clear hbd hi hj x0 x1 x2 x3
  go_enter Tryz.func6, Tryz.ntmps6
  go_wp2_with fail
  with_reducible refine (met_any _).mono ?_
  rintro e w1 ⟨rfl, hb1⟩
  have HB1 := Lib.hid hb1
  clear hb1
  go_wp2_with fail
  with_reducible refine (So.Ho.housed_any _).mono ?_
  rintro e w2 ⟨rfl, hb2⟩
  have HB2 := Lib.hid (kept_trans HB1.out hb2)
  clear hb2
  go_wp2_with fail
  with_reducible refine (So.Ju.judged_any _).mono ?_
  rintro e w3 ⟨rfl, hb3⟩
  have HB3 := Lib.hid (kept_trans HB2.out hb3)
  clear hb3
  go_wp2_with fail
  with_reducible refine (mine_new salt w3 (Below.refl _ _)).mono ?_
  rintro e w4 ⟨R, F, rfl, h4, _, _⟩
  have H4 := Lib.hid h4
  have HI3 := Lib.hid (actsAt_kept HB3.out HI.out)
  clear h4
  go_wp2_with fail
  go_loopw [37] (fun i wr => ∃ (k : Nat) (G : Nat → Prop) (u : NS), k ≤ l.length ∧ i = .int .i64 k ∧ Hid (Mine w3 wr G R u) ∧ Hid (NInv k u)) (fun i _ => l.length - (intOf i).toNat)
  case atStart => exact ⟨0, F, NS.new salt, Nat.zero_le _, rfl, H4, Lib.hid (inv_new salt)⟩
  case round =>
    obtain ⟨k, G, u, hk, rfl, H5, HN⟩ := hrel
    by_cases hkl : k < l.length
    · obtain ⟨⟨g, o, rfl, hg, c0⟩, hs⟩ := HI3.out k hkl
      obtain ⟨y, hy⟩ : ∃ y, l[k] = y := ⟨_, rfl⟩
      rw [hy] at c0 hs
      obtain ⟨c0, c1, c2, c3, c4⟩ := c0
      have k0 := cell_later H5.out.below c0
      have k1 := cell_later H5.out.below c1
      have k2 := cell_later H5.out.below c2
      have k3 := cell_later H5.out.below c3
      have k4 := cell_later H5.out.below c4
      have l5 := (cell_spot k0).2
      obtain ⟨wy, hwy⟩ : ∃ wy, wr.alloc (.cells #[.int .i64 y.kind, .int .i64 y.peer, .int .i64 y.n, .bool y.flag, .string y.bytes] 29) = wy := ⟨_, rfl⟩
      have hby : Below wr.heap.size wr wy := hwy ▸ kept_new _ _
      obtain ⟨y0, y1, y2, y3, y4⟩ := box_act wr y
      rw [hwy] at y0 y1 y2 y3 y4
      have l6 := (cell_spot y0).2
      have H6 := Lib.hid (H5.out.kept hby)
      have HNN : Hid (NInv (k + 1) (u.did y).1) := Lib.hid (did_inv HN.out H5.out.node.good.T y)
      have hk2 : k ≤ 2950000000000 := by omega
      clear hy c0 c1 c2 c3 c4 hby
      go_wp2_with fail
      with_reducible refine (did_any y k hk2 HN.out hs _ rfl _ H6.out.node).mono ?_
      rintro e w7 ⟨v7, G7, rfl, ho7, h7, t7, _⟩
      have H7 := Lib.hid (H6.out.turned h7 t7)
      obtain ⟨a7, c7, rfl, _⟩ := outs_form ho7
      clear ho7 h7 t7
      go_wp2_with fail
      go_roundw
      case rel => exact ⟨k + 1, G7, _, by omega, by go_num, H7, HNN⟩
      case measure => simp [intOf]; omega
    · obtain ⟨x0, x1, x2, x3⟩ := HX.out
      have hbL := kept_trans HB3.out H5.out.below
      have y0 := kept_cell hbL x0
      have y1 := kept_cell hbL x1
      have y2 := kept_cell hbL x2
      have y3 := kept_cell hbL x3
      have ly := (cell_spot y0).2
      have HJL := Lib.hid (insAt_kept hbL HJ.out)
      have HOK : Hid (∀ i (h : i < d.ins.length), (Lit.int .i64 d.ins[i].2).wf = true) := Lib.hid fun i h => by
        obtain ⟨_, _, _, _, _, _, c⟩ := HJ.out i h
        exact c
      have HBL := Lib.hid hbL
      have hA : u.A.length ≤ 10000000000000 := by have := HN.out.sum; omega
      obtain ⟨wL, hwL⟩ : ∃ x, x = wr := ⟨_, rfl⟩
      subst hwL
      clear x0 x1 x2 x3 hbL
      go_wp2_with fail
      with_reducible refine (copyIns_big d.ins da dc _ hd HJL.out).mono ?_
      rintro e w6 ⟨ka, kc, rfl, ho6, hb6⟩
      have HK6 := Lib.hid (copied_ins ho6 HOK.out)
      have H6 := Lib.hid (H5.out.kept hb6)
      have HB6 := Lib.hid (kept_trans HBL.out hb6)
      clear ho6 hb6 y0 y1 y2 y3 ly
      go_wp2_with fail
      with_reducible refine (accepted_any hA _ H6.out.node).mono ?_
      rintro e w7 ⟨xa, xc, rfl, ho7, hb7⟩
      obtain ⟨ids, hids⟩ : ∃ ids, u.A.map Ju.idD = ids := ⟨_, rfl⟩
      obtain ⟨n, hn⟩ : ∃ n, ids.length = n := ⟨_, rfl⟩
      have hn1 : n ≤ 10000000000000 := by rw [← hn, ← hids, List.length_map]; exact hA
      rw [hids] at ho7 ⊢
      have HIDS := Lib.hid hids
      have HO7 := Lib.hid ho7
      have HH7 := Lib.hid hb7
      have HNN := Lib.hid hn
      obtain ⟨xa', xc', e', _, hat7, hfr7⟩ := owns_idsAt ho7
      simp only [Value.slice.injEq] at e'
      obtain ⟨rfl, _, rfl⟩ := e'
      have HA7 := Lib.hid hat7
      have HF7 := Lib.hid hfr7
      have HW7 := Lib.hid (writes_ids ho7)
      rw [hn] at HW7 ⊢
      clear ho7 hb7 hids hn hat7 hfr7
      go_wp2_with fail
      with_reducible refine (copyIds_big ids n HNN.out xa xc _ hn1 HA7.out).mono ?_
      rintro e w8 ⟨ga, gc, rfl, hat8, hfr8, hb8⟩
      have HA8 := Lib.hid hat8
      have HF8 := Lib.hid hfr8
      have HH8 := Lib.hid hb8
      have HW8 : Hid (Writes w8 w8 xa n) := Lib.hid (by
        have := writes_ids (ownIds_below HO7.out hb8)
        rw [HNN.out] at this
        exact this)
      clear hat8 hfr8 hb8 HW7
      go_wp2_with fail
      go_loopw [54] (fun i wr => ∃ k : Nat, k ≤ n ∧ i = .int .i64 k ∧ Hid (Writes w8 wr xa n)) (fun i _ => n - (intOf i).toNat)
      case atStart => exact ⟨0, Nat.zero_le _, rfl, HW8⟩
      case' round =>
        obtain ⟨k9, hk9, rfl, HW9⟩ := hrel
        by_cases hkn : k9 < n
        case pos =>
          obtain ⟨g9, o9, u9, rfl, c9, f9⟩ := HW9.out.cell hkn
          have l9 := (cell_spot c9).2
          go_wp2_with fail
          go_roundw
          case rel => exact ⟨k9 + 1, by omega, by go_num, Lib.hid (HW9.out.set _ _)⟩
          case measure => simp [intOf]; omega
      have HL9 := Lib.hid (HW9.out.low (kept_trans HH7.out HH8.out) HF7.out)
      have HG9 : Hid (IdsAt wr ga ids) := Lib.hid (HW9.out.ids HA8.out (fun b o o' sp e1 e2 => by
        have h1 := HF8.out b o none e1
        have h2 := own_block_lt HO7.out b o' sp e2
        omega))
      have H10 := Lib.hid (H6.out.kept HL9.out)
      obtain ⟨w10, hw10⟩ : ∃ x, x = wr := ⟨_, rfl⟩
      subst hw10
      clear HW9 HW8
      go_wp2_with fail
      with_reducible refine (orphans_any _ H10.out.node).mono ?_
      rintro e w11 ⟨oa, oc, rfl, ho11, hb11⟩
      obtain ⟨m, hm⟩ : ∃ m, (Ho.allL u.P).length = m := ⟨_, rfl⟩
      have HW11 := Lib.hid (writes_ids ho11)
      have HF11 : Hid (Fresh w10.heap.size oa) := Lib.hid (by
        obtain ⟨oa', oc', e', _, _, hf⟩ := owns_idsAt ho11
        simp only [Value.slice.injEq] at e'
        obtain ⟨rfl, _, rfl⟩ := e'
        exact hf)
      have HH11 := Lib.hid hb11
      have hm1 : m ≤ 1000000000000000 := by
        have := HN.out.sum
        have := all_few u.P
        omega
      rw [hm] at HW11 ⊢
      clear ho11 hb11 hm
      go_wp2_with fail
      go_loopw [65] (fun i wr => ∃ k : Nat, k ≤ m ∧ i = .int .i64 k ∧ Hid (Writes w11 wr oa m)) (fun i _ => m - (intOf i).toNat)
      case atStart => exact ⟨0, Nat.zero_le _, rfl, HW11⟩
      case' round =>
        obtain ⟨k12, hk12, rfl, HW12⟩ := hrel
        by_cases hkn : k12 < m
        case pos =>
          obtain ⟨g12, o12, u12, rfl, c12, f12⟩ := HW12.out.cell hkn
          have l12 := (cell_spot c12).2
          go_wp2_with fail
          go_roundw
          case rel => exact ⟨k12 + 1, by omega, by go_num, Lib.hid (HW12.out.set _ _)⟩
          case measure => simp [intOf]; omega
      have HL12 := Lib.hid (HW12.out.low HH11.out HF11.out)
      have hbX := kept_trans (kept_trans HB6.out HL9.out) HL12.out
      obtain ⟨x0, x1, x2, x3⟩ := HX.out
      have y0 := kept_cell hbX x0
      have y1 := kept_cell hbX x1
      have y2 := kept_cell hbX x2
      have y3 := kept_cell hbX x3
      have ly := (cell_spot y0).2
      have HBX := Lib.hid hbX
      have HJ12 := Lib.hid (insAt_kept hbX HJ.out)
      have H12 := Lib.hid (H10.out.kept HL12.out)
      have HG12 := Lib.hid (idsAt_kept HL12.out HG9.out)
      have HK12 := Lib.hid (insAt_kept (kept_trans HL9.out HL12.out) HK6.out.1)
      obtain ⟨w12, hw12⟩ : ∃ x, x = wr := ⟨_, rfl⟩
      subst hw12
      clear HW12 HW11 x0 x1 x2 x3 hbX
      go_wp2_with fail
      with_reducible refine (check_is d da dc _ _ HJ12.out rfl).mono ?_
      rintro e w13 ⟨rfl, hb13⟩
      have HB13 := Lib.hid hb13
      have z0 := kept_cell hb13 y0
      have z1 := kept_cell hb13 y1
      have z2 := kept_cell hb13 y2
      have z3 := kept_cell hb13 y3
      have lz := (cell_spot z0).2
      clear hb13 y0 y1 y2 y3 ly
      go_wp2_with fail
      with_reducible refine (encode_w d da dc _ (insAt_kept HB13.out HJ12.out)).mono ?_
      rintro e w14 ⟨E, rE, rfl, hE, hb14⟩
      have HE := Lib.hid hE
      have HB14 := Lib.hid (kept_trans HB13.out hb14)
      clear hE hb14 z0 z1 z2 z3 lz
      go_wp2_with fail
      with_reducible refine (decode_w E HE.out _).mono ?_
      rintro e w15 ⟨ia, q, ic, xo, xg, xf, xr, rfl, hq8, hq, hw15, hf15, hb15⟩
      obtain ⟨X, hX⟩ : ∃ X, w15.heap.size = X := ⟨_, rfl⟩
      obtain ⟨wX, hwX⟩ : ∃ wX, w15.alloc (.cells #[.slice ia q ic, .int .i64 xo, .int .i64 xg, .int .i64 xf] 50) = wX := ⟨_, rfl⟩
      have hbx : Below w15.heap.size w15 wX := hwX ▸ kept_new _ _
      have v0 : wX.cell? ⟨X, 0, none⟩ = some (.slice ia q ic) := by rw [← hwX, ← hX]; simp [go_sem]
      have lv := (cell_spot v0).2
      have HV0 := Lib.hid v0
      have HWX := Lib.hid (hw15.later hbx)
      have HNX : Hid (0 < q * 2 → ∀ o sp, ia ≠ some ⟨X, o, sp⟩) := Lib.hid fun h0 o sp e => by
        have := hw15.lt h0 X o sp e
        omega
      have HFX := Lib.hid hf15
      have HBX15 := Lib.hid (kept_trans hb15 hbx)
      clear hw15 hf15 hb15 hbx
      go_wp2_with fail
      go_loopw [87] (fun i wr => ∃ k : Nat, k ≤ q ∧ i = .int .i64 k ∧ Hid (Writes wX wr ia (q * 2))) (fun i _ => q - (intOf i).toNat)
      case atStart => exact ⟨0, Nat.zero_le _, rfl, HWX⟩
      case' round =>
        obtain ⟨k16, hk16, rfl, HW16⟩ := hrel
        clear hwX hX
        by_cases hkn : k16 < q
        case pos =>
          have p0 := HW16.out.far HV0.out (HNX.out (by omega))
          have lp := (cell_spot p0).2
          obtain ⟨g16, o16, u16, rfl, c16, f16⟩ := HW16.out.cell (i := k16 * 2) (by omega)
          obtain ⟨g17, o17, u17, e17, c17, f17⟩ := HW16.out.cell (i := k16 * 2 + 1) (by omega)
          cases e17
          rw [← Nat.add_assoc] at c17 f17
          have l16 := (cell_spot c16).2
          have hne : X ≠ g16 := fun e => HNX.out (by omega) o16 none (by rw [e])
          go_wp2_with fail
          go_roundw
          case rel => exact ⟨k16 + 1, by omega, by go_num, Lib.hid (by
            have := (HW16.out.set (k16 * 2) (.int .u64 77)).set (k16 * 2 + 1) (.int .i64 0)
            rw [← Nat.add_assoc] at this
            exact this)⟩
          case measure => simp [intOf]; omega
      have HL16 := Lib.hid (HW16.out.low HBX15.out HFX.out)
      have HLF := Lib.hid (kept_trans HB14.out HL16.out)
      have hbF := kept_trans HBX.out HLF.out
      obtain ⟨x0, x1, x2, x3⟩ := HX.out
      have y0 := kept_cell hbF x0
      have ly := (cell_spot y0).2
      have HBF := Lib.hid hbF
      have H17 := Lib.hid (H12.out.kept HLF.out)
      clear x0 x1 x2 x3 hbF HW16
      go_wp2_with fail
      with_reducible refine (accepted_any hA _ H17.out.node).mono ?_
      rintro e w18 ⟨ya, yc, rfl, ho18, hb18⟩
      rw [HIDS.out] at ho18 ⊢
      have HY18 : Hid (IdsAt w18 ya ids) := Lib.hid (by
        obtain ⟨oa', oc', e', _, hat, _⟩ := owns_idsAt ho18
        simp only [Value.slice.injEq] at e'
        obtain ⟨rfl, _, rfl⟩ := e'
        exact hat)
      rw [HNN.out]
      have HB18 := Lib.hid hb18
      have z0 := kept_cell hb18 y0
      have lz := (cell_spot z0).2
      clear ho18 hb18 y0 ly
      go_wp2_with fail
      with_reducible refine (eqID_k ids n HNN.out ya ga _ gc _ hn1 HY18.out (idsAt_kept (kept_trans HLF.out HB18.out) HG12.out)).mono ?_
      rintro e w19 ⟨rfl, rfl⟩
      go_wp2_with fail
      with_reducible refine (eq_is d.ins d.ins da ka dc kc _ true (by unfold maxLen; omega) (insAt_kept HB18.out (insAt_kept HBF.out HJ.out)) (insAt_kept (kept_trans HLF.out HB18.out) HK12.out) (beq_self_eq_true _)).mono ?_
      rintro e w20 ⟨rfl, hb20⟩
      have HB20 := Lib.hid (kept_trans HB0.out (kept_trans HBF.out (kept_trans HB18.out hb20)))
      clear hb20
      go_wp2_with fail
      go_ret
      exact ⟨rfl, HB20.out⟩
end Go.Proofs.YtaaaplbjeknbkaaGreat
