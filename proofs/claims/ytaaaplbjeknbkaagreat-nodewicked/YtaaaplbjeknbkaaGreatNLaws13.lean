/-
  NodeWicked: the walk.
-/
import Derived.Test.YtaaaplbjeknbkaaGreatNLaws12
import Derived.Test.YtaaaplbjeknbkaaGreatJ12
set_option maxRecDepth 20000
namespace Go.Proofs.YtaaaplbjeknbkaaGreat
open Go.RowKit Go.Maps

variable {w w' w0 : World} {F F' : Nat → Prop} {R : Nat} {s u : NS}

theorem join0' (salt : UInt64) (w : World) (h : NodeAt w F R (NS.new salt)) : Calls Tryz.prog 35 #[.pointer (some ⟨R, 0, none⟩), .int .i64 0, .bool true] w (TurnsN w F R (.int .i64 0) ((NS.new salt).setPeer 0 (true, true))) := join_any 0 true _ (join_new salt 0 (by decide) true) w h
set_option maxRecDepth 20000 in
set_option maxHeartbeats 4000000 in
theorem nodeWicked_walk (salt : UInt64) (fee : Int) (l : List Int) (a : Option Addr) (cap : Nat) (_hf : -9223372036854775808 ≤ fee ∧ fee ≤ 9223372036854775807) (hl : l.length ≤ 1048576) (w : World) (hi : Tr.IntsAt w a l) : Calls Tryz.prog 8 #[.int .u64 salt.toNat, .int .i64 fee, .slice a l.length cap] w fun e w' => e = .returned (.bool true) ∧ Below w.heap.size w w' := by
  have HI := Lib.hid hi
  clear hi
  go_enter Tryz.func8, Tryz.ntmps8
  go_wp2_with fail
  with_reducible refine (met_any _).mono ?_
  rintro e w1 ⟨rfl, hb1⟩
  have HB1 := Lib.hid hb1
  clear hb1
  go_wp2_with fail
  with_reducible refine (mine_new salt _ HB1.out).mono ?_
  rintro e w2 ⟨R, F, rfl, h2, _, _⟩
  have H2 := Lib.hid h2
  clear h2
  go_wp2_with fail
  with_reducible refine (join0' salt _ H2.out.node).mono ?_
  rintro e w3 ⟨rfl, F3, h3, t3⟩
  have H3 := Lib.hid (H2.out.turned h3 t3)
  clear h3 t3
  obtain ⟨k, hkk⟩ : ∃ k : Int, fee % 900 = k := ⟨_, rfl⟩
  have hk : 0 ≤ k ∧ k < 900 := by omega
  have HK := Lib.hid hkk
  clear hkk
  go_wp2_with fail
  with_reducible refine (rest_is fee 900 k _ (by decide) (by decide) HK.out).mono ?_
  rintro e w3' ⟨rfl, rfl⟩
  obtain ⟨hk0, hk9⟩ := hk
  obtain ⟨y, hy⟩ : ∃ y, Ju.idD (rootD k) = y := ⟨_, rfl⟩
  obtain ⟨x, hx⟩ : ∃ x, Ju.idD (badD y) = x := ⟨_, rfl⟩
  have HY := Lib.hid hy
  have HX := Lib.hid hx
  have HR3 := Lib.hid (lawDeed_new (w := w3) H3.out.node.there 1 10 (1 + k))
  have H4 := Lib.hid (H3.out.kept (kept_new w3 (.cells #[.slice none 0 0, .int .i64 1, .int .i64 10, .int .i64 (1 + k)] 50)))
  clear hy hx
  go_wp2_with fail
  with_reducible refine (id_root ⟨hk0, hk9⟩ y HY.out _).mono ?_
  rintro e w5 ⟨rfl, hb5⟩
  have HR5 := Lib.hid (HR3.out.kept hb5)
  have H5 := Lib.hid (H4.out.kept hb5)
  clear hb5
  have hin := kept_new w5 (.cells #[.int .u64 y.toNat, .int .i64 1] 62)
  obtain ⟨wd, hwd⟩ : ∃ wd, (w5.alloc (.cells #[.int .u64 y.toNat, .int .i64 1] 62)).alloc (.cells #[.slice (some ⟨w5.heap.size, 0, none⟩) 1 1, .int .i64 1, .int .i64 10, .int .i64 5] 50) = wd := ⟨_, rfl⟩
  have hbd : Below w5.heap.size w5 wd := hwd ▸ kept_trans hin (kept_new _ _)
  have hbad : LawDeed wd F3 (w5.heap.size + 1) (some ⟨w5.heap.size, 0, none⟩) 1 (badD y) := hwd ▸ lawDeed_one H5.out.node.there y 1 (by decide) 1 10 5
  have HBD := Lib.hid hbad
  have HR6 := Lib.hid (HR5.out.kept hbd)
  have H6 := Lib.hid (H5.out.kept hbd)
  have HII : Hid (InsAt wd (some ⟨w5.heap.size, 0, none⟩) [(y, 1)]) := Lib.hid hbad.ins
  subst hwd
  clear hin hbd hbad
  go_wp2_with fail
  with_reducible refine (id_bad y x _ HX.out _ HII.out).mono ?_
  rintro e w7 ⟨rfl, hb7⟩
  have HR7 := Lib.hid (HR6.out.kept hb7)
  have HBD7 := Lib.hid (HBD.out.kept hb7)
  have H7 := Lib.hid (H6.out.kept hb7)
  clear hb7
  by_cases hyx : y = x
  · have hyx' : (y.toNat : Int) = x.toNat := by rw [hyx]
    go_wp2_with fail
    go_ret
    exact ⟨rfl, H7.out.below⟩
  · have hyx' : ¬ (y.toNat : Int) = x.toNat := fun e => hyx (UInt64.toNat_inj.1 (by omega))
    obtain ⟨B0, hB0⟩ : ∃ B, bringB (rootD k) = B := ⟨_, rfl⟩
    obtain ⟨B1, hB1⟩ : ∃ B, bringB (badD y) = B := ⟨_, rfl⟩
    obtain ⟨BA, hBA⟩ : ∃ B, bytesM ⟨1, [x], ⟨#[]⟩⟩ = B := ⟨_, rfl⟩
    obtain ⟨u0, hu0⟩ : ∃ u, (NS.new salt).setPeer 0 (true, true) = u := ⟨_, rfl⟩
    obtain ⟨u1, hu1⟩ : ∃ u, u0.bring 0 (rootD k) = u := ⟨_, rfl⟩
    obtain ⟨u2, hu2⟩ : ∃ u, u1.bring 0 (badD y) = u := ⟨_, rfl⟩
    have hst := wicked_start salt ⟨hk0, hk9⟩ HY.out HX.out hyx
    rw [hu0, hu1, hu2] at hst
    obtain ⟨hA1, hW2, hp2, hp1⟩ := hst
    have ht0 : u0.thereE (0 : Nat) = 0 := hu0 ▸ new_there salt 0 (by decide) true
    have ht1 : u1.thereE (0 : Nat) = 0 := by unfold NS.thereE at ht0 ⊢; rw [hp1]; exact ht0
    have HS0 : Hid (u0.send (0 : Nat) B0 = (u1, [], 0)) := Lib.hid (by rw [← hB0, ← hu1]; exact send_brought (root_check ⟨hk0, hk9⟩) ht0)
    have HS1 : Hid (u1.send (0 : Nat) B1 = (u2, [], 0)) := Lib.hid (by rw [← hB1, ← hu2]; exact send_brought (bad_check y) ht1)
    rw [hu0] at H7
    have HB0S : Hid (B0.size ≤ maxLen) := Lib.hid (by rw [← hB0, bringB_bytes (root_check ⟨hk0, hk9⟩)]; exact bytes_small _)
    have HB1S : Hid (B1.size ≤ maxLen) := Lib.hid (by rw [← hB1, bringB_bytes (bad_check y)]; exact bytes_small _)
    have HBAS : Hid (BA.size ≤ maxLen) := Lib.hid (by rw [← hBA]; exact bytes_small _)
    have HL0 : Hid (u0.A.length ≤ 2950000000000) := Lib.hid (by rw [← hu0]; exact Nat.zero_le _)
    have HL1 : Hid (u1.A.length ≤ 2950000000000) := Lib.hid (by rw [hA1]; simp)
    have HB0 := Lib.hid hB0
    have HBB1 := Lib.hid hB1
    have HBA := Lib.hid hBA
    have HW2 := Lib.hid hW2
    clear hB0 hB1 hBA hu0 hu1 hu2 hA1 hW2 hp2 hp1 ht0 ht1 hyx
    obtain ⟨r0, r1, r2, r3⟩ := HR7.out.box
    have l1 := HR7.out.lt
    simp only [List.length_nil] at r0 r1 r2 r3
    go_wp2_with fail
    with_reducible refine (bring_root ⟨hk0, hk9⟩ B0 HB0.out _).mono ?_
    rintro e w8 ⟨rfl, hb8⟩
    have HBD8 := Lib.hid (HBD7.out.kept hb8)
    have H8 := Lib.hid (H7.out.kept hb8)
    clear hb8 r0 r1 r2 r3 l1
    go_wp2_with fail
    with_reducible refine (send_any 0 B0 HB0S.out HL0.out _ HS0.out _ H8.out.node).mono ?_
    rintro e w9 ⟨v9, F9, rfl, ho9, h9, t9, _⟩
    simp only at ho9 h9 ⊢
    obtain ⟨a9, c9, rfl, _⟩ := outs_form ho9
    have H9 := Lib.hid (H8.out.turned h9 t9)
    have HBD9 := Lib.hid (HBD8.out.turned t9)
    obtain ⟨d0, d1, d2, d3⟩ := HBD9.out.box
    have l2 := HBD9.out.lt
    have HI9 : Hid (InsAt w9 (some ⟨w5.heap.size, 0, none⟩) [(y, 1)]) := Lib.hid HBD9.out.ins
    simp only [badD, List.length_cons, List.length_nil, Nat.zero_add] at d0 d1 d2 d3
    clear ho9 h9 t9
    go_wp2_with fail
    with_reducible refine (bring_bad y _ B1 HBB1.out _ HI9.out).mono ?_
    rintro e w10 ⟨rfl, hb10⟩
    have HBD10 := Lib.hid (HBD9.out.kept hb10)
    have H10 := Lib.hid (H9.out.kept hb10)
    clear hb10 d0 d1 d2 d3 l2
    go_wp2_with fail
    with_reducible refine (send_any 0 B1 HB1S.out HL1.out _ HS1.out _ H10.out.node).mono ?_
    rintro e w11 ⟨v11, F11, rfl, ho11, h11, t11, _⟩
    simp only at ho11 h11 ⊢
    obtain ⟨a11, c11, rfl, _⟩ := outs_form ho11
    simp only [List.length_nil]
    have H11 := Lib.hid (H10.out.turned h11 t11)
    have HBD11 := Lib.hid (HBD10.out.turned t11)
    clear ho11 h11 t11
    obtain ⟨D, hD⟩ : ∃ D, w5.heap.size = D := ⟨_, rfl⟩
    rw [hD] at HBD11 ⊢
    clear hD
    go_wp2_with fail
    go_loopw [74] (fun i wr => ∃ (j : Nat) (G : Nat → Prop) (u : NS), j ≤ l.length ∧ i = .int .i64 j ∧ Hid (Mine w wr G R u) ∧ Hid (WSt (rootD k) x j u) ∧ Hid (LawDeed wr G (D + 1) (some ⟨D, 0, none⟩) 1 (badD y))) (fun i _ => l.length - (intOf i).toNat)
    case atStart => exact ⟨0, F11, u2, Nat.zero_le _, rfl, H11, HW2, HBD11⟩
    case round =>
      obtain ⟨j, G, u, hj, rfl, H12, HW, HB⟩ := hrel
      by_cases hjl : j < l.length
      · obtain ⟨g, o, rfl, hg, c0⟩ := HI.out j hjl
        obtain ⟨z, hz⟩ : ∃ z, l[j] = z := ⟨_, rfl⟩
        rw [hz] at c0
        have k0 := cell_later H12.out.below c0
        have l5 := (cell_spot k0).2
        obtain ⟨p, hpp⟩ : ∃ p : Nat, z % 8 = p := ⟨(z % 8).toNat, by omega⟩
        have hp : p < 8 := by omega
        have HP := Lib.hid hpp
        clear hz c0 hpp
        go_wp2_with fail
        with_reducible refine (rest_is z 8 p _ (by decide) (by decide) HP.out).mono ?_
        rintro e w13 ⟨rfl, rfl⟩
        obtain ⟨u3, hu3⟩ : ∃ u3, (u.join p true).1 = u3 := ⟨_, rfl⟩
        obtain ⟨r3, hr3⟩ : ∃ r3, (u.join p true).2 = r3 := ⟨_, rfl⟩
        have HJ : Hid (u.join p true = (u3, r3)) := Lib.hid (by rw [← hu3, ← hr3])
        have HW3 : Hid (WSt (rootD k) x j u3) := Lib.hid (hu3 ▸ HW.out.join p true)
        have HT3 : Hid (u3.thereE p = 0) := Lib.hid (hu3 ▸ join_there u p hp true)
        clear hu3 hr3
        go_wp2_with fail
        with_reducible refine (join_any p true _ HJ.out _ H12.out.node).mono ?_
        rintro e w14 ⟨rfl, F14, h14, t14⟩
        simp only at h14 ⊢
        have H14 := Lib.hid (H12.out.turned h14 t14)
        have HB14 := Lib.hid (HB.out.turned t14)
        clear h14 t14
        have HI15 : Hid (IdsAt (w14.alloc (.cells #[.int .u64 x.toNat] 22)) (some ⟨w14.heap.size, 0, none⟩) [x]) := Lib.hid fun i hi => by
          obtain rfl : i = 0 := by simpa using hi
          exact ⟨_, _, rfl, by simp, by simp [go_sem]⟩
        have hkn := kept_new w14 (.cells #[.int .u64 x.toNat] 22)
        have H15 := Lib.hid (H14.out.kept hkn)
        have HB15 := Lib.hid (HB14.out.kept hkn)
        clear hkn
        go_wp2_with fail
        with_reducible refine (bytesOf_one x _ _ BA HBA.out _ HI15.out).mono ?_
        rintro e w16 ⟨rfl, hb16⟩
        have H16 := Lib.hid (H15.out.kept hb16)
        have HB16 := Lib.hid (HB15.out.kept hb16)
        clear hb16
        have HSA : Hid (u3.send p BA = (u3, [], 0)) := Lib.hid (HBA.out ▸ HW3.out.ann HT3.out)
        have HL3 : Hid (u3.A.length ≤ 2950000000000) := Lib.hid (by rw [HW3.out.A]; simp)
        go_wp2_with fail
        with_reducible refine (send_any p BA HBAS.out HL3.out _ HSA.out _ H16.out.node).mono ?_
        rintro e w17 ⟨v17, F17, rfl, ho17, h17, t17, _⟩
        simp only at ho17 h17 ⊢
        obtain ⟨a17, c17, rfl, _⟩ := outs_form ho17
        have H17 := Lib.hid (H16.out.turned h17 t17)
        have HB17 := Lib.hid (HB16.out.turned t17)
        clear ho17 h17 t17
        obtain ⟨u4, hu4⟩ : ∃ u4 : NS, { u3 with now := u3.now + 1 } = u4 := ⟨_, rfl⟩
        obtain ⟨hps, hws⟩ := HW3.out.pass (by omega)
        rw [hu4] at hps hws
        have HPS := Lib.hid hps
        have HW4 := Lib.hid hws
        have HT4 : Hid (u4.thereE p = 0) := Lib.hid (by rw [← hu4]; exact HT3.out)
        have HFL : Hid (Fly u3) := Lib.hid (fly_none HW3.out.T)
        have HL4 : Hid (u4.A.length ≤ 2950000000000) := Lib.hid (by rw [hws.A]; simp)
        clear hps hws hu4
        go_wp2_with fail
        with_reducible refine (wait_any 1 HFL.out _ HPS.out _ H17.out.node).mono ?_
        rintro e w18 ⟨v18, F18, rfl, ho18, h18, t18, _⟩
        simp only at ho18 h18 ⊢
        obtain ⟨a18, c18, rfl, _⟩ := outs_form ho18
        have H18 := Lib.hid (H17.out.turned h18 t18)
        have HB18 := Lib.hid (HB17.out.turned t18)
        obtain ⟨d0, d1, d2, d3⟩ := HB18.out.box
        have l2 := HB18.out.lt
        have HI18 : Hid (InsAt w18 (some ⟨D, 0, none⟩) [(y, 1)]) := Lib.hid HB18.out.ins
        simp only [badD, List.length_cons, List.length_nil, Nat.zero_add] at d0 d1 d2 d3
        clear ho18 h18 t18
        go_wp2_with fail
        with_reducible refine (bring_bad y _ B1 HBB1.out _ HI18.out).mono ?_
        rintro e w19 ⟨rfl, hb19⟩
        have H19 := Lib.hid (H18.out.kept hb19)
        have HB19 := Lib.hid (HB18.out.kept hb19)
        clear hb19 d0 d1 d2 d3 l2
        have HSB : Hid (u4.send p B1 = (u4, [], 0)) := Lib.hid (HBB1.out ▸ HW4.out.bring hp (bad_check y) HX.out HT4.out)
        go_wp2_with fail
        with_reducible refine (send_any p B1 HB1S.out HL4.out _ HSB.out _ H19.out.node).mono ?_
        rintro e w20 ⟨v20, F20, rfl, ho20, h20, t20, _⟩
        simp only at ho20 h20 ⊢
        obtain ⟨a20, c20, rfl, _⟩ := outs_form ho20
        have H20 := Lib.hid (H19.out.turned h20 t20)
        have HB20 := Lib.hid (HB19.out.turned t20)
        clear ho20 h20 t20
        go_wp2_with fail
        go_roundw
        case rel => exact ⟨j + 1, F20, u4, by omega, by go_num, H20, HW4, HB20⟩
        case measure => simp [intOf]; omega
      · have HAL : Hid (u.A.length ≤ 10000000000000) := Lib.hid (by rw [HW.out.A]; simp)
        have HAI : Hid (u.A.map Ju.idD = [y]) := Lib.hid (by rw [HW.out.A, List.map_cons, HY.out]; rfl)
        have HPI : Hid (Ho.allL u.P = []) := Lib.hid (by rw [HW.out.P]; rfl)
        go_wp2_with fail
        with_reducible refine (accepted_any HAL.out _ H12.out.node).mono ?_
        rintro e w13 ⟨a13, c13, rfl, ho13, hb13⟩
        rw [HAI.out] at ho13 ⊢
        obtain ⟨a13', c13', e13, _, hat13, _⟩ := owns_idsAt ho13
        simp only [Value.slice.injEq, List.length_cons, List.length_nil, Nat.zero_add, true_and] at e13 ⊢
        obtain ⟨rfl, rfl⟩ := e13
        have hkn := kept_new w13 (.cells #[.int .u64 y.toNat] 22)
        have H13 := Lib.hid ((H12.out.kept hb13).kept hkn)
        have HI13 : Hid (IdsAt (w13.alloc (.cells #[.int .u64 y.toNat] 22)) a13 [y]) := Lib.hid (idsAt_kept hkn hat13)
        have HIX : Hid (IdsAt (w13.alloc (.cells #[.int .u64 y.toNat] 22)) (some ⟨w13.heap.size, 0, none⟩) [y]) := Lib.hid fun i hi => by
          obtain rfl : i = 0 := by simpa using hi
          exact ⟨_, _, rfl, by simp, by simp [go_sem]⟩
        clear ho13 hb13 hat13 hkn
        go_wp2_with fail
        with_reducible refine (eqID_one y a13 _ c13 _ _ HI13.out HIX.out).mono ?_
        rintro e w14 ⟨rfl, rfl⟩
        go_wp2_with fail
        with_reducible refine (orphans_any _ H13.out.node).mono ?_
        rintro e w15 ⟨a15, c15, rfl, _, hb15⟩
        rw [HPI.out]
        have H15 := Lib.hid (H13.out.kept hb15)
        clear hb15
        go_wp2_with fail
        go_ret
        exact ⟨rfl, H15.out.below⟩
end Go.Proofs.YtaaaplbjeknbkaaGreat
