/-
  The law that asks a pool and the reference's for deeds and children: HomeTells.
-/
import Derived.Test.YtodhkphjlcjdoaaHomed
import Derived.Test.YtodhkphjlcjdoaaRefH8
import Derived.Test.YtodhkphjlcjdoaaRefEq
namespace Go.Proofs.Ytodhkphjlcjdoaa
open Go.RowKit Go.Maps

theorem eqD_self (d : DeedD) : eqD d d = true := by unfold eqD; simp
theorem childL_len (L : List LinkD) (x : UInt64) : (childL L x).length ≤ L.length := Nat.le_trans (List.length_filter_le _ _) (allL_len L)
theorem ids_same (l : List UInt64) : (l == l) = true := beq_self_eq_true l
theorem pairH_refchildren (w0 : World) (Z : Nat → Prop) (R B : Nat) (L M : List LinkD) (w : World) (h : PairH w0 w Z R B L M) (x : UInt64) (l : List UInt64) (hl : childL M x = l) : Calls Try.prog 25 #[.pointer (some ⟨B, 0, none⟩), .int .u64 x.toNat] w fun e w' => ∃ a cap, e = .returned (.slice a l.length cap) ∧ IdsAt w' a l ∧ Below w.heap.size w w' := by
  obtain ⟨G, h1, ⟨rs, v, h2, rfl⟩, h3, h4, h5⟩ := h
  subst hl
  refine (refChildren_any x w h2 (by have := h3.len; rw [lOf_len] at this; omega) h3).mono ?_
  rintro e w' ⟨a, cap, rfl, ho, hb⟩
  exact ⟨a, cap, rfl, ids_of ho, hb⟩
/-- Both deeds are the same, under one name. -/
theorem pairH_deed_is (w0 : World) (Z : Nat → Prop) (R B : Nat) (L M : List LinkD) (w : World) (h : PairH w0 w Z R B L M) (x : UInt64) (d : DeedD) (r : Int) (hd : (deedOf L x).getD nod = d) (hr : (if (deedOf L x).isSome then (0 : Int) else 5) = r) :
    Calls Try.prog 21 #[.pointer (some ⟨R, 0, none⟩), .int .u64 x.toNat] w fun e w' => ∃ a c, e = .returned (.tuple #[.agg #[.slice a d.ins.length c, .int .i64 d.outs, .int .i64 d.weight, .int .i64 d.fee], .int .i64 r]) ∧ d.ins.length ≤ 8 ∧ InsAt w' a d.ins ∧ Below w.heap.size w w' := by
  refine (pairH_deed w0 Z R B L M w h x).mono ?_
  rintro e w' ⟨a, c, rfl, h1, h2, h3, h4⟩
  rw [hd, hr]
  rw [hd] at h1 h3
  exact ⟨a, c, rfl, h1, h3, h4⟩
theorem pairH_refdeed_is (w0 : World) (Z : Nat → Prop) (R B : Nat) (L M : List LinkD) (w : World) (h : PairH w0 w Z R B L M) (x : UInt64) (d : DeedD) (r : Int) (hd : (deedOf M x).getD nod = d) (hr : (if (deedOf M x).isSome then (0 : Int) else 5) = r) :
    Calls Try.prog 22 #[.pointer (some ⟨B, 0, none⟩), .int .u64 x.toNat] w fun e w' => ∃ a c, e = .returned (.tuple #[.agg #[.slice a d.ins.length c, .int .i64 d.outs, .int .i64 d.weight, .int .i64 d.fee], .int .i64 r]) ∧ InsAt w' a d.ins ∧ Below w.heap.size w w' := by
  refine (pairH_refdeed w0 Z R B L M w h x).mono ?_
  rintro e w' ⟨a, c, rfl, h3, h4⟩
  rw [hd, hr]
  rw [hd] at h3
  exact ⟨a, c, rfl, h3, h4⟩
set_option maxRecDepth 20000 in
set_option maxHeartbeats 2000000 in
theorem homeTells_walk (l : List OpH) (a : Option Addr) (cap : Nat) (x : UInt64) (hl : l.length ≤ maxLen) (w : World) (hi : OpsHAt w a l) :
    Calls Try.prog 4 #[.slice a l.length cap, .int .u64 x.toNat] w fun e w' => e = .returned (.bool true) ∧ Below w.heap.size w w' := by
  unfold maxLen at hl
  have HI := Lib.hid hi
  clear hi
  go_enter Try.func4, Try.ntmps4
  go_wp2_with fail
  with_reducible refine (hd_new w w (Below.refl _ _) noZ (there_no w)).mono ?_
  rintro e w1 ⟨R, rfl, hr1, -⟩
  have HP := Lib.hid (pairH_made hr1)
  clear hr1
  go_wp2_with fail
  go_loopw [24] (fun i wr => ∃ (k : Nat) (L : List LinkD), k ≤ l.length ∧ i = .int .i64 k ∧ Hid (PairH w wr noZ R w1.heap.size L L)) (fun i _ => l.length - (intOf i).toNat)
  case atStart => exact ⟨0, _, Nat.zero_le _, rfl, HP⟩
  case round =>
    clear HP
    obtain ⟨k, L, hk, rfl, HS⟩ := hrel
    by_cases hlt : k < l.length
    · obtain ⟨b, o, rfl, hb, c0, c1, c2, c3, c4, c5, c6, c7, c8⟩ := opsH_at HI.out HS.out.below k hlt
      have hfc := (HI.out k hlt).2.1
      have hfi := (HI.out k hlt).2.2.1
      generalize l[k] = q at c0 c1 c2 c3 c4 c5 c6 c7 c8 hfc hfi
      have HFC := Lib.hid hfc
      have HFI := Lib.hid hfi
      have HX := Lib.hid (HS.out.beside (.cells #[.int .i64 q.kind, .int .i64 q.peer, .int .i64 q.n, .int .u64 q.id.toNat, .bool q.flag, .slice q.ia q.d.ins.length q.ic, .int .i64 q.d.outs, .int .i64 q.d.weight, .int .i64 q.d.fee] 34))
      clear hfc hfi
      go_wp2_with fail
      with_reducible refine (homed_any _ _ R _ L q HFC.out HFI.out _ HX.out).mono ?_
      rintro e w2 ⟨rfl, h2, -⟩
      have H2 := Lib.hid (h2.less (Z' := noZ) (fun _ h => h.elim))
      clear h2
      go_wp2_with fail
      go_roundw
      case rel => exact ⟨k + 1, _, by omega, by go_num, H2⟩
      case measure => simp [intOf]; omega
    · clear HI
      obtain ⟨n1, hn1⟩ : ∃ n1, n1 = w1.heap.size := ⟨_, rfl⟩
      rw [← hn1] at HS ⊢
      clear hn1
      have hL24 := HS.out.len
      obtain ⟨m0, hm0⟩ : ∃ m0, allL L = m0 := ⟨_, rfl⟩
      have hm24 : m0.length ≤ 24 := by rw [← hm0]; exact Nat.le_trans (allL_len L) hL24
      have HM := Lib.hid hm0
      clear hm0
      go_wp2_with fail
      with_reducible refine (pairH_refall _ _ R _ L L _ HS.out m0 HM.out).mono ?_
      rintro e w2 ⟨a2, cp2, rfl, ho2, b2⟩
      have HO2 := Lib.hid ho2
      have B2 := Lib.hid b2
      clear ho2 b2
      go_wp2_with (at_builtin; refine append_id rfl _ _ rfl x rfl rfl HO2.out (by omega) B2.out.size ?_; intro g3 cap3 w3 ho3 hg3 hg4; refine Hid.out ?_)
      have B3 := Lib.hid (B2.out.grown hg4 B2.out.size (fun j hj => (HO2.out.lt j hj).1))
      have HS3 := Lib.hid (HS.out.kept B3.out)
      have hlen3 : (m0 ++ [x]).length = m0.length + 1 := by simp
      have HI3 : Hid (IdsAt w3 (some ⟨g3, 0, none⟩) (m0 ++ [x])) := Lib.hid (ids_of (cap := cap3) (hlen3 ▸ ho3))
      obtain ⟨m, hm⟩ : ∃ m, m0 ++ [x] = m := ⟨_, rfl⟩
      rw [hm] at HI3 hlen3
      rw [← hlen3]
      have hm25 : m.length ≤ 25 := by omega
      clear hm hlen3 hm24 hg3 hg4 ho3 HO2 B2 B3 HS HM
      refine Lib.hid ?_
      go_wp2_with fail
      go_loopw [39] (fun i wr => ∃ (k : Nat), k ≤ m.length ∧ i = .int .i64 k ∧ Hid (Below w3.heap.size w3 wr)) (fun i _ => m.length - (intOf i).toNat)
      case atStart => exact ⟨0, Nat.zero_le _, rfl, Lib.hid (Below.refl _ _)⟩
      case round =>
        obtain ⟨k, hk, rfl, HB⟩ := hrel
        by_cases hkm : k < m.length
        · obtain ⟨bq, oq, eq, hbq, cq⟩ := idsAt_kept HB.out HI3.out k hkm
          cases eq
          rw [Nat.zero_add] at cq
          generalize m[k] = y at cq
          have HS4 := Lib.hid (HS3.out.kept HB.out)
          obtain ⟨d, hd⟩ : ∃ d, (deedOf L y).getD nod = d := ⟨_, rfl⟩
          obtain ⟨r, hr⟩ : ∃ r, (if (deedOf L y).isSome then (0 : Int) else 5) = r := ⟨_, rfl⟩
          have HD := Lib.hid hd
          have HR := Lib.hid hr
          obtain ⟨ch, hch⟩ : ∃ ch, childL L y = ch := ⟨_, rfl⟩
          have HCH := Lib.hid hch
          have HCL : Hid (ch.length ≤ maxLen) := Lib.hid (by rw [← hch]; exact Nat.le_trans (childL_len L y) (Nat.le_trans hL24 (by unfold maxLen; omega)))
          clear hd hr hch
          go_wp2_with fail
          with_reducible refine (pairH_deed_is _ _ R _ L L _ HS4.out y d r HD.out HR.out).mono ?_
          rintro e w5 ⟨a5, c5, rfl, hd8, i5, b5⟩
          have kn5 := kept_new w5 (.cells #[.slice a5 d.ins.length c5, .int .i64 d.outs, .int .i64 d.weight, .int .i64 d.fee] 32)
          have I5 := Lib.hid (insAt_kept kn5 i5)
          have B5 := Lib.hid (kept_trans b5 kn5)
          have HS5 := Lib.hid (HS4.out.kept (kept_trans b5 kn5))
          clear i5 b5 kn5
          go_wp2_with fail
          with_reducible refine (pairH_refdeed_is _ _ R _ L L _ HS5.out y d r HD.out HR.out).mono ?_
          rintro e w6 ⟨a6, c6, rfl, i6, b6⟩
          obtain ⟨p0, p1, p2, p3, hp⟩ := box_four b6
          have kn6 := kept_new w6 (.cells #[.slice a6 d.ins.length c6, .int .i64 d.outs, .int .i64 d.weight, .int .i64 d.fee] 32)
          have I56 := Lib.hid (insAt_kept (kept_trans b6 kn6) I5.out)
          have I6 := Lib.hid (insAt_kept kn6 i6)
          have B6 := Lib.hid (kept_trans B5.out (kept_trans b6 kn6))
          have HS6 := Lib.hid (HS5.out.kept (kept_trans b6 kn6))
          have BX := Lib.hid (kept_trans b6 kn6)
          have HL8 : Hid (d.ins.length ≤ maxLen) := Lib.hid (Nat.le_trans hd8 (by unfold maxLen; omega))
          clear i6 b6 kn6
          go_wp2_with fail
          with_reducible refine (deedEq_any d d a5 a6 c5 c6 _ HL8.out I56.out I6.out).mono ?_
          rintro e w7 ⟨rfl, b7⟩
          rw [eqD_self]
          have BX7 := Lib.hid (kept_trans BX.out b7)
          have HS7 := Lib.hid (HS6.out.kept b7)
          have B7 := Lib.hid (kept_trans B6.out b7)
          clear b7
          go_wp2_with fail
          with_reducible refine (pairH_children _ _ R _ L L _ HS7.out y ch HCH.out).mono ?_
          rintro e w8 ⟨a8, c8, rfl, i8, b8⟩
          have HS8 := Lib.hid (HS7.out.kept b8)
          have B8 := Lib.hid b8
          have I8 := Lib.hid i8
          clear b8 i8
          go_wp2_with fail
          with_reducible refine (pairH_refchildren _ _ R _ L L _ HS8.out y ch HCH.out).mono ?_
          rintro e w9 ⟨a9, c9, rfl, i9, b9⟩
          have HS9 := Lib.hid (HS8.out.kept b9)
          have I89 := Lib.hid (idsAt_kept b9 I8.out)
          have I9 := Lib.hid i9
          have B9 := Lib.hid (kept_trans B7.out (kept_trans B8.out b9))
          obtain ⟨s0, s1, s2, s3, hs9⟩ := box_four (kept_trans BX7.out (kept_trans B8.out b9))
          have I59 := Lib.hid (insAt_kept (kept_trans BX7.out (kept_trans B8.out b9)) I5.out)
          clear b9 i9 s1 s2 s3
          go_wp2_with fail
          with_reducible refine (eqID_is ch ch a8 a9 c8 c9 _ true HCL.out I89.out I9.out (ids_same ch)).mono ?_
          rintro e wE ⟨rfl, rfl⟩
          clear HS4 HS5 HS6 HS7 HS8 I5 I56 I6 B5 B6 BX BX7 B7 B8 I8 I89 I9 HCH HCL HD HR p0 p1 p2 p3 hp
          go_wp2_with fail
          obtain ⟨wB, hwB⟩ : ∃ x, x = wr := ⟨_, rfl⟩
          subst hwB
          go_loopw [77] (fun j wr => ∃ (i : Nat), i ≤ d.ins.length ∧ j = .int .i64 i ∧ Hid (Below w9.heap.size w9 wr)) (fun j _ => d.ins.length - (intOf j).toNat)
          case atStart => exact ⟨0, Nat.zero_le _, rfl, Lib.hid (Below.refl _ _)⟩
          case round =>
            obtain ⟨i, hi, rfl, HBI⟩ := hrel
            by_cases hid : i < d.ins.length
            · obtain ⟨bz, oz, ez, hbz, z0, z1, -⟩ := insAt_kept HBI.out I59.out i hid
              subst ez
              generalize d.ins[i] = z at z0 z1
              have kn := kept_new wr (.cells #[.int .u64 z.1.toNat, .int .i64 z.2] 50)
              have HSA := Lib.hid (HS9.out.kept (kept_trans HBI.out kn))
              have BA := Lib.hid (kept_trans HBI.out kn)
              obtain ⟨ch2, hch2⟩ : ∃ ch2, childL L z.1 = ch2 := ⟨_, rfl⟩
              have HCH := Lib.hid hch2
              have HCL : Hid (ch2.length ≤ maxLen) := Lib.hid (by rw [← hch2]; exact Nat.le_trans (childL_len L z.1) (Nat.le_trans hL24 (by unfold maxLen; omega)))
              have HZ : Hid ((wr.alloc (.cells #[.int .u64 z.1.toNat, .int .i64 z.2] 50)).cell? ⟨wr.heap.size, 0, none⟩ = some (.int .u64 z.1.toNat)) := Lib.hid (by simp [go_sem])
              clear kn hch2
              go_wp2_with fail
              clear z0 z1
              generalize hwX : wr.alloc (.cells #[.int .u64 z.1.toNat, .int .i64 z.2] 50) = wX at HSA BA HZ ⊢
              have HDW := Lib.hid (HSA.out.kept (w' := wX.drew) ((Below.refl _ _).drew))
              have BD := Lib.hid (kept_trans BA.out (c := wX.drew) ((Below.refl _ _).drew))
              have k0 : wX.cell? ⟨wr.heap.size, 0, none⟩ = some (.int .u64 z.1.toNat) := HZ.out
              clear hwX HZ
              go_region_held3 (fun w' => w'.cell? ⟨wr.heap.size, 0, none⟩ = some (.int .u64 z.1.toNat))
                (first | exact k0 | exact kk.out | assumption)
                (first
                  | (go_at_call 24; ((with_reducible refine (pairH_children _ _ R _ L L _ HDW.out z.1 ch2 HCH.out).mono ?_); rintro e wb ⟨ab, cb, rfl, ib, bb⟩; have kk := Lib.hid (kept_cell bb (p := ⟨wr.heap.size, 0, none⟩) k0); have HSb := Lib.hid (HDW.out.kept bb); have Ib := Lib.hid ib; have Bb := Lib.hid bb; clear ib bb))
                  | (go_at_call 25; ((with_reducible refine (pairH_refchildren _ _ R _ L L _ HSb.out z.1 ch2 HCH.out).mono ?_); rintro e wc ⟨ac, cc, rfl, ic, bc⟩; have kk := Lib.hid (kept_cell bc (p := ⟨wr.heap.size, 0, none⟩) kk.out); have Ibc := Lib.hid (idsAt_kept bc Ib.out); have Ic := Lib.hid ic; have Bc := Lib.hid bc; clear ic bc))
                  | (go_at_call 13; ((with_reducible refine (eqID_is ch2 ch2 ab ac cb cc _ true HCL.out Ibc.out Ic.out (ids_same ch2)).mono ?_); rintro e we ⟨rfl, rfl⟩)))
              go_wp2_with fail
              go_roundw
              case rel => exact ⟨i + 1, by omega, by go_num, Lib.hid (kept_trans BD.out (kept_trans Bb.out Bc.out))⟩
              case measure => simp [intOf]; omega
            · go_wp2_with fail
              go_roundw
              case rel => exact ⟨k + 1, by omega, by go_num, Lib.hid (kept_trans HB.out (kept_trans B9.out HBI.out))⟩
              case measure => simp [intOf]; omega
        · go_wp2_with fail
          with_reducible refine (pairH_last _ _ R _ L L _ (HS3.out.kept HB.out)).mono ?_
          rintro e w4 ⟨rfl, h4⟩
          have HB4 := Lib.hid h4
          clear h4
          go_wp2_with fail
          go_ret
          exact ⟨rfl, HB4.out⟩
end Go.Proofs.Ytodhkphjlcjdoaa
