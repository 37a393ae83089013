/-
  TopWorth: the walk.
-/
import Derived.Test.YtaaaplbjeknbkaaGreatTopK2
import Derived.Test.YtaaaplbjeknbkaaGreatTopDid
import Derived.Test.YtaaaplbjeknbkaaGreatDeedMapW
set_option maxRecDepth 20000
namespace Go.Proofs.YtaaaplbjeknbkaaGreat
open Go.RowKit Go.Maps

variable {w w' w0 : World} {F F' G : Nat → Prop} {R B D k n : Nat} {s u : NS} {ev : UInt64 → Option Value} {M : UInt64 → Option DeedD} {y : ActD}

/-- What is so behind the part of a round in which the law's map is turned. -/
def Told (w0 w : World) (G : Nat → Prop) (R : Nat) (u : NS) (B n D : Nat) (y : ActD) : Prop :=
  ∃ ev M, NodeDs w0 w G R u B ev M n ∧ Sound M u.A u.P [] ∧ (∀ d, broughtB y.bytes = some d → M (Ju.idD d) = some d) ∧ ActB w D y
theorem NodeDs.more (h : NodeDs w0 w F R u B ev M n) : NodeDs w0 w F R u B ev M (n + 1) :=
  ⟨h.mine, ⟨h.ds.map, h.ds.has, h.ds.not, by obtain ⟨ks, h1, h2⟩ := h.ds.keys; exact ⟨ks, by omega, h2⟩, h.ds.id, h.ds.out⟩, h.above⟩
theorem told_none (h : NodeDs w0 w G R u B ev M n) (hs : Sound M u.A u.P []) (hb : ActB w D y) (hn : broughtB y.bytes = none) : Told w0 w G R u B (n + 1) D y := ⟨ev, M, h.more, hs, fun d hd => by (rw [hn] at hd; cases hd), hb⟩
theorem brought_not {b : ByteArray} (h : ¬ (Ms.errM b.data.toList = 0 ∧ (Ms.ansM b.data.toList).kind = 3 ∧ errD (Ms.ansM b.data.toList).body.data.toList = 0)) : broughtB b = none := by unfold broughtB; rw [if_neg h]
theorem feeL_take {A : List DeedD} {j : Nat} (h : j < A.length) : feeL (A.take (j + 1)) = feeL (A.take j) + A[j].fee := by rw [List.take_succ_eq_append_getElem h, feeL_snoc]
theorem weightL_take {A : List DeedD} {j : Nat} (h : j < A.length) : weightL (A.take (j + 1)) = weightL (A.take j) + A[j].weight := by rw [List.take_succ_eq_append_getElem h, weightL_snoc]
set_option maxRecDepth 20000 in
set_option maxHeartbeats 8000000 in
theorem topWorth_walk (salt : UInt64) (l : List ActD) (a : Option Addr) (cap : Nat) (hl : l.length ≤ 2932031007402) (w : World) (hi : ActsAt w a l) : Calls Tryz.prog 13 #[.int .u64 salt.toNat, .slice a l.length cap] w fun e w' => e = .returned (.bool true) ∧ Below w.heap.size w w' := by
  have hmm := @run_makeMap Tryz.prog
  have HI := Lib.hid hi
  have hml : maxLen = 9223372036854775807 := rfl
  clear hi
  go_enter Tryz.func13, Tryz.ntmps13
  go_wp2_with fail
  with_reducible refine (works_any _).mono ?_
  rintro e w1 ⟨rfl, hb1⟩
  have HB1 := Lib.hid hb1
  clear hb1
  go_wp2_with fail
  with_reducible refine (mine_new salt _ HB1.out).mono ?_
  rintro e w2 ⟨R, F, rfl, h2, _, _⟩
  obtain ⟨B, hB⟩ : ∃ B, w2.heap.size = B := ⟨_, rfl⟩
  obtain ⟨wm, hwm⟩ : ∃ wm, w2.alloc (.map #[] 0) = wm := ⟨_, rfl⟩
  have H3 : Hid (NodeDs w wm F R (NS.new salt) B (fun _ => none) (fun _ => none) 0) := Lib.hid ⟨hwm ▸ h2.kept (kept_new w2 _), hB ▸ hwm ▸ DMap.new w2 h2.node.there, hB ▸ h2.below.size⟩
  have HS3 : Hid (Sound (fun _ => none) (NS.new salt).A (NS.new salt).P []) := Lib.hid sound_none
  clear h2
  go_wp2_with fail
  go_loopw [30] (fun i wr => ∃ (k : Nat) (G : Nat → Prop) (u : NS) (ev : UInt64 → Option Value) (M : UInt64 → Option DeedD), k ≤ l.length ∧ i = .int .i64 k ∧ Hid (NodeDs w wr G R u B ev M k) ∧ Hid (NInv k u) ∧ Hid (Sound M u.A u.P [])) (fun i _ => l.length - (intOf i).toNat)
  case atStart => exact ⟨0, F, NS.new salt, _, _, Nat.zero_le _, rfl, H3, Lib.hid (inv_new salt), HS3⟩
  case round =>
    obtain ⟨k, G, u, ev, M, hk, rfl, H6, HN6, HS6⟩ := hrel
    clear hB hwm
    by_cases hkl : k < l.length
    · obtain ⟨⟨g, o, rfl, hg, c0⟩, hs⟩ := HI.out k hkl
      obtain ⟨y, hy⟩ : ∃ y, l[k] = y := ⟨_, rfl⟩
      rw [hy] at c0 hs
      obtain ⟨c0, c1, c2, c3, c4⟩ := c0
      have k0 := cell_later H6.out.mine.below c0
      have k1 := cell_later H6.out.mine.below c1
      have k2 := cell_later H6.out.mine.below c2
      have k3 := cell_later H6.out.mine.below c3
      have k4 := cell_later H6.out.mine.below c4
      have l5 := (cell_spot k0).2
      obtain ⟨D, hD⟩ : ∃ D, wr.heap.size = D := ⟨_, rfl⟩
      obtain ⟨wy, hwy⟩ : ∃ wy, wr.alloc (.cells #[.int .i64 y.kind, .int .i64 y.peer, .int .i64 y.n, .bool y.flag, .string y.bytes] 29) = wy := ⟨_, rfl⟩
      have hby : Below wr.heap.size wr wy := hwy ▸ kept_new _ _
      obtain ⟨y0, y1, y2, y3, y4⟩ := box_act wr y
      rw [hwy, hD] at y0 y1 y2 y3 y4
      have HY := Lib.hid (H6.out.kept hby)
      have HBX : Hid (ActB wy D y) := Lib.hid ⟨y0, y1, y2, y3, y4⟩
      have hly := (cell_spot y0).2
      have HNN : Hid (NInv (k + 1) (u.did y).1) := Lib.hid (did_inv HN6.out H6.out.mine.node.good.T y)
      have HDS : Hid (∀ M' : UInt64 → Option DeedD, Sound M' u.A u.P [] → (∀ d, broughtB y.bytes = some d → M' (Ju.idD d) = some d) → Sound M' (u.did y).1.A (u.did y).1.P []) := Lib.hid fun M' h1 h2 => did_sound h1 HN6.out.fly H6.out.mine.node.good.T y h2
      have hk2 : k ≤ 2950000000000 := by omega
      obtain ⟨q1, q2, q3, hq⟩ : ∃ q1 q2 q3, u.did y = (q1, q2, q3) := ⟨_, _, _, rfl⟩
      have HQ := Lib.hid hq
      rw [hq] at HNN HDS
      have HSS := Lib.hid hs
      obtain ⟨r, hr⟩ : ∃ r, Ms.errM y.bytes.data.toList = r := ⟨_, rfl⟩
      obtain ⟨kd, ids, body, hm⟩ : ∃ kd ids body, Ms.ansM y.bytes.data.toList = ⟨kd, ids, body⟩ := ⟨_, _, _, rfl⟩
      have HR := Lib.hid hr
      have HM := Lib.hid hm
      clear hy c0 c1 c2 c3 c4 hby hq y0 y1 y2 y3 hs hr hm
      go_wp2_with fail
      with_reducible refine (Ms.mdecode_all y.bytes r _ _ HSS.out HR.out HM.out).mono ?_
      rintro e w7 ⟨a7, c7, rfl, _, _, _, hb7⟩
      obtain ⟨wz, hwz⟩ : ∃ wz, w7.alloc (.cells #[.int .i64 kd, .slice a7 ids.length c7, .string body] 38) = wz := ⟨_, rfl⟩
      have hbz : Below wy.heap.size wy wz := kept_trans hb7 (hwz ▸ kept_new _ _)
      obtain ⟨m0, m1, m2⟩ : MsgBox wz w7.heap.size a7 c7 ⟨kd, ids, body⟩ := hwz ▸ box_msg w7 a7 c7 ⟨kd, ids, body⟩
      simp only at m0 m1 m2
      have HYZ := Lib.hid (HY.out.kept hbz)
      have HBZ := Lib.hid (HBX.out.kept hbz)
      have l8 := (cell_spot m0).2
      clear hb7 hbz k0 k1 k2 k3 k4 l5 y4 hly
      by_cases hr0 : r = 0
      case' neg =>
        have hrb : (r == 0) = false := by simpa using hr0
        have HX : Hid (Told w wz G R u B (k + 1) D y) := Lib.hid (told_none HYZ.out HS6.out HBZ.out (brought_not fun h => hr0 (HR.out ▸ h.1)))
        obtain ⟨wx, hwx⟩ : ∃ x, x = wz := ⟨_, rfl⟩
        subst hwx
      case' pos =>
        subst hr0
        by_cases hkd : kd = 3
        case' neg =>
          have hkb : (kd == 3) = false := by simpa using hkd
          have HX : Hid (Told w wz G R u B (k + 1) D y) := Lib.hid (told_none HYZ.out HS6.out HBZ.out (brought_not fun h => hkd (by have := h.2.1; rw [HM.out] at this; exact this)))
          obtain ⟨wx, hwx⟩ : ∃ x, x = wz := ⟨_, rfl⟩
          subst hwx
        case' pos =>
          subst hkd
          have hbl : body.size ≤ 100 := by
            obtain ⟨_, h2⟩ := Ms.errM_zero HR.out
            have : Ms.readM y.bytes.data.toList = ⟨3, ids, body⟩ := by rw [← HM.out]; unfold Ms.ansM; rw [if_pos HR.out]
            rw [this] at h2
            exact Ms.check_body h2
          obtain ⟨rd, hrd⟩ : ∃ rd, errD body.data.toList = rd := ⟨_, rfl⟩
          obtain ⟨dd, hdd⟩ : ∃ D, (if errD body.data.toList = 0 then readD body.data.toList else De.zeroD) = D := ⟨_, rfl⟩
          have HRD := Lib.hid hrd
          have HDD := Lib.hid hdd
          clear hrd hdd
          go_wp2_with fail
          with_reducible refine (decode_ans body rd _ (by omega) HRD.out dd HDD.out).mono ?_
          rintro e w9 ⟨a9, c9, rfl, _, hi9, hf9, hb9⟩
          obtain ⟨C, hC⟩ : ∃ C, w9.heap.size = C := ⟨_, rfl⟩
          obtain ⟨wd, hwd⟩ : ∃ wd, w9.alloc (.cells #[.slice a9 dd.ins.length c9, .int .i64 dd.outs, .int .i64 dd.weight, .int .i64 dd.fee] 50) = wd := ⟨_, rfl⟩
          have hbd : Below w9.heap.size w9 wd := hwd ▸ kept_new _ _
          obtain ⟨d0, d1, d2, d3⟩ : DeedBox wd C a9 c9 dd := hC ▸ hwd ▸ box_deed w9 a9 c9 dd
          have l9 := (cell_spot d0).2
          have HYD := Lib.hid (HYZ.out.kept (kept_trans hb9 hbd))
          have HBD := Lib.hid (HBZ.out.kept (kept_trans hb9 hbd))
          have HI9 := Lib.hid (insAt_kept hbd hi9)
          have HOUT : Hid (∀ bb o, dd.ins ≠ [] → a9 = some ⟨bb, o, none⟩ → ¬ G bb) := Lib.hid fun bb o _ e hf => by
            have h1 := hf9 _ _ _ e
            have h2 := HYZ.out.mine.node.there _ hf
            omega
          clear hb9 hbd hi9 hf9 m0 m1 m2 l8
          by_cases hrd0 : rd = 0
          case' neg =>
            have hrb' : (rd == 0) = false := by simpa using hrd0
            have HX : Hid (Told w wd G R u B (k + 1) D y) := Lib.hid (told_none HYD.out HS6.out HBD.out (brought_not fun h => hrd0 (by have := h.2.2; rw [HM.out] at this; rw [← HRD.out]; exact this)))
            obtain ⟨wx, hwx⟩ : ∃ x, x = wd := ⟨_, rfl⟩
            subst hwx
          case' pos =>
            subst hrd0
            have hbro : broughtB y.bytes = some dd := by
              unfold broughtB
              rw [if_pos ⟨HR.out, by rw [HM.out], by rw [HM.out]; exact HRD.out⟩, HM.out]
              have := HDD.out
              rw [if_pos HRD.out] at this
              exact congrArg some this
            have HCK := Lib.hid (brought_check hbro)
            have HBR := Lib.hid hbro
            obtain ⟨x, hx⟩ : ∃ x, Ju.idD dd = x := ⟨_, rfl⟩
            have HX := Lib.hid hx
            clear hbro hx
            go_wp2_with fail
            with_reducible refine (tidOf_any dd HCK.out a9 c9 x HX.out _ HI9.out).mono ?_
            rintro e w11 ⟨rfl, hb11⟩
            have HY11 := Lib.hid (HYD.out.kept hb11)
            have HB11 := Lib.hid (HBD.out.kept hb11)
            have HI11 := Lib.hid (insAt_kept hb11 HI9.out)
            have d0 := kept_cell hb11 d0
            have d1 := kept_cell hb11 d1
            have d2 := kept_cell hb11 d2
            have d3 := kept_cell hb11 d3
            have l9 := (cell_spot d0).2
            have hlook := HY11.out.ds.look x
            obtain ⟨mx, hmx⟩ : ∃ mx, M x = mx := ⟨_, rfl⟩
            clear hb11
            cases mx
            case' none =>
              have hev := HY11.out.ds.not x hmx
              rw [hmx, hev] at hlook
              simp only [Option.getD_none, Option.isSome_none, zeroD] at hlook
              have HMO : Hid (∀ e, M x = some e → e = dd) := Lib.hid fun e he => by (rw [hmx] at he; cases he)
              clear hmx hev
              go_upto_region 17 with fail
              obtain ⟨wt, hwt⟩ : ∃ wt, w11.alloc (.cells #[.slice none 0 0, .int .i64 0, .int .i64 0, .int .i64 0] 50) = wt := ⟨_, rfl⟩
              have hbt : Below w11.heap.size w11 wt := hwt ▸ kept_new _ _
              rw [hwt]
              have HYT := Lib.hid (HY11.out.kept hbt)
              have HBT := Lib.hid (HB11.out.kept hbt)
              have HIT := Lib.hid (insAt_kept hbt HI11.out)
              have d0 := kept_cell hbt d0
              have d1 := kept_cell hbt d1
              have d2 := kept_cell hbt d2
              have d3 := kept_cell hbt d3
              have l9 := (cell_spot d0).2
              clear hbt
            case' some d' =>
              obtain ⟨q', hq1, hq2, hq3, _⟩ := HY11.out.ds.has x d' hmx
              subst hq1
              rw [hmx, hq2] at hlook
              simp only [Option.getD_some, Option.isSome_some, dW] at hlook
              obtain ⟨T, hT⟩ : ∃ T, w11.heap.size = T := ⟨_, rfl⟩
              obtain ⟨wv, hwv⟩ : ∃ wv, w11.alloc (.cells #[.slice q'.ia q'.d.ins.length q'.ic, .int .i64 q'.d.outs, .int .i64 q'.d.weight, .int .i64 q'.d.fee] 50) = wv := ⟨_, rfl⟩
              have hbt : Below w11.heap.size w11 wv := hwv ▸ kept_new _ _
              obtain ⟨t0, t1, t2, t3⟩ : DeedBox wv T q'.ia q'.ic q'.d := hT ▸ hwv ▸ box_deed w11 q'.ia q'.ic q'.d
              have lt := (cell_spot t0).2
              have HYV := Lib.hid (HY11.out.kept hbt)
              have HBV := Lib.hid (HB11.out.kept hbt)
              have HIV := Lib.hid (insAt_kept hbt HI11.out)
              have HIQ := Lib.hid (insAt_kept hbt hq3)
              have d0 := kept_cell hbt d0
              have d1 := kept_cell hbt d1
              have d2 := kept_cell hbt d2
              have d3 := kept_cell hbt d3
              have l9 := (cell_spot d0).2
              have HQL : Hid (q'.d.ins.length ≤ maxLen) := Lib.hid (by have := (check_ok (HY11.out.ds.id x _ hmx).2).1; have : maxLen = 9223372036854775807 := rfl; omega)
              obtain ⟨eb, heb⟩ : ∃ eb, eqD q'.d dd = eb := ⟨_, rfl⟩
              have HEB := Lib.hid heb
              have HMX := Lib.hid hmx
              clear hbt hq3 hq2 heb hmx
              go_wp2_with fail
              with_reducible refine (deedEq_any q'.d dd q'.ia a9 q'.ic c9 _ HQL.out HIQ.out HIV.out).mono ?_
              rintro e wt ⟨rfl, hbt⟩
              rw [HEB.out]
              have HYT := Lib.hid (HYV.out.kept hbt)
              have HBT := Lib.hid (HBV.out.kept hbt)
              have HIT := Lib.hid (insAt_kept hbt HIV.out)
              have d0 := kept_cell hbt d0
              have d1 := kept_cell hbt d1
              have d2 := kept_cell hbt d2
              have d3 := kept_cell hbt d3
              have l9 := (cell_spot d0).2
              clear hbt t0 t1 t2 t3 lt
              cases eb
              case' false =>
                go_wp2_with fail
                go_ret
                exact ⟨rfl, HYT.out.mine.below⟩
              case' true =>
                have HMO : Hid (∀ e, M x = some e → e = dd) := Lib.hid fun e he => by
                  rw [HMX.out] at he
                  rw [← Option.some.inj he]
                  exact eqD_true HEB.out
                go_upto_region 17 with fail
            all_goals
              have hdr := (Below.refl wt.heap.size wt).drew
              have HYT := Lib.hid (HYT.out.kept hdr)
              have HBT := Lib.hid (HBT.out.kept hdr)
              have HIT := Lib.hid (insAt_kept hdr HIT.out)
              have d0 := kept_cell hdr d0
              have d1 := kept_cell hdr d1
              have d2 := kept_cell hdr d2
              have d3 := kept_cell hdr d3
              have l9 := (cell_spot d0).2
              clear hdr
              go_cut [] from 69 to 72 (fun wx => Hid (Told w wx G R u B (k + 1) D y))
              case first =>
                go_region_law (first
                  | (go_simp; go_at_call 46; (with_reducible refine (tidOf_any dd HCK.out a9 c9 x HX.out _ HIT.out).mono ?_); rintro e w15 ⟨rfl, hb15⟩; have d0 := kept_cell hb15 d0; have d1 := kept_cell hb15 d1; have d2 := kept_cell hb15 d2; have d3 := kept_cell hb15 d3; have l9 := (cell_spot d0).2; obtain ⟨w16, hput, hn16, ht16, hm16⟩ := (HYT.out.kept hb15).put hk2 x ⟨a9, c9, dd⟩ HX.out HCK.out (insAt_kept hb15 HIT.out) HOUT.out; have HN16 := Lib.hid hn16; have HB16 := Lib.hid ((HBT.out.kept hb15).mapped ht16 hm16); unfold dW at hput; simp only at hput; clear hb15 hn16 ht16 hm16))
                all_goals
                  go_wp2_with fail
                  go_meet
                  case rel => exact Lib.hid ⟨_, _, HN16.out, HS6.out.mono (updD_more HMO.out), (fun d hd => by (rw [HBR.out] at hd; rw [← Option.some.inj hd, HX.out]; exact updD_self _ _ _)), HB16.out⟩
              case' rest =>
                have HX := hcut
      all_goals
        obtain ⟨ev1, M1, hx1, hs1, hb1', ha1⟩ := HX.out
        have H9 := Lib.hid hx1
        have HS9 := Lib.hid (HDS.out M1 hs1 hb1')
        obtain ⟨z0, z1, z2, z3, z4⟩ := ha1
        have lz := (cell_spot z0).2
        clear hx1 hs1 hb1'
        go_wp2_with fail
        with_reducible refine (tdid_any y k hk2 HN6.out HSS.out _ HQ.out _ H9.out.mine.node).mono ?_
        rintro e w20 ⟨v20, G20, rfl, ho20, h20, t20, _⟩
        simp only at ho20 h20 ⊢
        obtain ⟨a20, c20, rfl, _⟩ := outs_form ho20
        have H20 := Lib.hid (H9.out.turned h20 t20)
        clear ho20 h20 t20 z0 z1 z2 z3 z4 lz
        go_wp2_with fail
        go_roundw
        case rel => exact ⟨k + 1, G20, q1, ev1, M1, by omega, by go_num, H20, HNN, HS9⟩
        case measure => simp [intOf]; omega
    · obtain ⟨n, hn⟩ : ∃ n, u.A.length = n := ⟨_, rfl⟩
      obtain ⟨xs, hxs⟩ : ∃ xs, u.A.map Ju.idD = xs := ⟨_, rfl⟩
      have hn3 : n ≤ 2950000000000 := by have := HN6.out.sum; omega
      have HN := Lib.hid hn
      have HXS := Lib.hid hxs
      have HXL : Hid (xs.length = n) := Lib.hid (by rw [← hxs, List.length_map, hn])
      clear hn hxs
      go_wp2_with fail
      with_reducible refine (accepted_is xs n HXS.out HXL.out (by omega) _ H6.out.mine.node).mono ?_
      rintro e w8 ⟨a8, c8, rfl, hat8, hb8⟩
      have H8 := Lib.hid (H6.out.kept hb8)
      have HA8 := Lib.hid hat8
      obtain ⟨wB, hwB⟩ : ∃ x, x = wr := ⟨_, rfl⟩
      subst hwB
      clear hat8 hb8
      go_wp2_with fail
      go_loopw [15, 16, 80] (fun v15 v16 i wr => ∃ (j : Nat) (f g : Int), j ≤ n ∧ i = .int .i64 j ∧ v15 = .int .i64 f ∧ v16 = .int .i64 g ∧ 0 ≤ f ∧ f ≤ 1000 * j ∧ 0 ≤ g ∧ g ≤ 1000 * j ∧ Hid (feeL (u.A.take j) = f ∧ weightL (u.A.take j) = g) ∧ Hid (Below w8.heap.size w8 wr)) (fun _ _ i _ => n - (intOf i).toNat)
      case atStart => exact ⟨0, 0, 0, Nat.zero_le _, rfl, rfl, rfl, by omega, by omega, by omega, by omega, Lib.hid ⟨rfl, rfl⟩, Lib.hid (Below.refl _ _)⟩
      case round =>
        obtain ⟨j, f, g, hj, rfl, rfl, rfl, hf0, hf1, hg0, hg1, HFG, HB9⟩ := hrel
        by_cases hjn : j < n
        · obtain ⟨b, o, rfl, hb, c0⟩ := idsAt_kept HB9.out HA8.out j (by rw [HXL.out]; exact hjn)
          have hjA : j < u.A.length := by rw [HN.out]; exact hjn
          obtain ⟨x, hx⟩ : ∃ x, xs[j]'(by rw [HXL.out]; exact hjn) = x := ⟨_, rfl⟩
          obtain ⟨d, hd⟩ : ∃ d, u.A[j] = d := ⟨_, rfl⟩
          have hdx : Ju.idD d = x := by
            have h1 : xs[j]? = some (Ju.idD d) := by rw [← HXS.out, List.getElem?_map, List.getElem?_eq_getElem hjA, hd]; rfl
            rw [← hx]
            exact ((List.getElem?_eq_some_iff.1 h1).2).symm
          have hdm : d ∈ u.A := hd ▸ List.getElem_mem _
          have hMx : M x = some d := hdx ▸ HS6.out.a d hdm
          obtain ⟨q, hq1, hq2, _, _⟩ := H8.out.ds.has x d hMx
          have hlook := (H8.out.kept HB9.out).ds.look x
          have hFT := feeL_take hjA
          have hWT := weightL_take hjA
          rw [hd] at hFT hWT
          subst hq1
          rw [hMx, hq2] at hlook
          simp only [Option.getD_some, Option.isSome_some, dW] at hlook
          obtain ⟨_, _, _, _, hw1, hf2⟩ := check_ok (HS6.out.fine _ hdm)
          have HT : Hid (feeL (u.A.take (j + 1)) = f + q.d.fee ∧ weightL (u.A.take (j + 1)) = g + q.d.weight) := Lib.hid (by rw [hFT, hWT, HFG.out.1, HFG.out.2]; exact ⟨rfl, rfl⟩)
          rw [hx] at c0
          have l5 := (cell_spot c0).2
          obtain ⟨wq, hwq⟩ : ∃ wq, wr.alloc (.cells #[.slice q.ia q.d.ins.length q.ic, .int .i64 q.d.outs, .int .i64 q.d.weight, .int .i64 q.d.fee] 50) = wq := ⟨_, rfl⟩
          obtain ⟨Q, hQ⟩ : ∃ Q, wr.heap.size = Q := ⟨_, rfl⟩
          have HBQ : Hid (Below w8.heap.size w8 wq) := Lib.hid (hwq ▸ kept_trans HB9.out (kept_new _ _))
          obtain ⟨t0, t1, t2, t3⟩ : DeedBox wq Q q.ia q.ic q.d := hQ ▸ hwq ▸ box_deed wr q.ia q.ic q.d
          have lq := (cell_spot t0).2
          obtain ⟨fe, hfe⟩ : ∃ fe, q.d.fee = fe := ⟨_, rfl⟩
          obtain ⟨we, hwe⟩ : ∃ we, q.d.weight = we := ⟨_, rfl⟩
          clear hFT hWT hx hd hdx hdm hMx hq2
          rw [hfe] at HT t3 hf2 hwq hlook
          rw [hwe] at HT t2 hw1 hwq hlook
          obtain ⟨hw1, hw2⟩ := hw1
          obtain ⟨hf2, hf3⟩ := hf2
          go_wp2_with fail
          go_roundw
          case rel => exact ⟨j + 1, f + fe, g + we, by omega, by go_num, by go_num, by go_num, by omega, by omega, by omega, by omega, HT, HBQ⟩
          case measure => simp [intOf]; omega
        · have hjn' : j = n := by omega
          subst hjn'
          have hfg : g ≤ 10 * f := by
            have h1 := HFG.out
            rw [List.take_of_length_le (by rw [HN.out]; exact Nat.le_refl _)] at h1
            have := HS6.out.worth
            omega
          have HM8 := Lib.hid (kept_trans H8.out.mine.below HB9.out)
          go_wp2_with fail
          go_ret
          exact ⟨rfl, HM8.out⟩
end Go.Proofs.YtaaaplbjeknbkaaGreat
