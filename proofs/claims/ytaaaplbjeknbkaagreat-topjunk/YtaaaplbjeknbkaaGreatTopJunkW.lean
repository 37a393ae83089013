/-
  TopJunk: the walk.
-/
import Derived.Test.YtaaaplbjeknbkaaGreatTopK2
import Derived.Test.YtaaaplbjeknbkaaGreatTopDid
import Derived.Test.YtaaaplbjeknbkaaGreatStrsOpen
set_option maxRecDepth 20000
namespace Go.Proofs.YtaaaplbjeknbkaaGreat
open Go.RowKit Go.Maps

variable {w w' w0 : World} {F F' G : Nat → Prop} {R R' D : Nat} {s u t : NS} {y : ActD}

theorem strsAt_kept {a : Option Addr} {l : List ByteArray} (hb : Below w.heap.size w w') (h : StrsAt w a l) : StrsAt w' a l := fun i hi => by
  obtain ⟨b, o, e, hlt, c, hs⟩ := h i hi
  exact ⟨b, o, e, Nat.lt_of_lt_of_le hlt hb.size, kept_cell hb c, hs⟩
/-- An act in a block. -/
def ActBox (w : World) (D : Nat) (y : ActD) : Prop :=
  w.cell? ⟨D, 0, none⟩ = some (.int .i64 y.kind) ∧ w.cell? ⟨D, 1, none⟩ = some (.int .i64 y.peer) ∧ w.cell? ⟨D, 2, none⟩ = some (.int .i64 y.n) ∧ w.cell? ⟨D, 3, none⟩ = some (.bool y.flag) ∧ w.cell? ⟨D, 4, none⟩ = some (.string y.bytes)
theorem ActBox.kept (h : ActBox w D y) (hb : Below w.heap.size w w') : ActBox w' D y := ⟨kept_cell hb h.1, kept_cell hb h.2.1, kept_cell hb h.2.2.1, kept_cell hb h.2.2.2.1, kept_cell hb h.2.2.2.2⟩
theorem ActBox.lt (h : ActBox w D y) : D < w.heap.size := (cell_spot h.1).2
theorem ActBox.turned (h : ActBox w D y) (ht : Turn F F' w w') (hn : ¬ F D) : ActBox w' D y := by
  have e := ht.block D h.lt hn
  have c : ∀ (k : Nat) v, w.cell? ⟨D, k, none⟩ = some v → w'.cell? ⟨D, k, none⟩ = some v := fun k v hv => (World.cell?_of_block (w := w) (a := ⟨D, k, none⟩) e).trans hv
  exact ⟨c 0 _ h.1, c 1 _ h.2.1, c 2 _ h.2.2.1, c 3 _ h.2.2.2.1, c 4 _ h.2.2.2.2⟩
/-- Two nodes, and an act of the law's own. -/
structure JSt (w0 w : World) (F : Nat → Prop) (R : Nat) (s : NS) (F' : Nat → Prop) (R' : Nat) (s' : NS) (D : Nat) (y : ActD) : Prop where
  two : Mine2 w0 w F R s F' R' s'
  box : ActBox w D y
  n1 : ¬ F D
  n2 : ¬ F' D
theorem JSt.kept (h : JSt w0 w F R s F' R' u D y) (hb : Below w.heap.size w w') : JSt w0 w' F R s F' R' u D y := ⟨h.two.kept hb, h.box.kept hb, h.n1, h.n2⟩
theorem JSt.turn1 (h : JSt w0 w F R s F' R' u D y) (hn : NodeAt w' G R t) (ht : Turn F G w w') : JSt w0 w' G R t F' R' u D y :=
  ⟨h.two.turn1 hn ht, h.box.turned ht h.n1, fun hf => (ht.own D hf).elim h.n1 (fun hle => by have := h.box.lt; omega), h.n2⟩
theorem JSt.turn2 (h : JSt w0 w F R s F' R' u D y) (hn : NodeAt w' G R' t) (ht : Turn F' G w w') : JSt w0 w' F R s G R' t D y :=
  ⟨h.two.turn2 hn ht, h.box.turned ht h.n2, h.n1, fun hf => (ht.own D hf).elim h.n2 (fun hle => by have := h.box.lt; omega)⟩
/-- Junk changes nothing. -/
theorem junk_send {p : Int} {j : ByteArray} (h : Ms.errM j.data.toList ≠ 0 ∨ ((Ms.ansM j.data.toList).kind = 3 ∧ errD (Ms.ansM j.data.toList).body.data.toList ≠ 0)) : ∃ r, r ≠ 0 ∧ u.send p j = (u, [], r) := by
  unfold NS.send
  by_cases ht : u.thereE p = 0
  · rw [if_neg (not_not_intro ht)]
    by_cases he : Ms.errM j.data.toList = 0
    · rw [if_neg (not_not_intro he)]
      obtain ⟨hk, hd⟩ := h.resolve_left (not_not_intro he)
      refine ⟨_, hd, ?_⟩
      simp only [hk]
      rw [if_neg (by decide), if_neg (by decide), if_neg (by decide), if_pos hd]
    · rw [if_pos he]
      exact ⟨_, he, rfl⟩
  · rw [if_pos ht]
    exact ⟨_, ht, rfl⟩
theorem join6 (salt : UInt64) (w : World) (h : NodeAt w F R (NS.new salt)) : Calls Tryz.prog 35 #[.pointer (some ⟨R, 0, none⟩), .int .i64 6, .bool true] w (TurnsN w F R (.int .i64 0) ((NS.new salt).setPeer 6 (true, true))) := join_any 6 true _ (join_new salt 6 (by decide) true) w h
set_option maxRecDepth 20000 in
set_option maxHeartbeats 8000000 in
theorem topJunk_walk (salt : UInt64) (l : List ActD) (a : Option Addr) (cap : Nat) (lj : List ByteArray) (aj : Option Addr) (cj : Nat) (hl : l.length ≤ 2932031007402) (_hlj : lj.length ≤ maxLen) (w : World) (hi : ActsAt w a l) (hij : StrsAt w aj lj) : Calls Tryz.prog 14 #[.int .u64 salt.toNat, .slice a l.length cap, .slice aj lj.length cj] w fun e w' => e = .returned (.bool true) ∧ Below w.heap.size w w' := by
  have HI := Lib.hid hi
  have HIJ := Lib.hid hij
  have hml : maxLen = 9223372036854775807 := rfl
  clear hi hij
  go_enter Tryz.func14, Tryz.ntmps14
  go_wp2_with fail
  with_reducible refine (works_any _).mono ?_
  rintro e w1 ⟨rfl, hb1⟩
  have HB1 := Lib.hid hb1
  clear hb1
  go_wp2_with fail
  with_reducible refine (mine_new salt _ HB1.out).mono ?_
  rintro e w2 ⟨R, F, rfl, h2, _, _⟩
  have H2 := Lib.hid h2
  clear h2
  go_wp2_with fail
  with_reducible refine (mine_new salt _ H2.out.below).mono ?_
  rintro e w3 ⟨R', F', rfl, h3, hF3, hb3⟩
  have H3 : Hid (Mine2 w w3 F R (NS.new salt) F' R' (NS.new salt)) := Lib.hid ⟨H2.out.node.kept hb3, h3.node, (fun k h1 h2 => by have h4 := H2.out.node.there k h1; have h5 := hF3 k h2; omega), H2.out.above, h3.above, h3.below⟩
  clear h3 hF3 hb3
  go_wp2_with fail
  with_reducible refine (join6 salt _ H3.out.one).mono ?_
  rintro e w4 ⟨rfl, F4, h4, t4⟩
  have H4 := Lib.hid (H3.out.turn1 h4 t4)
  clear h4 t4
  go_wp2_with fail
  with_reducible refine (join6 salt _ H4.out.two).mono ?_
  rintro e w5 ⟨rfl, F5, h5, t5⟩
  have H5 := Lib.hid (H4.out.turn2 h5 t5)
  clear h5 t5
  go_wp2_with fail
  go_loopw [38] (fun i wr => ∃ (k : Nat) (G G' : Nat → Prop) (u : NS), k ≤ l.length ∧ i = .int .i64 k ∧ Hid (Mine2 w wr G R u G' R' u) ∧ Hid (NInv k u)) (fun i _ => l.length - (intOf i).toNat)
  case atStart => exact ⟨0, F4, F5, (NS.new salt).setPeer 6 (true, true), Nat.zero_le _, rfl, H5, Lib.hid ⟨fly_none rfl, Nat.le_refl _⟩⟩
  case round =>
    obtain ⟨k, G, G', u, hk, rfl, H6, HN6⟩ := hrel
    by_cases hkl : k < l.length
    · obtain ⟨⟨g, o, rfl, hg, c0⟩, hs⟩ := HI.out k hkl
      obtain ⟨y, hy⟩ : ∃ y, l[k] = y := ⟨_, rfl⟩
      rw [hy] at c0 hs
      obtain ⟨c0, c1, c2, c3, c4⟩ := c0
      have k0 := cell_later H6.out.below c0
      have k1 := cell_later H6.out.below c1
      have k2 := cell_later H6.out.below c2
      have k3 := cell_later H6.out.below c3
      have k4 := cell_later H6.out.below c4
      have l5 := (cell_spot k0).2
      obtain ⟨wy, hwy⟩ : ∃ wy, wr.alloc (.cells #[.int .i64 y.kind, .int .i64 y.peer, .int .i64 y.n, .bool y.flag, .string y.bytes] 29) = wy := ⟨_, rfl⟩
      have hby : Below wr.heap.size wr wy := hwy ▸ kept_new _ _
      obtain ⟨y0, y1, y2, y3, y4⟩ := box_act wr y
      rw [hwy] at y0 y1 y2 y3 y4
      have HJY : Hid (JSt w wy G R u G' R' u wr.heap.size y) := Lib.hid ⟨H6.out.kept hby, ⟨y0, y1, y2, y3, y4⟩, fun hf => by have := H6.out.one.there _ hf; omega, fun hf => by have := H6.out.two.there _ hf; omega⟩
      have HNN : Hid (NInv (k + 1) (u.did y).1) := Lib.hid (did_inv HN6.out H6.out.one.good.T y)
      have hk2 : k ≤ 2950000000000 := by omega
      obtain ⟨q1, q2, q3, hq⟩ : ∃ q1 q2 q3, u.did y = (q1, q2, q3) := ⟨_, _, _, rfl⟩
      have HQ := Lib.hid hq
      rw [hq] at HNN
      have hql : q2.length ≤ 1000000 := did_few hq
      have HSB := Lib.hid (strsAt_kept HJY.out.two.below HIJ.out)
      have HSS := Lib.hid hs
      have HKU : Hid (NInv (k + 1) u) := Lib.hid ⟨HN6.out.fly, by have := HN6.out.sum; omega⟩
      have HAL : Hid (u.A.length ≤ 2950000000000) := Lib.hid (by have := HN6.out.sum; omega)
      clear hy c0 c1 c2 c3 c4 hby hq y0 y1 y2 y3 y4 hs
      have hsk : ((y.peer == 6) = true ∧ (y.kind != 4) = true) ∨ ((y.peer == 6) = true ∧ (y.kind != 4) = false) ∨ (y.peer == 6) = false := by
        cases (y.peer == 6) <;> cases (y.kind != 4) <;> simp
      by_cases hjk : k < lj.length
      case' neg =>
        have HX : Hid (∃ G G', JSt w wy G R u G' R' u wr.heap.size y) := Lib.hid ⟨G, G', HJY.out⟩
        obtain ⟨wx, hwx⟩ : ∃ x, x = wy := ⟨_, rfl⟩
        subst hwx
      case' pos =>
        obtain ⟨gj, oj, rfl, hgj, cj0, hjs⟩ := HSB.out k hjk
        obtain ⟨j, hj⟩ : ∃ j, lj[k] = j := ⟨_, rfl⟩
        rw [hj] at cj0 hjs
        have l6 := (cell_spot cj0).2
        obtain ⟨r, hr⟩ : ∃ r, Ms.errM j.data.toList = r := ⟨_, rfl⟩
        obtain ⟨kd, ids, body, hm⟩ : ∃ kd ids body, Ms.ansM j.data.toList = ⟨kd, ids, body⟩ := ⟨_, _, _, rfl⟩
        have HR := Lib.hid hr
        have HM := Lib.hid hm
        have HJS := Lib.hid hjs
        clear hj hr hm hjs
        go_wp2_with fail
        with_reducible refine (Ms.mdecode_all j r _ _ HJS.out HR.out HM.out).mono ?_
        rintro e w7 ⟨a7, c7, rfl, _, _, _, hb7⟩
        obtain ⟨wz, hwz⟩ : ∃ wz, w7.alloc (.cells #[.int .i64 kd, .slice a7 ids.length c7, .string body] 38) = wz := ⟨_, rfl⟩
        have hbz : Below wy.heap.size wy wz := kept_trans hb7 (hwz ▸ kept_new _ _)
        obtain ⟨m0, m1, m2⟩ : MsgBox wz w7.heap.size a7 c7 ⟨kd, ids, body⟩ := hwz ▸ box_msg w7 a7 c7 ⟨kd, ids, body⟩
        simp only at m0 m1 m2
        have HJZ := Lib.hid (HJY.out.kept hbz)
        have l8 := (cell_spot m0).2
        clear hb7 hbz cj0 l6
        by_cases hr0 : r = 0
        case' neg =>
          have hrb : (r == 0) = false := by simpa using hr0
          have hrb' : (r != 0) = true := by simpa using hr0
          obtain ⟨r2, hr2, hsd⟩ := junk_send (u := u) (p := 6) (j := j) (.inl (by rw [HR.out]; exact hr0))
          have HSD := Lib.hid hsd
          have hr2b : (r2 == 0) = false := by simpa using hr2
          clear hsd
          go_wp2_with fail
          with_reducible refine (send_any 6 j HJS.out HAL.out _ HSD.out _ HJZ.out.two.one).mono ?_
          rintro e wx ⟨v8, G8, rfl, ho8, h8, t8, _⟩
          simp only at ho8 h8 ⊢
          obtain ⟨a8, c8, rfl, _⟩ := outs_form ho8
          have HX : Hid (∃ G G', JSt w wx G R u G' R' u wr.heap.size y) := Lib.hid ⟨G8, G', HJZ.out.turn1 h8 t8⟩
          clear ho8 h8 t8 m0 m1 m2 l8
        case' pos =>
          subst hr0
          by_cases hkd : kd = 3
          case' neg =>
            have hkb : (kd == 3) = false := by simpa using hkd
            have HX : Hid (∃ G G', JSt w wz G R u G' R' u wr.heap.size y) := Lib.hid ⟨G, G', HJZ.out⟩
            obtain ⟨wx, hwx⟩ : ∃ x, x = wz := ⟨_, rfl⟩
            subst hwx
          case' pos =>
            subst hkd
            have hbl : body.size ≤ 100 := by
              obtain ⟨_, h2⟩ := Ms.errM_zero HR.out
              have : Ms.readM j.data.toList = ⟨3, ids, body⟩ := by rw [← HM.out]; unfold Ms.ansM; rw [if_pos HR.out]
              rw [this] at h2
              exact Ms.check_body h2
            obtain ⟨rd, hrd⟩ : ∃ rd, errD body.data.toList = rd := ⟨_, rfl⟩
            obtain ⟨dd, hdd⟩ : ∃ D, (if errD body.data.toList = 0 then readD body.data.toList else De.zeroD) = D := ⟨_, rfl⟩
            have HRD := Lib.hid hrd
            have HDD := Lib.hid hdd
            clear hrd hdd
            go_wp2_with fail
            with_reducible refine (decode_ans body rd _ (by omega) HRD.out dd HDD.out).mono ?_
            rintro e w9 ⟨a9, c9, rfl, _, _, _, hb9⟩
            have HJ9 := Lib.hid (HJZ.out.kept hb9)
            clear hb9 m0 m1 m2 l8
            by_cases hrd0 : rd = 0
            case' pos =>
              subst hrd0
              have HX : Hid (∃ G G', JSt w w9 G R u G' R' u wr.heap.size y) := Lib.hid ⟨G, G', HJ9.out⟩
              obtain ⟨wx, hwx⟩ : ∃ x, x = w9 := ⟨_, rfl⟩
              subst hwx
            case' neg =>
              have hrb' : (rd != 0) = true := by simpa using hrd0
              obtain ⟨r2, hr2, hsd⟩ := junk_send (u := u) (p := 6) (j := j) (.inr (by rw [HM.out]; exact ⟨rfl, by rw [HRD.out]; exact hrd0⟩))
              have HSD := Lib.hid hsd
              have hr2b : (r2 == 0) = false := by simpa using hr2
              clear hsd
              go_wp2_with fail
              with_reducible refine (send_any 6 j HJS.out HAL.out _ HSD.out _ HJ9.out.two.one).mono ?_
              rintro e wx ⟨v8, G8, rfl, ho8, h8, t8, _⟩
              simp only at ho8 h8 ⊢
              obtain ⟨a8, c8, rfl, _⟩ := outs_form ho8
              have HX : Hid (∃ G G', JSt w wx G R u G' R' u wr.heap.size y) := Lib.hid ⟨G8, G', HJ9.out.turn1 h8 t8⟩
              clear ho8 h8 t8
      all_goals
        obtain ⟨G1, G1', hx⟩ := HX.out
        have HXX := Lib.hid hx
        obtain ⟨z0, z1, z2, z3, z4⟩ := hx.box
        have lz := hx.box.lt
        clear hx
        rcases hsk with ⟨hpb, hkb⟩ | ⟨hpb, hkb⟩ | hpb
        case' inl =>
          have HT := Lib.hid HXX.out.two
          go_wp2_with fail
          go_roundw
          case rel => exact ⟨k + 1, G1, G1', u, by omega, by go_num, HT, HKU⟩
          case measure => simp [intOf]; omega
        all_goals
          go_wp2_with fail
          with_reducible refine (tdid_any y k hk2 HN6.out HSS.out _ HQ.out _ HXX.out.two.one).mono ?_
          rintro e w10 ⟨v10, G10, rfl, ho10, h10, t10, _⟩
          simp only at ho10 h10 ⊢
          obtain ⟨a10, c10, rfl, _, _⟩ := owns_outsAt ho10
          have H10 := Lib.hid (HXX.out.turn1 h10 t10)
          have HO10 := Lib.hid ho10
          obtain ⟨x0, x1, x2, x3, x4⟩ := H10.out.box
          have lx := H10.out.box.lt
          have HTH : Hid (∀ g, G1' g → g < wx.heap.size) := Lib.hid fun g hg => HXX.out.two.two.there g hg
          clear h10 t10 ho10 z0 z1 z2 z3 z4 lz
          go_wp2_with fail
          with_reducible refine (tdid_any y k hk2 HN6.out HSS.out _ HQ.out _ H10.out.two.two).mono ?_
          rintro e w11 ⟨v11, G11, rfl, ho11, h11, t11, _⟩
          simp only at ho11 h11 ⊢
          obtain ⟨a11, c11, rfl, _, hat11⟩ := owns_outsAt ho11
          have H11 := Lib.hid (H10.out.turn2 h11 t11)
          have ho1011 := own_turn HO10.out t11 (fun gg hgg hf => by have h1 := HTH.out gg hf; have h2 := (HO10.out.lt gg hgg).1; omega)
          obtain ⟨a10', c10', e10', _, hat10⟩ := owns_outsAt ho1011
          simp only [Value.slice.injEq, true_and] at e10'
          obtain ⟨rfl, rfl⟩ := e10'
          have HA10 := Lib.hid hat10
          have HA11 := Lib.hid hat11
          clear h11 t11 ho11 hat11 ho1011 hat10 x0 x1 x2 x3 x4 lx
          go_wp2_with fail
          with_reducible refine (eqOut_same q2 a10 a11 c10 c11 _ hql HA10.out HA11.out).mono ?_
          rintro e w12 ⟨rfl, hb12⟩
          have H12 := Lib.hid (H11.out.kept hb12)
          have HT := Lib.hid H12.out.two
          clear hb12
          go_wp2_with fail
          go_roundw
          case rel => exact ⟨k + 1, G10, G11, q1, by omega, by go_num, HT, HNN⟩
          case measure => simp [intOf]; omega
    · have HM0 := H6
      have HAL : Hid (u.A.length ≤ 10000000000000) := Lib.hid (by have := HN6.out.sum; omega)
      have hAl : (u.A.map Ju.idD).length ≤ maxLen := by rw [List.length_map]; have := HAL.out; have : maxLen = 9223372036854775807 := rfl; omega
      have hPl : (Ho.allL u.P).length ≤ maxLen := by
        have h1 := H6.out.one.good.P.len
        have h2 := Ho.allL_len u.P
        have : maxLen = 9223372036854775807 := rfl
        omega
      have HLA := Lib.hid hAl
      have HLP := Lib.hid hPl
      clear hAl hPl
      go_wp2_with fail
      with_reducible refine (accepted_any HAL.out _ HM0.out.one).mono ?_
      rintro e w5 ⟨a5, c5, rfl, ho5, hb5⟩
      have H5 := Lib.hid (HM0.out.kept hb5)
      obtain ⟨x1, hx1⟩ : ∃ x1, u.A.map Ju.idD = x1 := ⟨_, rfl⟩
      have HX1 := Lib.hid hx1
      rw [hx1] at ho5 HLA ⊢
      obtain ⟨a5', c5', e5, _, hat5, _⟩ := owns_idsAt ho5
      simp only [Value.slice.injEq, true_and] at e5
      obtain ⟨rfl, rfl⟩ := e5
      have HA5 := Lib.hid hat5
      clear hb5 ho5 hat5 hx1
      go_wp2_with fail
      with_reducible refine (accepted_any HAL.out _ H5.out.two).mono ?_
      rintro e w6 ⟨a6, c6, rfl, ho6, hb6⟩
      rw [HX1.out] at ho6 ⊢
      have H6 := Lib.hid (H5.out.kept hb6)
      obtain ⟨a6', c6', e6, _, hat6, _⟩ := owns_idsAt ho6
      simp only [Value.slice.injEq, true_and] at e6
      obtain ⟨rfl, rfl⟩ := e6
      have HA6 := Lib.hid hat6
      have HA56 := Lib.hid (idsAt_kept hb6 HA5.out)
      clear hb6 ho6 hat6
      go_wp2_with fail
      with_reducible refine (eqID_is x1 x1 a5 a6 c5 c6 _ true HLA.out HA56.out HA6.out (by simp)).mono ?_
      rintro e w7 ⟨rfl, rfl⟩
      have H7 := H6
      go_wp2_with fail
      with_reducible refine (orphans_any _ H7.out.one).mono ?_
      rintro e w8 ⟨a8, c8, rfl, ho8, hb8⟩
      have H8 := Lib.hid (H7.out.kept hb8)
      obtain ⟨x2, hx2⟩ : ∃ x2, Ho.allL u.P = x2 := ⟨_, rfl⟩
      have HX2 := Lib.hid hx2
      rw [hx2] at ho8 HLP ⊢
      obtain ⟨a8', c8', e8, _, hat8, _⟩ := owns_idsAt ho8
      simp only [Value.slice.injEq, true_and] at e8
      obtain ⟨rfl, rfl⟩ := e8
      have HA8 := Lib.hid hat8
      clear hb8 ho8 hat8 hx2
      go_wp2_with fail
      with_reducible refine (orphans_any _ H8.out.two).mono ?_
      rintro e w9 ⟨a9, c9, rfl, ho9, hb9⟩
      rw [HX2.out] at ho9 ⊢
      have H9 := Lib.hid (H8.out.kept hb9)
      obtain ⟨a9', c9', e9, _, hat9, _⟩ := owns_idsAt ho9
      simp only [Value.slice.injEq, true_and] at e9
      obtain ⟨rfl, rfl⟩ := e9
      have HA9 := Lib.hid hat9
      have HA89 := Lib.hid (idsAt_kept hb9 HA8.out)
      clear hb9 ho9 hat9
      go_wp2_with fail
      with_reducible refine (eqID_is x2 x2 a8 a9 c8 c9 _ true HLP.out HA89.out HA9.out (by simp)).mono ?_
      rintro e w10 ⟨rfl, rfl⟩
      go_wp2_with fail
      go_ret
      exact ⟨rfl, H9.out.below⟩
end Go.Proofs.YtaaaplbjeknbkaaGreat
