/-
  TopPaid: the walk.
-/
import Derived.Test.YtaaaplbjeknbkaaGreatTopK2
import Derived.Test.YtaaaplbjeknbkaaGreatPaidMath
set_option maxRecDepth 20000
namespace Go.Proofs.YtaaaplbjeknbkaaGreat
open Go.RowKit Go.Maps

variable {w w' w0 : World} {F F' : Nat → Prop} {R b : Nat} {s u : NS} {v : Value}

theorem join1t (salt : UInt64) (w : World) (h : NodeAt w F R (NS.new salt)) : Calls Tryz.prog 35 #[.pointer (some ⟨R, 0, none⟩), .int .i64 1, .bool true] w (TurnsN w F R (.int .i64 0) ((NS.new salt).setPeer 1 (true, true))) := join_any 1 true _ (join_new salt 1 (by decide) true) w h
theorem tid_par {W f : Nat} (h : 20 ≤ W ∧ W < 920) (hf : f < W / 10) (x : UInt64) (hx : Ju.idD (parD W f) = x) (w : World) : Calls Tryz.prog 46 #[.agg #[.slice none 0 0, .int .i64 2, .int .i64 (W : Int), .int .i64 (f : Int)]] w fun e w' => e = .returned (.int .u64 x.toNat) ∧ Below w.heap.size w w' :=
  tidOf_any (parD W f) (par_check h hf) none 0 x hx w (fun i hi => absurd hi (by simp [parD]))
theorem tbring_par {W f : Nat} (h : 20 ≤ W ∧ W < 920) (hf : f < W / 10) (B : ByteArray) (hB : bringB (parD W f) = B) (w : World) : Calls Tryz.prog 45 #[.agg #[.slice none 0 0, .int .i64 2, .int .i64 (W : Int), .int .i64 (f : Int)]] w fun e w' => e = .returned (.string B) ∧ Below w.heap.size w w' :=
  tbringB_any (parD W f) (par_check h hf) none 0 B hB w (fun i hi => absurd hi (by simp [parD]))
theorem kid_fee (x : UInt64) (W : Nat) : (kidD x W).fee = (W : Int) / 10 + 2 := by show ((W / 10 + 2 : Nat) : Int) = _; omega
theorem tid_kid {W : Nat} {x : UInt64} (h : 20 ≤ W ∧ W < 920) (a : Option Addr) (c : UInt64) (hc : Ju.idD (kidD x W) = c) (w : World) (hi : InsAt w a [(x, 1)]) : Calls Tryz.prog 46 #[.agg #[.slice a 1 1, .int .i64 1, .int .i64 10, .int .i64 ((W : Int) / 10 + 2)]] w fun e w' => e = .returned (.int .u64 c.toNat) ∧ Below w.heap.size w w' := by
  have := tidOf_any (kidD x W) (kid_check x h) a 1 c hc w hi
  rw [kid_fee] at this
  exact this
theorem tbring_kid {W : Nat} {x : UInt64} (h : 20 ≤ W ∧ W < 920) (a : Option Addr) (B : ByteArray) (hB : bringB (kidD x W) = B) (w : World) (hi : InsAt w a [(x, 1)]) : Calls Tryz.prog 45 #[.agg #[.slice a 1 1, .int .i64 1, .int .i64 10, .int .i64 ((W : Int) / 10 + 2)]] w fun e w' => e = .returned (.string B) ∧ Below w.heap.size w w' := by
  have := tbringB_any (kidD x W) (kid_check x h) a 1 B hB w hi
  rw [kid_fee] at this
  exact this
/-- The law's two deeds in its own memory. -/
structure TwoAt (w : World) (W f : Nat) (x : UInt64) (D1 I D2 : Nat) : Prop where
  p0 : w.cell? ⟨D1, 0, none⟩ = some (.slice none 0 0)
  p1 : w.cell? ⟨D1, 1, none⟩ = some (.int .i64 2)
  p2 : w.cell? ⟨D1, 2, none⟩ = some (.int .i64 (W : Int))
  p3 : w.cell? ⟨D1, 3, none⟩ = some (.int .i64 (f : Int))
  ins : InsAt w (some ⟨I, 0, none⟩) [(x, 1)]
  k0 : w.cell? ⟨D2, 0, none⟩ = some (.slice (some ⟨I, 0, none⟩) 1 1)
  k1 : w.cell? ⟨D2, 1, none⟩ = some (.int .i64 1)
  k2 : w.cell? ⟨D2, 2, none⟩ = some (.int .i64 10)
  k3 : w.cell? ⟨D2, 3, none⟩ = some (.int .i64 ((W : Int) / 10 + 2))
theorem TwoAt.kept {W f D1 I D2 : Nat} {x : UInt64} (h : TwoAt w W f x D1 I D2) (hb : Below w.heap.size w w') : TwoAt w' W f x D1 I D2 :=
  ⟨kept_cell hb h.p0, kept_cell hb h.p1, kept_cell hb h.p2, kept_cell hb h.p3, insAt_kept hb h.ins, kept_cell hb h.k0, kept_cell hb h.k1, kept_cell hb h.k2, kept_cell hb h.k3⟩
theorem orphans_is (L : List UInt64) (n : Nat) (hL : Ho.allL s.P = L) (hn : L.length = n) (w : World) (h : NodeAt w F R s) : Calls Tryz.prog 26 #[.pointer (some ⟨R, 0, none⟩)] w fun e w' => ∃ a c, e = .returned (.slice a n c) ∧ IdsAt w' a L ∧ Below w.heap.size w w' := by
  refine (orphans_any w h).mono ?_
  rintro e w' ⟨a, c, rfl, ho, hb⟩
  obtain ⟨a', c', e', _, hat, _⟩ := owns_idsAt ho
  simp only [Value.slice.injEq, true_and] at e'
  obtain ⟨rfl, rfl⟩ := e'
  refine ⟨a, c, ?_, hL ▸ hat, hb⟩
  rw [hL, hn]
theorem eqID_ln (l : List UInt64) (n : Nat) (hn : l.length = n) (a b : Option Addr) (ca cb : Nat) (w : World) (hl : l.length ≤ maxLen) (ha : IdsAt w a l) (hb : IdsAt w b l) : Calls Tryz.prog 33 #[.slice a n ca, .slice b n cb] w fun e w' => e = .returned (.bool true) ∧ w = w' := by
  subst hn
  exact eqID_is l l a b ca cb w true hl ha hb (by simp)
theorem ids_two (w : World) (x c : UInt64) : IdsAt (w.alloc (.cells #[.int .u64 x.toNat, .int .u64 c.toNat] 22)) (some ⟨w.heap.size, 0, none⟩) [x, c] := fun i hi => by
  match i, hi with
  | 0, _ => exact ⟨_, _, rfl, by simp, by simp [go_sem]⟩
  | 1, _ => exact ⟨_, _, rfl, by simp, by simp [go_sem]⟩
set_option maxRecDepth 20000 in
set_option maxHeartbeats 8000000 in
theorem topPaid_walk (salt : UInt64) (wt fe : Int) (cf : Bool) (_hwt : -9223372036854775808 ≤ wt ∧ wt ≤ 9223372036854775807) (_hfe : -9223372036854775808 ≤ fe ∧ fe ≤ 9223372036854775807) (w : World) : Calls Tryz.prog 12 #[.int .u64 salt.toNat, .int .i64 wt, .int .i64 fe, .bool cf] w fun e w' => e = .returned (.bool true) ∧ Below w.heap.size w w' := by
  go_enter Tryz.func12, Tryz.ntmps12
  go_wp2_with fail
  with_reducible refine (works_any _).mono ?_
  rintro e w1 ⟨rfl, hb1⟩
  have HB1 := Lib.hid hb1
  clear hb1
  go_wp2_with fail
  with_reducible refine (rest_any wt 900 _ (by decide) (by decide)).mono ?_
  rintro e w2 ⟨rfl, rfl⟩
  obtain ⟨m, hm, hm9⟩ : ∃ m : Nat, wt % 900 = m ∧ m < 900 := ⟨(wt % 900).toNat, by omega, by omega⟩
  rw [hm]
  go_wp2_with fail
  obtain ⟨W, hW, hWr⟩ : ∃ W : Nat, 20 + (m : Int) = W ∧ (20 ≤ W ∧ W < 920) := ⟨20 + m, by omega, by omega⟩
  rw [hW]
  with_reducible refine (rest_any fe ((W : Int) / 10) _ (by omega) (by omega)).mono ?_
  rintro e w3 ⟨rfl, rfl⟩
  obtain ⟨f, hf, hfr⟩ : ∃ f : Nat, fe % ((W : Int) / 10) = f ∧ f < W / 10 := by
    have h1 := Int.emod_nonneg fe (show (W : Int) / 10 ≠ 0 by omega)
    have h2 := Int.emod_lt_of_pos fe (show (0 : Int) < (W : Int) / 10 by omega)
    exact ⟨(fe % ((W : Int) / 10)).toNat, by omega, by omega⟩
  rw [hf]
  obtain ⟨x, hx⟩ : ∃ x, Ju.idD (parD W f) = x := ⟨_, rfl⟩
  obtain ⟨c, hc⟩ : ∃ c, Ju.idD (kidD x W) = c := ⟨_, rfl⟩
  have HCX : Hid (c ≠ x) := Lib.hid (by rw [← hc, ← hx]; exact paid_ids hWr hfr)
  have HX := Lib.hid hx
  have HC := Lib.hid hc
  clear hx hc hm hW hf hm9 _hwt _hfe
  obtain ⟨D1, hD1⟩ : ∃ D, w1.heap.size = D := ⟨_, rfl⟩
  obtain ⟨wp, hwp⟩ : ∃ wp, w1.alloc (.cells #[.slice none 0 0, .int .i64 2, .int .i64 (W : Int), .int .i64 (f : Int)] 50) = wp := ⟨_, rfl⟩
  have hbp : Below w1.heap.size w1 wp := hwp ▸ kept_new _ _
  have HBP := Lib.hid (kept_trans HB1.out hbp)
  obtain ⟨p0, p1, p2, p3⟩ : DeedBox wp D1 none 0 (parD W f) := hD1 ▸ hwp ▸ box_deed w1 none 0 (parD W f)
  simp only [parD, List.length_nil] at p0 p1 p2 p3
  have lp := (cell_spot p0).2
  have hnp : ¬ (W : Int) ≤ 10 * (f : Int) := by omega
  clear hbp
  go_wp2_with fail
  with_reducible refine (tid_par hWr hfr x HX.out _).mono ?_
  rintro e w4 ⟨rfl, hb4⟩
  obtain ⟨I, hI⟩ : ∃ I, w4.heap.size = I := ⟨_, rfl⟩
  obtain ⟨wi, hwi⟩ : ∃ wi, w4.alloc (.cells #[.int .u64 x.toNat, .int .i64 1] 62) = wi := ⟨_, rfl⟩
  obtain ⟨D2, hD2⟩ : ∃ D, wi.heap.size = D := ⟨_, rfl⟩
  obtain ⟨wk, hwk⟩ : ∃ wk, wi.alloc (.cells #[.slice (some ⟨I, 0, none⟩) 1 1, .int .i64 1, .int .i64 10, .int .i64 ((W : Int) / 10 + 2)] 50) = wk := ⟨_, rfl⟩
  have hbi : Below w4.heap.size w4 wi := hwi ▸ kept_new _ _
  have hbk : Below wi.heap.size wi wk := hwk ▸ kept_new _ _
  have HTW : Hid (TwoAt wk W f x D1 I D2) := Lib.hid (by
    have hin : InsAt wi (some ⟨I, 0, none⟩) [(x, 1)] := fun i hi => by
      obtain rfl : i = 0 := by simpa using hi
      exact ⟨I, 0, rfl, by rw [← hwi, ← hI]; simp, by rw [← hwi, ← hI]; simp [go_sem], by rw [← hwi, ← hI]; simp [go_sem], inOk_small x (by decide)⟩
    have hb := kept_trans hb4 (kept_trans hbi hbk)
    refine ⟨kept_cell hb p0, kept_cell hb p1, kept_cell hb p2, kept_cell hb p3, insAt_kept hbk hin, ?_, ?_, ?_, ?_⟩ <;> rw [← hwk, ← hD2] <;> simp [go_sem])
  have HBK := Lib.hid (kept_trans HBP.out (kept_trans hb4 (kept_trans hbi hbk)))
  obtain ⟨p0, p1, p2, p3, _, k0, k1, k2, k3⟩ := HTW.out
  have lp := (cell_spot p0).2
  have lk := (cell_spot k0).2
  clear hb4 hbi hbk
  go_wp2_with fail
  with_reducible refine (mine_new salt _ (Below.refl _ _)).mono ?_
  rintro e w3 ⟨R, F, rfl, h3, _, _⟩
  have H3 := Lib.hid h3
  clear h3
  go_wp2_with fail
  with_reducible refine (join1t salt _ H3.out.node).mono ?_
  rintro e w4 ⟨rfl, F4, h4, t4⟩
  have H4 := Lib.hid (H3.out.turned h4 t4)
  obtain ⟨u0, hu0⟩ : ∃ u0, (NS.new salt).setPeer 1 (true, true) = u0 := ⟨_, rfl⟩
  have HS0 : Hid (PSt [] [] u0) := Lib.hid (hu0 ▸ ⟨rfl, rfl, rfl, rfl, rfl, rfl⟩)
  have HT0 : Hid (u0.thereE (1 : Nat) = 0) := Lib.hid (hu0 ▸ new_there salt 1 (by decide) true)
  rw [hu0] at H4
  clear h4 t4 hu0 p0 p1 p2 p3 k0 k1 k2 k3 lp lk
  obtain ⟨BP, hBP⟩ : ∃ B, bringB (parD W f) = B := ⟨_, rfl⟩
  obtain ⟨BK, hBK⟩ : ∃ B, bringB (kidD x W) = B := ⟨_, rfl⟩
  obtain ⟨u1, hu1⟩ : ∃ u1, u0.bring 1 (parD W f) = u1 := ⟨_, rfl⟩
  obtain ⟨u2, hu2⟩ : ∃ u2, u1.bring 1 (kidD x W) = u2 := ⟨_, rfl⟩
  have HBP' := Lib.hid hBP
  have HBK' := Lib.hid hBK
  have HBPS : Hid (BP.size ≤ maxLen) := Lib.hid (by rw [← hBP]; exact bring_small (par_check hWr hfr))
  have HBKS : Hid (BK.size ≤ maxLen) := Lib.hid (by rw [← hBK]; exact bring_small (kid_check x hWr))
  have HSP : Hid (∀ q r : NS, q.thereE (1 : Nat) = 0 → q.bring 1 (parD W f) = r → q.send (1 : Nat) BP = (r, [], 0) ∧ r.thereE (1 : Nat) = 0) := Lib.hid fun q r h1 h2 => by
    subst h2
    exact ⟨by rw [← hBP]; exact send_brought (par_check hWr hfr) h1, by unfold NS.thereE at h1 ⊢; rw [bring_peers]; exact h1⟩
  have HSK : Hid (∀ q r : NS, q.thereE (1 : Nat) = 0 → q.bring 1 (kidD x W) = r → q.send (1 : Nat) BK = (r, [], 0) ∧ r.thereE (1 : Nat) = 0) := Lib.hid fun q r h1 h2 => by
    subst h2
    exact ⟨by rw [← hBK]; exact send_brought (kid_check x hWr) h1, by unfold NS.thereE at h1 ⊢; rw [bring_peers]; exact h1⟩
  have HS1 : Hid (PSt [] [] u1) := Lib.hid (hu1 ▸ HS0.out.poor hWr hfr)
  have HS2 : Hid (PSt [⟨1, c, kidD x W⟩] (entsP 1 true 0 0 [x]) u2) := Lib.hid (hu2 ▸ HS1.out.lost hWr HC.out HCX.out)
  have HSD1 := Lib.hid (HSP.out u0 u1 HT0.out hu1)
  have HSD2 := Lib.hid (HSK.out u1 u2 HSD1.out.2 hu2)
  have HL0 : Hid (u0.A.length ≤ 2950000000000) := Lib.hid (by rw [HS0.out.A]; simp)
  have HL1 : Hid (u1.A.length ≤ 2950000000000) := Lib.hid (by rw [HS1.out.A]; simp)
  have HA1 : Hid (u1.A.map Ju.idD = []) := Lib.hid (by rw [HS1.out.A]; rfl)
  have HA2 : Hid (u2.A.map Ju.idD = []) := Lib.hid (by rw [HS2.out.A]; rfl)
  have HP2 : Hid (Ho.allL u2.P = [c]) := Lib.hid (by rw [HS2.out.P]; rfl)
  have HFL : Hid (Fly u2) := Lib.hid HS2.out.fly
  clear hBP hBK hu1 hu2
  obtain ⟨p0, p1, p2, p3, _, k0, k1, k2, k3⟩ := HTW.out.kept H4.out.below
  have lp := (cell_spot p0).2
  have lk := (cell_spot k0).2
  go_wp2_with fail
  with_reducible refine (tbring_par hWr hfr BP HBP'.out _).mono ?_
  rintro e w5 ⟨rfl, hb5⟩
  have H5 := Lib.hid (H4.out.kept hb5)
  clear hb5 p0 p1 p2 p3 k0 k1 k2 k3 lp lk
  go_wp2_with fail
  with_reducible refine (send_any 1 BP HBPS.out HL0.out _ HSD1.out.1 _ H5.out.node).mono ?_
  rintro e w6 ⟨v6, F6, rfl, ho6, h6, t6, _⟩
  simp only at ho6 h6 ⊢
  obtain ⟨a6, c6, rfl, _⟩ := outs_form ho6
  have H6 := Lib.hid (H5.out.turned h6 t6)
  clear ho6 h6 t6
  go_wp2_with fail
  with_reducible refine (accepted_is [] 0 HA1.out rfl (by decide) _ H6.out.node).mono ?_
  rintro e w7 ⟨a7, c7, rfl, _, hb7⟩
  have H7 := Lib.hid (H6.out.kept hb7)
  obtain ⟨p0, p1, p2, p3, hi7, k0, k1, k2, k3⟩ := HTW.out.kept H7.out.below
  have HI7 := Lib.hid hi7
  have lp := (cell_spot p0).2
  have lk := (cell_spot k0).2
  clear hb7 hi7
  go_wp2_with fail
  with_reducible refine (tbring_kid hWr _ BK HBK'.out _ HI7.out).mono ?_
  rintro e w8 ⟨rfl, hb8⟩
  have H8 := Lib.hid (H7.out.kept hb8)
  clear hb8 p0 p1 p2 p3 k0 k1 k2 k3 lp lk
  go_wp2_with fail
  with_reducible refine (send_any 1 BK HBKS.out HL1.out _ HSD2.out.1 _ H8.out.node).mono ?_
  rintro e w9 ⟨v9, F9, rfl, ho9, h9, t9, _⟩
  simp only at ho9 h9 ⊢
  obtain ⟨a9, c9, rfl, _⟩ := outs_form ho9
  have H9 := Lib.hid (H8.out.turned h9 t9)
  have H9d := Lib.hid (H9.out.kept ((Below.refl w9.heap.size w9).drew))
  clear ho9 h9 t9
  obtain ⟨p0, p1, p2, p3, _, k0, k1, k2, k3⟩ := HTW.out.kept H9d.out.below
  have lp := (cell_spot p0).2
  have lk := (cell_spot k0).2
  go_upto_region 15 with fail
  go_cut [73] from 61 to 73 (fun v wx => v = .bool false ∧ Hid (Mine wk wx F9 R u2))
  case first =>
    go_region_law (first
      | (go_simp; go_at_call 24; (with_reducible refine (accepted_is [] 0 HA2.out rfl (by decide) _ H9d.out.node).mono ?_); rintro e w10 ⟨a10, c10, rfl, _, hb10⟩; have k0 := kept_cell hb10 k0; have k1 := kept_cell hb10 k1; have k2 := kept_cell hb10 k2; have k3 := kept_cell hb10 k3; have lk := (cell_spot k0).2; have H10 := Lib.hid (H9d.out.kept hb10); clear hb10)
      | (go_simp; go_at_call 26; (with_reducible refine (orphans_is [c] 1 HP2.out rfl _ H10.out.node).mono ?_); rintro e w11 ⟨a11, c11, rfl, hat11, hb11⟩; have k0 := kept_cell hb11 k0; have k1 := kept_cell hb11 k1; have k2 := kept_cell hb11 k2; have k3 := kept_cell hb11 k3; have lk := (cell_spot k0).2; have HA11 := Lib.hid hat11; have H11 := Lib.hid (H10.out.kept hb11); have HI11 := Lib.hid (HTW.out.kept H11.out.below).ins; clear hat11 hb11)
      | (go_simp; go_at_call 46; (with_reducible refine (tid_kid hWr _ c HC.out _ HI11.out).mono ?_); rintro e w12 ⟨rfl, hb12⟩; have HA12 := Lib.hid (idsAt_kept (kept_trans hb12 (kept_new w12 (.cells #[.int .u64 c.toNat] 22))) HA11.out); have H12 := Lib.hid (H11.out.kept (kept_trans hb12 (kept_new w12 (.cells #[.int .u64 c.toNat] 22)))); have HIX := Lib.hid (ids_new w12 c); clear hb12)
      | (go_simp; go_at_call 33; (with_reducible refine (eqID_one c _ _ _ _ _ HA12.out HIX.out).mono ?_); rintro e w13 ⟨rfl, rfl⟩))
    all_goals
      go_wp2_with fail
      go_meet
      case rel => exact ⟨rfl, H12⟩
  case rest =>
    obtain ⟨rfl, H15⟩ := hcut
    clear p0 p1 p2 p3 k0 k1 k2 k3 lp lk
    obtain ⟨u3, t, hps, hs3, hpe⟩ := HS2.out.ask
    obtain ⟨B2, hB2⟩ : ∃ B2, bytesM ⟨2, [x], ⟨#[]⟩⟩ = B2 := ⟨_, rfl⟩
    have hck : Ms.checkM ⟨2, [x], ⟨#[]⟩⟩ = 0 := ids_ok 2 (by decide) (by decide) [x] (by simp) (by simp) (by simp)
    rw [hB2] at hps
    have HPS := Lib.hid hps
    have HS3 := Lib.hid hs3
    have HT3 : Hid (u3.thereE (1 : Nat) = 0) := Lib.hid (by have := HSD2.out.2; unfold NS.thereE at this ⊢; rw [hpe]; exact this)
    obtain ⟨bo, hbo⟩ : ∃ bo : ByteArray, ⟨#[]⟩ = bo := ⟨_, rfl⟩
    have hbe : str (Ms.encM ⟨2, [x], ⟨#[]⟩⟩) = B2 := by rw [← hB2]; unfold bytesM; rw [if_pos hck]
    have HER : Hid (Ms.errM B2.data.toList = 0) := Lib.hid (by rw [← hbe, str_data]; exact Ms.errM_enc hck)
    have HAN : Hid (Ms.ansM B2.data.toList = ⟨2, [x], bo⟩) := Lib.hid (by rw [← hbe, str_data, ← hbo]; exact Ms.ansM_enc hck)
    have HBS2 : Hid (B2.size ≤ maxLen) := Lib.hid (by rw [← hB2]; exact bytes_small _)
    clear hps hs3 hpe hB2 hck hbo hbe
    go_wp2_with fail
    with_reducible refine (wait_any 0 HFL.out _ HPS.out _ H15.out.node).mono ?_
    rintro e w18 ⟨v18, F18, rfl, ho18, h18, t18, _⟩
    simp only at ho18 h18 ⊢
    obtain ⟨a18, c18, rfl, _, hat18⟩ := owns_outsAt ho18
    obtain ⟨g18, o18, rfl, hg18, q0, q1⟩ := hat18 0 (by simp)
    simp only [List.getElem_cons_zero, Nat.zero_mul, Nat.add_zero, List.length_cons, List.length_nil, Nat.zero_add] at q0 q1 ⊢
    have H18 := Lib.hid (H15.out.turned h18 t18)
    have l18 := (cell_spot q0).2
    clear ho18 h18 t18 hat18
    go_wp2_with fail
    with_reducible refine (Ms.mdecode_all B2 0 _ _ HBS2.out HER.out HAN.out).mono ?_
    rintro e w20 ⟨a20, c20, rfl, _, hi20, _, hb20⟩
    simp only [List.length_cons, List.length_nil, Nat.zero_add] at hi20 ⊢
    obtain ⟨M, hM⟩ : ∃ M, w20.heap.size = M := ⟨_, rfl⟩
    obtain ⟨wz, hwz⟩ : ∃ wz, w20.alloc (.cells #[.int .i64 2, .slice a20 1 c20, .string bo] 38) = wz := ⟨_, rfl⟩
    have hbz : Below w20.heap.size w20 wz := hwz ▸ kept_new _ _
    have hbx : MsgBox wz M a20 c20 ⟨2, [x], bo⟩ := hM ▸ hwz ▸ box_msg w20 a20 c20 ⟨2, [x], bo⟩
    have hd := (Below.refl wz.heap.size wz).drew
    obtain ⟨m0, m1, m2⟩ := hbx
    simp only [List.length_cons, List.length_nil, Nat.zero_add] at m0 m1 m2
    have m0 := kept_cell hd m0
    have m1 := kept_cell hd m1
    have H20 := Lib.hid (H18.out.kept (kept_trans hb20 (kept_trans hbz hd)))
    have HI20 := Lib.hid (idsAt_kept (kept_trans hbz hd) hi20)
    have lm := (cell_spot m0).2
    obtain ⟨p0, p1, p2, p3, _, _, _, _, _⟩ := HTW.out.kept H20.out.below
    have lp := (cell_spot p0).2
    clear hb20 hbz hd hi20 m2 q0 q1 l18
    go_upto_region 21 with fail
    go_cut [109] from 94 to 109 (fun v wx => v = .bool false ∧ Hid (Mine wk wx F18 R u3))
    case first =>
      go_region_law (first
        | (go_simp; go_at_call 46; (with_reducible refine (tid_par hWr hfr x HX.out _).mono ?_); rintro e w21 ⟨rfl, hb21⟩; have m0 := kept_cell hb21 m0; have m1 := kept_cell hb21 m1; have lm := (cell_spot m0).2; have HA21 := Lib.hid (idsAt_kept (kept_trans hb21 (kept_new w21 (.cells #[.int .u64 x.toNat] 22))) HI20.out); have H21 := Lib.hid (H20.out.kept (kept_trans hb21 (kept_new w21 (.cells #[.int .u64 x.toNat] 22)))); have HIX := Lib.hid (ids_new w21 x); clear hb21)
        | (go_simp; go_at_call 33; (with_reducible refine (eqID_one x _ _ _ _ _ HA21.out HIX.out).mono ?_); rintro e w22 ⟨rfl, rfl⟩))
      all_goals
        go_wp2_with fail
        go_meet
        case rel => exact ⟨rfl, H21⟩
    case rest =>
      obtain ⟨rfl, H22⟩ := hcut
      clear p0 p1 p2 p3 lp m0 m1 lm hwz hM
      cases cf
      case' true =>
        obtain ⟨u4, hu4⟩ : ∃ u4, u3.bring 1 (kidD x W) = u4 := ⟨_, rfl⟩
        have HS4 := Lib.hid (hu4 ▸ HS3.out.again (by decide) hWr HC.out HCX.out)
        have HSD4 := Lib.hid (HSK.out u3 u4 HT3.out hu4)
        have HT4 := Lib.hid HSD4.out.2
        have HL3 : Hid (u3.A.length ≤ 2950000000000) := Lib.hid (by rw [HS3.out.A]; simp)
        clear hu4
        obtain ⟨p0, p1, p2, p3, hi23, k0, k1, k2, k3⟩ := HTW.out.kept H22.out.below
        have HI23 := Lib.hid hi23
        have lp := (cell_spot p0).2
        have lk := (cell_spot k0).2
        clear hi23
        go_wp2_with fail
        with_reducible refine (tbring_kid hWr _ BK HBK'.out _ HI23.out).mono ?_
        rintro e w23 ⟨rfl, hb23⟩
        have H23 := Lib.hid (H22.out.kept hb23)
        clear hb23 p0 p1 p2 p3 k0 k1 k2 k3 lp lk H22
        go_wp2_with fail
        with_reducible refine (send_any 1 BK HBKS.out HL3.out _ HSD4.out.1 _ H23.out.node).mono ?_
        rintro e w24 ⟨v24, F24, rfl, ho24, h24, t24, _⟩
        simp only at ho24 h24 ⊢
        obtain ⟨a24, c24, rfl, _⟩ := outs_form ho24
        have H22 := Lib.hid (H23.out.turned h24 t24)
        clear ho24 h24 t24
      case' false =>
        obtain ⟨u4, hu4⟩ : ∃ u4, u3 = u4 := ⟨_, rfl⟩
        have HS4 := Lib.hid (hu4 ▸ HS3.out)
        have HT4 := Lib.hid (hu4 ▸ HT3.out)
        rw [hu4] at H22
        clear hu4
      all_goals
        obtain ⟨u5, hu5⟩ : ∃ u5, u4.bring 1 (parD W f) = u5 := ⟨_, rfl⟩
        have HSD5 := Lib.hid (HSP.out u4 u5 HT4.out hu5)
        have HEND := Lib.hid (HS4.out.both (by decide) hWr hfr HX.out HC.out HCX.out)
        rw [hu5] at HEND
        have HA5 : Hid (u5.A.map Ju.idD = [x, c]) := Lib.hid (by rw [HEND.out.1]; show [Ju.idD (parD W f), Ju.idD (kidD x W)] = _; rw [HX.out, HC.out])
        have HML : Hid ([x, c].length ≤ maxLen) := Lib.hid (by show 2 ≤ 9223372036854775807; omega)
        have HP5 : Hid (Ho.allL u5.P = []) := Lib.hid (by rw [HEND.out.2]; rfl)
        have HL4 : Hid (u4.A.length ≤ 2950000000000) := Lib.hid (by rw [HS4.out.A]; simp)
        clear hu5
        obtain ⟨p0, p1, p2, p3, _, k0, k1, k2, k3⟩ := HTW.out.kept H22.out.below
        have lp := (cell_spot p0).2
        have lk := (cell_spot k0).2
        go_wp2_with fail
        with_reducible refine (tbring_par hWr hfr BP HBP'.out _).mono ?_
        rintro e w25 ⟨rfl, hb25⟩
        have H25 := Lib.hid (H22.out.kept hb25)
        clear hb25 p0 p1 p2 p3 k0 k1 k2 k3 lp lk
        go_wp2_with fail
        with_reducible refine (send_any 1 BP HBPS.out HL4.out _ HSD5.out.1 _ H25.out.node).mono ?_
        rintro e w26 ⟨v26, F26, rfl, ho26, h26, t26, _⟩
        simp only at ho26 h26 ⊢
        obtain ⟨a26, c26, rfl, _⟩ := outs_form ho26
        have H26 := Lib.hid (H25.out.turned h26 t26)
        have H26d := Lib.hid (H26.out.kept ((Below.refl w26.heap.size w26).drew))
        clear ho26 h26 t26
        obtain ⟨p0, p1, p2, p3, _, k0, k1, k2, k3⟩ := HTW.out.kept H26d.out.below
        have lp := (cell_spot p0).2
        have lk := (cell_spot k0).2
        go_wp2_with fail
        go_region_law (first
          | (go_simp; go_at_call 24; (with_reducible refine (accepted_is [x, c] 2 HA5.out rfl (by decide) _ H26d.out.node).mono ?_); rintro e w27 ⟨a27, c27, rfl, hat27, hb27⟩; have p0 := kept_cell hb27 p0; have p1 := kept_cell hb27 p1; have p2 := kept_cell hb27 p2; have p3 := kept_cell hb27 p3; have k0 := kept_cell hb27 k0; have k1 := kept_cell hb27 k1; have k2 := kept_cell hb27 k2; have k3 := kept_cell hb27 k3; have lp := (cell_spot p0).2; have lk := (cell_spot k0).2; have HA27 := Lib.hid hat27; have H27 := Lib.hid (H26d.out.kept hb27); clear hat27 hb27)
          | (go_simp; go_at_call 46; (with_reducible refine (tid_par hWr hfr x HX.out _).mono ?_); rintro e w28 ⟨rfl, hb28⟩; have k0 := kept_cell hb28 k0; have k1 := kept_cell hb28 k1; have k2 := kept_cell hb28 k2; have k3 := kept_cell hb28 k3; have lk := (cell_spot k0).2; have HA28 := Lib.hid (idsAt_kept hb28 HA27.out); have H28 := Lib.hid (H27.out.kept hb28); have HI28 := Lib.hid (HTW.out.kept H28.out.below).ins; clear hb28)
          | (go_simp; go_at_call 46; (with_reducible refine (tid_kid hWr _ c HC.out _ HI28.out).mono ?_); rintro e w29 ⟨rfl, hb29⟩; have HA29 := Lib.hid (idsAt_kept (kept_trans hb29 (kept_new w29 (.cells #[.int .u64 x.toNat, .int .u64 c.toNat] 22))) HA28.out); have H29 := Lib.hid (H28.out.kept (kept_trans hb29 (kept_new w29 (.cells #[.int .u64 x.toNat, .int .u64 c.toNat] 22)))); have HIX := Lib.hid (ids_two w29 x c); clear hb29)
          | (go_simp; go_at_call 33; (with_reducible refine (eqID_ln [x, c] 2 rfl _ _ _ _ _ HML.out HA29.out HIX.out).mono ?_); rintro e w30 ⟨rfl, rfl⟩)
          | (go_simp; go_at_call 26; (with_reducible refine (orphans_is [] 0 HP5.out rfl _ H29.out.node).mono ?_); rintro e w31 ⟨a31, c31, rfl, _, hb31⟩; have H31 := Lib.hid (H29.out.kept hb31); clear hb31))
        all_goals
          go_wp2_with fail
          go_ret
          exact ⟨rfl, kept_trans HBK.out H31.out.below⟩
end Go.Proofs.YtaaaplbjeknbkaaGreat
