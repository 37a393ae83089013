/-
  NodeFetched: the walk.
-/
import Derived.Test.YtmbejeibcncmmaaGreatJ19
set_option maxRecDepth 20000
namespace Go.Proofs.YtmbejeibcncmmaaGreat
open Go.RowKit Go.Maps

variable {w w' w0 : World} {F : Nat → Prop} {R : Nat} {s : NS}

/-- The first n IDs of a slice of one's own. -/
theorem own_take {B : Nat} {a : Option Addr} {cap n : Nat} {l : List UInt64} (h : OwnIds w B (.slice a l.length cap) l) (hn : n ≤ l.length) : OwnIds w B (.slice a n cap) (l.take n) := by
  unfold OwnIds
  have e : (l.take n).length = n := by rw [List.length_take]; omega
  rw [e]
  refine ⟨by simp; omega, ?_⟩
  rcases h.2 with ⟨hv, h0⟩ | ⟨g, c, cur, hv, hB, hg, hc, hm, hs, ht⟩
  · simp only [Value.slice.injEq] at hv
    obtain ⟨rfl, _, rfl⟩ := hv
    obtain rfl : n = 0 := by omega
    exact .inl ⟨rfl, rfl⟩
  · simp only [Value.slice.injEq, true_and] at hv
    obtain ⟨rfl, rfl⟩ := hv
    refine .inr ⟨g, cap, cur, rfl, hB, hg, by omega, hm, hs, ?_⟩
    rw [Nat.mul_one] at ht ⊢
    rw [List.map_take, ← ht, List.take_take, Nat.min_eq_left hn]
theorem send_fetchB {p : Nat} {l : List UInt64} (hm : Ms.checkM ⟨2, l, ⟨#[]⟩⟩ = 0) (ht : s.thereE p = 0) : s.send p (bytesM ⟨2, l, ⟨#[]⟩⟩) = (s, s.fetch p l, 0) := by
  unfold NS.send bytesM
  rw [if_neg (not_not_intro ht), if_pos hm, str_data, if_neg (not_not_intro (Ms.errM_enc hm)), Ms.ansM_enc hm]
  simp only [Int.toNat_natCast]
  rw [if_neg (by decide), if_neg (by decide), if_pos trivial]
theorem bytesOf_fetch (l : List UInt64) (a : Option Addr) (cap : Nat) (B : ByteArray) (hB : bytesM ⟨2, l, ⟨#[]⟩⟩ = B) (w : World) (hi : IdsAt w a l) : Calls Tryz.prog 31 #[.agg #[.int .i64 2, .slice a l.length cap, .string ⟨#[]⟩]] w fun e w' => e = .returned (.string B) ∧ Below w.heap.size w w' :=
  bytesOf_any ⟨2, l, ⟨#[]⟩⟩ a cap w hi B hB
theorem bringB_bytes {d : DeedD} (h : checkD d = 0) : bringB d = bytesM ⟨3, [], str (encB d)⟩ := by
  unfold bringB bytesM
  rw [if_pos (bringM_ok h)]
theorem errD_enc {d : DeedD} (hd : checkD d = 0) : errD (encB d) = 0 ∧ readD (encB d) = d := by
  obtain ⟨c0, c1, _, c2, c3, c4⟩ := check_ok hd
  have hr := read_enc d c0 c1 c2 c3 c4
  refine ⟨?_, hr⟩
  unfold errD
  rw [if_neg (not_not_intro (form_enc d c0)), hr]
  exact hd
theorem eqID_one (x : UInt64) (a b : Option Addr) (ca cb : Nat) (w : World) (ha : IdsAt w a [x]) (hb : IdsAt w b [x]) : Calls Tryz.prog 19 #[.slice a 1 ca, .slice b 1 cb] w fun e w' => e = .returned (.bool true) ∧ w = w' :=
  eqID_is [x] [x] a b ca cb w true (by show 1 ≤ 9223372036854775807; omega) ha hb (by simp)
/-- What goes out is what was asked for. -/
structure Right (ids : List UInt64) (is : Bool) (x : UInt64) (ou : List OutD) : Prop where
  len : ou.length = ids.length
  peer : ∀ i (h : i < ou.length), ou[i].peer = 7
  last : ∀ i (h : i < ou.length), i + 1 = ids.length → is = false → ou[i].bytes = bytesM ⟨4, [x], ⟨#[]⟩⟩
  deed : ∀ i (h : i < ou.length) (h' : i < ids.length), ¬ (i + 1 = ids.length ∧ is = false) → ∃ d, checkD d = 0 ∧ ou[i].bytes = bringB d ∧ Ju.idD d = ids[i]
theorem right_true (hg : Ju.GoodJ s.A) (x : UInt64) {D : List DeedD} (hD : ∀ d ∈ D, d ∈ s.A) : Right (D.map Ju.idD) true x (s.fetch 7 (D.map Ju.idD)) := by
  rw [fetch_known hg 7 D hD]
  exact ⟨by simp, fun i h => by simp, fun i h _ h2 => by (cases h2), fun i h h' _ => ⟨D[i]'(by simpa using h), hg.fine _ (hD _ (List.getElem_mem _)), by simp, by simp⟩⟩
theorem right_false (hg : Ju.GoodJ s.A) (x : UInt64) {D : List DeedD} (hD : ∀ d ∈ D, d ∈ s.A) (hx : (s.A.map Ju.idD).contains x = false) : Right (D.map Ju.idD ++ [x]) false x (s.fetch 7 (D.map Ju.idD ++ [x])) := by
  rw [fetch_other hg 7 D hD x hx]
  refine ⟨by simp, fun i h => ?_, fun i h h1 _ => ?_, fun i h h' h1 => ?_⟩
  · by_cases hi : i < D.length
    · rw [List.getElem_append_left (by simpa using hi)]
      simp
    · rw [List.getElem_append_right (by simp; omega)]
      simp
  · rw [List.getElem_append_right (by simp at h1 ⊢; omega)]
    simp
  · have hi : i < D.length := by
      simp at h h1
      omega
    refine ⟨D[i], hg.fine _ (hD _ (List.getElem_mem _)), ?_, ?_⟩
    · rw [List.getElem_append_left (by simpa using hi)]
      simp
    · rw [List.getElem_append_left (by simpa using hi)]
      simp
theorem fetch_ok (hg : Ju.GoodJ s.A) (x : UInt64) (b : Bool) (hb : (s.A.map Ju.idD).contains x = b) {ids : List UInt64} (hi : ids = (s.A.map Ju.idD).take 19 ++ if b then [] else [x]) : Right ids b x (s.fetch 7 ids) ∧ 0 < ids.length ∧ ids.length ≤ 20 ∧ ids.Nodup := by
  have e : (s.A.map Ju.idD).take 19 = (s.A.take 19).map Ju.idD := List.map_take.symm
  have hD : ∀ d ∈ s.A.take 19, d ∈ s.A := fun d h => List.mem_of_mem_take h
  have hn : ((s.A.map Ju.idD).take 19).Nodup := hg.nodup.sublist (List.take_sublist _ _)
  cases b with
  | true =>
    simp only [if_true, List.append_nil] at hi
    subst hi
    refine ⟨by rw [e]; exact right_true hg x hD, ?_, by simp; omega, hn⟩
    have : s.A ≠ [] := fun h => by rw [h] at hb; simp at hb
    have := List.length_pos_iff.2 this
    simp
    omega
  | false =>
    simp only [Bool.false_eq_true, if_false] at hi
    subst hi
    refine ⟨by rw [e]; exact right_false hg x hD hb, by simp, by simp; omega, ?_⟩
    rw [List.nodup_append]
    refine ⟨hn, by simp, fun y hy z hz => ?_⟩
    rw [List.mem_singleton] at hz
    subst hz
    rintro rfl
    have := List.contains_iff_mem.2 (List.mem_of_mem_take hy)
    rw [hb] at this
    cases this
set_option maxRecDepth 20000 in
set_option maxHeartbeats 4000000 in
theorem nodeFetched_walk (salt : UInt64) (l : List ActD) (a : Option Addr) (cap : Nat) (x : UInt64) (hl : l.length ≤ 2932031007402) (w : World) (hi : ActsAt w a l) : Calls Tryz.prog 7 #[.int .u64 salt.toNat, .slice a l.length cap, .int .u64 x.toNat] w fun e w' => e = .returned (.bool true) ∧ Below w.heap.size w w' := by
  have HI := Lib.hid hi
  have hml : maxLen = 9223372036854775807 := rfl
  clear hi
  go_enter Tryz.func7, Tryz.ntmps7
  go_wp2_with fail
  with_reducible refine (met_any _).mono ?_
  rintro e w1 ⟨rfl, hb1⟩
  have HB1 := Lib.hid hb1
  clear hb1
  go_wp2_with fail
  with_reducible refine (mine_new salt _ HB1.out).mono ?_
  rintro e w2 ⟨R, F, rfl, h2, _, _⟩
  have H2 := Lib.hid h2
  clear h2
  go_wp2_with fail
  go_loopw [30] (fun i wr => ∃ (k : Nat) (F' : Nat → Prop) (u : NS), k ≤ l.length ∧ i = .int .i64 k ∧ Hid (Mine w wr F' R u) ∧ Hid (NInv k u) ∧ Hid (u.peers 7 = (false, false))) (fun i _ => l.length - (intOf i).toNat)
  case atStart => exact ⟨0, F, NS.new salt, Nat.zero_le _, rfl, H2, Lib.hid (inv_new salt), Lib.hid rfl⟩
  case round =>
    obtain ⟨k, F4, u, hk, rfl, H4, HN4, HP4⟩ := hrel
    by_cases hkl : k < l.length
    · obtain ⟨⟨g, o, rfl, hg, c0⟩, hs⟩ := HI.out k hkl
      obtain ⟨y, hy⟩ : ∃ y, l[k] = y := ⟨_, rfl⟩
      rw [hy] at c0 hs
      obtain ⟨c0, c1, c2, c3, c4⟩ := c0
      have k0 := cell_later H4.out.below c0
      have k1 := cell_later H4.out.below c1
      have k2 := cell_later H4.out.below c2
      have k3 := cell_later H4.out.below c3
      have k4 := cell_later H4.out.below c4
      have l5 := (cell_spot k0).2
      obtain ⟨wy, hwy⟩ : ∃ wy, wr.alloc (.cells #[.int .i64 y.kind, .int .i64 y.peer, .int .i64 y.n, .bool y.flag, .string y.bytes] 28) = wy := ⟨_, rfl⟩
      have hby : Below wr.heap.size wr wy := hwy ▸ kept_new _ _
      obtain ⟨y0, y1, y2, y3, y4⟩ := box_act wr y
      rw [hwy] at y0 y1 y2 y3 y4
      have l6 := (cell_spot y0).2
      have H5 := Lib.hid (H4.out.kept hby)
      clear hy c0 c1 c2 c3 c4 hby
      by_cases h7 : y.peer = 7
      · have h7' : (y.peer != 7) = false := by simp [h7]
        have HNN : Hid (NInv (k + 1) u) := Lib.hid ⟨HN4.out.fly, by have := HN4.out.sum; omega⟩
        go_wp2_with fail
        go_roundw
        case rel =>
          rw [← hwy, h7] at H5
          exact ⟨k + 1, F4, u, by omega, by go_num, H5, HNN, HP4⟩
        case measure => simp [intOf]; omega
      · have h7' : (y.peer != 7) = true := by simpa using h7
        have HNN : Hid (NInv (k + 1) (u.did y).1) := Lib.hid (did_inv HN4.out H4.out.node.good.T y)
        have HPP : Hid ((u.did y).1.peers 7 = (false, false)) := Lib.hid ((did_peers y 7 h7).trans HP4.out)
        have hk2 : k ≤ 2950000000000 := by omega
        go_wp2_with fail
        with_reducible refine (did_any y k hk2 HN4.out hs _ rfl _ H5.out.node).mono ?_
        rintro e w6 ⟨v6, F6, rfl, ho6, h6, t6, _⟩
        have H6 := Lib.hid (H5.out.turned h6 t6)
        clear ho6 h6 t6
        go_wp2_with fail
        go_roundw
        case rel => exact ⟨k + 1, F6, _, by omega, by go_num, H6, HNN, HPP⟩
        case measure => simp [intOf]; omega
    · have HJ := Lib.hid (join_left (p := 7) (by decide) HP4.out false)
      obtain ⟨u1, hu1⟩ : ∃ u1, u.setPeer 7 (true, false) = u1 := ⟨_, rfl⟩
      rw [hu1] at HJ
      have HT1 : Hid (u1.thereE (7 : Nat) = 0) := Lib.hid (by rw [← hu1]; unfold NS.thereE NS.setPeer; simp)
      have HAL5 : Hid (u1.A.length ≤ 2950000000000) := Lib.hid (by
        have : u1.A = u.A := by rw [← hu1]; rfl
        rw [this]
        have := HN4.out.sum
        omega)
      have HAL : Hid (u1.A.length ≤ 10000000000000) := Lib.hid (by have := HAL5.out; omega)
      clear hu1
      go_wp2_with fail
      with_reducible refine (join_any 7 false _ HJ.out _ H4.out.node).mono ?_
      rintro e w5 ⟨rfl, F5, h5, t5⟩
      have H5 := Lib.hid (H4.out.turned h5 t5)
      have HTH := Lib.hid h5.there
      have HGA := Lib.hid h5.good.A
      clear h5 t5
      go_wp2_with fail
      with_reducible refine (accepted_any HAL.out _ H5.out.node).mono ?_
      rintro e w6 ⟨a6, c6, rfl, ho6, hb6⟩
      obtain ⟨x1, hx1⟩ : ∃ x1, u1.A.map Ju.idD = x1 := ⟨_, rfl⟩
      have HX1 := Lib.hid hx1
      have HXL : Hid (x1.length ≤ maxLen) := Lib.hid (by rw [← hx1, List.length_map]; have := HAL.out; omega)
      rw [hx1] at ho6 ⊢
      have H6 := Lib.hid (H5.out.kept hb6)
      have HB6 := Lib.hid hb6
      obtain ⟨a6', c6', e6, hc6, _, _⟩ := owns_idsAt ho6
      simp only [Value.slice.injEq, true_and] at e6
      obtain ⟨rfl, rfl⟩ := e6
      have hcm : c6 ≤ maxLen := by
        rcases ho6.2 with ⟨hv, _⟩ | ⟨g, c, cur, hv, _, _, _, hm, _⟩
        · simp only [Value.slice.injEq] at hv
          omega
        · simp only [Value.slice.injEq] at hv
          omega
      have HO6 := Lib.hid ho6
      clear ho6 hb6 hx1
      obtain ⟨ids0, hids0⟩ : ∃ ids0, x1.take 19 = ids0 := ⟨_, rfl⟩
      have hl19 : ids0.length ≤ 19 := by rw [← hids0, List.length_take]; omega
      by_cases hmin : (19 : Int) < x1.length
      case' pos =>
        have HV6 : Hid (OwnIds w6 w5.heap.size (.slice a6 19 c6) ids0) := Lib.hid (hids0 ▸ own_take HO6.out (by omega))
        have e4 : (19 : Int) ≤ c6 := by omega
        have HD0 := Lib.hid hids0
        clear hids0
        go_wp2_with fail
        generalize hv : Value.slice a6 19 c6 = vi at HV6 ⊢
      case' neg =>
        have HV6 : Hid (OwnIds w6 w5.heap.size (.slice a6 x1.length c6) ids0) := Lib.hid (by
          have := own_take HO6.out (Nat.le_refl _)
          rw [List.take_length] at this
          rw [← hids0, List.take_of_length_le (by omega)]
          exact this)
        have HD0 := Lib.hid hids0
        clear hids0
        go_wp2_with fail
        generalize hv : Value.slice a6 x1.length c6 = vi at HV6 ⊢
      all_goals
        with_reducible refine (accepted_any HAL.out _ H6.out.node).mono ?_
        rintro e w7 ⟨a7, c7, rfl, ho7, hb7⟩
        rw [HX1.out] at ho7 ⊢
        obtain ⟨a7', c7', e7, _, hat7, _⟩ := owns_idsAt ho7
        simp only [Value.slice.injEq, true_and] at e7
        obtain ⟨rfl, rfl⟩ := e7
        have HA7 := Lib.hid hat7
        have HV7 := Lib.hid (ownIds_below HV6.out hb7)
        have HB7 := Lib.hid (kept_trans HB6.out hb7)
        obtain ⟨hc, hhc⟩ : ∃ hc, x1.contains x = hc := ⟨_, rfl⟩
        have HHC := Lib.hid hhc
        clear ho7 hat7 hb7 hhc hv
        go_wp2_with fail
        with_reducible refine (hasID_any x1 x hc HHC a7 c7 _ HXL.out HA7.out).mono ?_
        rintro e w7' ⟨rfl, rfl⟩
        cases hc with
        | false =>
          go_wp2_with (at_builtin; refine append_id rfl _ _ rfl x rfl rfl HV7.out (by omega) HB7.out.size ?_; intro g8 cap8 w8 ho8 hg8 hg9; refine Hid.out ?_)
          refine Lib.hid ?_
          have H8 := Lib.hid (H5.out.kept (HB7.out.grown hg9 HB7.out.size (fun j hj => (HV7.out.lt j hj).1)))
          obtain ⟨ids, hids⟩ : ∃ ids, ids0 ++ [x] = ids := ⟨_, rfl⟩
          have hlen8 : ids0.length + 1 = ids.length := by rw [← hids]; simp
          obtain ⟨ai, hai8⟩ : ∃ ai : Option Addr, some ⟨g8, 0, none⟩ = ai := ⟨_, rfl⟩
          rw [hids, hlen8, hai8] at ho8
          rw [hlen8, hai8]
          obtain ⟨a8', c8', e8, _, hat8, hfr8⟩ := owns_idsAt ho8
          simp only [Value.slice.injEq, true_and] at e8
          obtain ⟨rfl, rfl⟩ := e8
          clear hai8 hg8 hg9 ho8 hlen8
          have hf := fetch_ok HGA.out x false (by rw [HX1.out]; exact HHC.out) (ids := ids) (by rw [HX1.out, HD0.out, ← hids]; simp)
          obtain ⟨ou, hou⟩ : ∃ ou, u1.fetch 7 ids = ou := ⟨_, rfl⟩
          rw [hou] at hf
          obtain ⟨hf1, hf2, hf3, hf4⟩ := hf
          have HRT := Lib.hid hf1
          have hne : ¬ (ids.length : Int) = 0 := by omega
          obtain ⟨BB, hBB⟩ : ∃ BB, bytesM ⟨2, ids, ⟨#[]⟩⟩ = BB := ⟨_, rfl⟩
          have HSD : Hid (u1.send (7 : Nat) BB = (u1, ou, 0)) := Lib.hid (by rw [← hBB, ← hou]; exact send_fetchB (ids_ok 2 (by decide) (by decide) ids hf2 hf3 hf4) HT1.out)
          have HBS9 : Hid (BB.size ≤ maxLen) := Lib.hid (hBB ▸ bytes_small _)
          have HNF : Hid (∀ bb oo, ids ≠ [] → ai = some ⟨bb, oo, none⟩ → ¬ F5 bb) := Lib.hid fun bb oo _ h2 h3 => by have h4 := HTH.out bb h3; have h5 := hfr8 bb oo none h2; omega
          have HI8 := Lib.hid hat8
          clear hf1 hou hfr8 hat8
          have HB9 : Hid (bytesM ⟨2, ids, ⟨#[]⟩⟩ = BB) := Lib.hid hBB
          clear hBB hids
          go_wp2_with fail
          with_reducible refine (bytesOf_fetch ids _ _ BB HB9.out _ HI8.out).mono ?_
          rintro e w9 ⟨rfl, hb9⟩
          have H9 := Lib.hid (H8.out.kept hb9)
          have HI9 := Lib.hid (idsAt_kept hb9 HI8.out)
          clear hb9
          go_wp2_with fail
          with_reducible refine (send_any 7 BB HBS9.out HAL5.out _ HSD.out _ H9.out.node).mono ?_
          rintro e w10 ⟨v10, F10, rfl, ho10, h10, t10, _⟩
          simp only at ho10 h10 ⊢
          obtain ⟨a10, c10, rfl, _, hat10⟩ := owns_outsAt ho10
          have H10 := Lib.hid (H9.out.turned h10 t10)
          have HI10 : Hid (IdsAt w10 ai ids) := Lib.hid (idsAt_turn HI9.out t10 HNF.out)
          have HO10 := Lib.hid hat10
          have hlo := HRT.out.len
          rw [hlo]
          clear ho10 h10 t10 hat10
          go_wp2_with fail
          go_loopw [83] (fun i wr => ∃ (k : Nat), k ≤ ids.length ∧ i = .int .i64 k ∧ Hid (Below w10.heap.size w10 wr)) (fun i _ => ids.length - (intOf i).toNat)
          case atStart => exact ⟨0, Nat.zero_le _, rfl, Lib.hid (Below.refl _ _)⟩
          case round =>
            obtain ⟨k, hk, rfl, HBW⟩ := hrel
            by_cases hkl : k < ids.length
            · have hko : k < ou.length := by omega
              obtain ⟨g, o, rfl, hg, c0, c1⟩ := outsAt_kept HBW.out HO10.out k hko
              obtain ⟨gi, oi, hai, hgi, i0⟩ := idsAt_kept HBW.out HI10.out k hkl
              subst hai
              rw [HRT.out.peer k hko] at c0
              obtain ⟨B, hby'⟩ : ∃ B, ou[k].bytes = B := ⟨_, rfl⟩
              rw [hby'] at c1
              obtain ⟨z, hid0⟩ : ∃ z, ids[k] = z := ⟨_, rfl⟩
              rw [hid0] at i0
              obtain ⟨wy, hwy⟩ : ∃ wy, wr.alloc (.cells #[.int .i64 7, .string B] 35) = wy := ⟨_, rfl⟩
              have hwy' : wr.alloc (.cells #[.int .i64 ((7 : Nat) : Int), .string B] 35) = wy := hwy
              have hby : Below wr.heap.size wr wy := hwy ▸ kept_new _ _
              have y0 : wy.cell? ⟨wr.heap.size, 0, none⟩ = some (.int .i64 7) := by rw [← hwy]; simp [go_sem]
              have y1 : wy.cell? ⟨wr.heap.size, 1, none⟩ = some (.string B) := by rw [← hwy]; simp [go_sem]
              have HBY := Lib.hid (kept_trans HBW.out hby)
              have i0 := kept_cell hby i0
              have l1 := (cell_spot y0).2
              have l2 := (cell_spot i0).2
              have l3 : g < wr.heap.size := hg
              clear hby
              by_cases hq : (k : Int) = (ids.length : Int) - 1
              · have HQ : Hid (k + 1 = ids.length) := Lib.hid (by omega)
                have hq2 : (ids.length : Int) - 1 = k := by omega
                clear hq
                have hbd := HRT.out.last k hko HQ.out rfl
                have hck : Ms.checkM ⟨4, [x], ⟨#[]⟩⟩ = 0 := ids_ok 4 (by decide) (by decide) [x] (by simp) (by simp) (by simp)
                have HER : Hid (Ms.errM B.data.toList = 0) := Lib.hid (by rw [← hby', hbd]; unfold bytesM; rw [if_pos hck, str_data]; exact Ms.errM_enc hck)
                obtain ⟨bo, hbo⟩ : ∃ bo : ByteArray, ⟨#[]⟩ = bo := ⟨_, rfl⟩
                have HAN : Hid (Ms.ansM B.data.toList = ⟨4, [x], bo⟩) := Lib.hid (by rw [← hby', hbd, ← hbo]; unfold bytesM; rw [if_pos hck, str_data]; exact Ms.ansM_enc hck)
                have HBS : Hid (B.size ≤ maxLen) := Lib.hid (by rw [← hby', hbd]; exact bytes_small _)
                clear hbd hck hby' hid0 hbo
                go_wp2_with fail
                with_reducible refine (Ms.mdecode_all B 0 _ _ HBS.out HER.out HAN.out).mono ?_
                rintro e w11 ⟨a11, c11, rfl, _, hi11, _, hb11⟩
                obtain ⟨wz, hwz⟩ : ∃ wz, w11.alloc (.cells #[.int .i64 4, .slice a11 1 c11, .string bo] 43) = wz := ⟨_, rfl⟩
                have hbz0 : Below w11.heap.size w11 wz := hwz ▸ kept_new _ _
                have hbz : Below wy.heap.size wy wz := kept_trans hb11 hbz0
                obtain ⟨m0, m1, m2⟩ : MsgBox wz w11.heap.size a11 c11 ⟨4, [x], bo⟩ := hwz ▸ box_msg w11 a11 c11 ⟨4, [x], bo⟩
                simp only [List.length_cons, List.length_nil, Nat.zero_add] at m0 m1 m2
                have HBZ := Lib.hid (kept_trans HBY.out hbz)
                have y0 := kept_cell hbz y0
                have y1 := kept_cell hbz y1
                have l3 := (cell_spot y0).2
                have l4 := (cell_spot m0).2
                have HI11 : Hid (IdsAt (wz.alloc (.cells #[.int .u64 x.toNat] 22)) a11 [x]) := Lib.hid (idsAt_kept (kept_new _ _) (idsAt_kept hbz0 hi11))
                have HIX : Hid (IdsAt (wz.alloc (.cells #[.int .u64 x.toNat] 22)) (some ⟨wz.heap.size, 0, none⟩) [x]) := Lib.hid fun i hi => by
                  obtain rfl : i = 0 := by simpa using hi
                  exact ⟨_, _, rfl, by simp, by simp [go_sem]⟩
                have HBV := Lib.hid (kept_trans HBZ.out (kept_new wz (.cells #[.int .u64 x.toNat] 22)))
                clear hb11 hbz hbz0 hi11
                go_wp2_with fail
                with_reducible refine (eqID_one x a11 _ c11 _ _ HI11.out HIX.out).mono ?_
                rintro e w12 ⟨rfl, rfl⟩
                go_wp2_with fail
                go_roundw
                case rel => exact ⟨k + 1, by omega, by go_num, HBV⟩
                case measure => simp [intOf]; omega
              · have hq1 : ¬ k + 1 = ids.length := by omega
                obtain ⟨d, hd, hbd, hid⟩ := HRT.out.deed k hko hkl (fun h => hq1 h.1)
                rw [hid0] at hid
                have HCK := Lib.hid hd
                have HID := Lib.hid hid
                obtain ⟨bo, hbo⟩ : ∃ bo, str (encB d) = bo := ⟨_, rfl⟩
                have HBO := Lib.hid hbo
                have HER : Hid (Ms.errM B.data.toList = 0) := Lib.hid (by rw [← hby', hbd]; unfold bringB; rw [str_data]; exact Ms.errM_enc (bringM_ok hd))
                have HAN : Hid (Ms.ansM B.data.toList = ⟨3, [], bo⟩) := Lib.hid (by rw [← hby', hbd, ← hbo]; unfold bringB; rw [str_data]; exact Ms.ansM_enc (bringM_ok hd))
                have HBS : Hid (B.size ≤ maxLen) := Lib.hid (by rw [← hby', hbd, bringB_bytes hd]; exact bytes_small _)
                have HBOS : Hid (bo.size ≤ maxLen) := Lib.hid (by obtain ⟨h1, h2⟩ := Ju.enc_small d bo hd hbo; have : maxLen = 9223372036854775807 := rfl; omega)
                have HED : Hid (errD bo.data.toList = 0) := Lib.hid (by rw [← hbo, str_data]; exact (errD_enc hd).1)
                have HDD : Hid ((if errD bo.data.toList = 0 then readD bo.data.toList else De.zeroD) = d) := Lib.hid (by rw [if_pos HED.out, ← hbo, str_data]; exact (errD_enc hd).2)
                clear hd hbd hid hbo hby' hid0
                go_wp2_with fail
                with_reducible refine (Ms.mdecode_all B 0 _ _ HBS.out HER.out HAN.out).mono ?_
                rintro e w11 ⟨a11, c11, rfl, _, _, _, hb11⟩
                obtain ⟨wz, hwz⟩ : ∃ wz, w11.alloc (.cells #[.int .i64 3, .slice a11 0 c11, .string bo] 43) = wz := ⟨_, rfl⟩
                have hbz : Below wy.heap.size wy wz := kept_trans hb11 (hwz ▸ kept_new _ _)
                obtain ⟨m0, m1, m2⟩ : MsgBox wz w11.heap.size a11 c11 ⟨3, [], bo⟩ := hwz ▸ box_msg w11 a11 c11 ⟨3, [], bo⟩
                simp only at m0 m1 m2
                have HBZ := Lib.hid (kept_trans HBY.out hbz)
                have y0 := kept_cell hbz y0
                have y1 := kept_cell hbz y1
                have i0 := kept_cell hbz i0
                have l3 := (cell_spot y0).2
                have l4 := (cell_spot m0).2
                have l5 := (cell_spot i0).2
                clear hb11 hbz
                go_wp2_with fail
                with_reducible refine (decode_ans bo 0 _ HBOS.out HED.out d HDD.out).mono ?_
                rintro e w12 ⟨a12, c12, rfl, _, hi12, _, hb12⟩
                obtain ⟨wq, hwq⟩ : ∃ wq, w12.alloc (.cells #[.slice a12 d.ins.length c12, .int .i64 d.outs, .int .i64 d.weight, .int .i64 d.fee] 53) = wq := ⟨_, rfl⟩
                have hbq0 : Below w12.heap.size w12 wq := hwq ▸ kept_new _ _
                have hbq := kept_trans hb12 hbq0
                obtain ⟨q0, q1, q2, q3⟩ : DeedBox wq w12.heap.size a12 c12 d := hwq ▸ box_deed w12 a12 c12 d
                have HI12 := Lib.hid (insAt_kept hbq0 hi12)
                have HBQ := Lib.hid (kept_trans HBZ.out hbq)
                have m0 := kept_cell hbq m0
                have m1 := kept_cell hbq m1
                have m2 := kept_cell hbq m2
                have i0 := kept_cell hbq i0
                have l4 := (cell_spot m0).2
                have l5 := (cell_spot i0).2
                have l6 := (cell_spot q0).2
                clear hb12 hbq hbq0 hi12 y0 y1 l3
                go_wp2_with fail
                with_reducible refine (Ju.id_ok d a12 c12 _ HI12.out HCK.out).mono ?_
                rintro e w13 ⟨rfl, hb13⟩
                rw [HID.out]
                have HBX := Lib.hid (kept_trans HBQ.out hb13)
                have m0 := kept_cell hb13 m0
                have i0 := kept_cell hb13 i0
                have l4 := (cell_spot m0).2
                have l5 := (cell_spot i0).2
                clear hb13 m1 m2 q0 q1 q2 q3 l6
                go_wp2_with fail
                go_roundw
                case rel => exact ⟨k + 1, by omega, by go_num, HBX⟩
                case measure => simp [intOf]; omega
            · go_wp2_with fail
              go_ret
              exact ⟨rfl, kept_trans H10.out.below HBW.out⟩
        | true =>
          have H8 := Lib.hid (H5.out.kept HB7.out)
          obtain ⟨ids, hids⟩ : ∃ ids, ids0 = ids := ⟨_, rfl⟩
          have ho8 := HV7.out
          rw [hids] at ho8
          obtain ⟨ai, ci, rfl, _, hat8, hfr8⟩ := owns_idsAt ho8
          clear ho8
          have hf := fetch_ok HGA.out x true (by rw [HX1.out]; exact HHC.out) (ids := ids) (by rw [HX1.out, HD0.out, ← hids]; simp)
          obtain ⟨ou, hou⟩ : ∃ ou, u1.fetch 7 ids = ou := ⟨_, rfl⟩
          rw [hou] at hf
          obtain ⟨hf1, hf2, hf3, hf4⟩ := hf
          have HRT := Lib.hid hf1
          have hne : ¬ (ids.length : Int) = 0 := by omega
          obtain ⟨BB, hBB⟩ : ∃ BB, bytesM ⟨2, ids, ⟨#[]⟩⟩ = BB := ⟨_, rfl⟩
          have HSD : Hid (u1.send (7 : Nat) BB = (u1, ou, 0)) := Lib.hid (by rw [← hBB, ← hou]; exact send_fetchB (ids_ok 2 (by decide) (by decide) ids hf2 hf3 hf4) HT1.out)
          have HBS9 : Hid (BB.size ≤ maxLen) := Lib.hid (hBB ▸ bytes_small _)
          have HNF : Hid (∀ bb oo, ids ≠ [] → ai = some ⟨bb, oo, none⟩ → ¬ F5 bb) := Lib.hid fun bb oo _ h2 h3 => by have h4 := HTH.out bb h3; have h5 := hfr8 bb oo none h2; omega
          have HI8 := Lib.hid hat8
          clear hf1 hou hfr8 hat8
          have HB9 : Hid (bytesM ⟨2, ids, ⟨#[]⟩⟩ = BB) := Lib.hid hBB
          clear hBB hids
          go_wp2_with fail
          with_reducible refine (bytesOf_fetch ids _ _ BB HB9.out _ HI8.out).mono ?_
          rintro e w9 ⟨rfl, hb9⟩
          have H9 := Lib.hid (H8.out.kept hb9)
          have HI9 := Lib.hid (idsAt_kept hb9 HI8.out)
          clear hb9
          go_wp2_with fail
          with_reducible refine (send_any 7 BB HBS9.out HAL5.out _ HSD.out _ H9.out.node).mono ?_
          rintro e w10 ⟨v10, F10, rfl, ho10, h10, t10, _⟩
          simp only at ho10 h10 ⊢
          obtain ⟨a10, c10, rfl, _, hat10⟩ := owns_outsAt ho10
          have H10 := Lib.hid (H9.out.turned h10 t10)
          have HI10 : Hid (IdsAt w10 ai ids) := Lib.hid (idsAt_turn HI9.out t10 HNF.out)
          have HO10 := Lib.hid hat10
          have hlo := HRT.out.len
          rw [hlo]
          clear ho10 h10 t10 hat10
          go_wp2_with fail
          go_loopw [83] (fun i wr => ∃ (k : Nat), k ≤ ids.length ∧ i = .int .i64 k ∧ Hid (Below w10.heap.size w10 wr)) (fun i _ => ids.length - (intOf i).toNat)
          case atStart => exact ⟨0, Nat.zero_le _, rfl, Lib.hid (Below.refl _ _)⟩
          case round =>
            obtain ⟨k, hk, rfl, HBW⟩ := hrel
            by_cases hkl : k < ids.length
            · have hko : k < ou.length := by omega
              obtain ⟨g, o, rfl, hg, c0, c1⟩ := outsAt_kept HBW.out HO10.out k hko
              obtain ⟨gi, oi, hai, hgi, i0⟩ := idsAt_kept HBW.out HI10.out k hkl
              subst hai
              rw [HRT.out.peer k hko] at c0
              obtain ⟨B, hby'⟩ : ∃ B, ou[k].bytes = B := ⟨_, rfl⟩
              rw [hby'] at c1
              obtain ⟨z, hid0⟩ : ∃ z, ids[k] = z := ⟨_, rfl⟩
              rw [hid0] at i0
              obtain ⟨wy, hwy⟩ : ∃ wy, wr.alloc (.cells #[.int .i64 7, .string B] 35) = wy := ⟨_, rfl⟩
              have hwy' : wr.alloc (.cells #[.int .i64 ((7 : Nat) : Int), .string B] 35) = wy := hwy
              have hby : Below wr.heap.size wr wy := hwy ▸ kept_new _ _
              have y0 : wy.cell? ⟨wr.heap.size, 0, none⟩ = some (.int .i64 7) := by rw [← hwy]; simp [go_sem]
              have y1 : wy.cell? ⟨wr.heap.size, 1, none⟩ = some (.string B) := by rw [← hwy]; simp [go_sem]
              have HBY := Lib.hid (kept_trans HBW.out hby)
              have i0 := kept_cell hby i0
              have l1 := (cell_spot y0).2
              have l2 := (cell_spot i0).2
              have l3 : g < wr.heap.size := hg
              clear hby
              by_cases hq : (k : Int) = (ids.length : Int) - 1
              case' pos =>
                have hq2 : (ids.length : Int) - 1 = k := by omega
                clear hq
              all_goals
                obtain ⟨d, hd, hbd, hid⟩ := HRT.out.deed k hko hkl (fun h => by cases h.2)
                rw [hid0] at hid
                have HCK := Lib.hid hd
                have HID := Lib.hid hid
                obtain ⟨bo, hbo⟩ : ∃ bo, str (encB d) = bo := ⟨_, rfl⟩
                have HBO := Lib.hid hbo
                have HER : Hid (Ms.errM B.data.toList = 0) := Lib.hid (by rw [← hby', hbd]; unfold bringB; rw [str_data]; exact Ms.errM_enc (bringM_ok hd))
                have HAN : Hid (Ms.ansM B.data.toList = ⟨3, [], bo⟩) := Lib.hid (by rw [← hby', hbd, ← hbo]; unfold bringB; rw [str_data]; exact Ms.ansM_enc (bringM_ok hd))
                have HBS : Hid (B.size ≤ maxLen) := Lib.hid (by rw [← hby', hbd, bringB_bytes hd]; exact bytes_small _)
                have HBOS : Hid (bo.size ≤ maxLen) := Lib.hid (by obtain ⟨h1, h2⟩ := Ju.enc_small d bo hd hbo; have : maxLen = 9223372036854775807 := rfl; omega)
                have HED : Hid (errD bo.data.toList = 0) := Lib.hid (by rw [← hbo, str_data]; exact (errD_enc hd).1)
                have HDD : Hid ((if errD bo.data.toList = 0 then readD bo.data.toList else De.zeroD) = d) := Lib.hid (by rw [if_pos HED.out, ← hbo, str_data]; exact (errD_enc hd).2)
                clear hd hbd hid hbo hby' hid0
                go_wp2_with fail
                with_reducible refine (Ms.mdecode_all B 0 _ _ HBS.out HER.out HAN.out).mono ?_
                rintro e w11 ⟨a11, c11, rfl, _, _, _, hb11⟩
                obtain ⟨wz, hwz⟩ : ∃ wz, w11.alloc (.cells #[.int .i64 3, .slice a11 0 c11, .string bo] 43) = wz := ⟨_, rfl⟩
                have hbz : Below wy.heap.size wy wz := kept_trans hb11 (hwz ▸ kept_new _ _)
                obtain ⟨m0, m1, m2⟩ : MsgBox wz w11.heap.size a11 c11 ⟨3, [], bo⟩ := hwz ▸ box_msg w11 a11 c11 ⟨3, [], bo⟩
                simp only at m0 m1 m2
                have HBZ := Lib.hid (kept_trans HBY.out hbz)
                have y0 := kept_cell hbz y0
                have y1 := kept_cell hbz y1
                have i0 := kept_cell hbz i0
                have l3 := (cell_spot y0).2
                have l4 := (cell_spot m0).2
                have l5 := (cell_spot i0).2
                clear hb11 hbz
                go_wp2_with fail
                with_reducible refine (decode_ans bo 0 _ HBOS.out HED.out d HDD.out).mono ?_
                rintro e w12 ⟨a12, c12, rfl, _, hi12, _, hb12⟩
                obtain ⟨wq, hwq⟩ : ∃ wq, w12.alloc (.cells #[.slice a12 d.ins.length c12, .int .i64 d.outs, .int .i64 d.weight, .int .i64 d.fee] 53) = wq := ⟨_, rfl⟩
                have hbq0 : Below w12.heap.size w12 wq := hwq ▸ kept_new _ _
                have hbq := kept_trans hb12 hbq0
                obtain ⟨q0, q1, q2, q3⟩ : DeedBox wq w12.heap.size a12 c12 d := hwq ▸ box_deed w12 a12 c12 d
                have HI12 := Lib.hid (insAt_kept hbq0 hi12)
                have HBQ := Lib.hid (kept_trans HBZ.out hbq)
                have m0 := kept_cell hbq m0
                have m1 := kept_cell hbq m1
                have m2 := kept_cell hbq m2
                have i0 := kept_cell hbq i0
                have l4 := (cell_spot m0).2
                have l5 := (cell_spot i0).2
                have l6 := (cell_spot q0).2
                clear hb12 hbq hbq0 hi12 y0 y1 l3
                go_wp2_with fail
                with_reducible refine (Ju.id_ok d a12 c12 _ HI12.out HCK.out).mono ?_
                rintro e w13 ⟨rfl, hb13⟩
                rw [HID.out]
                have HBX := Lib.hid (kept_trans HBQ.out hb13)
                have m0 := kept_cell hb13 m0
                have i0 := kept_cell hb13 i0
                have l4 := (cell_spot m0).2
                have l5 := (cell_spot i0).2
                clear hb13 m1 m2 q0 q1 q2 q3 l6
                go_wp2_with fail
                go_roundw
                case rel => exact ⟨k + 1, by omega, by go_num, HBX⟩
                case measure => simp [intOf]; omega
            · go_wp2_with fail
              go_ret
              exact ⟨rfl, kept_trans H10.out.below HBW.out⟩
end Go.Proofs.YtmbejeibcncmmaaGreat
