/-
  NodeParents: the walk.
-/
import Derived.Test.YtaaaplbjeknbkaaGreatNLaws10
set_option maxRecDepth 20000
namespace Go.Proofs.YtaaaplbjeknbkaaGreat
open Go.RowKit Go.Maps

variable {w w' w0 : World} {F : Nat → Prop} {R : Nat} {s : NS}

set_option maxRecDepth 20000 in
set_option maxHeartbeats 4000000 in
theorem nodeParents_walk (salt : UInt64) (l : List UInt64) (a : Option Addr) (cap : Nat) (hl : l.length ≤ maxLen) (w : World) (hi : IdsAt w a l) : Calls Tryz.prog 7 #[.int .u64 salt.toNat, .slice a l.length cap] w fun e w' => e = .returned (.bool true) ∧ Below w.heap.size w w' := by
  have HI := Lib.hid hi
  have hml : maxLen = 9223372036854775807 := rfl
  clear hi
  go_enter Tryz.func7, Tryz.ntmps7
  go_wp2_with fail
  with_reducible refine (met_any _).mono ?_
  rintro e w1 ⟨rfl, hb1⟩
  have HB1 := Lib.hid hb1
  clear hb1
  go_wp2_with fail
  with_reducible refine (mine_new salt _ HB1.out).mono ?_
  rintro e w2 ⟨R, F, rfl, h2, _, _⟩
  have H2 := Lib.hid h2
  clear h2
  go_wp2_with fail
  with_reducible refine (join5 salt _ H2.out.node).mono ?_
  rintro e w3 ⟨rfl, F3, h3, t3⟩
  have H3 := Lib.hid (H2.out.turned h3 t3)
  clear h3 t3
  go_wp2_with fail
  go_loopw [6, 32] (fun v6 i wr => ∃ (k : Nat) (m : List UInt64) (vi : Value), k ≤ l.length ∧ i = .int .i64 k ∧ m.length ≤ 4 ∧ Hid (Grows w3 wr vi v6 m)) (fun _ i _ => l.length - (intOf i).toNat)
  case atStart => exact ⟨0, [], .slice none 0 0, Nat.zero_le _, rfl, by simp, Lib.hid ⟨ownIds_nil _ _, by show (w3.heap.push _)[w3.heap.size]? = _; rw [Array.getElem?_push_size], World.ownsRow_nil _ _ _ _, kept_new _ _, List.nodup_nil⟩⟩
  case round =>
    obtain ⟨k, m, vi, hk, rfl, hm4, HG⟩ := hrel
    by_cases hkl : k < l.length
    · obtain ⟨ai, ci, rfl, hci, hat, _⟩ := owns_idsAt HG.out.ids
      obtain ⟨g, o, rfl, hg, c0⟩ := HI.out k hkl
      obtain ⟨y, hy⟩ : ∃ y, l[k] = y := ⟨_, rfl⟩
      rw [hy] at c0
      have k0 := kept_cell HG.out.below (cell_later H3.out.below c0)
      have l5 := (cell_spot k0).2
      have HAT := Lib.hid hat
      have HML : Hid (m.length ≤ maxLen) := Lib.hid (by omega)
      obtain ⟨hc, hhc⟩ : ∃ hc, m.contains y = hc := ⟨_, rfl⟩
      have HHC := Lib.hid hhc
      clear hy c0 hat hhc
      go_wp2_with fail
      with_reducible refine (hasID_any m y hc HHC ai ci _ HML.out HAT.out).mono ?_
      rintro e w5 ⟨rfl, rfl⟩
      cases hc with
      | true =>
        go_wp2_with fail
        go_roundw
        case rel => exact ⟨k + 1, m, vi, by omega, by go_num, hm4, HG⟩
        case measure => simp [intOf]; omega
      | false =>
        by_cases h4 : (m.length : Int) < 4
        · have HSZ : Hid (w3.heap.size + 1 ≤ wr.heap.size) := Lib.hid HG.out.lt
          have HND : Hid ((m ++ [y]).Nodup) := Lib.hid (by
            rw [List.nodup_append]
            refine ⟨HG.out.nodup, by simp, fun q hq z hz => ?_⟩
            rw [List.mem_singleton] at hz
            subst hz
            rintro rfl
            have := List.contains_iff_mem.2 hq
            rw [HHC.out] at this
            cases this)
          go_wp2_with (at_builtin; refine append_id rfl _ _ rfl y rfl rfl HG.out.ids (by omega) HSZ.out ?_; intro g6 cap6 w6 ho6 hg6 hg7; refine Hid.out ?_)
          refine Lib.hid ?_
          obtain ⟨hd6, hi6, hb6⟩ := HG.out.one hg7
          have HO6 := Lib.hid ho6
          have HD6 := Lib.hid hd6
          have HI6 := Lib.hid hi6
          have HB6 := Lib.hid hb6
          have c6 := head_cell hd6 0
          have l6 : w3.heap.size < w6.heap.size := (Array.getElem?_eq_some_iff.1 hd6).1
          simp only [List.getElem?_toArray, List.getElem?_cons_zero] at c6
          clear ho6 hg6 hg7 hd6 hi6 hb6
          have hmap : ((m ++ [y]).map fun x => ((x, 0) : InD)) = (m.map fun x => (x, 0)) ++ [(y, 0)] := by simp
          have hml' : (m.map fun x => ((x, 0) : InD)).length = m.length := by simp
          have HSZ6 : Hid (w3.heap.size + 1 ≤ w6.heap.size) := Lib.hid (by omega)
          have HML6 : Hid ((m.map fun x => ((x, 0) : InD)).length ≤ 1000000) := Lib.hid (by omega)
          go_wp2_with (at_builtin; refine append_in rfl _ _ rfl (y, 0) rfl rfl HI6.out HML6.out HSZ6.out ?_; intro g7 cap7 w7 ho7 hg7 hg8; refine Hid.out ?_)
          refine Lib.hid ?_
          rw [hml'] at ho7
          have hl1 : m.length + 1 = ((m ++ [y]).map fun x => ((x, 0) : InD)).length := by simp
          obtain ⟨v7, hv7⟩ : ∃ v7, Value.slice (some ⟨g7, 0, none⟩) (m.length + 1) cap7 = v7 := ⟨_, rfl⟩
          have hl2 : m.length + 1 = (m ++ [y]).length := by simp
          rw [← hmap, hv7] at ho7
          obtain ⟨⟨q0, q1, q2⟩, hG⟩ := grows_two (by simpa using HO6.out) HD6.out HI6.out HB6.out HND.out hg8 ho7
          subst hv7
          have HG7 := Lib.hid hG
          clear ho7 hg7 hg8 hG hmap c6 hl1 hl2 hml'
          go_wp2_with fail
          go_roundw
          case rel => exact ⟨k + 1, m ++ [y], _, by omega, by go_num, by simp; omega, HG7⟩
          case measure => simp [intOf]; omega
        · go_wp2_with fail
          go_roundw
          case rel => exact ⟨k + 1, m, vi, by omega, by go_num, hm4, HG⟩
          case measure => simp [intOf]; omega
    · have hgb := kept_trans H3.out.below HG.out.below
      have HGB := Lib.hid hgb
      obtain ⟨ai, ci, rfl, hci, hat, hfr⟩ := owns_idsAt HG.out.ids
      by_cases hm0 : m = []
      · subst hm0
        clear hgb hat hfr
        go_wp2_with fail
        go_ret
        exact ⟨rfl, HGB.out⟩
      · have hne : ¬ (m.length : Int) = 0 := by have := List.length_pos_iff.2 hm0; omega
        have hok : ∀ z ∈ (m.map fun x => ((x, 0) : InD)), inOk z := fun z hz => by
          obtain ⟨q, _, rfl⟩ := List.mem_map.1 hz
          rfl
        obtain ⟨aj, cj, hvi, _, hij⟩ := ownIns_at (own_base HG.out.ins) hok
        obtain ⟨d, hd⟩ : ∃ d : DeedD, ⟨m.map fun x => (x, 0), 1, 10, 9⟩ = d := ⟨_, rfl⟩
        have HCK : Hid (checkD d = 0) := Lib.hid (hd ▸ parents_check HG.out.nodup hm4)
        have hbx : DeedBox wr w3.heap.size aj cj d := by
          have hdd := HG.out.deed
          rw [hvi] at hdd
          subst hd
          exact ⟨(head_cell hdd 0).trans rfl, (head_cell hdd 1).trans rfl, (head_cell hdd 2).trans rfl, (head_cell hdd 3).trans rfl⟩
        obtain ⟨b0, b1, b2, b3⟩ := hbx
        have l0 := (cell_spot b0).2
        have HIJ : Hid (InsAt wr aj d.ins) := Lib.hid (by subst hd; exact hij)
        have H5 := Lib.hid (H3.out.kept HG.out.below)
        obtain ⟨x, hx⟩ : ∃ x, Ju.idD d = x := ⟨_, rfl⟩
        obtain ⟨B, hB⟩ : ∃ B, bringB d = B := ⟨_, rfl⟩
        obtain ⟨u0, hu0⟩ : ∃ u0, (NS.new salt).setPeer 5 (true, true) = u0 := ⟨_, rfl⟩
        rw [hu0] at H5
        obtain ⟨u5, hu5⟩ : ∃ u5, u0.bring 5 d = u5 := ⟨_, rfl⟩
        have HSD : Hid (u0.send (5 : Nat) B = (u5, [], 0)) := Lib.hid (by rw [← hB, ← hu5]; exact send_brought HCK.out (hu0 ▸ new_there salt 5 (by decide) true))
        have HPB : Hid (x ∉ m → u5 = { u0 with P := [⟨5, x, d⟩], T := pars 0 0 m }) := Lib.hid fun hxm => by
          have := parents_bring salt (d := d) (l := m) HCK.out (by rw [← hd]) (by rw [← hd]) hm0 HG.out.nodup hm4 (by rw [hx]; exact hxm)
          rw [hu0, hu5, hx] at this
          exact this
        have HN0 : Hid (u0.now = 0) := Lib.hid (by rw [← hu0]; rfl)
        have HX := Lib.hid hx
        have HBB := Lib.hid hB
        have HAT := Lib.hid hat
        have HND := Lib.hid HG.out.nodup
        have HNF : Hid (∀ bb oo, m ≠ [] → ai = some ⟨bb, oo, none⟩ → ¬ F3 bb) := Lib.hid fun bb oo _ h2 h3 => by have h4 := H3.out.node.there bb h3; have h5 := hfr bb oo none h2; omega
        have HNA : Hid (∀ bb oo, ai = some ⟨bb, oo, none⟩ → bb < wr.heap.size) := Lib.hid fun bb oo h2 => by
          obtain ⟨g, o, e, hg, _⟩ := hat 0 (List.length_pos_iff.2 hm0)
          rw [h2] at e
          cases e
          exact hg
        have HBS : Hid (B.size ≤ maxLen) := Lib.hid (by rw [← hB, bringB_bytes HCK.out]; exact bytes_small _)
        have HAL : Hid (u0.A.length ≤ 2950000000000) := Lib.hid (by rw [← hu0]; exact Nat.zero_le _)
        have HML : Hid (m.length ≤ maxLen) := Lib.hid (by omega)
        clear hgb hat hfr hok hij hvi hx hB hu0 hu5 hd HGB
        go_wp2_with fail
        with_reducible refine (Ju.id_ok d aj cj _ HIJ.out HCK.out).mono ?_
        rintro e w6 ⟨rfl, hb6⟩
        rw [HX.out]
        have b0 := kept_cell hb6 b0
        have b1 := kept_cell hb6 b1
        have b2 := kept_cell hb6 b2
        have b3 := kept_cell hb6 b3
        have l1 := (cell_spot b0).2
        have HIJ6 := Lib.hid (insAt_kept hb6 HIJ.out)
        have H6 := Lib.hid (H5.out.kept hb6)
        have HAT6 := Lib.hid (idsAt_kept hb6 HAT.out)
        have HS6 := Lib.hid hb6.size
        clear hb6
        go_wp2_with fail
        with_reducible refine (bringB_any d HCK.out aj cj B HBB.out _ HIJ6.out).mono ?_
        rintro e w7 ⟨rfl, hb7⟩
        have H7 := Lib.hid (H6.out.kept hb7)
        have HAT7 := Lib.hid (idsAt_kept hb7 HAT6.out)
        have HS7 := Lib.hid (Nat.le_trans HS6.out hb7.size)
        clear hb7 b0 b1 b2 b3 l0 l1
        go_wp2_with fail
        with_reducible refine (send_any 5 B HBS.out HAL.out _ HSD.out _ H7.out.node).mono ?_
        rintro e w8 ⟨v8, F8, rfl, ho8, h8, t8, _⟩
        simp only at ho8 h8 ⊢
        obtain ⟨a8, c8, rfl, _⟩ := outs_form ho8
        have H8 := Lib.hid (H7.out.turned h8 t8)
        have HAT8 : Hid (IdsAt w8 ai m) := Lib.hid (idsAt_turn HAT7.out t8 HNF.out)
        have HNF8 : Hid (∀ bb oo, m ≠ [] → ai = some ⟨bb, oo, none⟩ → ¬ F8 bb) := Lib.hid fun bb oo h1 h2 h3 => by
          rcases t8.own bb h3 with h4 | h4
          · exact HNF.out bb oo h1 h2 h4
          · have h5 := HNA.out bb oo h2
            have h6 := HS7.out
            omega
        clear ho8 h8 t8
        obtain ⟨hc, hhc⟩ : ∃ hc, m.contains x = hc := ⟨_, rfl⟩
        have HHC := Lib.hid hhc
        clear hhc
        go_wp2_with fail
        with_reducible refine (hasID_any m x hc HHC ai ci _ HML.out HAT8.out).mono ?_
        rintro e w9 ⟨rfl, rfl⟩
        cases hc with
        | true =>
          go_wp2_with fail
          with_reducible refine (hasID_any m x true HHC ai ci _ HML.out HAT8.out).mono ?_
          rintro e w9 ⟨rfl, rfl⟩
          go_wp2_with fail
          go_ret
          exact ⟨rfl, H8.out.below⟩
        | false =>
          have hxm : x ∉ m := fun h => by have := List.contains_iff_mem.2 h; rw [HHC.out] at this; cases this
          have hu := HPB.out hxm
          obtain ⟨v, hv, hP, hA⟩ := parents_pass (u := u5) (l := m) (by rw [hu]) (by rw [hu]; exact HN0.out) HND.out hm4
          have hck : Ms.checkM ⟨2, m, ⟨#[]⟩⟩ = 0 := ids_ok 2 (by decide) (by decide) m (List.length_pos_iff.2 hm0) (by omega) HND.out
          obtain ⟨B2, hB2⟩ : ∃ B2, str (Ms.encM ⟨2, m, ⟨#[]⟩⟩) = B2 := ⟨_, rfl⟩
          have HPS : Hid (u5.pass 0 = (v, [⟨5, B2⟩], 0)) := Lib.hid (by rw [hv, ← hB2]; unfold message; rw [if_pos hck])
          have HFL : Hid (Fly u5) := Lib.hid fun p _ => by
            rw [hu]
            have : flies (pars 0 0 m) p = 0 := by
              unfold flies
              rw [List.length_eq_zero_iff, List.filter_eq_nil_iff]
              intro e he
              obtain ⟨y, _, rfl⟩ := List.mem_map.1 he
              simp
            show flies (pars 0 0 m) p ≤ 4
            omega
          have HVP : Hid (Ho.allL v.P = [x]) := Lib.hid (by rw [hP, hu]; simp [Ho.allL, Ho.allI, Ho.lsOf, Ho.ldOf])
          obtain ⟨bo, hbo⟩ : ∃ bo : ByteArray, ⟨#[]⟩ = bo := ⟨_, rfl⟩
          have HER : Hid (Ms.errM B2.data.toList = 0) := Lib.hid (by rw [← hB2, str_data]; exact Ms.errM_enc hck)
          have HAN : Hid (Ms.ansM B2.data.toList = ⟨2, m, bo⟩) := Lib.hid (by rw [← hB2, str_data, ← hbo]; exact Ms.ansM_enc hck)
          have HBS2 : Hid (B2.size ≤ maxLen) := Lib.hid (by have := bytes_small ⟨2, m, ⟨#[]⟩⟩; unfold bytesM at this; rw [if_pos hck, hB2] at this; exact this)
          clear hu hv hP hA hck hB2 hbo
          go_wp2_with fail
          with_reducible refine (wait_any 0 HFL.out _ HPS.out _ H8.out.node).mono ?_
          rintro e w10 ⟨v10, F10, rfl, ho10, h10, t10, _⟩
          simp only at ho10 h10 ⊢
          obtain ⟨a10, c10, rfl, _, hat10⟩ := owns_outsAt ho10
          obtain ⟨g, o, rfl, hg, o0, o1⟩ := hat10 0 (by simp)
          simp only [List.getElem_cons_zero, Nat.zero_mul, Nat.add_zero, List.length_cons, List.length_nil, Nat.zero_add] at o0 o1 ⊢
          have H10 := Lib.hid (H8.out.turned h10 t10)
          have HAT10 : Hid (IdsAt w10 ai m) := Lib.hid (idsAt_turn HAT8.out t10 HNF8.out)
          have l2 := (cell_spot o0).2
          clear ho10 h10 t10 hat10
          go_wp2_with fail
          with_reducible refine (orphans_any _ H10.out.node).mono ?_
          rintro e w11 ⟨a11, c11, rfl, ho11, hb11⟩
          rw [HVP.out] at ho11 ⊢
          simp only [List.length_cons, List.length_nil, Nat.zero_add] at ho11 ⊢
          obtain ⟨a11', c11', e11, _, hat11, _⟩ := owns_idsAt (l := [x]) ho11
          simp only [Value.slice.injEq, List.length_cons, List.length_nil, Nat.zero_add, true_and] at e11
          obtain ⟨rfl, rfl⟩ := e11
          have H11 := Lib.hid (H10.out.kept hb11)
          have HAT11 := Lib.hid (idsAt_kept hb11 HAT10.out)
          have o0 := kept_cell hb11 o0
          have o1 := kept_cell hb11 o1
          have hkn := kept_new w11 (.cells #[.int .u64 x.toNat] 22)
          have HI11 : Hid (IdsAt (w11.alloc (.cells #[.int .u64 x.toNat] 22)) a11 [x]) := Lib.hid (idsAt_kept hkn hat11)
          have HIX : Hid (IdsAt (w11.alloc (.cells #[.int .u64 x.toNat] 22)) (some ⟨w11.heap.size, 0, none⟩) [x]) := Lib.hid fun i hi => by
            obtain rfl : i = 0 := by simpa using hi
            exact ⟨_, _, rfl, by simp, by simp [go_sem]⟩
          have H12 := Lib.hid (H11.out.kept hkn)
          have HAT12 := Lib.hid (idsAt_kept hkn HAT11.out)
          have o0 := kept_cell hkn o0
          have o1 := kept_cell hkn o1
          have l3 := (cell_spot o0).2
          clear hb11 ho11 hat11 hkn
          go_wp2_with fail
          with_reducible refine (eqID_one x a11 _ c11 _ _ HI11.out HIX.out).mono ?_
          rintro e w13 ⟨rfl, rfl⟩
          go_wp2_with fail
          with_reducible refine (Ms.mdecode_all B2 0 _ _ HBS2.out HER.out HAN.out).mono ?_
          rintro e w14 ⟨a14, c14, rfl, _, hi14, _, hb14⟩
          simp only at hi14 ⊢
          obtain ⟨wz, hwz⟩ : ∃ wz, w14.alloc (.cells #[.int .i64 2, .slice a14 m.length c14, .string bo] 38) = wz := ⟨_, rfl⟩
          have hbz0 : Below w14.heap.size w14 wz := hwz ▸ kept_new _ _
          obtain ⟨m0, m1, m2⟩ : MsgBox wz w14.heap.size a14 c14 ⟨2, m, bo⟩ := hwz ▸ box_msg w14 a14 c14 ⟨2, m, bo⟩
          simp only at m0 m1 m2
          have hbz := kept_trans hb14 hbz0
          have H15 := Lib.hid (H12.out.kept hbz)
          have HAT15 := Lib.hid (idsAt_kept hbz HAT12.out)
          have HI15 := Lib.hid (idsAt_kept hbz0 hi14)
          have l4 := (cell_spot m0).2
          clear hb14 hbz0 hbz hi14
          go_wp2_with fail
          with_reducible refine (eqID_is m m a14 ai c14 ci _ true HML.out HI15.out HAT15.out (by simp)).mono ?_
          rintro e w16 ⟨rfl, rfl⟩
          go_wp2_with fail
          go_ret
          exact ⟨rfl, H15.out.below⟩
end Go.Proofs.YtaaaplbjeknbkaaGreat
