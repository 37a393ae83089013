/-
  TopOrder: the walk.
-/
import Derived.Test.YtaaaplbjeknbkaaGreatTopOnceW
import Derived.Test.YtaaaplbjeknbkaaGreatMixedW
set_option maxRecDepth 20000
namespace Go.Proofs.YtaaaplbjeknbkaaGreat
open Go.RowKit Go.Maps

variable {w w' w0 : World} {F F' : Nat → Prop} {R : Nat} {s u : NS}

theorem join2c (salt : UInt64) (w : World) (h : NodeAt w F R (NS.new salt)) : Calls Tryz.prog 35 #[.pointer (some ⟨R, 0, none⟩), .int .i64 2, .bool false] w (TurnsN w F R (.int .i64 0) ((NS.new salt).setPeer 2 (true, false))) := join_any 2 false _ (join_new salt 2 (by decide) false) w h
/-- An order of the numbers below n. -/
structure Ordered (n : Nat) (out : List Int) (on : List Nat) : Prop where
  len : out.length = on.length
  at' : ∀ i (h : i < out.length) (h' : i < on.length), out[i] = (on[i] : Int)
  nodup : on.Nodup
  lt : ∀ k ∈ on, k < n
  all : ∀ k, k < n → k ∈ on
theorem ordered_of {n : Nat} {out : List Int} (h : out.Perm (upTo n)) : Ordered n out (out.map Int.toNat) := by
  have hp : (out.map Int.toNat).Perm (List.range n) := by
    have := h.map Int.toNat
    have e : (upTo n).map Int.toNat = List.range n := by simp [upTo, Function.comp_def]
    rwa [e] at this
  refine ⟨by simp, fun i h1 h2 => ?_, hp.nodup_iff.2 List.nodup_range, fun k hk => List.mem_range.1 (hp.mem_iff.1 hk), fun k hk => hp.mem_iff.2 (List.mem_range.2 hk)⟩
  have hm : out[i] ∈ upTo n := h.mem_iff.1 (List.getElem_mem _)
  obtain ⟨q, _, hq⟩ := List.mem_map.1 hm
  rw [List.getElem_map, ← hq]
  rfl
/-- Ints of the law's own, that a node does not own. -/
def IntsBy (w : World) (F : Nat → Prop) (a : Option Addr) (l : List Int) : Prop := Tr.IntsAt w a l ∧ ∀ bb o, l ≠ [] → a = some ⟨bb, o, none⟩ → ¬ F bb
theorem IntsBy.kept {a : Option Addr} {l : List Int} (h : IntsBy w F a l) (hb : Below w.heap.size w w') : IntsBy w' F a l := ⟨intsAt_kept hb h.1, h.2⟩
theorem IntsBy.turned {a : Option Addr} {l : List Int} (h : IntsBy w F a l) (ht : Turn F F' w w') : IntsBy w' F' a l := by
  refine ⟨fun i hi => ?_, fun bb o h0 e hf => ?_⟩
  · obtain ⟨b, o, e, hlt, c⟩ := h.1 i hi
    have hn := h.2 b o (fun e0 => by rw [e0] at hi; simp at hi) e
    exact ⟨b, o, e, Nat.lt_of_lt_of_le hlt ht.size, (World.cell?_of_block (w := w) (a := ⟨b, o + i, none⟩) (ht.block b hlt hn)).trans c⟩
  · rcases ht.own bb hf with h1 | h1
    · exact h.2 bb o h0 e h1
    · obtain ⟨b, o', e', hlt, _⟩ := h.1 0 (List.length_pos_iff.2 h0)
      rw [e] at e'
      cases e'
      omega
set_option maxRecDepth 20000 in
set_option maxHeartbeats 8000000 in
theorem topOrder_walk (salt : UInt64) (l : List Int) (a : Option Addr) (cap : Nat) (hcap : l.length ≤ cap) (lp : List Int) (ap : Option Addr) (cp : Nat) (_hl : l.length ≤ maxLen) (hlp : lp.length ≤ maxLen) (w : World) (hi : Tr.IntsAt w a l) (hip : Tr.IntsAt w ap lp) : Calls Tryz.prog 9 #[.int .u64 salt.toNat, .slice a l.length cap, .slice ap lp.length cp] w fun e w' => e = .returned (.bool true) ∧ Below w.heap.size w w' := by
  have HI := Lib.hid hi
  have HIP := Lib.hid hip
  clear hi hip
  go_enter Tryz.func9, Tryz.ntmps9
  go_wp2_with fail
  with_reducible refine (works_any _).mono ?_
  rintro e w1 ⟨rfl, hb1⟩
  have HB1 := Lib.hid hb1
  have HI1 := Lib.hid (Tr.intsAt_take 12 (show Tr.IntsAt w1 a l from fun i hi => by obtain ⟨b, o, e, hlt, c⟩ := HI.out i hi; exact ⟨b, o, e, Nat.lt_of_lt_of_le hlt hb1.size, cell_later hb1 c⟩))
  clear hb1
  obtain ⟨l', hl'⟩ : ∃ l', l.take 12 = l' := ⟨_, rfl⟩
  rw [hl'] at HI1
  have hll : l'.length ≤ 12 := by rw [← hl', List.length_take]; omega
  by_cases hmin : (12 : Int) < l.length
  case' pos =>
    have e4 : (12 : Int) ≤ cap := by omega
    have hn' : l'.length = 12 := by rw [← hl', List.length_take]; omega
    have HN := Lib.hid hn'
    clear hl' hn'
    go_wp2_with fail
    with_reducible refine (chained_is l' 12 a cap HN.out (by decide) _ HI1.out).mono ?_
  case' neg =>
    have hn' : l'.length = l.length := by rw [← hl', List.length_take]; omega
    have hl12 : l.length ≤ 12 := by omega
    have HN := Lib.hid hn'
    clear hl' hn'
    go_wp2_with fail
    with_reducible refine (chained_is l' l.length a cap HN.out hl12 _ HI1.out).mono ?_
  all_goals
    rintro e w2 ⟨v2, H, rfl, hd2, hm2, hb2⟩
    obtain ⟨av, cv, rfl, hcv, hat2, _⟩ := hd2.form
    have HAT2 := Lib.hid hat2
    have HM2 := Lib.hid hm2
    have HB2 := Lib.hid (kept_trans HB1.out hb2)
    obtain ⟨L, hL⟩ : ∃ L, chainD l' = L := ⟨_, rfl⟩
    have HGF : Hid (ChainF L) := Lib.hid (hL ▸ chainD_good l')
    have hlen : L.length ≤ 12 := by rw [← hL, chainD_length]; exact hll
    rw [hL] at HM2
    have HHL : Hid (H.length = L.length) := Lib.hid (by rw [← HM2.out, List.length_map])
    have hH12 : H.length ≤ 12 := by rw [HHL.out]; exact hlen
    have HCK : Hid (∀ q ∈ H, checkD q.d = 0) := Lib.hid fun q hq => by
      obtain ⟨i, hi, e⟩ := List.mem_iff_getElem.1 (show q.d ∈ L from HM2.out ▸ List.mem_map.2 ⟨q, hq, rfl⟩)
      rw [← e]
      exact HGF.out.fine i hi
    clear hd2 hat2 hm2 hb2 hL hlen
    go_wp2_with fail
    with_reducible refine (mine_new salt _ (Below.refl _ _)).mono ?_
    rintro e w3 ⟨R, F, rfl, h3, _, _⟩
    have H3 := Lib.hid h3
    clear h3
    go_wp2_with fail
    with_reducible refine (join2c salt _ H3.out.node).mono ?_
    rintro e w4 ⟨rfl, F4, h4, t4⟩
    have H4 := Lib.hid (H3.out.turned h4 t4)
    have HAT4 := Lib.hid (deedsAt_kept H4.out.below HAT2.out)
    clear h4 t4
    obtain ⟨r, hr⟩ : ∃ r, decide ((H.map fun q => Ju.idD q.d).Nodup) = r := ⟨_, rfl⟩
    have HR := Lib.hid hr
    clear hr
    go_wp2_with fail
    with_reducible refine (apart_any H av cv (by omega) HCK.out _ HAT4.out r HR.out).mono ?_
    rintro e w5 ⟨rfl, hb5⟩
    have H5 := Lib.hid (H4.out.kept hb5)
    clear hb5
    cases r with
    | false =>
      go_wp2_with fail
      go_ret
      exact ⟨rfl, kept_trans HB2.out H5.out.below⟩
    | true =>
      have hnd : (L.map Ju.idD).Nodup := by
        have := of_decide_eq_true HR.out
        rw [← HM2.out]
        simpa only [List.map_map, Function.comp_def] using this
      have HCH : Hid (Chain L) := Lib.hid (chain_of HGF.out hnd)
      obtain ⟨ids, hids⟩ : ∃ ids, L.map Ju.idD = ids := ⟨_, rfl⟩
      have HIDS := Lib.hid hids
      have HIL : Hid (ids.length = H.length) := Lib.hid (by rw [← hids, List.length_map, HHL.out])
      have HIN : Hid (ids.Nodup) := Lib.hid (hids ▸ hnd)
      obtain ⟨u0, hu0⟩ : ∃ u0, (NS.new salt).setPeer 2 (true, false) = u0 := ⟨_, rfl⟩
      have HOS : Hid (ChainSt L 2 [] 0 u0) := Lib.hid (hu0 ▸ chainSt_new L 2 salt false)
      have HT0 : Hid (u0.thereE (2 : Nat) = 0) := Lib.hid (hu0 ▸ new_there salt 2 (by decide) false)
      rw [hu0] at H5
      have hip5 : Tr.IntsAt w5 ap lp := fun i hi => by
        obtain ⟨b, o, e, hlt, c⟩ := HIP.out i hi
        have hb := kept_trans HB2.out H5.out.below
        exact ⟨b, o, e, Nat.lt_of_lt_of_le hlt hb.size, cell_later hb c⟩
      have HIP5 := Lib.hid hip5
      clear hnd hids hu0 hip5
      go_wp2_with fail
      with_reducible refine (mixed_any H.length hH12 lp ap cp hlp _ HIP5.out).mono ?_
      rintro e w6 ⟨a6, c6, out, rfl, hat6, hperm, hfr6, hb6⟩
      have H6 := Lib.hid (H5.out.kept hb6)
      obtain ⟨on, hon⟩ : ∃ on, out.map Int.toNat = on := ⟨_, rfl⟩
      have HOF : Hid (Ordered H.length out on) := Lib.hid (hon ▸ ordered_of hperm)
      have HIB : Hid (IntsBy w6 F4 a6 out) := Lib.hid ⟨hat6, fun bb o _ e hf => by have h1 := H5.out.node.there bb hf; have h2 := hfr6 bb o none e; omega⟩
      have HOL : Hid (out.length ≤ 12) := Lib.hid (by have := hperm.length_eq; rw [upTo_len] at this; omega)
      clear hb6 hat6 hperm hon hfr6
      go_wp2_with fail
      go_loopw [41] (fun i wr => ∃ (k m : Nat) (G : Nat → Prop) (u : NS), k ≤ out.length ∧ i = .int .i64 k ∧ Hid (Mine w2 wr G R u) ∧ Hid (IntsBy wr G a6 out) ∧ Hid (ChainSt L 2 (on.take k) m u) ∧ Hid (u.thereE (2 : Nat) = 0)) (fun i _ => out.length - (intOf i).toNat)
      case atStart => exact ⟨0, 0, F4, u0, Nat.zero_le _, rfl, H6, HIB, HOS, HT0⟩
      case round =>
        obtain ⟨k, m, G, u, hk, rfl, HM, HI6, HO, HT⟩ := hrel
        by_cases hkl : k < out.length
        · have hol12 : out.length ≤ 12 := HOL.out
          have hkn : k < on.length := by rw [← HOF.out.len]; exact hkl
          obtain ⟨g6, o6, e6, hg6, c6k⟩ := HI6.out.1 k hkl
          obtain ⟨j, hj⟩ : ∃ j, on[k] = j := ⟨_, rfl⟩
          have hoj : out[k] = (j : Int) := hj ▸ HOF.out.at' k hkl hkn
          rw [hoj] at c6k
          have hjm : j ∈ on := hj ▸ List.getElem_mem _
          have hjH : j < H.length := HOF.out.lt j hjm
          have hjL : j < L.length := by rw [← HHL.out]; exact hjH
          have htk : on.take (k + 1) = on.take k ++ [j] := by rw [List.take_succ_eq_append_getElem hkn, hj]
          have hnj : j ∉ on.take k := fun h => by
            have hn := HOF.out.nodup.sublist (List.take_sublist (k + 1) on)
            rw [htk, List.nodup_append] at hn
            exact hn.2.2 j h j (by simp) rfl
          have HBR : Hid (on.take (k + 1) = on.take k ++ [j]) := Lib.hid htk
          have HBN : Hid ((on.take k).Nodup) := Lib.hid (HOF.out.nodup.sublist (List.take_sublist k on))
          have HBL : Hid (∀ q ∈ on.take k, q < L.length) := Lib.hid fun q hq => by rw [← HHL.out]; exact HOF.out.lt q (List.mem_of_mem_take hq)
          have hL12 : L.length ≤ 12 := by rw [← HHL.out]; exact hH12
          obtain ⟨⟨b, o, eb, hb, d0, d1, d2, d3⟩, hins, _⟩ := deedsAt_kept HM.out.below HAT2.out j hjH
          obtain ⟨z, hz⟩ : ∃ z, H[j] = z := ⟨_, rfl⟩
          have hzd : L[j] = z.d := by
            have h1 : L[j]? = some z.d := by rw [← HM2.out, List.getElem?_map, List.getElem?_eq_getElem hjH, hz]; rfl
            exact (List.getElem?_eq_some_iff.1 h1).2
          rw [hz] at d0 d1 d2 d3 hins
          have HZK : Hid (checkD z.d = 0) := Lib.hid (HCK.out z (hz ▸ List.getElem_mem _))
          obtain ⟨B, hB⟩ : ∃ B, bringB z.d = B := ⟨_, rfl⟩
          obtain ⟨u1, hu1⟩ : ∃ u1, u.bring 2 z.d = u1 := ⟨_, rfl⟩
          have HSD : Hid (u.send (2 : Nat) B = (u1, [], 0)) := Lib.hid (by rw [← hB, ← hu1]; exact send_brought HZK.out HT.out)
          have HO1 : Hid (∃ m', ChainSt L 2 (on.take (k + 1)) m' u1) := Lib.hid (by
            have := chain_step HCH.out hL12 (p := 2) (by decide) HBN.out HBL.out hjL hnj HO.out
            rw [hzd, hu1, ← htk] at this
            exact this)
          have HT1 : Hid (u1.thereE (2 : Nat) = 0) := Lib.hid (by have := HT.out; unfold NS.thereE at this ⊢; rw [← hu1, bring_peers]; exact this)
          have HBS : Hid (B.size ≤ maxLen) := Lib.hid (by rw [← hB]; exact bring_small HZK.out)
          have HAL : Hid (u.A.length ≤ 2950000000000) := Lib.hid (by rw [HO.out.A, List.length_take]; omega)
          have l5 := (cell_spot d0).2
          have l6 := (cell_spot c6k).2
          have HIN5 := Lib.hid hins
          have HBB := Lib.hid hB
          subst eb e6
          clear hz hzd hins hB hu1 hj hoj hjm hjL htk hnj
          go_wp2_with fail
          with_reducible refine (tbringB_any z.d HZK.out z.ia z.ic B HBB.out _ HIN5.out).mono ?_
          rintro e w7 ⟨rfl, hb7⟩
          have HM7 := Lib.hid (HM.out.kept hb7)
          have HI7 := Lib.hid (HI6.out.kept hb7)
          clear hb7 d0 d1 d2 d3 c6k l5 l6
          go_wp2_with fail
          with_reducible refine (send_any 2 B HBS.out HAL.out _ HSD.out _ HM7.out.node).mono ?_
          rintro e w8 ⟨v8, G8, rfl, ho8, h8, t8, _⟩
          simp only at ho8 h8 ⊢
          obtain ⟨a8, c8, rfl, _⟩ := outs_form ho8
          have HM8 := Lib.hid (HM7.out.turned h8 t8)
          have HI8 := Lib.hid (HI7.out.turned t8)
          obtain ⟨m', hm'⟩ := HO1.out
          have HO2 := Lib.hid hm'
          clear ho8 h8 t8 hm'
          go_wp2_with fail
          go_roundw
          case rel => exact ⟨k + 1, m', G8, u1, by omega, by go_num, HM8, HI8, HO2, HT1⟩
          case measure => simp [intOf]; omega
        · have he : on.take k = on := List.take_of_length_le (by rw [← HOF.out.len]; omega)
          rw [he] at HO
          have hend := chain_end (fun q hq => by rw [← HHL.out]; exact HOF.out.lt q hq) (fun q hq => HOF.out.all q (by rw [HHL.out]; exact hq)) HO.out
          have HUA : Hid (u.A = L) := Lib.hid hend.1
          have HUP : Hid (u.P = []) := Lib.hid hend.2
          have HN9 : Hid (NodeIds w2 wr G R u (.slice none 0 0) []) := Lib.hid ⟨HM.out, ownIds_nil _ _, fun g hg => by cases hg⟩
          obtain ⟨wB, hwB⟩ : ∃ x, x = wr := ⟨_, rfl⟩
          subst hwB
          clear he hend
          go_wp2_with fail
          go_loopw [13, 60] (fun v9 i wr => ∃ (k : Nat), k ≤ H.length ∧ i = .int .i64 k ∧ Hid (NodeIds w2 wr G R u v9 (ids.take k))) (fun _ i _ => H.length - (intOf i).toNat)
          case atStart => exact ⟨0, Nat.zero_le _, rfl, HN9⟩
          case round =>
            obtain ⟨k, hk, rfl, HN⟩ := hrel
            by_cases hkl : k < H.length
            · have hkL : k < L.length := by rw [← HHL.out]; exact hkl
              obtain ⟨⟨b, o, rfl, hb, d0, d1, d2, d3⟩, hins, _⟩ := deedsAt_kept HN.out.mine.below HAT2.out k hkl
              obtain ⟨z, hz⟩ : ∃ z, H[k] = z := ⟨_, rfl⟩
              have hzd : L[k] = z.d := by
                have h1 : L[k]? = some z.d := by rw [← HM2.out, List.getElem?_map, List.getElem?_eq_getElem hkl, hz]; rfl
                exact (List.getElem?_eq_some_iff.1 h1).2
              rw [hz] at d0 d1 d2 d3 hins
              have HZK : Hid (checkD z.d = 0) := Lib.hid (HCK.out z (hz ▸ List.getElem_mem _))
              obtain ⟨x, hx⟩ : ∃ x, Ju.idD z.d = x := ⟨_, rfl⟩
              have hxk : ids.take (k + 1) = ids.take k ++ [x] := by
                have h1 : k < ids.length := by rw [HIL.out]; exact hkl
                rw [List.take_succ_eq_append_getElem h1]
                have h2 : ids[k]? = some x := by rw [← HIDS.out, List.getElem?_map, List.getElem?_eq_getElem hkL, hzd, ← hx]; rfl
                rw [(List.getElem?_eq_some_iff.1 h2).2]
              have l5 := (cell_spot d0).2
              obtain ⟨wd, hwd⟩ : ∃ wd, wr.alloc (.cells #[.slice z.ia z.d.ins.length z.ic, .int .i64 z.d.outs, .int .i64 z.d.weight, .int .i64 z.d.fee] 50) = wd := ⟨_, rfl⟩
              have hbd : Below wr.heap.size wr wd := hwd ▸ kept_new _ _
              obtain ⟨b0, b1, b2, b3⟩ : DeedBox wd wr.heap.size z.ia z.ic z.d := hwd ▸ box_deed wr z.ia z.ic z.d
              have l6 := (cell_spot b0).2
              have HIN5 := Lib.hid (insAt_kept hbd hins)
              have HN6 := Lib.hid (HN.out.kept hbd)
              have HXK := Lib.hid hxk
              have HX := Lib.hid hx
              clear hz hzd hins hbd hx hxk
              go_wp2_with fail
              with_reducible refine (tidOf_any z.d HZK.out z.ia z.ic x HX.out _ HIN5.out).mono ?_
              rintro e w7 ⟨rfl, hb7⟩
              have HN7 := Lib.hid (HN6.out.kept hb7)
              have hlk : (ids.take k).length ≤ 1000000 := by rw [List.length_take]; omega
              have HS7 := Lib.hid HN7.out.mine.below.size
              clear hb7 b0 b1 b2 b3
              go_wp2_with (at_builtin; refine append_id2 rfl _ _ rfl x rfl rfl HN7.out.own hlk HS7.out ?_; intro g10 cap10 w10 ho10 hg10 hat10; refine Hid.out ?_)
              refine Lib.hid ?_
              have hn10 := HN7.out.grown hg10 (HXK.out ▸ ho10) hat10
              rw [List.length_take] at hn10
              have HN10 := Lib.hid hn10
              clear ho10 hg10 hat10 hlk hn10
              go_wp2_with fail
              go_roundw
              case rel => exact ⟨k + 1, by omega, by go_num, HN10⟩
              case measure => simp [intOf]; omega
            · have he : ids.take k = ids := List.take_of_length_le (by rw [HIL.out]; omega)
              rw [he] at HN
              have HAE : Hid (u.A.map Ju.idD = ids) := Lib.hid (by rw [HUA.out, HIDS.out])
              have hnl : ids.length = H.length := HIL.out
              have HML : Hid (ids.length ≤ maxLen) := Lib.hid (by unfold maxLen; omega)
              obtain ⟨a9, c9, rfl, hc9, hat9⟩ := HN.out.at
              have HA9 := Lib.hid hat9
              obtain ⟨n9, hn9⟩ : ∃ n9, ids.length = n9 := ⟨_, rfl⟩
              have HN9L := Lib.hid hn9
              have hn910 : n9 ≤ 12 := by omega
              have HPI : Hid (Ho.allL u.P = []) := Lib.hid (by rw [HUP.out]; rfl)
              clear hat9 he hnl
              rw [hn9] at HN ⊢
              clear hn9
              go_wp2_with fail
              with_reducible refine (accepted_is ids n9 HAE.out HN9L.out (by omega) _ HN.out.mine.node).mono ?_
              rintro e w16 ⟨a16, c16, rfl, hat16, hb16⟩
              have HA16 := Lib.hid hat16
              have HA916 := Lib.hid (idsAt_kept hb16 HA9.out)
              have HN16 := Lib.hid (HN.out.kept hb16)
              clear hat16 hb16
              go_wp2_with fail
              with_reducible refine (eqID_len ids n9 n9 HN9L.out HN9L.out a16 a9 c16 c9 _ HML.out HA16.out HA916.out).mono ?_
              rintro e w17 ⟨rfl, rfl⟩
              go_wp2_with fail
              with_reducible refine (orphans_any _ HN16.out.mine.node).mono ?_
              rintro e w18 ⟨a18, c18, rfl, _, hb18⟩
              rw [HPI.out]
              have H18 := Lib.hid (HN16.out.kept hb18)
              clear hb18
              go_wp2_with fail
              go_ret
              exact ⟨rfl, kept_trans HB2.out H18.out.mine.below⟩
end Go.Proofs.YtaaaplbjeknbkaaGreat
