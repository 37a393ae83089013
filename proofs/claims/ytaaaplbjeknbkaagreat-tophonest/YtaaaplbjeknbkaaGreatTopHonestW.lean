/-
  TopHonest: the walk.
-/
import Derived.Test.YtaaaplbjeknbkaaGreatTopOrderW
import Derived.Test.YtaaaplbjeknbkaaGreatHonestMath
import Derived.Test.YtaaaplbjeknbkaaGreatJ3
set_option maxRecDepth 20000
namespace Go.Proofs.YtaaaplbjeknbkaaGreat
open Go.RowKit Go.Maps

variable {w w' w0 : World} {F F' : Nat → Prop} {R b : Nat} {s u : NS} {v : Value} {ids : List UInt64} {ev : UInt64 → Option Value}

theorem join5c (salt : UInt64) (f : Bool) (w : World) (h : NodeAt w F R (NS.new salt)) : Calls Tryz.prog 35 #[.pointer (some ⟨R, 0, none⟩), .int .i64 5, .bool f] w (TurnsN w F R (.int .i64 0) ((NS.new salt).setPeer 5 (true, f))) := join_any 5 f _ (join_new salt 5 (by decide) f) w h
theorem tmap_obj (h : TMap w b none ev) : ∃ es c, w.heap[b]? = some (.map es c) := by
  obtain ⟨D, hm, _, _⟩ := h
  obtain ⟨n, es, clock, hb, _⟩ := mapIs_owns hm
  exact ⟨es, clock, hb⟩
/-- A node, IDs of the law's own, a map of the law's own from IDs to deeds. -/
structure HonM (w0 w : World) (F : Nat → Prop) (R : Nat) (u : NS) (v : Value) (ids : List UInt64) (b : Nat) (ev : UInt64 → Option Value) : Prop where
  ni : NodeIds w0 w F R u v ids
  map : TMap w b none ev
  out : ¬ F b
  above : w0.heap.size ≤ b
theorem HonM.kept (h : HonM w0 w F R u v ids b ev) (hb : Below w.heap.size w w') : HonM w0 w' F R u v ids b ev := ⟨h.ni.kept hb, tmap_same h.map (hb.block b (tmap_lt h.map)) (fun i hi => by cases hi), h.out, h.above⟩
theorem HonM.turned (h : HonM w0 w F R u v ids b ev) {u' : NS} (hn : NodeAt w' F' R u') (ht : Turn F F' w w') : HonM w0 w' F' R u' v ids b ev :=
  ⟨h.ni.turned hn ht, tmap_same h.map (ht.block b (tmap_lt h.map) h.out) (fun i hi => by cases hi), fun hf => (ht.own b hf).elim h.out (fun hle => by have := tmap_lt h.map; omega), h.above⟩
theorem HonM.grown (h : HonM w0 w F R u v ids b ev) {g n cap : Nat} {ids' : List UInt64} (hg : w.grownBy w' v.ownBlock) (ho : OwnIds w' w0.heap.size (.slice (some ⟨g, 0, none⟩) n cap) ids') (hat : v.ownBlock = some g ∨ w.heap.size ≤ g) : HonM w0 w' F R u (.slice (some ⟨g, 0, none⟩) n cap) ids' b ev := by
  refine ⟨h.ni.grown hg ho hat, tmap_same h.map (hg.block b (tmap_lt h.map) (fun e => ?_)) (fun i hi => by cases hi), h.out, h.above⟩
  obtain ⟨c1, h1⟩ := own_at h.ni.own e.symm
  obtain ⟨es, c, h2⟩ := tmap_obj h.map
  rw [h1] at h2
  cases h2
theorem HonM.put (h : HonM w0 w F R u v ids b ev) (ks : List UInt64) (hks : ∀ x, (ev x).isSome = true → x ∈ ks) (hkl : ks.length ≤ 1000) (x : UInt64) (z : Value) :
    ∃ w', (Instr.mapUpdate 47 (.map (some b)) (.int .u64 x.toNat) z).run Tryz.prog w = .ok () w' ∧ HonM w0 w' F R u v ids b (fun y => if y = x then some z else ev y) := by
  obtain ⟨w', h1, h2, h3⟩ := tmap_put h.map ks hks hkl x z
  refine ⟨w', h1, ⟨⟨⟨h.ni.mine.node.turn h3 (fun k hf hk => h.out (hk ▸ hf)), h.ni.mine.above, h.ni.mine.below.trans (h3.below (fun k hk => hk ▸ h.above) h.ni.mine.below.size)⟩, own_turn h.ni.own h3 (fun g hg hgb => ?_), h.ni.out⟩, h2, h.out, h.above⟩⟩
  obtain ⟨c1, h4⟩ := own_at h.ni.own hg
  obtain ⟨es, c, h5⟩ := tmap_obj h.map
  rw [hgb] at h4
  rw [h4] at h5
  cases h5
/-- IDs in memory that a node does not own. -/
def IdsBy (w : World) (F : Nat → Prop) (a : Option Addr) (l : List UInt64) : Prop := IdsAt w a l ∧ ∀ bb o, l ≠ [] → a = some ⟨bb, o, none⟩ → ¬ F bb
theorem IdsBy.kept {a : Option Addr} {l : List UInt64} (h : IdsBy w F a l) (hb : Below w.heap.size w w') : IdsBy w' F a l := ⟨idsAt_kept hb h.1, h.2⟩
theorem IdsBy.turned {a : Option Addr} {l : List UInt64} (h : IdsBy w F a l) (ht : Turn F F' w w') : IdsBy w' F' a l := by
  refine ⟨idsAt_turn h.1 ht h.2, fun bb o h0 e hf => ?_⟩
  rcases ht.own bb hf with h1 | h1
  · exact h.2 bb o h0 e h1
  · obtain ⟨b, o', e', hlt, _⟩ := h.1 0 (List.length_pos_iff.2 h0)
    rw [e] at e'
    cases e'
    omega
/-- A deed as the law keeps it. -/
def dV (q : DeedH) : Value := .agg #[.slice q.ia q.d.ins.length q.ic, .int .i64 q.d.outs, .int .i64 q.d.weight, .int .i64 q.d.fee]
/-- What the law's map holds: the first k deeds. -/
def MapOf (H : List DeedH) (ids : List UInt64) (k : Nat) (ev : UInt64 → Option Value) : Prop := (∀ x, (ev x).isSome = true → x ∈ ids) ∧ ∀ i (h : i < H.length) (h' : i < ids.length), i < k → ev ids[i] = some (dV H[i])
theorem mapOf_step {H : List DeedH} {k : Nat} (h : MapOf H ids k ev) (hn : ids.Nodup) (hk : k < H.length) (hk' : k < ids.length) : MapOf H ids (k + 1) (fun y => if y = ids[k] then some (dV H[k]) else ev y) := by
  refine ⟨fun x hx => ?_, fun i h1 h2 h3 => ?_⟩
  · by_cases e : x = ids[k]
    · rw [e]; exact List.getElem_mem _
    · simp only [if_neg e] at hx
      exact h.1 x hx
  · by_cases e : i = k
    · subst e
      simp
    · have hne : ids[i] ≠ ids[k] := fun e2 => by
        have hp := List.pairwise_iff_getElem.1 hn
        rcases Nat.lt_trichotomy i k with h4 | h4 | h4
        · exact hp i k h2 hk' h4 e2
        · exact e h4
        · exact hp k i hk' h2 h4 e2.symm
      simp only [if_neg hne]
      exact h.2 i h1 h2 (by omega)
set_option maxRecDepth 20000 in
set_option maxHeartbeats 8000000 in
theorem topHonest_walk (salt : UInt64) (l : List Int) (a : Option Addr) (cap : Nat) (hcap : l.length ≤ cap) (f : Bool) (wt : Int) (_hl : l.length ≤ maxLen) (_hwt : -9223372036854775808 ≤ wt ∧ wt ≤ 9223372036854775807) (w : World) (hi : Tr.IntsAt w a l) : Calls Tryz.prog 10 #[.int .u64 salt.toNat, .slice a l.length cap, .bool f, .int .i64 wt] w fun e w' => e = .returned (.bool true) ∧ Below w.heap.size w w' := by
  have hmm := @run_makeMap Tryz.prog
  have HI := Lib.hid hi
  clear hi
  go_enter Tryz.func10, Tryz.ntmps10
  go_wp2_with fail
  with_reducible refine (works_any _).mono ?_
  rintro e w1 ⟨rfl, hb1⟩
  have HB1 := Lib.hid hb1
  have HI1 := Lib.hid (Tr.intsAt_take 12 (show Tr.IntsAt w1 a l from fun i hi => by obtain ⟨b, o, e, hlt, c⟩ := HI.out i hi; exact ⟨b, o, e, Nat.lt_of_lt_of_le hlt hb1.size, cell_later hb1 c⟩))
  clear hb1
  obtain ⟨l', hl'⟩ : ∃ l', l.take 12 = l' := ⟨_, rfl⟩
  rw [hl'] at HI1
  have hll : l'.length ≤ 12 := by rw [← hl', List.length_take]; omega
  by_cases hmin : (12 : Int) < l.length
  case' pos =>
    have e4 : (12 : Int) ≤ cap := by omega
    have hn' : l'.length = 12 := by rw [← hl', List.length_take]; omega
    have HN := Lib.hid hn'
    clear hl' hn'
    go_wp2_with fail
    with_reducible refine (chained_is l' 12 a cap HN.out (by decide) _ HI1.out).mono ?_
  case' neg =>
    have hn' : l'.length = l.length := by rw [← hl', List.length_take]; omega
    have hl12 : l.length ≤ 12 := by omega
    have HN := Lib.hid hn'
    clear hl' hn'
    go_wp2_with fail
    with_reducible refine (chained_is l' l.length a cap HN.out hl12 _ HI1.out).mono ?_
  all_goals
    rintro e w2 ⟨v2, H, rfl, hd2, hm2, hb2⟩
    obtain ⟨av, cv, rfl, hcv, hat2, _⟩ := hd2.form
    have HAT2 := Lib.hid hat2
    have HM2 := Lib.hid hm2
    have HB2 := Lib.hid (kept_trans HB1.out hb2)
    obtain ⟨L, hL⟩ : ∃ L, chainD l' = L := ⟨_, rfl⟩
    have HGF : Hid (ChainF L) := Lib.hid (hL ▸ chainD_good l')
    have hlen : L.length ≤ 12 := by rw [← hL, chainD_length]; exact hll
    rw [hL] at HM2
    have HHL : Hid (H.length = L.length) := Lib.hid (by rw [← HM2.out, List.length_map])
    have hH12 : H.length ≤ 12 := by rw [HHL.out]; exact hlen
    have HCK : Hid (∀ q ∈ H, checkD q.d = 0) := Lib.hid fun q hq => by
      obtain ⟨i, hi, e⟩ := List.mem_iff_getElem.1 (show q.d ∈ L from HM2.out ▸ List.mem_map.2 ⟨q, hq, rfl⟩)
      rw [← e]
      exact HGF.out.fine i hi
    clear hd2 hat2 hm2 hb2 hL hlen
    go_wp2_with fail
    with_reducible refine (mine_new salt _ (Below.refl _ _)).mono ?_
    rintro e w3 ⟨R, F, rfl, h3, _, _⟩
    have H3 := Lib.hid h3
    clear h3
    go_wp2_with fail
    with_reducible refine (join5c salt f _ H3.out.node).mono ?_
    rintro e w4 ⟨rfl, F4, h4, t4⟩
    have H4 := Lib.hid (H3.out.turned h4 t4)
    have HAT4 := Lib.hid (deedsAt_kept H4.out.below HAT2.out)
    clear h4 t4
    obtain ⟨r, hr⟩ : ∃ r, decide ((H.map fun q => Ju.idD q.d).Nodup) = r := ⟨_, rfl⟩
    have HR := Lib.hid hr
    clear hr
    go_wp2_with fail
    with_reducible refine (apart_any H av cv (by omega) HCK.out _ HAT4.out r HR.out).mono ?_
    rintro e w5 ⟨rfl, hb5⟩
    have H5 := Lib.hid (H4.out.kept hb5)
    clear hb5
    cases r with
    | false =>
      go_wp2_with fail
      go_ret
      exact ⟨rfl, kept_trans HB2.out H5.out.below⟩
    | true =>
      have hnd : (L.map Ju.idD).Nodup := by
        have := of_decide_eq_true HR.out
        rw [← HM2.out]
        simpa only [List.map_map, Function.comp_def] using this
      have HCH : Hid (Chain L) := Lib.hid (chain_of HGF.out hnd)
      obtain ⟨ids, hids⟩ : ∃ ids, L.map Ju.idD = ids := ⟨_, rfl⟩
      have HIDS := Lib.hid hids
      have HIL : Hid (ids.length = H.length) := Lib.hid (by rw [← hids, List.length_map, HHL.out])
      have HIN : Hid (ids.Nodup) := Lib.hid (hids ▸ hnd)
      obtain ⟨u0, hu0⟩ : ∃ u0, (NS.new salt).setPeer 5 (true, f) = u0 := ⟨_, rfl⟩
      have HT0 : Hid (u0.thereE (5 : Nat) = 0) := Lib.hid (hu0 ▸ new_there salt 5 (by decide) f)
      have HU0 := Lib.hid hu0
      rw [hu0] at H5
      obtain ⟨b, hb⟩ : ∃ b, w5.heap.size = b := ⟨_, rfl⟩
      have HM5 : Hid (HonM w2 (w5.alloc (.map #[] 0)) F4 R u0 (.slice none 0 0) [] b (fun _ => none)) := Lib.hid ⟨⟨H5.out.kept (kept_new w5 _), ownIds_nil _ _, fun g hg => by cases hg⟩, hb ▸ tmap_new w5, fun hf => by have := H5.out.node.there _ hf; omega, by have := H5.out.below.size; omega⟩
      have HEV : Hid (MapOf H ids 0 (fun _ => none)) := Lib.hid ⟨fun x h => (by cases h), fun i _ _ h => absurd h (by omega)⟩
      clear hnd hids hu0
      go_wp2_with fail
      go_loopw [11, 53] (fun v11 i wr => ∃ (k : Nat) (ev : UInt64 → Option Value), k ≤ H.length ∧ i = .int .i64 k ∧ Hid (HonM w2 wr F4 R u0 v11 (ids.take k) b ev) ∧ Hid (MapOf H ids k ev)) (fun _ i _ => H.length - (intOf i).toNat)
      case atStart => exact ⟨0, _, Nat.zero_le _, rfl, HM5, HEV⟩
      case round =>
        obtain ⟨k, ev, hk, rfl, HN, HE⟩ := hrel
        by_cases hkl : k < H.length
        · have hkL : k < L.length := by rw [← HHL.out]; exact hkl
          obtain ⟨⟨bd, o, rfl, hbd0, d0, d1, d2, d3⟩, hins, _⟩ := deedsAt_kept HN.out.ni.mine.below HAT2.out k hkl
          obtain ⟨z, hz⟩ : ∃ z, H[k] = z := ⟨_, rfl⟩
          have hzd : L[k] = z.d := by
            have h1 : L[k]? = some z.d := by rw [← HM2.out, List.getElem?_map, List.getElem?_eq_getElem hkl, hz]; rfl
            exact (List.getElem?_eq_some_iff.1 h1).2
          rw [hz] at d0 d1 d2 d3 hins
          have HZZ := Lib.hid hz
          have HZK : Hid (checkD z.d = 0) := Lib.hid (HCK.out z (hz ▸ List.getElem_mem _))
          obtain ⟨x, hx⟩ : ∃ x, Ju.idD z.d = x := ⟨_, rfl⟩
          have hki : k < ids.length := by rw [HIL.out]; exact hkl
          have hxi : ids[k] = x := by
            have h2 : ids[k]? = some x := by rw [← HIDS.out, List.getElem?_map, List.getElem?_eq_getElem hkL, hzd, ← hx]; rfl
            exact (List.getElem?_eq_some_iff.1 h2).2
          have hxk : ids.take (k + 1) = ids.take k ++ [x] := by rw [List.take_succ_eq_append_getElem hki, hxi]
          have HE1 : Hid (MapOf H ids (k + 1) (fun y => if y = x then some (dV z) else ev y)) := Lib.hid (by have := mapOf_step HE.out HIN.out hkl hki; rw [hxi, hz] at this; exact this)
          have l5 := (cell_spot d0).2
          obtain ⟨wd, hwd⟩ : ∃ wd, wr.alloc (.cells #[.slice z.ia z.d.ins.length z.ic, .int .i64 z.d.outs, .int .i64 z.d.weight, .int .i64 z.d.fee] 50) = wd := ⟨_, rfl⟩
          have hbd : Below wr.heap.size wr wd := hwd ▸ kept_new _ _
          have hbox : DeedBox wd wr.heap.size z.ia z.ic z.d := hwd ▸ box_deed wr z.ia z.ic z.d
          obtain ⟨b0, b1, b2, b3⟩ := hbox
          have l6 := (cell_spot b0).2
          have HIN5 := Lib.hid (insAt_kept hbd hins)
          have HN6 := Lib.hid (HN.out.kept hbd)
          have HXK := Lib.hid hxk
          have HX := Lib.hid hx
          have HDW : Hid (wd.heap[wr.heap.size]? = some (.cells #[.slice z.ia z.d.ins.length z.ic, .int .i64 z.d.outs, .int .i64 z.d.weight, .int .i64 z.d.fee] 50 (0, 0))) := Lib.hid (hwd ▸ heap_alloc_new wr _)
          clear hz hzd hins hbd hx hxk hxi hki
          go_wp2_with fail
          with_reducible refine (tidOf_any z.d HZK.out z.ia z.ic x HX.out _ HIN5.out).mono ?_
          rintro e w7 ⟨rfl, hb7⟩
          have HN7 := Lib.hid (HN6.out.kept hb7)
          have hlk : (ids.take k).length ≤ 1000000 := by rw [List.length_take]; omega
          have HS7 := Lib.hid HN7.out.ni.mine.below.size
          have HDW7 := Lib.hid ((hb7.block wr.heap.size l6).trans HDW.out)
          have l7 : wr.heap.size < w7.heap.size := Nat.lt_of_lt_of_le l6 hb7.size
          have HIN7 := Lib.hid (insAt_kept hb7 HIN5.out)
          clear hb7 b0 b1 b2 b3
          go_wp2_with (at_builtin; refine append_id2 rfl _ _ rfl x rfl rfl HN7.out.ni.own hlk HS7.out ?_; intro g10 cap10 w10 ho10 hg10 hat10; refine Hid.out ?_)
          refine Lib.hid ?_
          have hn10 := HN7.out.grown hg10 (HXK.out ▸ ho10) hat10
          rw [List.length_take] at hn10
          have hdw10 := (hg10.block wr.heap.size l7 (fun e => by
            obtain ⟨c1, h1⟩ := own_at HN7.out.ni.own e.symm
            have h2 := HDW7.out
            rw [h1] at h2
            simp at h2)).trans HDW7.out
          have hdr := (Below.refl w10.heap.size w10).drew
          have HN10 := Lib.hid (hn10.kept hdr)
          have HIN10 : Hid (InsAt w10.drew z.ia z.d.ins) := Lib.hid (by
            have := (deedsAt_kept HN10.out.ni.mine.below HAT2.out k hkl).2.1
            exact HZZ.out ▸ this)
          have b0 := kept_cell hdr ((head_cell hdw10 0).trans rfl)
          have b1 := kept_cell hdr ((head_cell hdw10 1).trans rfl)
          have b2 := kept_cell hdr ((head_cell hdw10 2).trans rfl)
          have b3 := kept_cell hdr ((head_cell hdw10 3).trans rfl)
          have l10 := (cell_spot b0).2
          have hi1k : ids.length ≤ 1000 := by rw [HIL.out]; omega
          clear ho10 hg10 hat10 hlk hn10 hdr hdw10
          go_wp2_with fail
          go_region_law (first
            | (go_simp; go_at_call 46; (with_reducible refine (tidOf_any z.d HZK.out z.ia z.ic x HX.out _ HIN10.out).mono ?_); rintro e w11 ⟨rfl, hb11⟩; have b0 := kept_cell hb11 b0; have b1 := kept_cell hb11 b1; have b2 := kept_cell hb11 b2; have b3 := kept_cell hb11 b3; have l10 := (cell_spot b0).2; obtain ⟨w12, hput, hm12⟩ := (HN10.out.kept hb11).put ids HE.out.1 hi1k x (dV z); have HM12 := Lib.hid hm12; unfold dV at hput; clear hb11 hm12))
          all_goals
            go_wp2_with fail
            go_roundw
            case rel => exact ⟨k + 1, _, by omega, by go_num, HM12, HE1⟩
            case measure => simp [intOf]; omega
        · have he : ids.take k = ids := List.take_of_length_le (by rw [HIL.out]; omega)
          have hkH : k = H.length := by omega
          rw [he] at HN
          rw [hkH] at HE
          have hnl : ids.length = H.length := HIL.out
          obtain ⟨a9, c9, rfl, hc9, hat9⟩ := HN.out.ni.at
          have HA9 := Lib.hid hat9
          obtain ⟨n, hn9⟩ : ∃ n, ids.length = n := ⟨_, rfl⟩
          have HNL := Lib.hid hn9
          have hn12 : n ≤ 12 := by omega
          obtain ⟨wB, hwB⟩ : ∃ x, x = wr := ⟨_, rfl⟩
          subst hwB
          clear hat9 he hnl hkH
          rw [hn9] at HN ⊢
          clear hn9
          by_cases hn0 : n = 0
          · subst hn0
            have HMB := Lib.hid HN.out.ni.mine.below
            go_wp2_with fail
            go_ret
            exact ⟨rfl, kept_trans HB2.out HMB.out⟩
          · obtain ⟨BA, hBA⟩ : ∃ B, bytesM ⟨1, ids, ⟨#[]⟩⟩ = B := ⟨_, rfl⟩
            have HBA := Lib.hid hBA
            have HBAS : Hid (BA.size ≤ maxLen) := Lib.hid (by rw [← hBA]; exact bytes_small _)
            have hne : ids ≠ [] := fun e => by have := HNL.out; rw [e] at this; simp at this; omega
            obtain ⟨u1, hu1⟩ : ∃ u1, u0.announce 5 ids = u1 := ⟨_, rfl⟩
            have HSA : Hid (u0.send (5 : Nat) BA = (u1, [], 0)) := Lib.hid (by
              rw [← hBA, send_ann (ids_ok 1 (by decide) (by decide) ids (List.length_pos_iff.2 hne) (by rw [HNL.out]; omega) HIN.out) HT0.out, hu1])
            have hst := hon_start (l := L) (salt := salt) (f := f) (ids := ids) (by rw [HNL.out]; exact hn12) HIN.out
            rw [HU0.out, hu1] at hst
            have HO1 : Hid (Hon L ids f 0 0 u1) := Lib.hid hst.1
            have HT1 : Hid (u1.thereE (5 : Nat) = 0) := Lib.hid (by have := HT0.out; unfold NS.thereE at this ⊢; rw [hst.2]; exact this)
            have HAL : Hid (u0.A.length ≤ 2950000000000) := Lib.hid (by rw [← HU0.out]; exact Nat.zero_le _)
            have hn0' : ¬ (n : Int) = 0 := by omega
            obtain ⟨q, hq⟩ : ∃ q : Nat, wt % 5 = q := ⟨(wt % 5).toNat, by omega⟩
            have hq5 : q < 5 := by omega
            have HQ := Lib.hid hq
            clear hBA hne hu1 hst hq
            go_wp2_with fail
            with_reducible refine (tbytesOf_len ids n HNL.out _ _ BA HBA.out _ HA9.out).mono ?_
            rintro e w15 ⟨rfl, hb15⟩
            have H15 := Lib.hid (HN.out.kept hb15)
            clear hb15
            go_wp2_with fail
            with_reducible refine (send_any 5 BA HBAS.out HAL.out _ HSA.out _ H15.out.ni.mine.node).mono ?_
            rintro e w16 ⟨v16, F16, rfl, ho16, h16, t16, _⟩
            simp only at ho16 h16 ⊢
            obtain ⟨a16, c16, rfl, _⟩ := outs_form ho16
            have H16 := Lib.hid (H15.out.turned h16 t16)
            clear ho16 h16 t16
            go_wp2_with fail
            with_reducible refine (rest_is wt 5 q _ (by decide) (by decide) HQ.out).mono ?_
            rintro e w17 ⟨rfl, rfl⟩
            have HOs : Hid (Hon L ids f (min (4 * 0) n) (((q : Int) + 3) * ((0 : Nat) : Int)) u1) := Lib.hid (by simpa using HO1.out)
            go_wp2_with fail
            go_loopw [83] (fun i wr => ∃ (j : Nat) (G : Nat → Prop) (u : NS), j ≤ 12 ∧ i = .int .i64 j ∧ Hid (HonM w2 wr G R u (.slice a9 n c9) ids b ev) ∧ Hid (Hon L ids f (min (4 * j) n) (((q : Int) + 3) * (j : Int)) u) ∧ Hid (u.thereE (5 : Nat) = 0)) (fun i _ => 12 - (intOf i).toNat)
            case atStart => exact ⟨0, F16, u1, Nat.zero_le _, rfl, H16, HOs, HT1⟩
            case round =>
              obtain ⟨j, G, u, hj, rfl, HM, HO, HT⟩ := hrel
              by_cases hjl : j < 12
              · obtain ⟨m, hm⟩ : ∃ m, min (4 * j) n = m := ⟨_, rfl⟩
                have hm1 : min (4 * (j + 1)) n = min (m + 4) n := by omega
                obtain ⟨t0, ht0⟩ : ∃ t0 : Int, ((q : Int) + 3) * (j : Int) = t0 := ⟨_, rfl⟩
                have ht1 : ((q : Int) + 3) * ((j + 1 : Nat) : Int) = t0 + ((q : Int) + 3) := by rw [← ht0, Int.natCast_add, Int.mul_add]; simp
                have ht2 : 0 ≤ t0 := ht0 ▸ Int.mul_nonneg (by omega) (by omega)
                have ht3 : t0 ≤ 7 * 11 := ht0 ▸ Int.mul_le_mul (by omega) (by omega) (by omega) (by omega)
                rw [hm, ht0] at HO
                obtain ⟨u', hps, hoi, hpe⟩ := HO.out.pass HIN.out ht2 (k := (q : Int) + 3) (by omega) (by omega)
                have HFL := Lib.hid HO.out.fly
                have HOI := Lib.hid hoi
                have HT' : Hid (u'.thereE (5 : Nat) = 0) := Lib.hid (by have := HT.out; unfold NS.thereE at this ⊢; rw [hpe]; exact this)
                have HM1 := Lib.hid hm1
                have HT1' := Lib.hid ht1
                obtain ⟨mids, hmids⟩ : ∃ mids, (ids.drop m).take 4 = mids := ⟨_, rfl⟩
                have HMI := Lib.hid hmids
                rw [hmids] at hps
                have HLL : Hid (mids.length = min 4 (n - m)) := Lib.hid (by rw [← hmids, List.length_take, List.length_drop, HNL.out])
                have HDN : Hid (∀ r (uu : NS), HonI L ids f m r (t0 + ((q : Int) + 3)) uu → mids.length ≤ r → r ≤ 4 → Hon L ids f (min (4 * (j + 1)) n) (((q : Int) + 3) * ((j + 1 : Nat) : Int)) uu) := Lib.hid fun r uu h h1 h2 => by
                  rw [HM1.out, HT1'.out, ← HNL.out]
                  exact h.done (by rw [HMI.out]; exact h1) h2 (by rw [HIL.out, HHL.out])
                clear hm ht0 hm1 ht1 ht2 ht3 hoi hpe hmids
                by_cases hmn : m < n
                · have hml0 : 0 < mids.length := by rw [HLL.out]; omega
                  have hml4 : mids.length ≤ 4 := by rw [HLL.out]; omega
                  have hmnd : mids.Nodup := by rw [← HMI.out]; exact (HIN.out.sublist (List.drop_sublist _ _)).sublist (List.take_sublist _ _)
                  have hck : Ms.checkM ⟨2, mids, ⟨#[]⟩⟩ = 0 := ids_ok 2 (by decide) (by decide) mids hml0 (by omega) hmnd
                  obtain ⟨B2, hB2⟩ : ∃ B2, bytesM ⟨2, mids, ⟨#[]⟩⟩ = B2 := ⟨_, rfl⟩
                  have HPS : Hid (u.pass ((q : Int) + 3) = (u', [⟨5, B2⟩], 0)) := Lib.hid (by rw [hps, message_is hml0 (by omega) hmnd, hB2])
                  obtain ⟨bo, hbo⟩ : ∃ bo : ByteArray, ⟨#[]⟩ = bo := ⟨_, rfl⟩
                  have hbe : str (Ms.encM ⟨2, mids, ⟨#[]⟩⟩) = B2 := by rw [← hB2]; unfold bytesM; rw [if_pos hck]
                  have HER : Hid (Ms.errM B2.data.toList = 0) := Lib.hid (by rw [← hbe, str_data]; exact Ms.errM_enc hck)
                  have HAN : Hid (Ms.ansM B2.data.toList = ⟨2, mids, bo⟩) := Lib.hid (by rw [← hbe, str_data, ← hbo]; exact Ms.ansM_enc hck)
                  have HBS2 : Hid (B2.size ≤ maxLen) := Lib.hid (by rw [← hB2]; exact bytes_small _)
                  clear hps hmnd hck hB2 hbo hbe
                  go_wp2_with fail
                  with_reducible refine (wait_any ((q : Int) + 3) HFL.out _ HPS.out _ HM.out.ni.mine.node).mono ?_
                  rintro e w18 ⟨v18, F18, rfl, ho18, h18, t18, _⟩
                  simp only at ho18 h18 ⊢
                  obtain ⟨a18, c18, rfl, _, hat18⟩ := owns_outsAt ho18
                  obtain ⟨g18, o18, rfl, hg18, q0, q1⟩ := hat18 0 (by simp)
                  simp only [List.getElem_cons_zero, Nat.zero_mul, Nat.add_zero, List.length_cons, List.length_nil, Nat.zero_add] at q0 q1 ⊢
                  have HM18 := Lib.hid (HM.out.turned h18 t18)
                  have HQ0 := Lib.hid q0
                  have HQ1 := Lib.hid q1
                  obtain ⟨wC, hwC⟩ : ∃ x, x = wr := ⟨_, rfl⟩
                  subst hwC
                  clear ho18 h18 t18 hat18 q0 q1
                  go_wp2_with fail
                  go_loopw [95] (fun i wi => Hid ((i = .int .i64 0 ∧ wi = w18) ∨ (i = .int .i64 1 ∧ ∃ (G8 : Nat → Prop) (u8 : NS), Hid (HonM w2 wi G8 R u8 (.slice a9 n c9) ids b ev) ∧ Hid (Hon L ids f (min (4 * (j + 1)) n) (((q : Int) + 3) * ((j + 1 : Nat) : Int)) u8) ∧ Hid (u8.thereE (5 : Nat) = 0)))) (fun i _ => 1 - (intOf i).toNat)
                  case atStart => exact Lib.hid (.inl ⟨rfl, rfl⟩)
                  case round =>
                    rcases hrel.out with ⟨rfl, rfl⟩ | ⟨rfl, G8, u8, HM8, HO8, HT8⟩
                    · have q0 := HQ0.out
                      have q1 := HQ1.out
                      have l18 := (cell_spot q0).2
                      obtain ⟨wo, hwo⟩ : ∃ wo, wr.alloc (.cells #[.int .i64 5, .string B2] 35) = wo := ⟨_, rfl⟩
                      have hbo : Below wr.heap.size wr wo := hwo ▸ kept_new _ _
                      have o0 : wo.cell? ⟨wr.heap.size, 0, none⟩ = some (.int .i64 5) := by rw [← hwo]; simp [go_sem]
                      have o1 : wo.cell? ⟨wr.heap.size, 1, none⟩ = some (.string B2) := by rw [← hwo]; simp [go_sem]
                      have l8 := (cell_spot o0).2
                      have HMo := Lib.hid (HM18.out.kept hbo)
                      clear hbo
                      go_wp2_with fail
                      with_reducible refine (Ms.mdecode_all B2 0 _ _ HBS2.out HER.out HAN.out).mono ?_
                      rintro e w20 ⟨a20, c20, rfl, _, hi20, hfr20, hb20⟩
                      simp only at hi20 ⊢
                      obtain ⟨wz, hwz⟩ : ∃ wz, w20.alloc (.cells #[.int .i64 2, .slice a20 mids.length c20, .string bo] 38) = wz := ⟨_, rfl⟩
                      have hbz0 : Below w20.heap.size w20 wz := hwz ▸ kept_new _ _
                      obtain ⟨m0, m1, m2⟩ : MsgBox wz w20.heap.size a20 c20 ⟨2, mids, bo⟩ := hwz ▸ box_msg w20 a20 c20 ⟨2, mids, bo⟩
                      simp only at m0 m1 m2
                      have hbz := kept_trans hb20 hbz0
                      have o0 := kept_cell hbz o0
                      have l9 := (cell_spot o0).2
                      have l10 := (cell_spot m0).2
                      have HMz := Lib.hid (HMo.out.kept hbz)
                      have HIz : Hid (IdsBy wz F18 a20 mids) := Lib.hid ⟨idsAt_kept hbz0 hi20, fun bb o _ e hf => by
                        have h1 := HMo.out.ni.mine.node.there bb hf
                        have h2 := hfr20 bb o none e
                        omega⟩
                      clear hb20 hbz0 hbz hi20 hfr20 o1
                      obtain ⟨wE, hwE⟩ : ∃ x, x = wr := ⟨_, rfl⟩
                      subst hwE
                      go_wp2_with fail
                      go_loopw [120] (fun i wi => ∃ (r : Nat) (G : Nat → Prop) (u : NS), r ≤ mids.length ∧ i = .int .i64 r ∧ Hid (HonM w2 wi G R u (.slice a9 n c9) ids b ev) ∧ Hid (IdsBy wi G a20 mids) ∧ Hid (HonI L ids f m r (t0 + ((q : Int) + 3)) u) ∧ Hid (u.thereE (5 : Nat) = 0)) (fun i _ => mids.length - (intOf i).toNat)
                      case atStart => exact ⟨0, F18, u', Nat.zero_le _, rfl, HMz, HIz, HOI, HT'⟩
                      case round =>
                        obtain ⟨r, G, u, hr, rfl, HMr, HIr, HOr, HTr⟩ := hrel
                        by_cases hrl : r < mids.length
                        · have hmr : m + r < ids.length := by rw [HNL.out]; have := HLL.out; omega
                          have hmH : m + r < H.length := by rw [← HIL.out]; exact hmr
                          have hmL : m + r < L.length := by rw [← HHL.out]; exact hmH
                          obtain ⟨x, hx⟩ : ∃ x, ids[m + r] = x := ⟨_, rfl⟩
                          have hxr : mids[r] = x := by
                            have h1 : mids[r]? = some x := by
                              rw [← HMI.out, List.getElem?_take, if_pos (by omega), List.getElem?_drop, List.getElem?_eq_getElem hmr, hx]
                            exact (List.getElem?_eq_some_iff.1 h1).2
                          obtain ⟨gr, or', rfl, hgr, cr⟩ := HIr.out.1 r hrl
                          rw [hxr] at cr
                          have l11 := (cell_spot cr).2
                          obtain ⟨z, hz⟩ : ∃ z, H[m + r] = z := ⟨_, rfl⟩
                          have hev : ev x = some (dV z) := by rw [← hx, ← hz]; exact HE.out.2 (m + r) hmH hmr hmH
                          have hlook := tmap_look_ok HMr.out.map x
                          rw [hev] at hlook
                          simp only [Option.getD_some, Option.isSome_some, dV] at hlook
                          have hzd : L[m + r] = z.d := by
                            have h1 : L[m + r]? = some z.d := by rw [← HM2.out, List.getElem?_map, List.getElem?_eq_getElem hmH, hz]; rfl
                            exact (List.getElem?_eq_some_iff.1 h1).2
                          have hins := (deedsAt_kept HMr.out.ni.mine.below HAT2.out (m + r) hmH).2.1
                          rw [hz] at hins
                          have HZK : Hid (checkD z.d = 0) := Lib.hid (HCK.out z (hz ▸ List.getElem_mem _))
                          obtain ⟨B, hB⟩ : ∃ B, bringB z.d = B := ⟨_, rfl⟩
                          obtain ⟨u1, hu1⟩ : ∃ u1, u.bring 5 z.d = u1 := ⟨_, rfl⟩
                          have HSD : Hid (u.send (5 : Nat) B = (u1, [], 0)) := Lib.hid (by rw [← hB, ← hu1]; exact send_brought HZK.out HTr.out)
                          have HO1 : Hid (HonI L ids f m (r + 1) (t0 + ((q : Int) + 3)) u1) := Lib.hid (by have := HOr.out.bring HCH.out HIDS.out HIN.out (by omega) hmL; rw [hzd, hu1] at this; exact this)
                          have HT2 : Hid (u1.thereE (5 : Nat) = 0) := Lib.hid (by have := HTr.out; unfold NS.thereE at this ⊢; rw [← hu1, bring_peers]; exact this)
                          have HBS : Hid (B.size ≤ maxLen) := Lib.hid (by rw [← hB]; exact bring_small HZK.out)
                          have HAL : Hid (u.A.length ≤ 2950000000000) := Lib.hid (by rw [HOr.out.A, List.length_take]; omega)
                          obtain ⟨wd, hwd⟩ : ∃ wd, wr.alloc (.cells #[.slice z.ia z.d.ins.length z.ic, .int .i64 z.d.outs, .int .i64 z.d.weight, .int .i64 z.d.fee] 50) = wd := ⟨_, rfl⟩
                          have hbd : Below wr.heap.size wr wd := hwd ▸ kept_new _ _
                          obtain ⟨b0, b1, b2, b3⟩ : DeedBox wd wr.heap.size z.ia z.ic z.d := hwd ▸ box_deed wr z.ia z.ic z.d
                          have l12 := (cell_spot b0).2
                          have HIN5 := Lib.hid (insAt_kept hbd hins)
                          have HM5 := Lib.hid (HMr.out.kept hbd)
                          have HI5 := Lib.hid (HIr.out.kept hbd)
                          have HBB := Lib.hid hB
                          clear hmr hmH hmL hx hxr hz hev hzd hins hB hu1 hbd
                          go_wp2_with fail
                          with_reducible refine (tbringB_any z.d HZK.out z.ia z.ic B HBB.out _ HIN5.out).mono ?_
                          rintro e w7 ⟨rfl, hb7⟩
                          have HM7 := Lib.hid (HM5.out.kept hb7)
                          have HI7 := Lib.hid (HI5.out.kept hb7)
                          clear hb7 b0 b1 b2 b3 cr
                          go_wp2_with fail
                          with_reducible refine (send_any 5 B HBS.out HAL.out _ HSD.out _ HM7.out.ni.mine.node).mono ?_
                          rintro e w8 ⟨v8, G8, rfl, ho8, h8, t8, _⟩
                          simp only at ho8 h8 ⊢
                          obtain ⟨a8, c8, rfl, _⟩ := outs_form ho8
                          have HM8 := Lib.hid (HM7.out.turned h8 t8)
                          have HI8 := Lib.hid (HI7.out.turned t8)
                          clear ho8 h8 t8
                          go_wp2_with fail
                          go_roundw
                          case rel => exact ⟨r + 1, G8, u1, by omega, by go_num, HM8, HI8, HO1, HT2⟩
                          case measure => simp [intOf]; omega
                        · have HOD := Lib.hid (HDN.out r u HOr.out (by omega) (by omega))
                          go_wp2_with fail
                          go_roundw
                          case rel =>
                            repeat apply Exists.intro
                            apply And.intro
                            · exact Lib.hid (Or.inr ⟨rfl, G, u, HMr, HOD, HTr⟩)
                            · rw [show decide ((j : Int) < 12) = true from decide_eq_true (by omega)]
                              repeat (first | exact rfl | apply And.intro)
                          case measure => simp [intOf]
                    · go_wp2_with fail
                      go_roundw
                      case rel => exact ⟨j + 1, G8, u8, by omega, by go_num, HM8, HO8, HT8⟩
                      case measure => simp [intOf]; omega
                · have hm0 : mids = [] := List.length_eq_zero_iff.1 (by rw [HLL.out]; omega)
                  have HPS : Hid (u.pass ((q : Int) + 3) = (u', [], 0)) := Lib.hid (by rw [hps, hm0, message_none])
                  have HOD := Lib.hid (HDN.out 0 u' HOI.out (by rw [hm0]; simp) (by omega))
                  clear hps hm0
                  go_wp2_with fail
                  with_reducible refine (wait_any ((q : Int) + 3) HFL.out _ HPS.out _ HM.out.ni.mine.node).mono ?_
                  rintro e w18 ⟨v18, F18, rfl, ho18, h18, t18, _⟩
                  simp only at ho18 h18 ⊢
                  obtain ⟨a18, c18, rfl, _⟩ := outs_form ho18
                  have HM18 := Lib.hid (HM.out.turned h18 t18)
                  obtain ⟨wC, hwC⟩ : ∃ x, x = wr := ⟨_, rfl⟩
                  subst hwC
                  clear ho18 h18 t18
                  go_wp2_with fail
                  go_loopw [95] (fun i wi => i = .int .i64 0 ∧ wi = w18) (fun _ _ => 0)
                  case atStart => exact ⟨rfl, rfl⟩
                  case round =>
                    obtain ⟨rfl, rfl⟩ := hrel
                    go_wp2_with fail
                    go_roundw
                    case rel => exact ⟨j + 1, F18, u', by omega, by go_num, HM18, HOD, HT'⟩
                    case measure => simp [intOf]; omega
              · obtain rfl : j = 12 := by omega
                have hmn : min (4 * 12) n = n := by omega
                rw [hmn] at HO
                have HAE : Hid (u.A.map Ju.idD = ids) := Lib.hid (by rw [HO.out.A, List.take_of_length_le (by rw [← HHL.out, ← HIL.out, HNL.out]; exact Nat.le_refl _), HIDS.out])
                have HPI : Hid (Ho.allL u.P = []) := Lib.hid (by rw [HO.out.P]; rfl)
                have HML : Hid (ids.length ≤ maxLen) := Lib.hid (by rw [HNL.out]; unfold maxLen; omega)
                have hn13 : n ≤ 10000000000000 := by omega
                obtain ⟨a9', c9', e9, _, hat9⟩ := HM.out.ni.at
                simp only [Value.slice.injEq] at e9
                obtain ⟨rfl, -, rfl⟩ := e9
                have HA9' := Lib.hid hat9
                clear hat9 hmn
                go_wp2_with fail
                with_reducible refine (accepted_is ids n HAE.out HNL.out hn13 _ HM.out.ni.mine.node).mono ?_
                rintro e w26 ⟨a16', c16', rfl, hat16, hb16⟩
                have HA16 := Lib.hid hat16
                have HA916 := Lib.hid (idsAt_kept hb16 HA9'.out)
                have HN16 := Lib.hid (HM.out.kept hb16)
                clear hat16 hb16
                go_wp2_with fail
                with_reducible refine (eqID_len ids n n HNL.out HNL.out a16' _ c16' _ _ HML.out HA16.out HA916.out).mono ?_
                rintro e w27 ⟨rfl, rfl⟩
                go_wp2_with fail
                with_reducible refine (orphans_any _ HN16.out.ni.mine.node).mono ?_
                rintro e w28 ⟨a28, c28, rfl, _, hb28⟩
                rw [HPI.out]
                have H28 := Lib.hid (HN16.out.kept hb28)
                clear hb28
                go_wp2_with fail
                go_ret
                exact ⟨rfl, kept_trans HB2.out H28.out.ni.mine.below⟩
end Go.Proofs.YtaaaplbjeknbkaaGreat
