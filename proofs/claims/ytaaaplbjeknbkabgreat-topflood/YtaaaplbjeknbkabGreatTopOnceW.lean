/-
  TopOnce: the walk.
-/
import Derived.Test.YtaaaplbjeknbkabGreatChainedW
import Derived.Test.YtaaaplbjeknbkabGreatChainMath
set_option maxRecDepth 20000
namespace Go.Proofs.YtaaaplbjeknbkabGreat
open Go.RowKit Go.Maps

variable {w w' w0 : World} {F F' : Nat → Prop} {R : Nat} {s u : NS}

/-- 'append(s, x)' of an ID, with the block that the slice lies in then. -/
theorem append_id2 {ops : Array Oper} {rest : List Oper} {o : Oper} {a : Act} {Q : Exit → Act → World → Prop} {w : World} (hgd : o.guard = none) (s x : Operand) (ho : o.op = .call { callee := .builtin .append, args := #[s, x], argTypes := #[32, 32] })
    {B : Nat} {v : Value} {d : List UInt64} (y : UInt64) (hs : a.eval s = v) (hx : a.eval x = .slice (some ⟨w.heap.size, 0, none⟩) 1 1) (hown : OwnIds w B v d) (hlen : d.length ≤ 1000000) (hB : B ≤ w.heap.size)
    (h : ∀ g cap w', OwnIds w' B (.slice (some ⟨g, 0, none⟩) (d.length + 1) cap) (d ++ [y]) → w.grownBy w' v.ownBlock → (v.ownBlock = some g ∨ w.heap.size ≤ g) → wpList Tryz.prog ops Q rest (a.put o.dst (.slice (some ⟨g, 0, none⟩) (d.length + 1) cap)) w') :
    wpList Tryz.prog ops Q (o :: rest) a (w.alloc (.cells #[.int .u64 y.toNat] 22)) := by
  obtain ⟨i0, hi0, hz0, hz1, hz2⟩ := info_parts info_u64
  refine wpList_append_lies _ hgd s x 32 ho B 22 i0 (.int .u64 0) 1 8 Tryz.underlying32 hi0 hz0 hz1 hz2 rfl (by decide) v d.length (d.map idV) hs (hown.alloc _) ⟨w.heap.size, 0, none⟩ 1 1 [.int .u64 y.toNat] hx rfl (cells_new w _ _) (by simp [Value.oneCell']) (by decide) (by unfold maxLen; omega) (by omega) (by simp; omega) _ rfl ?_
  intro g cap w1 hown' hgrow hat _
  refine h g cap w1 ?_ ((World.grownBy_alloc w _ _).trans hgrow) (hat.imp id fun e => by rw [e]; simp)
  unfold OwnIds
  rw [List.length_append, List.map_append]
  exact hown'
/-- A node, and IDs of the law's own. -/
structure NodeIds (w0 w : World) (F : Nat → Prop) (R : Nat) (u : NS) (v : Value) (ids : List UInt64) : Prop where
  mine : Mine w0 w F R u
  own : OwnIds w w0.heap.size v ids
  out : ∀ g, v.ownBlock = some g → ¬ F g
variable {v : Value} {ids : List UInt64}
theorem NodeIds.kept (h : NodeIds w0 w F R u v ids) (hb : Below w.heap.size w w') : NodeIds w0 w' F R u v ids := ⟨h.mine.kept hb, ownIds_below h.own hb, h.out⟩
theorem NodeIds.turned (h : NodeIds w0 w F R u v ids) {u' : NS} (hn : NodeAt w' F' R u') (ht : Turn F F' w w') : NodeIds w0 w' F' R u' v ids :=
  ⟨h.mine.turned hn ht, own_turn h.own ht h.out, fun g hg hf => (ht.own g hf).elim (h.out g hg) (fun hle => by have := (h.own.lt g hg).2; omega)⟩
theorem NodeIds.grown (h : NodeIds w0 w F R u v ids) {g n cap : Nat} {ids' : List UInt64} (hg : w.grownBy w' v.ownBlock) (ho : OwnIds w' w0.heap.size (.slice (some ⟨g, 0, none⟩) n cap) ids') (hat : v.ownBlock = some g ∨ w.heap.size ≤ g) : NodeIds w0 w' F R u (.slice (some ⟨g, 0, none⟩) n cap) ids' := by
  refine ⟨⟨h.mine.node.turn (Turn.of_grown (F := fun k => v.ownBlock = some k) hg (fun k hk => hk)) (fun k hf hk => h.out k hk hf), h.mine.above, h.mine.below.grown hg h.mine.below.size (fun k hk => (h.own.lt k hk).1)⟩, ho, fun k hk hf => ?_⟩
  have e : g = k := by simpa [Value.ownBlock] using hk
  subst e
  exact hat.elim (fun e => h.out g e hf) (fun hle => by have := h.mine.node.there g hf; omega)
theorem NodeIds.at (h : NodeIds w0 w F R u v ids) : ∃ a cap, v = .slice a ids.length cap ∧ ids.length ≤ cap ∧ IdsAt w a ids := by
  obtain ⟨a, c, h1, h2, h3, _⟩ := owns_idsAt h.own
  exact ⟨a, c, h1, h2, h3⟩
theorem eqID_len (l : List UInt64) (m n : Nat) (hm : l.length = m) (hn : l.length = n) (a b : Option Addr) (ca cb : Nat) (w : World) (hl : l.length ≤ maxLen) (ha : IdsAt w a l) (hb : IdsAt w b l) : Calls Tryz.prog 14 #[.slice a m ca, .slice b n cb] w fun e w' => e = .returned (.bool true) ∧ w = w' := by
  subst hm hn
  exact eqID_is l l a b ca cb w true hl ha hb (by simp)
theorem tbytesOf_len (l : List UInt64) (n : Nat) (hn : l.length = n) (a : Option Addr) (cap : Nat) (B : ByteArray) (hB : bytesM ⟨1, l, ⟨#[]⟩⟩ = B) (w : World) (hi : IdsAt w a l) : Calls Tryz.prog 17 #[.agg #[.int .i64 1, .slice a n cap, .string ⟨#[]⟩]] w fun e w' => e = .returned (.string B) ∧ Below w.heap.size w w' := by
  subst hn
  exact tbytesOf_ann l a cap B hB w hi
theorem chained_is (l : List Int) (n : Nat) (a : Option Addr) (cap : Nat) (hn : l.length = n) (hl : n ≤ 12) (w : World) (hi : Tr.IntsAt w a l) : Calls Tryz.prog 7 #[.slice a n cap] w fun e w' => ∃ v H, e = .returned v ∧ Deeds w' w.heap.size v H ∧ H.map (fun q => q.d) = chainD l ∧ Below w.heap.size w w' := by
  subst hn
  exact chained_any l a cap hl w hi
theorem intsAt_take' {a : Option Addr} {l : List Int} (k : Nat) (h : Tr.IntsAt w a l) : Tr.IntsAt w a (l.take k) := Tr.intsAt_take k h
theorem chain_of {l : List DeedD} (h : ChainF l) (hn : (l.map Ju.idD).Nodup) : Chain l := ⟨h.fine, h.first, h.next, h.pays, h.weight, hn⟩
/-- What a node is, once the first m deeds of a chain are accepted. -/
structure OSt (l : List DeedD) (m : Nat) (t : Int) (u : NS) : Prop where
  A : u.A = l.take m
  P : u.P = []
  T : u.T = []
  W : u.W = Ri.RingS.none 50
  now : u.now = t
theorem OSt.bring {l : List DeedD} {m : Nat} {t : Int} (h : OSt l m t u) (hc : Chain l) (hm : m < l.length) {p : Nat} (hp : p < 8) : OSt l (m + 1) t (u.bring p l[m]) := by
  have hW : u.W.has (Ju.idD l[m]) = false := by rw [h.W]; rfl
  rw [chain_bring hc hm h.A h.P hW]
  refine ⟨rfl, h.P, ?_, h.W, h.now⟩
  show Tr.forgetL (Tr.answerC u.T p (Ju.idD l[m])).2 (Ju.idD l[m]) = []
  rw [h.T]
  unfold Tr.answerC
  rw [if_pos ⟨by omega, by omega⟩]
  rfl
theorem OSt.join {l : List DeedD} {m : Nat} {t : Int} (h : OSt l m t u) (p : Int) (f : Bool) : OSt l m t (u.join p f).1 := by
  unfold NS.join
  split
  · exact h
  · split
    · exact h
    · exact ⟨h.A, h.P, h.T, h.W, h.now⟩
theorem announce_known {p : Nat} : ∀ {l : List UInt64}, (∀ x ∈ l, u.knows x = true) → u.announce p l = u
  | [], _ => rfl
  | x :: r, h => by
    have e : u.announce p (x :: r) = (u.announce1 p x).announce p r := rfl
    rw [e, ann1_known (h x List.mem_cons_self), announce_known fun y hy => h y (List.mem_cons_of_mem _ hy)]
theorem OSt.knows {l : List DeedD} {t : Int} (h : OSt l l.length t u) : ∀ x ∈ l.map Ju.idD, u.knows x = true := fun x hx => by
  obtain ⟨d, hd, rfl⟩ := List.mem_map.1 hx
  unfold NS.knows
  have : (Ju.findL u.A (Ju.idD d)).isSome = true := by
    rw [h.A, List.take_length]
    exact Ju.findL_some.2 ⟨d, hd, rfl⟩
  rw [this]
  rfl
theorem OSt.pass {l : List DeedD} {m : Nat} {t k : Int} (h : OSt l m t u) (hk : 0 ≤ k) (ht : t + k ≤ 1099511627776) : u.pass k = ({ u with now := u.now + k }, [], 0) ∧ OSt l m (t + k) ({ u with now := u.now + k } : NS) :=
  ⟨pass_none h.T (by rw [h.now]; omega), ⟨h.A, h.P, h.T, h.W, by show u.now + k = _; rw [h.now]⟩⟩
theorem join0c (salt : UInt64) (w : World) (h : NodeAt w F R (NS.new salt)) : Calls Tryz.prog 9 #[.pointer (some ⟨R, 0, none⟩), .int .i64 0, .bool false] w (TurnsN w F R (.int .i64 0) ((NS.new salt).setPeer 0 (true, false))) := join_any 0 false _ (join_new salt 0 (by decide) false) w h
set_option maxRecDepth 20000 in
set_option maxHeartbeats 8000000 in
theorem topOnce_walk (salt : UInt64) (l : List Int) (a : Option Addr) (cap : Nat) (hcap : l.length ≤ cap) (lp : List Int) (ap : Option Addr) (cp : Nat) (_hl : l.length ≤ maxLen) (hlp : lp.length ≤ 1048576) (w : World) (hi : Tr.IntsAt w a l) (hip : Tr.IntsAt w ap lp) : Calls Tryz.prog 3 #[.int .u64 salt.toNat, .slice a l.length cap, .slice ap lp.length cp] w fun e w' => e = .returned (.bool true) ∧ Below w.heap.size w w' := by
  have HI := Lib.hid hi
  have HIP := Lib.hid hip
  clear hi hip
  go_enter Tryz.func3, Tryz.ntmps3
  go_wp2_with fail
  with_reducible refine (works_any _).mono ?_
  rintro e w1 ⟨rfl, hb1⟩
  have HB1 := Lib.hid hb1
  have HI1 := Lib.hid (Tr.intsAt_take 10 (show Tr.IntsAt w1 a l from fun i hi => by obtain ⟨b, o, e, hlt, c⟩ := HI.out i hi; exact ⟨b, o, e, Nat.lt_of_lt_of_le hlt hb1.size, cell_later hb1 c⟩))
  clear hb1
  obtain ⟨l', hl'⟩ : ∃ l', l.take 10 = l' := ⟨_, rfl⟩
  rw [hl'] at HI1
  have hll : l'.length ≤ 10 := by rw [← hl', List.length_take]; omega
  by_cases hmin : (10 : Int) < l.length
  case' pos =>
    have e4 : (10 : Int) ≤ cap := by omega
    have hn' : l'.length = 10 := by rw [← hl', List.length_take]; omega
    have HN := Lib.hid hn'
    clear hl' hn'
    go_wp2_with fail
    with_reducible refine (chained_is l' 10 a cap HN.out (by decide) _ HI1.out).mono ?_
  case' neg =>
    have hn' : l'.length = l.length := by rw [← hl', List.length_take]; omega
    have hl12 : l.length ≤ 12 := by omega
    have HN := Lib.hid hn'
    clear hl' hn'
    go_wp2_with fail
    with_reducible refine (chained_is l' l.length a cap HN.out hl12 _ HI1.out).mono ?_
  all_goals
    rintro e w2 ⟨v2, H, rfl, hd2, hm2, hb2⟩
    obtain ⟨av, cv, rfl, hcv, hat2, _⟩ := hd2.form
    have HAT2 := Lib.hid hat2
    have HM2 := Lib.hid hm2
    have HB2 := Lib.hid (kept_trans HB1.out hb2)
    obtain ⟨L, hL⟩ : ∃ L, chainD l' = L := ⟨_, rfl⟩
    have HGF : Hid (ChainF L) := Lib.hid (hL ▸ chainD_good l')
    have hlen : L.length ≤ 10 := by rw [← hL, chainD_length]; exact hll
    rw [hL] at HM2
    have HHL : Hid (H.length = L.length) := Lib.hid (by rw [← HM2.out, List.length_map])
    have hH10 : H.length ≤ 10 := by rw [HHL.out]; exact hlen
    have HCK : Hid (∀ q ∈ H, checkD q.d = 0) := Lib.hid fun q hq => by
      obtain ⟨i, hi, e⟩ := List.mem_iff_getElem.1 (show q.d ∈ L from HM2.out ▸ List.mem_map.2 ⟨q, hq, rfl⟩)
      rw [← e]
      exact HGF.out.fine i hi
    clear hd2 hat2 hm2 hb2 hL hlen
    go_wp2_with fail
    with_reducible refine (mine_new salt _ (Below.refl _ _)).mono ?_
    rintro e w3 ⟨R, F, rfl, h3, _, _⟩
    have H3 := Lib.hid h3
    clear h3
    go_wp2_with fail
    with_reducible refine (join0c salt _ H3.out.node).mono ?_
    rintro e w4 ⟨rfl, F4, h4, t4⟩
    have H4 := Lib.hid (H3.out.turned h4 t4)
    have HAT4 := Lib.hid (deedsAt_kept H4.out.below HAT2.out)
    clear h4 t4
    obtain ⟨r, hr⟩ : ∃ r, decide ((H.map fun q => Ju.idD q.d).Nodup) = r := ⟨_, rfl⟩
    have HR := Lib.hid hr
    clear hr
    go_wp2_with fail
    with_reducible refine (apart_any H av cv (by omega) HCK.out _ HAT4.out r HR.out).mono ?_
    rintro e w5 ⟨rfl, hb5⟩
    have H5 := Lib.hid (H4.out.kept hb5)
    clear hb5
    cases r with
    | false =>
      go_wp2_with fail
      go_ret
      exact ⟨rfl, kept_trans HB2.out H5.out.below⟩
    | true =>
      have hnd : (L.map Ju.idD).Nodup := by
        have := of_decide_eq_true HR.out
        rw [← HM2.out]
        simpa only [List.map_map, Function.comp_def] using this
      have HCH : Hid (Chain L) := Lib.hid (chain_of HGF.out hnd)
      obtain ⟨ids, hids⟩ : ∃ ids, L.map Ju.idD = ids := ⟨_, rfl⟩
      have HIDS := Lib.hid hids
      have HIL : Hid (ids.length = H.length) := Lib.hid (by rw [← hids, List.length_map, HHL.out])
      have HIN : Hid (ids.Nodup) := Lib.hid (hids ▸ hnd)
      obtain ⟨u0, hu0⟩ : ∃ u0, (NS.new salt).setPeer 0 (true, false) = u0 := ⟨_, rfl⟩
      have HOS : Hid (OSt L 0 0 u0) := Lib.hid (hu0 ▸ ⟨rfl, rfl, rfl, rfl, rfl⟩)
      have HT0 : Hid (u0.thereE (0 : Nat) = 0) := Lib.hid (hu0 ▸ new_there salt 0 (by decide) false)
      rw [hu0] at H5
      have HN5 : Hid (NodeIds w2 w5 F4 R u0 (.slice none 0 0) []) := Lib.hid ⟨H5.out, ownIds_nil _ _, fun g hg => by cases hg⟩
      clear hnd hids hu0
      go_wp2_with fail
      go_loopw [9, 38] (fun v9 i wr => ∃ (k : Nat) (G : Nat → Prop) (u : NS), k ≤ H.length ∧ i = .int .i64 k ∧ Hid (NodeIds w2 wr G R u v9 (ids.take k)) ∧ Hid (OSt L k 0 u) ∧ Hid (u.thereE (0 : Nat) = 0)) (fun _ i _ => H.length - (intOf i).toNat)
      case atStart => exact ⟨0, F4, u0, Nat.zero_le _, rfl, HN5, HOS, HT0⟩
      case round =>
        obtain ⟨k, G, u, hk, rfl, HN, HO, HT⟩ := hrel
        by_cases hkl : k < H.length
        · have hkL : k < L.length := by rw [← HHL.out]; exact hkl
          obtain ⟨⟨b, o, rfl, hb, d0, d1, d2, d3⟩, hins, _⟩ := deedsAt_kept HN.out.mine.below HAT2.out k hkl
          obtain ⟨z, hz⟩ : ∃ z, H[k] = z := ⟨_, rfl⟩
          have hzd : L[k] = z.d := by
            have h1 : L[k]? = some z.d := by rw [← HM2.out, List.getElem?_map, List.getElem?_eq_getElem hkl, hz]; rfl
            exact (List.getElem?_eq_some_iff.1 h1).2
          rw [hz] at d0 d1 d2 d3 hins
          have HZZ := Lib.hid hz
          have HZK : Hid (checkD z.d = 0) := Lib.hid (HCK.out z (hz ▸ List.getElem_mem _))
          obtain ⟨x, hx⟩ : ∃ x, Ju.idD z.d = x := ⟨_, rfl⟩
          have hxk : ids.take (k + 1) = ids.take k ++ [x] := by
            have h1 : k < ids.length := by rw [HIL.out]; exact hkl
            rw [List.take_succ_eq_append_getElem h1]
            have h2 : ids[k]? = some x := by rw [← HIDS.out, List.getElem?_map, List.getElem?_eq_getElem hkL, hzd, ← hx]; rfl
            rw [(List.getElem?_eq_some_iff.1 h2).2]
          obtain ⟨B, hB⟩ : ∃ B, bringB z.d = B := ⟨_, rfl⟩
          obtain ⟨u1, hu1⟩ : ∃ u1, u.bring 0 z.d = u1 := ⟨_, rfl⟩
          have HSD : Hid (u.send (0 : Nat) B = (u1, [], 0)) := Lib.hid (by rw [← hB, ← hu1]; exact send_brought HZK.out HT.out)
          have HO1 : Hid (OSt L (k + 1) 0 u1) := Lib.hid (by have := HO.out.bring HCH.out hkL (p := 0) (by decide); rw [hzd, hu1] at this; exact this)
          have HT1 : Hid (u1.thereE (0 : Nat) = 0) := Lib.hid (by have := HT.out; unfold NS.thereE at this ⊢; rw [← hu1, bring_peers]; exact this)
          have HBS : Hid (B.size ≤ maxLen) := Lib.hid (by rw [← hB]; exact bring_small HZK.out)
          have HAL : Hid (u.A.length ≤ 2950000000000) := Lib.hid (by rw [HO.out.A, List.length_take]; omega)
          have l5 := (cell_spot d0).2
          obtain ⟨wd, hwd⟩ : ∃ wd, wr.alloc (.cells #[.slice z.ia z.d.ins.length z.ic, .int .i64 z.d.outs, .int .i64 z.d.weight, .int .i64 z.d.fee] 35) = wd := ⟨_, rfl⟩
          have hbd : Below wr.heap.size wr wd := hwd ▸ kept_new _ _
          have hbox : DeedBox wd wr.heap.size z.ia z.ic z.d := hwd ▸ box_deed wr z.ia z.ic z.d
          have HBX := Lib.hid hbox
          obtain ⟨b0, b1, b2, b3⟩ := hbox
          have l6 := (cell_spot b0).2
          have HIN5 := Lib.hid (insAt_kept hbd hins)
          have HN6 := Lib.hid (HN.out.kept hbd)
          have HNX : Hid (¬ G wr.heap.size) := Lib.hid fun hf => by have := HN.out.mine.node.there _ hf; omega
          have HXK := Lib.hid hxk
          have HX := Lib.hid hx
          have HBB := Lib.hid hB
          clear hz hzd hins hbd hx hxk hB hu1
          go_wp2_with fail
          with_reducible refine (tbringB_any z.d HZK.out z.ia z.ic B HBB.out _ HIN5.out).mono ?_
          rintro e w7 ⟨rfl, hb7⟩
          have HN7 := Lib.hid (HN6.out.kept hb7)
          have HBX7 := Lib.hid (HBX.out.kept hb7)
          clear hb7 b0 b1 b2 b3
          go_wp2_with fail
          with_reducible refine (send_any 0 B HBS.out HAL.out _ HSD.out _ HN7.out.mine.node).mono ?_
          rintro e w8 ⟨v8, G8, rfl, ho8, h8, t8, _⟩
          simp only at ho8 h8 ⊢
          obtain ⟨a8, c8, rfl, _⟩ := outs_form ho8
          have HN8 := Lib.hid (HN7.out.turned h8 t8)
          have hbox8 := HBX7.out.turn t8 HNX.out
          have HIN8 : Hid (InsAt w8 z.ia z.d.ins) := Lib.hid (by
            have := (deedsAt_kept HN8.out.mine.below HAT2.out k hkl).2.1
            exact HZZ.out ▸ this)
          obtain ⟨b0, b1, b2, b3⟩ := hbox8
          have l7 := (cell_spot b0).2
          clear ho8 h8 t8
          go_wp2_with fail
          with_reducible refine (tidOf_any z.d HZK.out z.ia z.ic x HX.out _ HIN8.out).mono ?_
          rintro e w9 ⟨rfl, hb9⟩
          have HN9 := Lib.hid (HN8.out.kept hb9)
          have hlk : (ids.take k).length ≤ 1000000 := by rw [List.length_take]; omega
          have HS9 := Lib.hid HN9.out.mine.below.size
          clear hb9 b0 b1 b2 b3
          go_wp2_with (at_builtin; refine append_id2 rfl _ _ rfl x rfl rfl HN9.out.own hlk HS9.out ?_; intro g10 cap10 w10 ho10 hg10 hat10; refine Hid.out ?_)
          refine Lib.hid ?_
          have hn10 := HN9.out.grown hg10 (HXK.out ▸ ho10) hat10
          rw [List.length_take] at hn10
          have HN10 := Lib.hid hn10
          clear ho10 hg10 hat10 hlk hn10
          go_wp2_with fail
          go_roundw
          case rel => exact ⟨k + 1, G8, u1, by omega, by go_num, HN10, HO1, HT1⟩
          case measure => simp [intOf]; omega
        · have he : ids.take k = ids := List.take_of_length_le (by rw [HIL.out]; omega)
          have hkL : k = L.length := by have := HHL.out; omega
          subst hkL
          rw [he] at HN
          have HAE : Hid (u.A.map Ju.idD = ids) := Lib.hid (by rw [HO.out.A, List.take_length, HIDS.out])
          have hnl : ids.length = H.length := HIL.out
          have HML : Hid (ids.length ≤ maxLen) := Lib.hid (by unfold maxLen; omega)
          obtain ⟨a9, c9, rfl, hc9, hat9⟩ := HN.out.at
          have HA9 := Lib.hid hat9
          obtain ⟨n9, hn9⟩ : ∃ n9, ids.length = n9 := ⟨_, rfl⟩
          have HN9L := Lib.hid hn9
          have hn910 : n9 ≤ 10 := by omega
          obtain ⟨wB, hwB⟩ : ∃ x, x = wr := ⟨_, rfl⟩
          subst hwB
          clear hat9 he hnl
          rw [hn9] at HN ⊢
          clear hn9
          go_wp2_with fail
          with_reducible refine (accepted_is ids n9 HAE.out HN9L.out (by omega) _ HN.out.mine.node).mono ?_
          rintro e w6 ⟨a6, c6, rfl, hat6, hb6⟩
          have HA6 := Lib.hid hat6
          have HA96 := Lib.hid (idsAt_kept hb6 HA9.out)
          have HN6 := Lib.hid (HN.out.kept hb6)
          clear hat6 hb6
          go_wp2_with fail
          with_reducible refine (eqID_len ids n9 n9 HN9L.out HN9L.out a6 a9 c6 c9 _ HML.out HA6.out HA96.out).mono ?_
          rintro e w7 ⟨rfl, rfl⟩
          obtain ⟨BA, hBA⟩ : ∃ B, bytesM ⟨1, ids, ⟨#[]⟩⟩ = B := ⟨_, rfl⟩
          have HBA := Lib.hid hBA
          have HBAS : Hid (BA.size ≤ maxLen) := Lib.hid (by rw [← hBA]; exact bytes_small _)
          have HN7 := HN6
          have HO7 := HO
          have HLL : Hid (L.length ≤ 10) := Lib.hid (by rw [← HHL.out]; exact hH10)
          clear hBA hn910
          go_wp2_with fail
          go_loopw [59] (fun i wr => ∃ (j : Nat) (G : Nat → Prop) (u : NS), j ≤ lp.length ∧ i = .int .i64 j ∧ Hid (NodeIds w2 wr G R u (.slice a9 n9 c9) ids) ∧ Hid (OSt L L.length (4 * j) u)) (fun i _ => lp.length - (intOf i).toNat)
          case atStart => exact ⟨0, G, u, Nat.zero_le _, rfl, HN7, HO7⟩
          case round =>
            obtain ⟨j, G, u, hj, rfl, H8, HO8⟩ := hrel
            by_cases hjl : j < lp.length
            · obtain ⟨g, o, rfl, hg, c0⟩ := HIP.out j hjl
              obtain ⟨z, hz⟩ : ∃ z, lp[j] = z := ⟨_, rfl⟩
              rw [hz] at c0
              have k0 := cell_later (kept_trans HB2.out H8.out.mine.below) c0
              have l5 := (cell_spot k0).2
              obtain ⟨p, hpp⟩ : ∃ p : Nat, z % 8 = p := ⟨(z % 8).toNat, by omega⟩
              have hp : p < 8 := by omega
              have HP := Lib.hid hpp
              clear hz c0 hpp
              go_wp2_with fail
              with_reducible refine (rest_is z 8 p _ (by decide) (by decide) HP.out).mono ?_
              rintro e w13 ⟨rfl, rfl⟩
              obtain ⟨u3, hu3⟩ : ∃ u3, (u.join p true).1 = u3 := ⟨_, rfl⟩
              obtain ⟨r3, hr3⟩ : ∃ r3, (u.join p true).2 = r3 := ⟨_, rfl⟩
              have HJ : Hid (u.join p true = (u3, r3)) := Lib.hid (by rw [← hu3, ← hr3])
              have HO3 : Hid (OSt L L.length (4 * j) u3) := Lib.hid (hu3 ▸ HO8.out.join p true)
              have HT3 : Hid (u3.thereE p = 0) := Lib.hid (hu3 ▸ join_there u p hp true)
              clear hu3 hr3
              go_wp2_with fail
              with_reducible refine (join_any p true _ HJ.out _ H8.out.mine.node).mono ?_
              rintro e w14 ⟨rfl, F14, h14, t14⟩
              simp only at h14 ⊢
              have H14 := Lib.hid (H8.out.turned h14 t14)
              clear h14 t14
              have HAL3 : Hid (u3.A.length ≤ 2950000000000) := Lib.hid (by rw [HO3.out.A, List.take_length]; have := HLL.out; omega)
              obtain ⟨u4, hu4⟩ : ∃ u4 : NS, { u3 with now := u3.now + 4 } = u4 := ⟨_, rfl⟩
              obtain ⟨hps, hws⟩ := HO3.out.pass (k := 4) (by decide) (by omega)
              rw [hu4] at hps hws
              have HPS := Lib.hid hps
              have HO4 : Hid (OSt L L.length (4 * ((j + 1 : Nat) : Int)) u4) := Lib.hid ((show 4 * ((j + 1 : Nat) : Int) = 4 * (j : Int) + 4 by omega) ▸ hws)
              have HFL : Hid (Fly u3) := Lib.hid (fly_none HO3.out.T)
              clear hps hws hu4
              by_cases h0 : 0 < n9
              case' neg =>
                obtain rfl : n9 = 0 := by omega
                obtain ⟨wx, hwx⟩ : ∃ x, x = w14 := ⟨_, rfl⟩
                subst hwx
                have HX : Hid (∃ G, NodeIds w2 wx G R u3 (.slice a9 0 c9) ids) := Lib.hid ⟨F14, H14.out⟩
                go_wp2_with fail
              case' pos =>
                have hne : ¬ ids = [] := fun e => by have := HN9L.out; rw [e] at this; simp at this; omega
                have HSA : Hid (u3.send p BA = (u3, [], 0)) := Lib.hid (by
                  rw [← HBA.out, send_ann (ids_ok 1 (by decide) (by decide) ids (List.length_pos_iff.2 hne) (by rw [HIL.out]; omega) HIN.out) HT3.out, announce_known (by rw [← HIDS.out]; exact HO3.out.knows)])
                obtain ⟨a9', c9', e9, _, hat9⟩ := H14.out.at
                simp only [Value.slice.injEq] at e9
                obtain ⟨rfl, -, rfl⟩ := e9
                have HA14 := Lib.hid hat9
                clear hat9 hne
                go_wp2_with fail
                with_reducible refine (tbytesOf_len ids n9 HN9L.out _ _ BA HBA.out _ HA14.out).mono ?_
                rintro e w15 ⟨rfl, hb15⟩
                have H15 := Lib.hid (H14.out.kept hb15)
                clear hb15
                go_wp2_with fail
                with_reducible refine (send_any p BA HBAS.out HAL3.out _ HSA.out _ H15.out.mine.node).mono ?_
                rintro e wx ⟨v16, F16, rfl, ho16, h16, t16, _⟩
                simp only at ho16 h16 ⊢
                obtain ⟨a16, c16, rfl, _⟩ := outs_form ho16
                have HX : Hid (∃ G, NodeIds w2 wx G R u3 (.slice a9 n9 c9) ids) := Lib.hid ⟨F16, H15.out.turned h16 t16⟩
                clear ho16 h16 t16
                go_wp2_with fail
              all_goals
                obtain ⟨G1, hx⟩ := HX.out
                have H16 := Lib.hid hx
                clear hx
                with_reducible refine (wait_any 4 HFL.out _ HPS.out _ H16.out.mine.node).mono ?_
                rintro e w18 ⟨v18, F18, rfl, ho18, h18, t18, _⟩
                simp only at ho18 h18 ⊢
                obtain ⟨a18, c18, rfl, _⟩ := outs_form ho18
                have H18 := Lib.hid (H16.out.turned h18 t18)
                clear ho18 h18 t18
                go_wp2_with fail
                go_roundw
                case rel => exact ⟨j + 1, F18, u4, by omega, by go_num, H18, HO4⟩
                case measure => simp [intOf]; omega
            · have HAE8 : Hid (u.A.map Ju.idD = ids) := Lib.hid (by rw [HO8.out.A, List.take_length, HIDS.out])
              have hn912 : n9 ≤ 10000000000000 := by rw [← HN9L.out, HIL.out]; omega
              obtain ⟨a9', c9', e9, _, hat9⟩ := H8.out.at
              simp only [Value.slice.injEq] at e9
              obtain ⟨rfl, -, rfl⟩ := e9
              have HA8 := Lib.hid hat9
              clear hat9
              go_wp2_with fail
              with_reducible refine (accepted_is ids n9 HAE8.out HN9L.out hn912 _ H8.out.mine.node).mono ?_
              rintro e w9 ⟨a10, c10, rfl, hat10, hb10⟩
              have HA10 := Lib.hid hat10
              have HA810 := Lib.hid (idsAt_kept hb10 HA8.out)
              have H10 := Lib.hid (H8.out.kept hb10)
              clear hat10 hb10
              go_wp2_with fail
              with_reducible refine (eqID_len ids n9 n9 HN9L.out HN9L.out a10 _ c10 _ _ HML.out HA10.out HA810.out).mono ?_
              rintro e w11 ⟨rfl, rfl⟩
              go_wp2_with fail
              go_ret
              exact ⟨rfl, kept_trans HB2.out H10.out.mine.below⟩
end Go.Proofs.YtaaaplbjeknbkabGreat
