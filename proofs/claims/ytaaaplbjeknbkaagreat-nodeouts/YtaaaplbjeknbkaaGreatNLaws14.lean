/-
  NodeOuts: the walk.
-/
import Derived.Test.YtaaaplbjeknbkaaGreatOutsMath
import Derived.Test.YtaaaplbjeknbkaaGreatIntBools
set_option maxRecDepth 20000
namespace Go.Proofs.YtaaaplbjeknbkaaGreat
open Go.RowKit Go.Maps

variable {w w' w0 : World} {F F' : Nat → Prop} {R b n : Nat} {s u : NS} {f : Int → Bool}

/-- A node and a map of the law's own. -/
structure NodeMap (w0 w : World) (F : Nat → Prop) (R : Nat) (u : NS) (b n : Nat) (f : Int → Bool) : Prop where
  mine : Mine w0 w F R u
  map : BMap w b n f
  out : ¬ F b
  above : w0.heap.size ≤ b
theorem NodeMap.kept (h : NodeMap w0 w F R u b n f) (hb : Below w.heap.size w w') : NodeMap w0 w' F R u b n f := ⟨h.mine.kept hb, bmap_same h.map (hb.block b (bmap_lt h.map)), h.out, h.above⟩
theorem NodeMap.turned (h : NodeMap w0 w F R u b n f) {u' : NS} (hn : NodeAt w' F' R u') (ht : Turn F F' w w') : NodeMap w0 w' F' R u' b n f :=
  ⟨h.mine.turned hn ht, bmap_same h.map (ht.block b (bmap_lt h.map) h.out), fun hf => (ht.own b hf).elim h.out (fun hle => by have := bmap_lt h.map; omega), h.above⟩
theorem NodeMap.put (h : NodeMap w0 w F R u b n f) (x : Int) (v : Bool) (hx : (Lit.int .i64 x).wf = true) (hn : n < maxLen) :
    ∃ w', (Instr.mapUpdate 27 (.map (some b)) (.int .i64 x) (.bool v)).run Tryz.prog w = .ok () w' ∧ NodeMap w0 w' F R u b (n + 1) (fun y => if y = x then v else f y) ∧ w.grownBy w' (some b) := by
  obtain ⟨w', h1, h2, h3⟩ := bmap_put h.map x v hx hn
  refine ⟨w', h1, ⟨⟨h.mine.node.turn (Turn.of_grown (F := fun k => k = b) h3 (fun k hk => by cases hk; rfl)) (fun k hf hk => h.out (hk ▸ hf)), h.mine.above, h.mine.below.grown h3 h.mine.below.size (fun k hk => by cases hk; exact h.above)⟩, h2, h.out, h.above⟩, h3⟩
/-- Who is there behind an act. -/
theorem did_there (s : NS) (a : ActD) :
    ((s.did a).2.2 = 0 → a.kind = 1 ∨ a.kind = 2 → (0 ≤ a.peer ∧ a.peer < 8) ∧ ∀ p : Nat, ((s.did a).1.peers p).1 = if (p : Int) = a.peer then decide (a.kind = 1) else (s.peers p).1) ∧
    (¬ ((s.did a).2.2 = 0 ∧ (a.kind = 1 ∨ a.kind = 2)) → ∀ p : Nat, ((s.did a).1.peers p).1 = (s.peers p).1) := by
  constructor
  · intro h0 hk
    unfold NS.did at h0 ⊢
    by_cases h1 : a.kind = 1
    · rw [if_pos h1] at h0 ⊢
      simp only at h0 ⊢
      unfold NS.join at h0 ⊢
      split at h0
      · cases h0
      · rename_i hp
        rw [if_neg hp]
        have hp := Classical.not_not.1 hp
        split at h0
        · cases h0
        · rename_i h2
          rw [if_neg h2]
          refine ⟨hp, fun p => ?_⟩
          show (if p = a.peer.toNat then (true, a.flag) else s.peers p).1 = _
          by_cases e : p = a.peer.toNat
          · rw [if_pos e, if_pos (by omega), decide_eq_true h1]
          · rw [if_neg e, if_neg (by omega)]
    · have h2 : a.kind = 2 := hk.resolve_left h1
      rw [if_neg h1, if_pos h2] at h0 ⊢
      simp only at h0 ⊢
      unfold NS.leave at h0 ⊢
      split at h0
      · rename_i ht; exact absurd h0 ht
      · rename_i ht
        rw [if_neg ht]
        obtain ⟨n, hn, h8, _⟩ := there_zero (Classical.not_not.1 ht)
        refine ⟨by omega, fun p => ?_⟩
        show (if p = a.peer.toNat then (false, false) else s.peers p).1 = _
        by_cases e : p = a.peer.toNat
        · rw [if_pos e, if_pos (by omega), decide_eq_false h1]
        · rw [if_neg e, if_neg (by omega)]
  · intro hn p
    by_cases h0 : (s.did a).2.2 = 0
    · have h1 : ¬ a.kind = 1 := fun e => hn ⟨h0, .inl e⟩
      have h2 : ¬ a.kind = 2 := fun e => hn ⟨h0, .inr e⟩
      unfold NS.did
      rw [if_neg h1, if_neg h2]
      split
      · rw [send_peers]
      · split
        · rw [pass_peers]
        · rfl
    · rw [(did_err a h0).2]
theorem bmap_obj (h : BMap w b n f) : ∃ es c, w.heap[b]? = some (.map es c) := by
  obtain ⟨D, ⟨es, clock, hb, _⟩, _⟩ := h
  exact ⟨es, clock, hb⟩
theorem cell_other {p : Addr} {v : Value} (hc : w.cell? p = some v) (hm : ∃ es c, w.heap[b]? = some (.map es c)) : p.block ≠ b := fun e => by
  obtain ⟨es, c, hb⟩ := hm
  unfold World.cell? at hc
  rw [e, hb] at hc
  cases hc
theorem cell_grown {p : Addr} {v : Value} (hc : w.cell? p = some v) (hm : ∃ es c, w.heap[b]? = some (.map es c)) (hg : w.grownBy w' (some b)) : w'.cell? p = some v := by
  have hne := cell_other hc hm
  have hlt := (cell_spot hc).2
  exact (World.cell?_of_block (w := w) (a := p) (hg.block p.block hlt (fun e => hne (Option.some.inj e)))).trans hc
theorem outsAt_grown {a : Option Addr} {l : List OutD} (h : OutsAt w a l) (hm : ∃ es c, w.heap[b]? = some (.map es c)) (hg : w.grownBy w' (some b)) : OutsAt w' a l := fun i hi => by
  obtain ⟨g, o, e, hlt, d0, d1⟩ := h i hi
  exact ⟨g, o, e, Nat.lt_of_lt_of_le hlt hg.size, cell_grown d0 hm hg, cell_grown d1 hm hg⟩
/-- What the law knows of what goes out, as it looks at it. -/
theorem outOk_ans {a : ActD} {u : NS} {o : OutD} {m : Ms.MsgD} (h : OutOk a u o m) : Ms.errM o.bytes.data.toList = 0 ∧ Ms.ansM o.bytes.data.toList = m ∧ o.bytes.size ≤ maxLen := by
  have hb : o.bytes = str (Ms.encM m) := by rw [h.bytes]; unfold bytesM; rw [if_pos h.check]
  refine ⟨?_, ?_, by rw [h.bytes]; exact bytes_small m⟩
  · rw [hb, str_data]; exact Ms.errM_enc h.check
  · rw [hb, str_data]; exact Ms.ansM_enc h.check
set_option maxRecDepth 20000 in
set_option maxHeartbeats 4000000 in
theorem nodeOuts_walk (salt : UInt64) (l : List ActD) (a : Option Addr) (cap : Nat) (hl : l.length ≤ 2932031007402) (w : World) (hi : ActsAt w a l) : Calls Tryz.prog 3 #[.int .u64 salt.toNat, .slice a l.length cap] w fun e w' => e = .returned (.bool true) ∧ Below w.heap.size w w' := by
  have HI := Lib.hid hi
  have hml : maxLen = 9223372036854775807 := rfl
  have hmm := @run_makeMap Tryz.prog
  clear hi
  go_enter Tryz.func3, Tryz.ntmps3
  go_wp2_with fail
  with_reducible refine (met_any _).mono ?_
  rintro e w1 ⟨rfl, hb1⟩
  have HB1 := Lib.hid hb1
  clear hb1
  go_wp2_with fail
  with_reducible refine (mine_new salt _ HB1.out).mono ?_
  rintro e w2 ⟨R, F, rfl, h2, _, _⟩
  have H2 : Hid (NodeMap w (w2.alloc (.map #[] 0)) F R (NS.new salt) w2.heap.size 0 (fun _ => false)) := Lib.hid ⟨h2.kept (kept_new w2 _), bmap_new w2, fun hf => by have := h2.node.there _ hf; omega, h2.below.size⟩
  obtain ⟨b, hb⟩ : ∃ b, w2.heap.size = b := ⟨_, rfl⟩
  rw [hb] at H2
  clear h2
  go_wp2_with fail
  go_loopw [24] (fun i wr => ∃ (k n : Nat) (G : Nat → Prop) (u : NS) (f : Int → Bool), k ≤ l.length ∧ i = .int .i64 k ∧ n ≤ k ∧ Hid (NodeMap w wr G R u b n f) ∧ Hid (NInv k u) ∧ Hid (Among u.isT u.T) ∧ Hid (∀ p : Nat, f p = (u.peers p).1)) (fun i _ => l.length - (intOf i).toNat)
  case atStart => exact ⟨0, 0, F, NS.new salt, fun _ => false, Nat.zero_le _, rfl, Nat.le_refl _, H2, Lib.hid (inv_new salt), Lib.hid (among_new salt), Lib.hid fun _ => rfl⟩
  case round =>
    obtain ⟨k, n, G, u, f, hk, rfl, hnk, H4, HN4, HA4, HF4⟩ := hrel
    by_cases hkl : k < l.length
    · obtain ⟨⟨g, o, rfl, hg, c0⟩, hs⟩ := HI.out k hkl
      obtain ⟨y, hy⟩ : ∃ y, l[k] = y := ⟨_, rfl⟩
      rw [hy] at c0 hs
      obtain ⟨c0, c1, c2, c3, c4⟩ := c0
      have k0 := cell_later H4.out.mine.below c0
      have k1 := cell_later H4.out.mine.below c1
      have k2 := cell_later H4.out.mine.below c2
      have k3 := cell_later H4.out.mine.below c3
      have k4 := cell_later H4.out.mine.below c4
      have l5 := (cell_spot k0).2
      obtain ⟨wy, hwy⟩ : ∃ wy, wr.alloc (.cells #[.int .i64 y.kind, .int .i64 y.peer, .int .i64 y.n, .bool y.flag, .string y.bytes] 29) = wy := ⟨_, rfl⟩
      have hby : Below wr.heap.size wr wy := hwy ▸ kept_new _ _
      obtain ⟨y0, y1, y2, y3, y4⟩ := box_act wr y
      rw [hwy] at y0 y1 y2 y3 y4
      have l6 := (cell_spot y0).2
      have H5 := Lib.hid (H4.out.kept hby)
      have HNX : Hid (¬ G wr.heap.size) := Lib.hid fun hf => by have := H4.out.mine.node.there _ hf; omega
      have HBX : Hid (b < wr.heap.size) := Lib.hid (bmap_lt H4.out.map)
      have HNN : Hid (NInv (k + 1) (u.did y).1) := Lib.hid (did_inv HN4.out H4.out.mine.node.good.T y)
      have HAN : Hid (Among (u.did y).1.isT (u.did y).1.T) := Lib.hid (among_did HA4.out y)
      have HDT := Lib.hid (did_there u y)
      have HDO : Hid (∀ o ∈ (u.did y).2.1, ∃ m, OutOk y (u.did y).1 o m) := Lib.hid fun o ho => did_outs HA4.out y o ho
      have hk2 : k ≤ 2950000000000 := by omega
      obtain ⟨q1, q2, q3, hq⟩ : ∃ q1 q2 q3, u.did y = (q1, q2, q3) := ⟨_, _, _, rfl⟩
      have HQ := Lib.hid hq
      rw [hq] at HNN HAN HDT HDO
      simp only at HNN HAN HDT HDO
      have hql : q2.length ≤ 1000000 := did_few hq
      clear hy c0 c1 c2 c3 c4 hby hq
      go_wp2_with fail
      with_reducible refine (did_any y k hk2 HN4.out hs _ HQ.out _ H5.out.mine.node).mono ?_
      rintro e w6 ⟨v6, G6, rfl, ho6, h6, t6, _⟩
      simp only at ho6 h6 ⊢
      obtain ⟨a6, c6, rfl, _, hat6⟩ := owns_outsAt ho6
      have H6 := Lib.hid (H5.out.turned h6 t6)
      have HO6 := Lib.hid hat6
      have e6 := t6.block wr.heap.size l6 HNX.out
      have z0 := (World.cell?_of_block (w := wy) (a := ⟨wr.heap.size, 0, none⟩) e6).trans y0
      have z1 := (World.cell?_of_block (w := wy) (a := ⟨wr.heap.size, 1, none⟩) e6).trans y1
      have l7 := (cell_spot z0).2
      clear h6 t6 e6 y0 y1 y2 y3 y4 hat6 ho6
      have hcs : (q3 = 0 ∧ y.kind = 1) ∨ (q3 = 0 ∧ y.kind = 2) ∨ (q3 = 0 ∧ y.kind ≠ 1 ∧ y.kind ≠ 2) ∨ q3 ≠ 0 := by omega
      rcases hcs with ⟨hq0, hk1⟩ | ⟨hq0, hk1⟩ | ⟨hq0, hk1, hk2'⟩ | hq0
      case' inl =>
        obtain ⟨⟨hp0, hp8⟩, hpe⟩ := HDT.out.1 hq0 (.inl hk1)
        have hwf := wf_small (x := y.peer) (by omega)
        obtain ⟨w7, hput, h7, hg7⟩ := H6.out.put y.peer true hwf (by omega)
        have HW : Hid (∃ n' f', n' ≤ k + 1 ∧ NodeMap w w7 G6 R q1 b n' f' ∧ ∀ p : Nat, f' p = (q1.peers p).1) := Lib.hid ⟨n + 1, _, by omega, h7, fun p => by
          rw [hpe p, hk1]
          split
          · rfl
          · exact HF4.out p⟩
        have HO : Hid (OutsAt w7 a6 q2) := Lib.hid (outsAt_grown HO6.out (bmap_obj H6.out.map) hg7)
        have HZ : Hid (w7.cell? ⟨wr.heap.size, 0, none⟩ = some (.int .i64 y.kind) ∧ w7.cell? ⟨wr.heap.size, 1, none⟩ = some (.int .i64 y.peer)) := Lib.hid ⟨cell_grown z0 (bmap_obj H6.out.map) hg7, cell_grown z1 (bmap_obj H6.out.map) hg7⟩
        rw [hk1] at z0
        clear h7 hg7 hpe hk1 hwf
        subst hq0
        go_wp2_with fail
      case' inr.inl =>
        obtain ⟨⟨hp0, hp8⟩, hpe⟩ := HDT.out.1 hq0 (.inr hk1)
        have hwf := wf_small (x := y.peer) (by omega)
        obtain ⟨w7, hput, h7, hg7⟩ := H6.out.put y.peer false hwf (by omega)
        have HW : Hid (∃ n' f', n' ≤ k + 1 ∧ NodeMap w w7 G6 R q1 b n' f' ∧ ∀ p : Nat, f' p = (q1.peers p).1) := Lib.hid ⟨n + 1, _, by omega, h7, fun p => by
          rw [hpe p, hk1]
          split
          · rfl
          · exact HF4.out p⟩
        have HO : Hid (OutsAt w7 a6 q2) := Lib.hid (outsAt_grown HO6.out (bmap_obj H6.out.map) hg7)
        have HZ : Hid (w7.cell? ⟨wr.heap.size, 0, none⟩ = some (.int .i64 y.kind) ∧ w7.cell? ⟨wr.heap.size, 1, none⟩ = some (.int .i64 y.peer)) := Lib.hid ⟨cell_grown z0 (bmap_obj H6.out.map) hg7, cell_grown z1 (bmap_obj H6.out.map) hg7⟩
        rw [hk1] at z0
        clear h7 hg7 hpe hk1 hwf
        subst hq0
        go_wp2_with fail
      case' inr.inr.inl =>
        have HW : Hid (∃ n' f', n' ≤ k + 1 ∧ NodeMap w w6 G6 R q1 b n' f' ∧ ∀ p : Nat, f' p = (q1.peers p).1) := Lib.hid ⟨n, f, by omega, H6.out, fun p => by
          rw [HDT.out.2 (fun h => h.2.elim hk1 hk2') p]
          exact HF4.out p⟩
        have HO := HO6
        have HZ : Hid (w6.cell? ⟨wr.heap.size, 0, none⟩ = some (.int .i64 y.kind) ∧ w6.cell? ⟨wr.heap.size, 1, none⟩ = some (.int .i64 y.peer)) := Lib.hid ⟨z0, z1⟩
        have hkb1 : (y.kind == 1) = false := by simpa using hk1
        have hkb2 : (y.kind == 2) = false := by simpa using hk2'
        obtain ⟨w7, hw7⟩ : ∃ x, x = w6 := ⟨_, rfl⟩
        subst hw7
        subst hq0
        go_wp2_with fail
      case' inr.inr.inr =>
        have HW : Hid (∃ n' f', n' ≤ k + 1 ∧ NodeMap w w6 G6 R q1 b n' f' ∧ ∀ p : Nat, f' p = (q1.peers p).1) := Lib.hid ⟨n, f, by omega, H6.out, fun p => by
          rw [HDT.out.2 (fun h => hq0 h.1) p]
          exact HF4.out p⟩
        have HO := HO6
        have HZ : Hid (w6.cell? ⟨wr.heap.size, 0, none⟩ = some (.int .i64 y.kind) ∧ w6.cell? ⟨wr.heap.size, 1, none⟩ = some (.int .i64 y.peer)) := Lib.hid ⟨z0, z1⟩
        have hqb : (q3 == 0) = false := by simpa using hq0
        obtain ⟨w7, hw7⟩ : ∃ x, x = w6 := ⟨_, rfl⟩
        subst hw7
        go_wp2_with fail
      all_goals
        clear z0 z1 l5 l6 l7 k0 k1 k2 k3 k4
        obtain ⟨wB, hwB⟩ : ∃ x, x = wr := ⟨_, rfl⟩
        subst hwB
        go_loopw [54] (fun i wi => ∃ j : Nat, j ≤ q2.length ∧ i = .int .i64 j ∧ Hid (Below w7.heap.size w7 wi)) (fun i _ => q2.length - (intOf i).toNat)
        case atStart => exact ⟨0, Nat.zero_le _, rfl, Lib.hid (Below.refl _ _)⟩
        case round =>
          obtain ⟨j, hj, rfl, HBW⟩ := hrel
          by_cases hjl : j < q2.length
          · obtain ⟨g', o', rfl, hg', d0, d1⟩ := outsAt_kept HBW.out HO.out j hjl
            obtain ⟨⟨kd, ids, body⟩, hm⟩ := HDO.out q2[j] (List.getElem_mem _)
            obtain ⟨x, hx⟩ : ∃ x, q2[j] = x := ⟨_, rfl⟩
            rw [hx] at d0 d1 hm
            obtain ⟨he, ha, hsz⟩ := outOk_ans hm
            have HE := Lib.hid he
            have HA := Lib.hid ha
            have HSZ := Lib.hid hsz
            have HM := Lib.hid hm
            have l5 := (cell_spot d0).2
            obtain ⟨wo, hwo⟩ : ∃ wo, wr.alloc (.cells #[.int .i64 x.peer, .string x.bytes] 35) = wo := ⟨_, rfl⟩
            have hbo : Below wr.heap.size wr wo := hwo ▸ kept_new _ _
            have o0 : wo.cell? ⟨wr.heap.size, 0, none⟩ = some (.int .i64 x.peer) := by rw [← hwo]; simp [go_sem]
            have o1 : wo.cell? ⟨wr.heap.size, 1, none⟩ = some (.string x.bytes) := by rw [← hwo]; simp [go_sem]
            have l6 := (cell_spot o0).2
            have HB2 := Lib.hid (kept_trans HBW.out hbo)
            clear hx he ha hsz hm hbo
            go_wp2_with fail
            with_reducible refine (Ms.mdecode_all x.bytes 0 _ _ HSZ.out HE.out HA.out).mono ?_
            rintro e w8 ⟨a8, c8, rfl, _, _, _, hb8⟩
            obtain ⟨wz, hwz⟩ : ∃ wz, w8.alloc (.cells #[.int .i64 kd, .slice a8 ids.length c8, .string body] 38) = wz := ⟨_, rfl⟩
            have hbz : Below wo.heap.size wo wz := kept_trans hb8 (hwz ▸ kept_new _ _)
            obtain ⟨m0, m1, m2⟩ : MsgBox wz w8.heap.size a8 c8 ⟨kd, ids, body⟩ := hwz ▸ box_msg w8 a8 c8 ⟨kd, ids, body⟩
            simp only at m0 m1 m2
            have o0 := kept_cell hbz o0
            have l7 := (cell_spot o0).2
            have l8 := (cell_spot m0).2
            have hbw := kept_trans HB2.out hbz
            have HB3 := Lib.hid hbw
            obtain ⟨n', f', hn', h7, hf7⟩ := HW.out
            have hmap := bmap_same h7.map (hbw.block b (bmap_lt h7.map))
            have hthere : f' (x.peer : Int) = true := (hf7 x.peer).trans HM.out.there
            have hwf : (Lit.int .i64 (x.peer : Int)).wf = true := wf_small (by
              have : x.peer < 8 := HM.out.lt
              omega)
            have hlook := fun nn => bmap_look (bmap_same hmap (w' := wz.drewN nn) rfl) (x.peer : Int) hwf
            rw [hthere] at hlook
            have hlook0 := bmap_look hmap (x.peer : Int) hwf
            rw [hthere] at hlook0
            have y0 := kept_cell hbw HZ.out.1
            have y1 := kept_cell hbw HZ.out.2
            have l9 := (cell_spot y0).2
            have hkd := HM.out.kind
            simp only at hkd
            clear hb8 hbz hbw hn' h7 hf7 hmap hthere hwf
            rcases hkd with ⟨hkd, hyk, hil⟩ | ⟨hkd, hyk, hyp⟩
            · subst hkd
              rw [hyk] at y0
              clear hyk
              go_wp2_with fail
              go_roundw
              case rel => exact ⟨j + 1, by omega, by go_num, HB3⟩
              case measure => simp [intOf]; omega
            · have hkd1 : (kd == 1) = false := by simp; omega
              have hkd2 : (kd == 2) = false := by simp; omega
              have hkd3 : (kd != 2) = true := by simp; omega
              rw [hyk] at y0
              rw [hyp] at y1
              clear hyk hyp hkd
              go_wp2_with fail
              go_roundw
              case rel => exact ⟨j + 1, by omega, by go_num, HB3⟩
              case measure => simp [intOf]; omega
          · obtain ⟨n', f', hn', h7, hf7⟩ := HW.out
            have H9 := Lib.hid (h7.kept HBW.out)
            have HF9 := Lib.hid hf7
            clear h7 hf7
            go_wp2_with fail
            go_roundw
            case rel => exact ⟨k + 1, n', G6, q1, f', by omega, by go_num, hn', H9, HNN, HAN, HF9⟩
            case measure => simp [intOf]; omega
    · go_wp2_with fail
      go_ret
      exact ⟨rfl, H4.out.mine.below⟩
end Go.Proofs.YtaaaplbjeknbkaaGreat
