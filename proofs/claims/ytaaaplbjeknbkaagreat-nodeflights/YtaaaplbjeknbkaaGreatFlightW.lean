/-
  NodeFlights: the walk.
-/
import Derived.Test.YtaaaplbjeknbkaaGreatFlightStep
import Derived.Test.YtaaaplbjeknbkaaGreatIntMap
set_option maxRecDepth 20000
namespace Go.Proofs.YtaaaplbjeknbkaaGreat
open Go.RowKit Go.Maps

variable {w w' w0 : World} {F F' G : Nat → Prop} {R bU bO n n' D b : Nat} {s u : NS} {fU fO f' : UInt64 → Option Int} {y : ActD}

def asInt (f : UInt64 → Option Nat) : UInt64 → Option Int := fun x => (f x).map fun p : Nat => (p : Int)
theorem IMap.more {it : Option It} {f : UInt64 → Option Int} (h : IMap w b it f n) (hn : n ≤ n') : IMap w b it f n' := ⟨h.map, by obtain ⟨ks, h1, h2⟩ := h.keys; exact ⟨ks, by omega, h2⟩⟩
/-- A node and the law's two maps. -/
structure FlySt (w0 w : World) (F : Nat → Prop) (R : Nat) (u : NS) (bU bO : Nat) (fU fO : UInt64 → Option Int) (n : Nat) : Prop where
  mine : Mine w0 w F R u
  un : IMap w bU none fU n
  who : IMap w bO none fO n
  ne : bU ≠ bO
  nF : ¬ F bU ∧ ¬ F bO
  up : w0.heap.size ≤ bU ∧ w0.heap.size ≤ bO
theorem FlySt.kept (h : FlySt w0 w F R u bU bO fU fO n) (hb : Below w.heap.size w w') : FlySt w0 w' F R u bU bO fU fO n :=
  ⟨h.mine.kept hb, h.un.same (hb.block _ h.un.lt), h.who.same (hb.block _ h.who.lt), h.ne, h.nF, h.up⟩
theorem FlySt.turned (h : FlySt w0 w F R u bU bO fU fO n) {u' : NS} (hn : NodeAt w' F' R u') (ht : Turn F F' w w') : FlySt w0 w' F' R u' bU bO fU fO n :=
  ⟨h.mine.turned hn ht, h.un.same (ht.block _ h.un.lt h.nF.1), h.who.same (ht.block _ h.who.lt h.nF.2), h.ne,
    ⟨fun hf => (ht.own _ hf).elim h.nF.1 (fun hle => by have := h.un.lt; omega), fun hf => (ht.own _ hf).elim h.nF.2 (fun hle => by have := h.who.lt; omega)⟩, h.up⟩
theorem FlySt.ofUn (h : FlySt w0 w F R u bU bO fU fO n) (ht : Turn (fun k => k = bU) (fun k => k = bU) w w') (hm : IMap w' bU none f' n') (hn : n ≤ n') : FlySt w0 w' F R u bU bO f' fO n' :=
  ⟨⟨h.mine.node.turn ht (fun _ hf hk => h.nF.1 (hk ▸ hf)), h.mine.above, h.mine.below.trans (ht.below (fun _ hk => hk ▸ h.up.1) h.mine.below.size)⟩, hm, (h.who.same (ht.block _ h.who.lt (fun e => h.ne e.symm))).more hn, h.ne, h.nF, h.up⟩
theorem FlySt.ofWho (h : FlySt w0 w F R u bU bO fU fO n) (ht : Turn (fun k => k = bO) (fun k => k = bO) w w') (hm : IMap w' bO none f' n') (hn : n ≤ n') : FlySt w0 w' F R u bU bO fU f' n' :=
  ⟨⟨h.mine.node.turn ht (fun _ hf hk => h.nF.2 (hk ▸ hf)), h.mine.above, h.mine.below.trans (ht.below (fun _ hk => hk ▸ h.up.2) h.mine.below.size)⟩, (h.un.same (ht.block _ h.un.lt h.ne)).more hn, hm, h.ne, h.nF, h.up⟩
theorem FlySt.more (h : FlySt w0 w F R u bU bO fU fO n) (hn : n ≤ n') : FlySt w0 w F R u bU bO fU fO n' := ⟨h.mine, h.un.more hn, h.who.more hn, h.ne, h.nF, h.up⟩
/-- What is not of a map is as it was where one turned. -/
theorem cell_mapd {p : Addr} {v : Value} (ht : Turn (fun k => k = b) (fun k => k = b) w w') (hm : ∃ es clock, w.heap[b]? = some (.map es clock)) (hc : w.cell? p = some v) : w'.cell? p = some v := by
  have hne : p.block ≠ b := fun e => by
    obtain ⟨es, cl, hb⟩ := hm
    unfold World.cell? at hc
    rw [e, hb] at hc
    cases hc
  exact (World.cell?_of_block (a := p) (ht.block _ (cell_spot hc).2 hne)).trans hc
theorem ids_mapd {a : Option Addr} {l : List UInt64} (ht : Turn (fun k => k = b) (fun k => k = b) w w') (hm : ∃ es clock, w.heap[b]? = some (.map es clock)) (h : IdsAt w a l) : IdsAt w' a l := fun i hi => by
  obtain ⟨bb, o, e, hb, c0⟩ := h i hi
  exact ⟨bb, o, e, Nat.lt_of_lt_of_le hb ht.size, cell_mapd ht hm c0⟩
theorem outs_mapd {a : Option Addr} {l : List OutD} (ht : Turn (fun k => k = b) (fun k => k = b) w w') (hm : ∃ es clock, w.heap[b]? = some (.map es clock)) (h : OutsAt w a l) : OutsAt w' a l := fun i hi => by
  obtain ⟨bb, o, e, hb, c0, c1⟩ := h i hi
  exact ⟨bb, o, e, Nat.lt_of_lt_of_le hb ht.size, cell_mapd ht hm c0, cell_mapd ht hm c1⟩
/-- An act in a block. -/
def ActF (w : World) (D : Nat) (y : ActD) : Prop :=
  w.cell? ⟨D, 0, none⟩ = some (.int .i64 y.kind) ∧ w.cell? ⟨D, 1, none⟩ = some (.int .i64 y.peer) ∧ w.cell? ⟨D, 2, none⟩ = some (.int .i64 y.n) ∧ w.cell? ⟨D, 3, none⟩ = some (.bool y.flag) ∧ w.cell? ⟨D, 4, none⟩ = some (.string y.bytes)
theorem ActF.kept (h : ActF w D y) (hb : Below w.heap.size w w') : ActF w' D y := ⟨kept_cell hb h.1, kept_cell hb h.2.1, kept_cell hb h.2.2.1, kept_cell hb h.2.2.2.1, kept_cell hb h.2.2.2.2⟩
theorem ActF.lt (h : ActF w D y) : D < w.heap.size := (cell_spot h.1).2
theorem ActF.turned (h : ActF w D y) (ht : Turn F F' w w') (hn : ¬ F D) : ActF w' D y := by
  have e := ht.block D h.lt hn
  have c : ∀ (k : Nat) v, w.cell? ⟨D, k, none⟩ = some v → w'.cell? ⟨D, k, none⟩ = some v := fun k v hv => (World.cell?_of_block (w := w) (a := ⟨D, k, none⟩) e).trans hv
  exact ⟨c 0 _ h.1, c 1 _ h.2.1, c 2 _ h.2.2.1, c 3 _ h.2.2.2.1, c 4 _ h.2.2.2.2⟩
theorem ActF.mapd (h : ActF w D y) (ht : Turn (fun k => k = b) (fun k => k = b) w w') (hm : ∃ es clock, w.heap[b]? = some (.map es clock)) : ActF w' D y :=
  ⟨cell_mapd ht hm h.1, cell_mapd ht hm h.2.1, cell_mapd ht hm h.2.2.1, cell_mapd ht hm h.2.2.2.1, cell_mapd ht hm h.2.2.2.2⟩
theorem drop_kids {l : List OutD} {j : Nat} (h : j < l.length) : (l.drop j).flatMap kidsOf = kidsOf l[j] ++ (l.drop (j + 1)).flatMap kidsOf := by rw [List.drop_eq_getElem_cons h, List.flatMap_cons]
/-- What has been asked for and what is to come. -/
structure Asks (lr dn rest : List (UInt64 × Nat)) : Prop where
  all : lr = dn ++ rest
variable {dn rest lr : List (UInt64 × Nat)} {un : UInt64 → Option Int} {of : UInt64 → Option Nat}
theorem fold_un (t : Int) (dn : List (UInt64 × Nat)) (r : UInt64 × Nat) (f : UInt64 → Option Int) : (dn ++ [r]).foldl (unStep t) f = fun x => if x = r.1 then some t else dn.foldl (unStep t) f x := by rw [List.foldl_append]; rfl
theorem fold_who (dn : List (UInt64 × Nat)) (r : UInt64 × Nat) (f : UInt64 → Option Nat) : asInt ((dn ++ [r]).foldl whoStep f) = fun x => if x = r.1 then some (r.2 : Int) else asInt (dn.foldl whoStep f) x := by
  rw [List.foldl_append]
  funext x
  unfold asInt
  show Option.map _ (whoStep (dn.foldl whoStep f) r x) = _
  unfold whoStep
  by_cases e : x = r.1
  · rw [if_pos e, if_pos e]; rfl
  · rw [if_neg e, if_neg e]
/-- .. while a range over the second map is under way. -/
structure FlyR (w0 w : World) (F : Nat → Prop) (R : Nat) (u : NS) (bU bO r : Nat) (fU fO : UInt64 → Option Int) (left : Lit → Bool) (cnt n : Nat) : Prop where
  mine : Mine w0 w F R u
  un : IMap w bU none fU n
  who : TMap w bO (some ⟨r, left, cnt⟩) (intV fO)
  keys : ∃ ks : List UInt64, ks.length ≤ n ∧ ∀ x, (fO x).isSome = true → x ∈ ks
  ne : bU ≠ bO
  nF : ¬ F bU ∧ ¬ F bO
  up : w0.heap.size ≤ bU ∧ w0.heap.size ≤ bO
  rU : r ≠ bU
  rF : ¬ F r
  rup : w0.heap.size ≤ r
variable {r cnt cnt' : Nat} {left left' : Lit → Bool}
theorem FlyR.next (h : FlyR w0 w F R u bU bO r fU fO left cnt n) (hm : TMap w' bO (some ⟨r, left', cnt'⟩) (intV fO)) (hg : w.grownBy w' (some r)) : FlyR w0 w' F R u bU bO r fU fO left' cnt' n :=
  ⟨⟨h.mine.node.turn (Turn.of_grown (F := fun k => k = r) hg (fun k hk => by cases hk; rfl)) (fun _ hf hk => h.rF (hk ▸ hf)), h.mine.above, h.mine.below.grown hg h.mine.below.size (fun k hk => by cases hk; exact h.rup)⟩,
    h.un.same (hg.block _ h.un.lt (fun e => h.rU (by cases e; rfl))), hm, h.keys, h.ne, h.nF, h.up, h.rU, h.rF, h.rup⟩
theorem FlyR.del (h : FlyR w0 w F R u bU bO r fU fO left cnt n) (hr : r < w.heap.size) (ht : Turn (fun k => k = bU) (fun k => k = bU) w w') (hm : IMap w' bU none f' n) : FlyR w0 w' F R u bU bO r f' fO left cnt n :=
  ⟨⟨h.mine.node.turn ht (fun _ hf hk => h.nF.1 (hk ▸ hf)), h.mine.above, h.mine.below.trans (ht.below (fun _ hk => hk ▸ h.up.1) h.mine.below.size)⟩, hm,
    tmap_same h.who (ht.block _ (tmap_lt h.who) (fun e => h.ne e.symm)) (fun i hi => by cases hi; exact ht.block _ hr h.rU), h.keys, h.ne, h.nF, h.up, h.rU, h.rF, h.rup⟩
theorem FlyR.ended (h : FlyR w0 w F R u bU bO r fU fO left cnt n) : FlySt w0 w F R u bU bO fU fO n := ⟨h.mine, h.un, ⟨Ho.tmap_end h.who, h.keys⟩, h.ne, h.nF, h.up⟩
theorem ActF.grown {row : Nat} (h : ActF w D y) (hg : w.grownBy w' (some row)) (hn : D ≠ row) : ActF w' D y := by
  have e := hg.block D h.lt (fun e => hn (by cases e; rfl))
  have c : ∀ (k : Nat) v, w.cell? ⟨D, k, none⟩ = some v → w'.cell? ⟨D, k, none⟩ = some v := fun k v hv => (World.cell?_of_block (w := w) (a := ⟨D, k, none⟩) e).trans hv
  exact ⟨c 0 _ h.1, c 1 _ h.2.1, c 2 _ h.2.2.1, c 3 _ h.2.2.2.1, c 4 _ h.2.2.2.2⟩
theorem asInt_some {f : UInt64 → Option Nat} {x : UInt64} {p : Int} (h : asInt f x = some p) : ∃ q : Nat, f x = some q ∧ (q : Int) = p := by
  unfold asInt at h
  cases hf : f x with
  | none => rw [hf] at h; cases h
  | some q => rw [hf] at h; exact ⟨q, rfl, Option.some.inj h⟩
theorem asInt_of {f : UInt64 → Option Nat} {x : UInt64} {q : Nat} (h : f x = some q) : asInt f x = some (q : Int) := by unfold asInt; rw [h]; rfl
/-- What the law has taken out so far. -/
def Less (un f' : UInt64 → Option Int) : Prop := ∀ x t, f' x = some t → un x = some t
theorem Less.del {un f' : UInt64 → Option Int} (h : Less un f') (x : UInt64) : Less un (fun z => if z = x then none else f' z) := fun z t hz => by
  by_cases e : z = x
  · simp [e] at hz
  · simp only [if_neg e] at hz
    exact h z t hz
set_option maxRecDepth 20000 in
set_option maxHeartbeats 16000000 in
theorem nodeFlights_walk (salt : UInt64) (l : List ActD) (a : Option Addr) (cap : Nat) (hl : l.length ≤ 2932031007402) (w : World) (hi : ActsAt w a l) : Calls Tryz.prog 4 #[.int .u64 salt.toNat, .slice a l.length cap] w fun e w' => e = .returned (.bool true) ∧ Below w.heap.size w w' := by
  have hmm := @run_makeMap Tryz.prog
  have HI := Lib.hid hi
  have hml : maxLen = 9223372036854775807 := rfl
  clear hi
  go_enter Tryz.func4, Tryz.ntmps4
  go_wp2_with fail
  with_reducible refine (met_any _).mono ?_
  rintro e w1 ⟨rfl, hb1⟩
  have HB1 := Lib.hid hb1
  clear hb1
  go_wp2_with fail
  with_reducible refine (mine_new salt _ HB1.out).mono ?_
  rintro e w2 ⟨R, F, rfl, h2, _, _⟩
  obtain ⟨bU, hbU⟩ : ∃ b, w2.heap.size = b := ⟨_, rfl⟩
  obtain ⟨wU, hwU⟩ : ∃ x, w2.alloc (.map #[] 0) = x := ⟨_, rfl⟩
  obtain ⟨bO, hbO⟩ : ∃ b, wU.heap.size = b := ⟨_, rfl⟩
  obtain ⟨wO, hwO⟩ : ∃ x, wU.alloc (.map #[] 0) = x := ⟨_, rfl⟩
  have H3 : Hid (FlySt w wO F R (NS.new salt) bU bO (fun _ => none) (asInt fun _ => none) 0) := Lib.hid (by
    have k1 : Below w2.heap.size w2 wU := hwU ▸ kept_new _ _
    have k2 : Below wU.heap.size wU wO := hwO ▸ kept_new _ _
    have hlt : bU < wU.heap.size := by rw [← hwU, ← hbU]; simp
    have hu := h2.below.size
    have s1 := k1.size
    refine ⟨h2.kept (kept_trans k1 k2), ?_, ?_, by omega, ⟨fun hf => ?_, fun hf => ?_⟩, ⟨by omega, by omega⟩⟩
    · refine IMap.same (w := wU) ?_ (k2.block bU hlt)
      rw [← hwU, ← hbU]
      exact imap_new w2
    · rw [← hwO, ← hbO]
      exact imap_new wU
    · have := h2.node.there _ hf; omega
    · have := h2.node.there _ hf; omega)
  have HF3 : Hid (FlyInv (NS.new salt) (fun _ => none) (fun _ => none)) := Lib.hid (flyInv_none _ _)
  clear h2
  go_wp2_with fail
  go_loopw [40] (fun i wr => ∃ (k n : Nat) (G : Nat → Prop) (u : NS) (un : UInt64 → Option Int) (of : UInt64 → Option Nat), k ≤ l.length ∧ n ≤ 32 * k ∧ i = .int .i64 k ∧ Hid (FlySt w wr G R u bU bO un (asInt of) n) ∧ Hid (NInv k u) ∧ Hid (FlyInv u un of)) (fun i _ => l.length - (intOf i).toNat)
  case atStart => exact ⟨0, 0, F, NS.new salt, _, _, Nat.zero_le _, Nat.zero_le _, rfl, H3, Lib.hid (inv_new salt), HF3⟩
  case round =>
    obtain ⟨k, n, G, u, un, of, hk, hn, rfl, H6, HN6, HF6⟩ := hrel
    clear hbU hwU hbO hwO H3 HF3
    by_cases hkl : k < l.length
    · obtain ⟨⟨g, o, rfl, hg, c0⟩, hs⟩ := HI.out k hkl
      obtain ⟨y, hy⟩ : ∃ y, l[k] = y := ⟨_, rfl⟩
      rw [hy] at c0 hs
      obtain ⟨c0, c1, c2, c3, c4⟩ := c0
      have k0 := cell_later H6.out.mine.below c0
      have k1 := cell_later H6.out.mine.below c1
      have k2 := cell_later H6.out.mine.below c2
      have k3 := cell_later H6.out.mine.below c3
      have k4 := cell_later H6.out.mine.below c4
      have l5 := (cell_spot k0).2
      obtain ⟨D, hD⟩ : ∃ D, wr.heap.size = D := ⟨_, rfl⟩
      obtain ⟨wy, hwy⟩ : ∃ wy, wr.alloc (.cells #[.int .i64 y.kind, .int .i64 y.peer, .int .i64 y.n, .bool y.flag, .string y.bytes] 29) = wy := ⟨_, rfl⟩
      have hby : Below wr.heap.size wr wy := hwy ▸ kept_new _ _
      obtain ⟨y0, y1, y2, y3, y4⟩ := box_act wr y
      rw [hwy, hD] at y0 y1 y2 y3 y4
      have HY := Lib.hid (H6.out.kept hby)
      have HBX : Hid (ActF wy D y) := Lib.hid ⟨y0, y1, y2, y3, y4⟩
      have HND : Hid (¬ G D) := Lib.hid fun hf => by have := H6.out.mine.node.there _ hf; omega
      have hly := (cell_spot y0).2
      have HNN : Hid (NInv (k + 1) (u.did y).1) := Lib.hid (did_inv HN6.out H6.out.mine.node.good.T y)
      obtain ⟨lr, hst⟩ := did_flights HF6.out H6.out.mine.node.good.now H6.out.mine.node.good.T y
      have HST := Lib.hid hst
      have hk2 : k ≤ 2950000000000 := by omega
      obtain ⟨q1, q2, q3, hq⟩ : ∃ q1 q2 q3, u.did y = (q1, q2, q3) := ⟨_, _, _, rfl⟩
      have HQ := Lib.hid hq
      have hq2l := did_few hq
      rw [hq] at HNN
      have HSS := Lib.hid hs
      clear hy c0 c1 c2 c3 c4 hby hq hs hst
      go_wp2_with fail
      with_reducible refine (did_any y k hk2 HN6.out HSS.out _ HQ.out _ HY.out.mine.node).mono ?_
      rintro e w10 ⟨v10, G10, rfl, ho10, h10, t10, _⟩
      simp only at ho10 h10 ⊢
      obtain ⟨a10, c10, rfl, hc10, hat10⟩ := owns_outsAt ho10
      have H10 := Lib.hid (HY.out.turned h10 t10)
      have HB10 := Lib.hid (HBX.out.turned t10 HND.out)
      have HO10 := Lib.hid hat10
      have HA0 : Hid (Asks lr [] ((q2.drop 0).flatMap kidsOf)) := Lib.hid ⟨by
        have := HST.out.reqs
        rw [HQ.out] at this
        exact this.symm⟩
      obtain ⟨wB, hwB⟩ : ∃ x, x = wr := ⟨_, rfl⟩
      subst hwB
      clear ho10 h10 t10 hat10 y0 y1 y2 y3 y4 k0 k1 k2 k3 k4 l5 hly
      go_wp2_with fail
      go_loopw [52] (fun i wr => ∃ (j : Nat) (dn : List (UInt64 × Nat)), j ≤ q2.length ∧ i = .int .i64 j ∧ Hid (Asks lr dn ((q2.drop j).flatMap kidsOf)) ∧ Hid (FlySt w wr G10 R q1 bU bO (dn.foldl (unStep (q1.later 10)) un) (asInt (dn.foldl whoStep of)) (n + dn.length)) ∧ Hid (ActF wr D y) ∧ Hid (OutsAt wr a10 q2)) (fun i _ => q2.length - (intOf i).toNat)
      case atStart => exact ⟨0, [], Nat.zero_le _, rfl, HA0, H10, HB10, HO10⟩
      case round =>
        obtain ⟨j, dn, hj, rfl, HA, H11, HB11, HO11⟩ := hrel
        by_cases hjl : j < q2.length
        · obtain ⟨b, o, rfl, hb, c0, c1⟩ := HO11.out j hjl
          obtain ⟨z, hz⟩ : ∃ z, q2[j] = z := ⟨_, rfl⟩
          have hzs : z.bytes.size ≤ maxLen := by
            have h1 := HST.out.size z
            rw [HQ.out] at h1
            exact h1 (hz ▸ List.getElem_mem _)
          have hdk := drop_kids hjl
          rw [hz] at c0 c1 hdk
          obtain ⟨r, hr⟩ : ∃ r, Ms.errM z.bytes.data.toList = r := ⟨_, rfl⟩
          obtain ⟨kd, ids, body, hm⟩ : ∃ kd ids body, Ms.ansM z.bytes.data.toList = ⟨kd, ids, body⟩ := ⟨_, _, _, rfl⟩
          have hkid : kidsOf z = if kd = 2 then ids.map fun x => (x, z.peer) else [] := by unfold kidsOf outIds; rw [hm]
          have hid20 : ids.length ≤ 20 := by
            have h1 : (Ms.ansM z.bytes.data.toList).ids.length ≤ 20 := by
              by_cases he : Ms.errM z.bytes.data.toList = 0
              · exact ans_few he
              · unfold Ms.ansM
                rw [if_neg he]
                exact Nat.zero_le _
            rw [hm] at h1
            exact h1
          have HR := Lib.hid hr
          have HM := Lib.hid hm
          have HZS := Lib.hid hzs
          have HDK := Lib.hid hdk
          have HKD := Lib.hid hkid
          obtain ⟨O, hO⟩ : ∃ O, wr.heap.size = O := ⟨_, rfl⟩
          obtain ⟨wo, hwo⟩ : ∃ wo, wr.alloc (.cells #[.int .i64 z.peer, .string z.bytes] 35) = wo := ⟨_, rfl⟩
          have hbo : Below wr.heap.size wr wo := hwo ▸ kept_new _ _
          have o0 : wo.cell? ⟨O, 0, none⟩ = some (.int .i64 z.peer) := by rw [← hwo, ← hO]; simp [go_sem]
          have o1 : wo.cell? ⟨O, 1, none⟩ = some (.string z.bytes) := by rw [← hwo, ← hO]; simp [go_sem]
          have lo := (cell_spot o0).2
          have l6 := (cell_spot c0).2
          have H12 := Lib.hid (H11.out.kept hbo)
          have HB12 := Lib.hid (HB11.out.kept hbo)
          have HO12 := Lib.hid (outsAt_kept hbo HO11.out)
          clear hz hzs hdk hkid hr hm hbo
          go_wp2_with fail
          with_reducible refine (Ms.mdecode_all z.bytes r _ _ HZS.out HR.out HM.out).mono ?_
          rintro e w13 ⟨a13, c13, rfl, _, hi13, _, hb13⟩
          obtain ⟨Mb, hMb⟩ : ∃ M, w13.heap.size = M := ⟨_, rfl⟩
          obtain ⟨wm, hwm⟩ : ∃ wm, w13.alloc (.cells #[.int .i64 kd, .slice a13 ids.length c13, .string body] 38) = wm := ⟨_, rfl⟩
          have hbm : Below w13.heap.size w13 wm := hwm ▸ kept_new _ _
          obtain ⟨m0, m1, m2⟩ : MsgBox wm Mb a13 c13 ⟨kd, ids, body⟩ := hMb ▸ hwm ▸ box_msg w13 a13 c13 ⟨kd, ids, body⟩
          simp only at m0 m1 m2
          have lm := (cell_spot m0).2
          have hbb := kept_trans hb13 hbm
          have H13 := Lib.hid (H12.out.kept hbb)
          have HB13 := Lib.hid (HB12.out.kept hbb)
          have HO13 := Lib.hid (outsAt_kept hbb HO12.out)
          have HI13 := Lib.hid (idsAt_kept hbm hi13)
          have o0 := kept_cell hbb o0
          have lo := (cell_spot o0).2
          clear hb13 hbm hbb hi13 o1 c0 c1 l6
          by_cases hkd : kd = 2
          · subst hkd
            have HAK : Hid (Asks lr dn ((ids.drop 0).map (fun x => (x, z.peer)) ++ (q2.drop (j + 1)).flatMap kidsOf)) := Lib.hid ⟨by
              have h1 := HA.out.all
              rw [HDK.out, HKD.out, if_pos rfl] at h1
              exact h1⟩
            obtain ⟨wC, hwC⟩ : ∃ x, x = wr := ⟨_, rfl⟩
            subst hwC
            go_wp2_with fail
            go_loopw [68] (fun i wr => ∃ (i' : Nat) (dn : List (UInt64 × Nat)), i' ≤ ids.length ∧ i = .int .i64 i' ∧ Hid (Asks lr dn ((ids.drop i').map (fun x => (x, z.peer)) ++ (q2.drop (j + 1)).flatMap kidsOf)) ∧ Hid (FlySt w wr G10 R q1 bU bO (dn.foldl (unStep (q1.later 10)) un) (asInt (dn.foldl whoStep of)) (n + dn.length)) ∧ Hid (ActF wr D y) ∧ Hid (OutsAt wr (some ⟨b, o, none⟩) q2) ∧ Hid (IdsAt wr a13 ids) ∧ Hid (wr.cell? ⟨O, 0, none⟩ = some (.int .i64 z.peer))) (fun i _ => ids.length - (intOf i).toNat)
            case atStart => exact ⟨0, dn, Nat.zero_le _, rfl, HAK, H13, HB13, HO13, HI13, Lib.hid o0⟩
            case round =>
              obtain ⟨i', dn, hi', rfl, HA, H14, HB14, HO14, HI14, HC14⟩ := hrel
              by_cases hil : i' < ids.length
              · obtain ⟨b2, o2, rfl, hb2, c0⟩ := HI14.out i' hil
                obtain ⟨x, hx⟩ : ∃ x, ids[i'] = x := ⟨_, rfl⟩
                have hdr : (ids.drop i').map (fun x => (x, z.peer)) = (x, z.peer) :: (ids.drop (i' + 1)).map fun x => (x, z.peer) := by rw [List.drop_eq_getElem_cons hil, hx, List.map_cons]
                have HAN : Hid (Asks lr (dn ++ [(x, z.peer)]) ((ids.drop (i' + 1)).map (fun x => (x, z.peer)) ++ (q2.drop (j + 1)).flatMap kidsOf)) := Lib.hid ⟨by
                  have h1 := HA.out.all
                  rw [hdr] at h1
                  rw [h1]
                  simp⟩
                have hxm : (x, z.peer) ∈ lr := by rw [HAN.out.all]; simp
                have hxn : x ∉ dn.map fun r => r.1 := by
                  have h1 := HST.out.nodup
                  rw [HAN.out.all, List.append_assoc, List.map_append, List.nodup_append] at h1
                  intro hm
                  exact h1.2.2 x hm x (by simp) rfl
                have hlen : dn.length + 1 ≤ 32 := by
                  have h1 := HST.out.few
                  rw [HAN.out.all] at h1
                  simp at h1
                  omega
                have hcalm : ∀ t, dn.foldl (unStep (q1.later 10)) un x = some t → ¬ q1.now < t := fun t ht => by
                  rw [unStep_other _ _ _ hxn] at ht
                  have h1 := HST.out.calm _ hxm t ht
                  rw [HQ.out] at h1
                  exact h1
                rw [hx] at c0
                have l7 := (cell_spot c0).2
                have hlook := H14.out.un.look_ok x
                have HCM := Lib.hid hcalm
                have c5 := HC14.out
                have l8 := (cell_spot c5).2
                clear hdr hxm hxn hcalm hx
                obtain ⟨ox, hox⟩ : ∃ ox, dn.foldl (unStep (q1.later 10)) un x = ox := ⟨_, rfl⟩
                rw [hox] at hlook
                cases ox
                case' none =>
                  simp only [Option.getD_none, Option.isSome_none] at hlook
                  clear hox
                  go_upto_region 23 with fail
                case' some t =>
                  have hnt : ¬ q1.now < t := HCM.out t hox
                  simp only [Option.getD_some, Option.isSome_some] at hlook
                  clear hox
                  go_wp2_with fail
                  with_reducible refine (now_any _ H14.out.mine.node).mono ?_
                  rintro e w15 ⟨rfl, rfl⟩
                  go_upto_region 23 with fail
                all_goals
                  have hdr := (Below.refl wr.heap.size wr).drew
                  have hd := H14.out.kept hdr
                  have hng : n + dn.length ≤ 1000000000000000 := by omega
                  obtain ⟨hq0, hq1⟩ := hd.mine.node.good.now
                  obtain ⟨v0, st, wE, hE, tE, mE, hS⟩ := hd.un.entry hng x (q1.later 10)
                  obtain ⟨wS, hSr, imS, tS⟩ := hS wE rfl
                  have hs1 := hd.ofUn (tE.trans tS) imS (Nat.le_succ _)
                  have hwS : IMap wS bO none (asInt (dn.foldl whoStep of)) (n + dn.length) := hd.who.same ((tE.trans tS).block _ hd.who.lt (fun e => hd.ne e.symm))
                  obtain ⟨wX, hX, imX, tX⟩ := hwS.put hng x z.peer
                  have hx1 := hs1.ofWho tX imX (Nat.le_refl _)
                  rw [← fold_un (q1.later 10) dn (x, (z.peer)) un, ← fold_who dn (x, z.peer) of, Nat.add_assoc] at hx1
                  have HX1 : Hid (FlySt w wX G10 R q1 bU bO ((dn ++ [(x, z.peer)]).foldl (unStep (q1.later 10)) un) (asInt ((dn ++ [(x, z.peer)]).foldl whoStep of)) (n + (dn ++ [(x, z.peer)]).length)) := Lib.hid (by rw [List.length_append]; exact hx1)
                  have HBX1 : Hid (ActF wX D y) := Lib.hid ((((HB14.out.kept hdr).mapd tE hd.un.obj).mapd tS mE).mapd tX hwS.obj)
                  have HOX1 : Hid (OutsAt wX (some ⟨b, o, none⟩) q2) := Lib.hid (outs_mapd tX hwS.obj (outs_mapd tS mE (outs_mapd tE hd.un.obj (outsAt_kept hdr HO14.out))))
                  have HIX1 : Hid (IdsAt wX (some ⟨b2, o2, none⟩) ids) := Lib.hid (ids_mapd tX hwS.obj (ids_mapd tS mE (ids_mapd tE hd.un.obj (idsAt_kept hdr HI14.out))))
                  have c6 := kept_cell hdr c5
                  have c7 := cell_mapd tE hd.un.obj c6
                  have c8 := cell_mapd tS mE c7
                  have HCX1 : Hid (wX.cell? ⟨O, 0, none⟩ = some (.int .i64 z.peer)) := Lib.hid (cell_mapd tX hwS.obj c8)
                  have HND1 := Lib.hid hd.mine.node
                  have hmin : (if (1099511627776 : Int) < q1.now + 10 then (1099511627776 : Int) else q1.now + 10) = q1.later 10 := by
                    unfold NS.later
                    split <;> omega
                  have hwn : IntKind.i64.wrap (q1.now + 10) = q1.now + 10 := IntWalk.i64_in _ (by omega)
                  have l9 := (cell_spot c6).2
                  have l10 := (cell_spot c7).2
                  have l11 := (cell_spot c8).2
                  clear hS imS hs1 imX hx1 tE tS tX mE hdr hd
                  clear hlook
                  go_region_law (first
                    | (go_simp; go_at_call 19; (with_reducible refine (now_any _ HND1.out).mono ?_); rintro e w16 ⟨rfl, rfl⟩))
                  all_goals
                    clear c6 c7 c8 l9 l10 l11 hE hSr hX hmin hwn
                    go_wp2_with fail
                    go_roundw
                    case rel => exact ⟨i' + 1, dn ++ [(x, z.peer)], by omega, by go_num, HAN, HX1, HBX1, HOX1, HIX1, HCX1⟩
                    case measure => simp [intOf]; omega
              · have HAE : Hid (Asks lr dn ((q2.drop (j + 1)).flatMap kidsOf)) := Lib.hid ⟨by
                  have h1 := HA.out.all
                  rw [List.drop_of_length_le (by omega)] at h1
                  exact h1⟩
                go_wp2_with fail
                go_roundw
                case rel => exact ⟨j + 1, dn, by omega, by go_num, HAE, H14, HB14, HO14⟩
                case measure => simp [intOf]; omega
          · have HAE : Hid (Asks lr dn ((q2.drop (j + 1)).flatMap kidsOf)) := Lib.hid ⟨by
              have h1 := HA.out.all
              rw [HDK.out, HKD.out, if_neg hkd] at h1
              exact h1⟩
            go_wp2_with fail
            go_roundw
            case rel => exact ⟨j + 1, dn, by omega, by go_num, HAE, H13, HB13, HO13⟩
            case measure => simp [intOf]; omega
        · have hdn : dn = lr := by
            have h1 := HA.out.all
            rw [List.drop_of_length_le (by omega)] at h1
            simpa using h1.symm
          subst hdn
          have hfew : dn.length ≤ 32 := HST.out.few
          obtain ⟨of1, hof⟩ : ∃ f, dn.foldl whoStep of = f := ⟨_, rfl⟩
          obtain ⟨un1, hun⟩ : ∃ f, dn.foldl (unStep (q1.later 10)) un = f := ⟨_, rfl⟩
          have HPO : Hid (∀ f' : UInt64 → Option Int, Less un1 f' → (q3 = 0 → y.kind = 2 → ∀ x p, of1 x = some p → (p : Int) = y.peer → f' x = none) →
              (q3 = 0 → y.kind = 3 → ((Ms.ansM y.bytes.data.toList).kind = 4 → ∀ x ∈ (Ms.ansM y.bytes.data.toList).ids, ∀ p, of1 x = some p → (p : Int) = y.peer → f' x = none) ∧ ((Ms.ansM y.bytes.data.toList).kind = 3 → ∀ x, f' x = none)) → FlyInv q1 f' of1) := Lib.hid (by
            have h1 := HST.out.post
            rw [HQ.out, hof, hun] at h1
            exact h1)
          rw [hof, hun] at H11
          obtain ⟨N, hN⟩ : ∃ N, n + dn.length = N := ⟨_, rfl⟩
          have hN1 : N ≤ 32 * (k + 1) := by omega
          rw [hN] at H11
          obtain ⟨z0, z1, z2, z3, z4⟩ := HB11.out
          have lz := (cell_spot z0).2
          obtain ⟨wC, hwC⟩ : ∃ x, x = wr := ⟨_, rfl⟩
          subst hwC
          clear hof hun hN HA HST HF6 HY HBX HND
          by_cases hq3 : q3 = 0
          case' neg =>
            have hqb : (q3 == 0) = false := by simpa using hq3
            obtain ⟨wx, hwx⟩ : ∃ x, x = wC := ⟨_, rfl⟩
            subst hwx
            have HE : Hid (∃ f', FlySt w wx G10 R q1 bU bO f' (asInt of1) N ∧ FlyInv q1 f' of1) := Lib.hid ⟨un1, H11.out, HPO.out un1 (fun _ _ h => h) (fun h => absurd h hq3) (fun h => absurd h hq3)⟩
            go_wp2_with fail
          case' pos =>
            subst hq3
            by_cases hk2' : y.kind = 2
            case' pos =>
              have HK2 := Lib.hid hk2'
              have hkb : (y.kind == 2) = true := by rw [hk2']; rfl
              have hkb3 : (y.kind == 3) = false := by rw [hk2']; rfl
              clear hk2'
              obtain ⟨DD, ⟨nn, hown⟩, hat, hhas⟩ := H11.out.who.map
              have HHAS := Lib.hid hhas
              have HHAT := Lib.hid hat
              obtain ⟨rr, hrr⟩ : ∃ r, wC.heap.size = r := ⟨_, rfl⟩
              clear hat hhas
              go_wp2_with (first
                | (at_range; refine wpList_range_own _ rfl _ 42 rfl 22 3 u64_keyed Tryz.underlying42 _ bO nn DD rfl hown ?_; intro w0 hrg0 hg0 hs0)
                | go_in)
              try go_frame
              have hb0 : Below wC.heap.size wC w0 := grown_below hg0
              have hDr : D ≠ rr := by have := HB11.out.lt; omega
              have hr0 : rr < w0.heap.size := by omega
              have HR0 : Hid (FlyR w w0 G10 R q1 bU bO rr un1 (asInt of1) (Maps.has DD) (Maps.size DD) N) := Lib.hid (by
                have h1 := H11.out.kept hb0
                refine ⟨h1.mine, h1.un, ⟨DD, ⟨nn, by rw [← hrr]; exact hrg0⟩, HHAT.out, HHAS.out⟩, h1.who.keys, h1.ne, h1.nF, h1.up, ?_, ?_, ?_⟩
                · have := H11.out.un.lt; omega
                · intro hf
                  have := H11.out.mine.node.there _ hf
                  omega
                · have := H11.out.mine.below.size; omega)
              have HB0 := Lib.hid (HB11.out.kept hb0)
              have HP0 : Hid (∀ x : UInt64, asInt of1 x = some y.peer → Maps.has DD (.int .u64 x.toNat) = true ∨ un1 x = none) := Lib.hid fun x hx => .inl (by
                rw [HHAS.out x, intV_is, hx]
                rfl)
              try rw [hrr]
              clear hrg0 hg0 hs0 hown hb0 z0 z1 z2 z3 z4 lz hrr
              go_loopw [] (fun wr => ∃ (f' : UInt64 → Option Int) (left : Lit → Bool) (cnt : Nat), Hid (FlyR w wr G10 R q1 bU bO rr f' (asInt of1) left cnt N) ∧ Hid (ActF wr D y) ∧ Hid (Less un1 f') ∧ Hid (∀ x : UInt64, asInt of1 x = some y.peer → left (.int .u64 x.toNat) = true ∨ f' x = none) ∧ rr < wr.heap.size) (fun wr => wr.rangeLeft bO rr)
              case atStart => exact ⟨un1, _, _, HR0, HB0, Lib.hid (fun _ _ h => h), HP0, hr0⟩
              case' round =>
                obtain ⟨f', left, cnt, HT, HB, HL, HP, hrl⟩ := hrel
                have hm := HT.out.who
                go_wp2_with (first
                  | (at_next; refine Ho.next_tmap _ rfl _ rfl rfl bO rr left cnt (intV (asInt of1)) rfl hm ?_ ?_)
                  | go_in)
                rotate_left
                · intro x v w2 cnt' hlx hvx hm2 hlt hg2 hs2 hen
                  obtain ⟨p, hp, rfl⟩ : ∃ p : Int, asInt of1 x = some p ∧ v = .int .i64 p := by
                    unfold intV at hvx
                    obtain ⟨p, h1, h2⟩ := Option.map_eq_some_iff.1 hvx
                    exact ⟨p, h1, h2.symm⟩
                  have hT2 := HT.out.next hm2 hg2
                  have HT2 := Lib.hid hT2
                  have HB2 := Lib.hid (HB.out.grown hg2 hDr)
                  obtain ⟨z0, z1, z2, z3, z4⟩ := HB2.out
                  have lz := (cell_spot z0).2
                  have hleft : wr.rangeLeft bO rr = cnt := Ho.tmap_left hm
                  have HLF := Lib.hid hleft
                  have hr2 : rr < w2.heap.size := by omega
                  have HPX := Lib.hid hp
                  by_cases hpp : p = y.peer
                  · subst hpp
                    obtain ⟨w3, hdel, hm3, ht3⟩ := hT2.un.delete x
                    have hT3 := hT2.del hr2 ht3 hm3
                    have HT3 := Lib.hid hT3
                    have HB3 := Lib.hid (HB2.out.mapd ht3 hT2.un.obj)
                    have HL3 := Lib.hid (HL.out.del x)
                    have HP3 : Hid (∀ z : UInt64, asInt of1 z = some y.peer → (left (.int .u64 z.toNat) && !(Lit.int .u64 z.toNat).sameKey (.int .u64 x.toNat)) = true ∨ (if z = x then none else f' z) = none) := Lib.hid fun z hz => by
                      by_cases e : z = x
                      · exact .inr (if_pos e)
                      · rw [if_neg e, same_lit, beq_eq_false_iff_ne.2 e]
                        rcases HP.out z hz with h1 | h1
                        · exact .inl (by rw [h1]; rfl)
                        · exact .inr h1
                    have hr3 : rr < w3.heap.size := Nat.lt_of_lt_of_le hr2 ht3.size
                    have HLF3 : Hid (w3.rangeLeft bO rr = cnt') := Lib.hid (Ho.tmap_left hT3.who)
                    clear hT2 hT3 hm hm2 hm3 ht3 hleft hp hvx hg2
                    go_wp2_with fail
                    go_roundw
                    case rel => exact ⟨_, _, _, HT3, HB3, HL3, HP3, hr3⟩
                    case measure => rw [HLF3.out, HLF.out]; omega
                  · have HP3 : Hid (∀ z : UInt64, asInt of1 z = some y.peer → (left (.int .u64 z.toNat) && !(Lit.int .u64 z.toNat).sameKey (.int .u64 x.toNat)) = true ∨ f' z = none) := Lib.hid fun z hz => by
                      have e : z ≠ x := fun e => hpp (by
                        rw [e, HPX.out] at hz
                        exact Option.some.inj hz)
                      rw [same_lit, beq_eq_false_iff_ne.2 e]
                      rcases HP.out z hz with h1 | h1
                      · exact .inl (by rw [h1]; rfl)
                      · exact .inr h1
                    have HLF3 : Hid (w2.rangeLeft bO rr = cnt') := Lib.hid (Ho.tmap_left hT2.who)
                    clear hT2 hm hm2 hleft hp hvx hg2
                    go_wp2_with fail
                    go_roundw
                    case rel => exact ⟨_, _, _, HT2, HB2, HL, HP3, hr2⟩
                    case measure => rw [HLF3.out, HLF.out]; omega
                intro hc0 hl0
                have HE : Hid (∃ f', FlySt w wr G10 R q1 bU bO f' (asInt of1) N ∧ FlyInv q1 f' of1) := Lib.hid ⟨f', HT.out.ended, HPO.out f' HL.out (fun _ _ x p hx hp => by
                  rcases HP.out x ((asInt_of hx).trans (congrArg some hp)) with h1 | h1
                  · rw [hl0] at h1; cases h1
                  · exact h1) (fun _ h3 => by have := HK2.out; omega)⟩
                obtain ⟨z0, z1, z2, z3, z4⟩ := HB.out
                have lz := (cell_spot z0).2
                obtain ⟨wx, hwx⟩ : ∃ x, x = wr := ⟨_, rfl⟩
                subst hwx
                clear hm hc0 hl0
                go_wp2_with fail
            case' neg =>
              by_cases hk3' : y.kind = 3
              case' neg =>
                have hkb : (y.kind == 2) = false := by simpa using hk2'
                have hkb3 : (y.kind == 3) = false := by simpa using hk3'
                obtain ⟨wx, hwx⟩ : ∃ x, x = wC := ⟨_, rfl⟩
                subst hwx
                have HE : Hid (∃ f', FlySt w wx G10 R q1 bU bO f' (asInt of1) N ∧ FlyInv q1 f' of1) := Lib.hid ⟨un1, H11.out, HPO.out un1 (fun _ _ h => h) (fun _ h => absurd h hk2') (fun _ h => absurd h hk3')⟩
                go_wp2_with fail
              case' pos =>
                have HK3 := Lib.hid hk3'
                have hkb : (y.kind == 2) = false := by rw [hk3']; rfl
                have hkb3 : (y.kind == 3) = true := by rw [hk3']; rfl
                clear hk3' hk2'
                obtain ⟨r, hr⟩ : ∃ r, Ms.errM y.bytes.data.toList = r := ⟨_, rfl⟩
                obtain ⟨kd, ids, body, hm⟩ : ∃ kd ids body, Ms.ansM y.bytes.data.toList = ⟨kd, ids, body⟩ := ⟨_, _, _, rfl⟩
                have hid20 : ids.length ≤ 20 := by
                  have h1 : (Ms.ansM y.bytes.data.toList).ids.length ≤ 20 := by
                    by_cases he : Ms.errM y.bytes.data.toList = 0
                    · exact ans_few he
                    · unfold Ms.ansM
                      rw [if_neg he]
                      exact Nat.zero_le _
                  rw [hm] at h1
                  exact h1
                have HR := Lib.hid hr
                have HM := Lib.hid hm
                clear hr hm
                go_wp2_with fail
                with_reducible refine (Ms.mdecode_all y.bytes r _ _ HSS.out HR.out HM.out).mono ?_
                rintro e w13 ⟨a13, c13, rfl, _, hi13, _, hb13⟩
                obtain ⟨Mb, hMb⟩ : ∃ M, w13.heap.size = M := ⟨_, rfl⟩
                obtain ⟨wm, hwm⟩ : ∃ wm, w13.alloc (.cells #[.int .i64 kd, .slice a13 ids.length c13, .string body] 38) = wm := ⟨_, rfl⟩
                have hbm : Below w13.heap.size w13 wm := hwm ▸ kept_new _ _
                obtain ⟨m0, m1, m2⟩ : MsgBox wm Mb a13 c13 ⟨kd, ids, body⟩ := hMb ▸ hwm ▸ box_msg w13 a13 c13 ⟨kd, ids, body⟩
                simp only at m0 m1 m2
                have lm := (cell_spot m0).2
                have hbb := kept_trans hb13 hbm
                have H13 := Lib.hid (H11.out.kept hbb)
                have HB13 := Lib.hid (HB11.out.kept hbb)
                have HI13 := Lib.hid (idsAt_kept hbm hi13)
                have HC13 := Lib.hid m0
                clear hb13 hbm hbb hi13 z0 z1 z2 z3 z4 lz
                go_wp2_with fail
                go_loopw [135] (fun i wr => ∃ (i' : Nat) (f' : UInt64 → Option Int), i' ≤ ids.length ∧ i = .int .i64 i' ∧ Hid (FlySt w wr G10 R q1 bU bO f' (asInt of1) N) ∧ Hid (Less un1 f') ∧ Hid (kd = 4 → ∀ x ∈ ids.take i', asInt of1 x = some y.peer → f' x = none) ∧ Hid (ActF wr D y) ∧ Hid (IdsAt wr a13 ids) ∧ Hid (wr.cell? ⟨Mb, 0, none⟩ = some (.int .i64 kd))) (fun i _ => ids.length - (intOf i).toNat)
                case atStart => exact ⟨0, un1, Nat.zero_le _, rfl, H13, Lib.hid (fun _ _ h => h), Lib.hid (fun _ x hx => by cases hx), HB13, HI13, HC13⟩
                case' round =>
                  obtain ⟨i', f', hi', rfl, H14, HL, HP, HB14, HI14, HC14⟩ := hrel
                  have m0 := HC14.out
                  have lm := (cell_spot m0).2
                  by_cases hil : i' < ids.length
                  case pos =>
                    obtain ⟨b2, o2, rfl, hb2, c0⟩ := HI14.out i' hil
                    obtain ⟨x, hx⟩ : ∃ x, ids[i'] = x := ⟨_, rfl⟩
                    have htk : ids.take (i' + 1) = ids.take i' ++ [x] := by rw [List.take_succ_eq_append_getElem hil, hx]
                    rw [hx] at c0
                    have l7 := (cell_spot c0).2
                    have hlook := H14.out.who.look x
                    obtain ⟨p, hp⟩ : ∃ p, (asInt of1 x).getD 0 = p := ⟨_, rfl⟩
                    rw [hp] at hlook
                    have HPX := Lib.hid hp
                    have HTK := Lib.hid htk
                    obtain ⟨z0, z1, z2, z3, z4⟩ := HB14.out
                    have lz := (cell_spot z0).2
                    clear hx htk hp
                    by_cases hk4 : kd = 4
                    · subst hk4
                      by_cases hpp : p = y.peer
                      · subst hpp
                        obtain ⟨w3, hdel, hm3, ht3⟩ := H14.out.un.delete x
                        have HT3 := Lib.hid (H14.out.ofUn ht3 hm3 (Nat.le_refl _))
                        have HB3 := Lib.hid (HB14.out.mapd ht3 H14.out.un.obj)
                        have HI3 := Lib.hid (ids_mapd ht3 H14.out.un.obj HI14.out)
                        have HC3 := Lib.hid (cell_mapd ht3 H14.out.un.obj HC14.out)
                        have HL3 := Lib.hid (HL.out.del x)
                        have HP3 : Hid ((4 : Int) = 4 → ∀ z ∈ ids.take (i' + 1), asInt of1 z = some y.peer → (if z = x then none else f' z) = none) := Lib.hid fun _ z hz hzp => by
                          by_cases e : z = x
                          · exact if_pos e
                          · rw [if_neg e]
                            rw [HTK.out] at hz
                            rcases List.mem_append.1 hz with h1 | h1
                            · exact HP.out rfl z h1 hzp
                            · exact absurd (List.mem_singleton.1 h1) e
                        clear hm3 ht3
                        go_wp2_with fail
                        go_roundw
                        case rel => exact ⟨i' + 1, _, by omega, by go_num, HT3, HL3, Lib.hid (fun _ => HP3.out rfl), HB3, HI3, HC3⟩
                        case measure => simp [intOf]; omega
                      · have HP3 : Hid ((4 : Int) = 4 → ∀ z ∈ ids.take (i' + 1), asInt of1 z = some y.peer → f' z = none) := Lib.hid fun _ z hz hzp => by
                          rw [HTK.out] at hz
                          rcases List.mem_append.1 hz with h1 | h1
                          · exact HP.out rfl z h1 hzp
                          · rw [List.mem_singleton.1 h1] at hzp
                            have := HPX.out
                            rw [hzp] at this
                            exact absurd this.symm hpp
                        have hpb : (p == y.peer) = false := by simpa using hpp
                        go_wp2_with fail
                        go_roundw
                        case rel => exact ⟨i' + 1, f', by omega, by go_num, H14, HL, Lib.hid (fun _ => HP3.out rfl), HB14, HI14, HC14⟩
                        case measure => simp [intOf]; omega
                    · have hkb4 : (kd == 4) = false := by simpa using hk4
                      have HP3 : Hid (kd = 4 → ∀ z ∈ ids.take (i' + 1), asInt of1 z = some y.peer → f' z = none) := Lib.hid fun h => absurd h hk4
                      go_wp2_with fail
                      go_roundw
                      case rel => exact ⟨i' + 1, f', by omega, by go_num, H14, HL, HP3, HB14, HI14, HC14⟩
                      case measure => simp [intOf]; omega
                  case' neg =>
                    by_cases hk3 : kd = 3
                    case' pos =>
                      subst hk3
                      obtain ⟨wx, hcl, hm3, ht3⟩ := H14.out.un.clear
                      have HE : Hid (∃ f', FlySt w wx G10 R q1 bU bO f' (asInt of1) N ∧ FlyInv q1 f' of1) := Lib.hid ⟨_, H14.out.ofUn ht3 hm3 (Nat.le_refl _), HPO.out _ (fun _ _ h => by cases h) (fun _ h2 => by have := HK3.out; omega) (fun _ _ => ⟨fun _ _ _ _ _ _ => rfl, fun _ _ => rfl⟩)⟩
                      clear hm3 ht3
                      go_wp2_with fail
                    case' neg =>
                      have hkb3' : (kd == 3) = false := by simpa using hk3
                      have HE : Hid (∃ f', FlySt w wr G10 R q1 bU bO f' (asInt of1) N ∧ FlyInv q1 f' of1) := Lib.hid ⟨f', H14.out, HPO.out f' HL.out (fun _ h2 => by have := HK3.out; omega) (fun _ _ => by
                        rw [HM.out]
                        refine ⟨fun h4 x hx p hp hpp => ?_, fun h3 => absurd h3 hk3⟩
                        have h1 := HP.out h4
                        rw [List.take_of_length_le (by omega)] at h1
                        exact h1 x hx ((asInt_of hp).trans (congrArg some hpp)))⟩
                      obtain ⟨wx, hwx⟩ : ∃ x, x = wr := ⟨_, rfl⟩
                      subst hwx
                      go_wp2_with fail
          all_goals
            obtain ⟨f9, hst9, hfi9⟩ := HE.out
            have H20 := Lib.hid hst9
            have HF20 := Lib.hid hfi9
            clear hst9 hfi9
            go_loopw [157] (fun i wr => ∃ p : Nat, p ≤ 8 ∧ i = .int .i64 p ∧ Hid (FlySt w wr G10 R q1 bU bO f9 (asInt of1) N)) (fun i _ => 8 - (intOf i).toNat)
            case atStart => exact ⟨0, by omega, rfl, H20⟩
            case round =>
              obtain ⟨p, hp, rfl, H21⟩ := hrel
              by_cases hp8 : p < 8
              · obtain ⟨ca, hca⟩ : ∃ m : Nat, (q1.T.filter fun e => e.peer == p).length = m := ⟨_, rfl⟩
                obtain ⟨fa, hfa⟩ : ∃ m : Nat, (q1.T.filter fun e => e.peer == p && e.st == 2).length = m := ⟨_, rfl⟩
                have hf4 : fa ≤ 4 := by
                  have h1 := HNN.out.fly p hp8
                  unfold flies at h1
                  omega
                have HCN : Hid ((if Tr.goodP (p : Int) then (((q1.T.filter fun e => e.peer == (p : Int).toNat).length : Int), ((q1.T.filter fun e => e.peer == (p : Int).toNat && e.st == 2).length : Int), (0 : Int)) else (0, 0, 1)) = ((ca : Int), (fa : Int), 0)) := Lib.hid (by
                  rw [if_pos ⟨by omega, by omega⟩, Int.toNat_natCast, hca, hfa])
                clear hca hfa
                go_wp2_with fail
                with_reducible refine (countsN_any p ca fa 0 HCN.out _ H21.out.mine.node).mono ?_
                rintro e w22 ⟨rfl, hb22⟩
                have H22 := Lib.hid (H21.out.kept hb22)
                clear hb22
                go_wp2_with fail
                go_roundw
                case rel => exact ⟨p + 1, by omega, by go_num, H22⟩
                case measure => simp [intOf]; omega
              · go_wp2_with fail
                go_roundw
                case rel => exact ⟨k + 1, N, G10, q1, f9, of1, by omega, by omega, by go_num, H21, HNN, HF20⟩
                case measure => simp [intOf]; omega
    · have HM := Lib.hid H6.out.mine.below
      go_wp2_with fail
      go_ret
      exact ⟨rfl, HM.out⟩
end Go.Proofs.YtaaaplbjeknbkaaGreat
