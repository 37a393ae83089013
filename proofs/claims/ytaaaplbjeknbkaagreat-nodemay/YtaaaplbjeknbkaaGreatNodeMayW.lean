/-
  NodeMay: the walk.
-/
import Derived.Test.YtaaaplbjeknbkaaGreatJ32
import Derived.Test.YtaaaplbjeknbkaaGreatDeedMapW
set_option maxRecDepth 20000
namespace Go.Proofs.YtaaaplbjeknbkaaGreat
open Go.RowKit Go.Maps

variable {w w' w0 : World} {F F' G : Nat → Prop} {R B D k n : Nat} {s u : NS} {ev : UInt64 → Option Value} {M : UInt64 → Option DeedD} {y : ActD}

/-- The IDs that came ahead: a map of the law's own. -/
abbrev Heads (w : World) (b n : Nat) (ks : List UInt64) : Prop := SetIs Tryz.prog 22 4 (fun _ : UInt64 => True) (fun x => .int .u64 x.toNat) w b n ks
theorem heads_same {b n : Nat} {ks : List UInt64} (h : Heads w b n ks) (e : w'.heap[b]? = w.heap[b]?) : Heads w' b n ks := by
  obtain ⟨D, ⟨es, clock, hb, r⟩, r2⟩ := h
  exact ⟨D, ⟨es, clock, e.trans hb, r⟩, r2⟩
theorem heads_at {b n : Nat} {ks : List UInt64} (h : Heads w b n ks) : ∃ es clock, w.heap[b]? = some (.map es clock) := by
  obtain ⟨D, ⟨es, clock, hb, _⟩, _⟩ := h
  exact ⟨es, clock, hb⟩
theorem zero_bool' (w : World) : (zeroValue 4).run Tryz.prog w = .ok (.bool false) w := by kernel_rfl
theorem heads_look {b n : Nat} {ks : List UInt64} (h : Heads w b n ks) (x : UInt64) : (Instr.lookup 58 (.map (some b)) (.int .u64 x.toNat) false).run Tryz.prog w = .ok (.bool (ks.contains x)) w :=
  set_look h u64_keyed Tryz.underlying58 Tryz.underlying4 (zero_bool' w) trivial (u64_key x)
theorem heads_put {b n : Nat} {ks : List UInt64} (h : Heads w b n ks) (hn : n ≤ 1000000000000000) (x : UInt64) :
    ∃ w', (Instr.mapUpdate 58 (.map (some b)) (.int .u64 x.toNat) (.bool true)).run Tryz.prog w = .ok () w' ∧ Heads w' b (n + 1) (ks ++ [x]) ∧ w.grownBy w' (some b) :=
  set_put h u64_keyed Tryz.underlying58 Tryz.underlying4 (by unfold maxLen; omega) trivial (u64_key x) (fun y _ e => u64_inj (by simpa using e))
/-- The node, the deeds, the Ins that are spent, the IDs that came ahead, a slice of IDs. -/
structure MaySt (w0 w : World) (F : Nat → Prop) (R : Nat) (u : NS) (B : Nat) (ev : UInt64 → Option Value) (M : UInt64 → Option DeedD) (n bS bA nS nA : Nat) (sp : List InD) (ah : List UInt64) (ia : Option Addr) (ids : List UInt64) : Prop where
  nd : NodeDs w0 w F R u B ev M n
  s : Seen w bS nS sp
  h : Heads w bA nA ah
  ne : bS ≠ bA
  nB : bS ≠ B ∧ bA ≠ B
  nF : ¬ F bS ∧ ¬ F bA
  up : w0.heap.size ≤ bS ∧ w0.heap.size ≤ bA
  ids : IdsAt w ia ids
variable {bS bA nS nA : Nat} {sp : List InD} {ah ids : List UInt64} {ia : Option Addr}
theorem MaySt.kept (h : MaySt w0 w F R u B ev M n bS bA nS nA sp ah ia ids) (hb : Below w.heap.size w w') : MaySt w0 w' F R u B ev M n bS bA nS nA sp ah ia ids := by
  obtain ⟨_, _, h1⟩ := Ju.seen_at h.s
  obtain ⟨_, _, h2⟩ := heads_at h.h
  exact ⟨h.nd.kept hb, Ju.seen_same h.s (hb.block _ (Array.getElem?_eq_some_iff.1 h1).1), heads_same h.h (hb.block _ (Array.getElem?_eq_some_iff.1 h2).1), h.ne, h.nB, h.nF, h.up, idsAt_kept hb h.ids⟩
theorem MaySt.spend (h : MaySt w0 w F R u B ev M n bS bA nS nA sp ah ia ids) (x : InD) (hx : inOk x) (hn : nS ≤ 1000000000000000) :
    ∃ w', (Instr.mapUpdate 57 (.map (some bS)) (.agg #[.int .u64 x.1.toNat, .int .i64 x.2]) (.bool true)).run Tryz.prog w = .ok () w' ∧ MaySt w0 w' F R u B ev M n bS bA (nS + 1) nA (sp ++ [x]) ah ia ids ∧ Turn (fun k => k = bS) (fun k => k = bS) w w' := by
  obtain ⟨w', h1, h2, h3⟩ := Ju.seen_put h.s x hx hn
  obtain ⟨_, _, h5⟩ := heads_at h.h
  exact ⟨w', h1, ⟨h.nd.mapped h3 (Ju.seen_at h.s) h.nB.1 h.nF.1 h.up.1, h2, heads_same h.h (h3.block _ (Array.getElem?_eq_some_iff.1 h5).1 (fun e => h.ne e.symm)), h.ne, h.nB, h.nF, h.up, ids_mapped h3 (Ju.seen_at h.s) h.ids⟩, h3⟩
theorem MaySt.head (h : MaySt w0 w F R u B ev M n bS bA nS nA sp ah ia ids) (x : UInt64) (hn : nA ≤ 1000000000000000) :
    ∃ w', (Instr.mapUpdate 58 (.map (some bA)) (.int .u64 x.toNat) (.bool true)).run Tryz.prog w = .ok () w' ∧ MaySt w0 w' F R u B ev M n bS bA nS (nA + 1) sp (ah ++ [x]) ia ids := by
  obtain ⟨w', h1, h2, h3⟩ := heads_put h.h hn x
  have ht : Turn (fun k => k = bA) (fun k => k = bA) w w' := Turn.of_grown h3 (fun k hk => by cases hk; rfl)
  obtain ⟨_, _, h5⟩ := Ju.seen_at h.s
  exact ⟨w', h1, ⟨h.nd.mapped ht (heads_at h.h) h.nB.2 h.nF.2 h.up.2, Ju.seen_same h.s (ht.block _ (Array.getElem?_eq_some_iff.1 h5).1 h.ne), h2, h.ne, h.nB, h.nF, h.up, ids_mapped ht (heads_at h.h) h.ids⟩⟩
theorem take_lacks {m : List InD} (h : m.Nodup) {k : Nat} (hk : k < m.length) : (m.take k).contains m[k] = false := by
  rw [← Bool.not_eq_true, List.contains_iff_mem]
  intro hm
  obtain ⟨j, hj, e⟩ := List.mem_take_iff_getElem.1 hm
  exact (List.pairwise_iff_getElem.1 h) j k (by omega) hk (by omega) e
theorem take_lacksU {m : List UInt64} (h : m.Nodup) {k : Nat} (hk : k < m.length) : (m.take k).contains m[k] = false := by
  rw [← Bool.not_eq_true, List.contains_iff_mem]
  intro hm
  obtain ⟨j, hj, e⟩ := List.mem_take_iff_getElem.1 hm
  exact (List.pairwise_iff_getElem.1 h) j k (by omega) hk (by omega) e
theorem ins_once {d : DeedD} (h : checkD d = 0) : d.ins.Nodup := by
  have := (check_ok h).2.2.1
  unfold dupB at this
  simpa using this
theorem contains_two {a b : List InD} {x : InD} (h1 : a.contains x = false) (h2 : b.contains x = false) : (a ++ b).contains x = false := by
  rw [← Bool.not_eq_true, List.contains_iff_mem] at h1 h2 ⊢
  intro h
  exact (List.mem_append.1 h).elim h1 h2
/-- What is so of one In of an accepted deed. -/
theorem Sound.in_ok {P : List Ho.LinkD} {A : List DeedD} (h : Sound M A P []) {j : Nat} (hj : j < A.length) {i : Nat} (hi : i < A[j].ins.length) : ∃ p, M A[j].ins[i].1 = some p ∧ A[j].ins[i].2 < p.outs ∧ ((A.take j).map Ju.idD).contains A[j].ins[i].1 = true ∧ (Ju.insL (A.take j) ++ A[j].ins.take i).contains A[j].ins[i] = false := by
  obtain ⟨q1, q2, q3⟩ := h.pays j hj _ (List.getElem_mem hi)
  obtain ⟨p, hp⟩ := Option.isSome_iff_exists.1 q1
  obtain ⟨hpm, hpi⟩ := Ju.findL_mem hp
  rw [hp, Option.getD_some] at q2
  refine ⟨p, hpi ▸ h.a p (List.mem_of_mem_take hpm), q2, ?_, contains_two q3 (take_lacks (ins_once (h.fine _ (List.getElem_mem hj))) hi)⟩
  rw [List.contains_iff_mem]
  exact List.mem_map.2 ⟨p, hpm, hpi⟩
theorem insL_take {A : List DeedD} {j : Nat} (h : j < A.length) : Ju.insL (A.take (j + 1)) = Ju.insL (A.take j) ++ A[j].ins := by rw [List.take_succ_eq_append_getElem h, Ju.insL_snoc]
/-- What waits lacks something. -/
theorem Sound.waits {P : List Ho.LinkD} {A : List DeedD} (h : Sound M A P []) {l : Ho.LinkD} (hl : l ∈ P) : l.d.ins.any (fun e => !((A.map Ju.idD).contains e.1)) = true := by
  rcases h.lost l hl with h1 | h1
  · cases h1
  · obtain ⟨e, he, hf⟩ := miss_ex.1 h1
    rw [List.any_eq_true]
    refine ⟨e, he, ?_⟩
    rw [Bool.not_eq_true', ← Bool.not_eq_true, List.contains_iff_mem]
    intro hm
    obtain ⟨d, hd, hx⟩ := List.mem_map.1 hm
    exact Ju.findL_none.1 hf d hd hx
theorem Sound.apart {P : List Ho.LinkD} {A : List DeedD} (h : Sound M A P []) {d : DeedD} (hd : d ∈ A) : (Ho.allL P).contains (Ju.idD d) = false := by
  rw [← Bool.not_eq_true, List.contains_iff_mem]
  intro hm
  obtain ⟨l, hl, e⟩ := Ho.allL_mem.1 hm
  exact Ju.findL_none.1 (h.p l hl).2.2.2 d hd e.symm
theorem hasID_is (l : List UInt64) (n : Nat) (hn : l.length = n) (x : UInt64) (r : Bool) (HR : Hid (l.contains x = r)) (a : Option Addr) (cap : Nat) (w : World) (hl : l.length ≤ maxLen) (hi : IdsAt w a l) : Calls Tryz.prog 25 #[.slice a n cap, .int .u64 x.toNat] w fun e w' => e = .returned (.bool r) ∧ w = w' := by
  subst hn
  exact hasID_any l x r HR a cap w hl hi
theorem accepted_by (L : List UInt64) (n : Nat) (hL : s.A.map Ju.idD = L) (hn : L.length = n) (hl : n ≤ 10000000000000) (w : World) (h : NodeAt w F R s) : Calls Tryz.prog 24 #[.pointer (some ⟨R, 0, none⟩)] w fun e w' => ∃ a c, e = .returned (.slice a n c) ∧ IdsAt w' a L ∧ Below w.heap.size w w' := by
  have h1 : s.A.length = n := by rw [← hn, ← hL, List.length_map]
  refine (accepted_any (by omega) w h).mono ?_
  rintro e w' ⟨a, c, rfl, ho, hb⟩
  obtain ⟨a', c', e', _, hat, _⟩ := owns_idsAt ho
  simp only [Value.slice.injEq, true_and] at e'
  obtain ⟨rfl, rfl⟩ := e'
  refine ⟨a, c, ?_, hL ▸ hat, hb⟩
  rw [hL, hn]
theorem orphans_by (L : List UInt64) (n : Nat) (hL : Ho.allL s.P = L) (hn : L.length = n) (w : World) (h : NodeAt w F R s) : Calls Tryz.prog 26 #[.pointer (some ⟨R, 0, none⟩)] w fun e w' => ∃ a c, e = .returned (.slice a n c) ∧ IdsAt w' a L ∧ Below w.heap.size w w' := by
  refine (orphans_any w h).mono ?_
  rintro e w' ⟨a, c, rfl, ho, hb⟩
  obtain ⟨a', c', e', _, hat, _⟩ := owns_idsAt ho
  simp only [Value.slice.injEq, true_and] at e'
  obtain ⟨rfl, rfl⟩ := e'
  refine ⟨a, c, ?_, hL ▸ hat, hb⟩
  rw [hL, hn]
theorem field_outs (a b c : Value) (o : Int) (w : World) : (Instr.field 50 (.agg #[a, .int .i64 o, b, c]) 1).run Tryz.prog w = .ok (.int .i64 o) w := by kernel_rfl
def waitB (xs : List UInt64) (l : List InD) : Bool := l.any fun e => !(xs.contains e.1)
theorem waitB_step {xs : List UInt64} {l : List InD} {i : Nat} (h : i < l.length) : waitB xs (l.take (i + 1)) = (waitB xs (l.take i) || !(xs.contains l[i].1)) := by
  unfold waitB
  rw [List.take_succ_eq_append_getElem h, List.any_append]
  simp
theorem MaySt.other (h : MaySt w0 w F R u B ev M n bS bA nS nA sp ah ia ids) {ib : Option Addr} {l : List UInt64} (hi : IdsAt w ib l) : MaySt w0 w F R u B ev M n bS bA nS nA sp ah ib l := ⟨h.nd, h.s, h.h, h.ne, h.nB, h.nF, h.up, hi⟩
set_option maxRecDepth 20000 in
set_option maxHeartbeats 8000000 in
theorem nodeMay_walk (salt : UInt64) (l : List ActD) (a : Option Addr) (cap : Nat) (hl : l.length ≤ 2932031007402) (w : World) (hi : ActsAt w a l) : Calls Tryz.prog 5 #[.int .u64 salt.toNat, .slice a l.length cap] w fun e w' => e = .returned (.bool true) ∧ Below w.heap.size w w' := by
  have hmm := @run_makeMap Tryz.prog
  have HI := Lib.hid hi
  have hml : maxLen = 9223372036854775807 := rfl
  clear hi
  go_enter Tryz.func5, Tryz.ntmps5
  go_wp2_with fail
  with_reducible refine (met_any _).mono ?_
  rintro e w1 ⟨rfl, hb1⟩
  have HB1 := Lib.hid hb1
  clear hb1
  go_wp2_with fail
  with_reducible refine (mine_new salt _ HB1.out).mono ?_
  rintro e w2 ⟨R, F, rfl, h2, _, _⟩
  obtain ⟨B, hB⟩ : ∃ B, w2.heap.size = B := ⟨_, rfl⟩
  obtain ⟨wm, hwm⟩ : ∃ wm, w2.alloc (.map #[] 0) = wm := ⟨_, rfl⟩
  have H3 : Hid (NodeDs w wm F R (NS.new salt) B (fun _ => none) (fun _ => none) 0) := Lib.hid ⟨hwm ▸ h2.kept (kept_new w2 _), hB ▸ hwm ▸ DMap.new w2 h2.node.there, hB ▸ h2.below.size⟩
  have HS3 : Hid (Sound (fun _ => none) (NS.new salt).A (NS.new salt).P []) := Lib.hid sound_none
  clear h2
  go_wp2_with fail
  go_loopw [41] (fun i wr => ∃ (k : Nat) (G : Nat → Prop) (u : NS) (ev : UInt64 → Option Value) (M : UInt64 → Option DeedD), k ≤ l.length ∧ i = .int .i64 k ∧ Hid (NodeDs w wr G R u B ev M k) ∧ Hid (NInv k u) ∧ Hid (Sound M u.A u.P [])) (fun i _ => l.length - (intOf i).toNat)
  case atStart => exact ⟨0, F, NS.new salt, _, _, Nat.zero_le _, rfl, H3, Lib.hid (inv_new salt), HS3⟩
  case round =>
    obtain ⟨k, G, u, ev, M, hk, rfl, H6, HN6, HS6⟩ := hrel
    clear hB hwm
    by_cases hkl : k < l.length
    · obtain ⟨⟨g, o, rfl, hg, c0⟩, hs⟩ := HI.out k hkl
      obtain ⟨y, hy⟩ : ∃ y, l[k] = y := ⟨_, rfl⟩
      rw [hy] at c0 hs
      obtain ⟨c0, c1, c2, c3, c4⟩ := c0
      have k0 := cell_later H6.out.mine.below c0
      have k1 := cell_later H6.out.mine.below c1
      have k2 := cell_later H6.out.mine.below c2
      have k3 := cell_later H6.out.mine.below c3
      have k4 := cell_later H6.out.mine.below c4
      have l5 := (cell_spot k0).2
      obtain ⟨D, hD⟩ : ∃ D, wr.heap.size = D := ⟨_, rfl⟩
      obtain ⟨wy, hwy⟩ : ∃ wy, wr.alloc (.cells #[.int .i64 y.kind, .int .i64 y.peer, .int .i64 y.n, .bool y.flag, .string y.bytes] 29) = wy := ⟨_, rfl⟩
      have hby : Below wr.heap.size wr wy := hwy ▸ kept_new _ _
      obtain ⟨y0, y1, y2, y3, y4⟩ := box_act wr y
      rw [hwy, hD] at y0 y1 y2 y3 y4
      have HY := Lib.hid (H6.out.kept hby)
      have HBX : Hid (ActB wy D y) := Lib.hid ⟨y0, y1, y2, y3, y4⟩
      have hly := (cell_spot y0).2
      have HNN : Hid (NInv (k + 1) (u.did y).1) := Lib.hid (did_inv HN6.out H6.out.mine.node.good.T y)
      have HDS : Hid (∀ M' : UInt64 → Option DeedD, Sound M' u.A u.P [] → (∀ d, broughtB y.bytes = some d → M' (Ju.idD d) = some d) → Sound M' (u.did y).1.A (u.did y).1.P []) := Lib.hid fun M' h1 h2 => did_sound h1 HN6.out.fly H6.out.mine.node.good.T y h2
      have hk2 : k ≤ 2950000000000 := by omega
      obtain ⟨q1, q2, q3, hq⟩ : ∃ q1 q2 q3, u.did y = (q1, q2, q3) := ⟨_, _, _, rfl⟩
      have HQ := Lib.hid hq
      rw [hq] at HNN HDS
      have HSS := Lib.hid hs
      obtain ⟨r, hr⟩ : ∃ r, Ms.errM y.bytes.data.toList = r := ⟨_, rfl⟩
      obtain ⟨kd, ids, body, hm⟩ : ∃ kd ids body, Ms.ansM y.bytes.data.toList = ⟨kd, ids, body⟩ := ⟨_, _, _, rfl⟩
      have HR := Lib.hid hr
      have HM := Lib.hid hm
      clear hy c0 c1 c2 c3 c4 hby hq y0 y1 y2 y3 hs hr hm
      go_wp2_with fail
      with_reducible refine (Ms.mdecode_all y.bytes r _ _ HSS.out HR.out HM.out).mono ?_
      rintro e w7 ⟨a7, c7, rfl, _, _, _, hb7⟩
      obtain ⟨wz, hwz⟩ : ∃ wz, w7.alloc (.cells #[.int .i64 kd, .slice a7 ids.length c7, .string body] 38) = wz := ⟨_, rfl⟩
      have hbz : Below wy.heap.size wy wz := kept_trans hb7 (hwz ▸ kept_new _ _)
      obtain ⟨m0, m1, m2⟩ : MsgBox wz w7.heap.size a7 c7 ⟨kd, ids, body⟩ := hwz ▸ box_msg w7 a7 c7 ⟨kd, ids, body⟩
      simp only at m0 m1 m2
      have HYZ := Lib.hid (HY.out.kept hbz)
      have HBZ := Lib.hid (HBX.out.kept hbz)
      have l8 := (cell_spot m0).2
      clear hb7 hbz k0 k1 k2 k3 k4 l5 y4 hly
      by_cases hr0 : r = 0
      case' neg =>
        have hrb : (r == 0) = false := by simpa using hr0
        have HX : Hid (Told w wz G R u B (k + 1) D y) := Lib.hid (told_none HYZ.out HS6.out HBZ.out (brought_not fun h => hr0 (HR.out ▸ h.1)))
        obtain ⟨wx, hwx⟩ : ∃ x, x = wz := ⟨_, rfl⟩
        subst hwx
      case' pos =>
        subst hr0
        by_cases hkd : kd = 3
        case' neg =>
          have hkb : (kd == 3) = false := by simpa using hkd
          have HX : Hid (Told w wz G R u B (k + 1) D y) := Lib.hid (told_none HYZ.out HS6.out HBZ.out (brought_not fun h => hkd (by have := h.2.1; rw [HM.out] at this; exact this)))
          obtain ⟨wx, hwx⟩ : ∃ x, x = wz := ⟨_, rfl⟩
          subst hwx
        case' pos =>
          subst hkd
          have hbl : body.size ≤ 100 := by
            obtain ⟨_, h2⟩ := Ms.errM_zero HR.out
            have : Ms.readM y.bytes.data.toList = ⟨3, ids, body⟩ := by rw [← HM.out]; unfold Ms.ansM; rw [if_pos HR.out]
            rw [this] at h2
            exact Ms.check_body h2
          obtain ⟨rd, hrd⟩ : ∃ rd, errD body.data.toList = rd := ⟨_, rfl⟩
          obtain ⟨dd, hdd⟩ : ∃ D, (if errD body.data.toList = 0 then readD body.data.toList else De.zeroD) = D := ⟨_, rfl⟩
          have HRD := Lib.hid hrd
          have HDD := Lib.hid hdd
          clear hrd hdd
          go_wp2_with fail
          with_reducible refine (decode_ans body rd _ (by omega) HRD.out dd HDD.out).mono ?_
          rintro e w9 ⟨a9, c9, rfl, _, hi9, hf9, hb9⟩
          obtain ⟨C, hC⟩ : ∃ C, w9.heap.size = C := ⟨_, rfl⟩
          obtain ⟨wd, hwd⟩ : ∃ wd, w9.alloc (.cells #[.slice a9 dd.ins.length c9, .int .i64 dd.outs, .int .i64 dd.weight, .int .i64 dd.fee] 50) = wd := ⟨_, rfl⟩
          have hbd : Below w9.heap.size w9 wd := hwd ▸ kept_new _ _
          obtain ⟨d0, d1, d2, d3⟩ : DeedBox wd C a9 c9 dd := hC ▸ hwd ▸ box_deed w9 a9 c9 dd
          have l9 := (cell_spot d0).2
          have HYD := Lib.hid (HYZ.out.kept (kept_trans hb9 hbd))
          have HBD := Lib.hid (HBZ.out.kept (kept_trans hb9 hbd))
          have HI9 := Lib.hid (insAt_kept hbd hi9)
          have HOUT : Hid (∀ bb o, dd.ins ≠ [] → a9 = some ⟨bb, o, none⟩ → ¬ G bb) := Lib.hid fun bb o _ e hf => by
            have h1 := hf9 _ _ _ e
            have h2 := HYZ.out.mine.node.there _ hf
            omega
          clear hb9 hbd hi9 hf9 m0 m1 m2 l8
          by_cases hrd0 : rd = 0
          case' neg =>
            have hrb' : (rd == 0) = false := by simpa using hrd0
            have HX : Hid (Told w wd G R u B (k + 1) D y) := Lib.hid (told_none HYD.out HS6.out HBD.out (brought_not fun h => hrd0 (by have := h.2.2; rw [HM.out] at this; rw [← HRD.out]; exact this)))
            obtain ⟨wx, hwx⟩ : ∃ x, x = wd := ⟨_, rfl⟩
            subst hwx
          case' pos =>
            subst hrd0
            have hbro : broughtB y.bytes = some dd := by
              unfold broughtB
              rw [if_pos ⟨HR.out, by rw [HM.out], by rw [HM.out]; exact HRD.out⟩, HM.out]
              have := HDD.out
              rw [if_pos HRD.out] at this
              exact congrArg some this
            have HCK := Lib.hid (brought_check hbro)
            have HBR := Lib.hid hbro
            obtain ⟨x, hx⟩ : ∃ x, Ju.idD dd = x := ⟨_, rfl⟩
            have HX := Lib.hid hx
            clear hbro hx
            go_wp2_with fail
            with_reducible refine (Ju.id_ok dd a9 c9 _ HI9.out HCK.out).mono ?_
            rintro e w11 ⟨rfl, hb11⟩
            rw [HX.out]
            have HY11 := Lib.hid (HYD.out.kept hb11)
            have HB11 := Lib.hid (HBD.out.kept hb11)
            have HI11 := Lib.hid (insAt_kept hb11 HI9.out)
            have d0 := kept_cell hb11 d0
            have d1 := kept_cell hb11 d1
            have d2 := kept_cell hb11 d2
            have d3 := kept_cell hb11 d3
            have l9 := (cell_spot d0).2
            have hlook := HY11.out.ds.look x
            obtain ⟨mx, hmx⟩ : ∃ mx, M x = mx := ⟨_, rfl⟩
            clear hb11
            cases mx
            case' none =>
              have hev := HY11.out.ds.not x hmx
              rw [hmx, hev] at hlook
              simp only [Option.getD_none, Option.isSome_none, zeroD] at hlook
              have HMO : Hid (∀ e, M x = some e → e = dd) := Lib.hid fun e he => by (rw [hmx] at he; cases he)
              clear hmx hev
              go_upto_region 18 with fail
              obtain ⟨wt, hwt⟩ : ∃ wt, w11.alloc (.cells #[.slice none 0 0, .int .i64 0, .int .i64 0, .int .i64 0] 50) = wt := ⟨_, rfl⟩
              have hbt : Below w11.heap.size w11 wt := hwt ▸ kept_new _ _
              rw [hwt]
              have HYT := Lib.hid (HY11.out.kept hbt)
              have HBT := Lib.hid (HB11.out.kept hbt)
              have HIT := Lib.hid (insAt_kept hbt HI11.out)
              have d0 := kept_cell hbt d0
              have d1 := kept_cell hbt d1
              have d2 := kept_cell hbt d2
              have d3 := kept_cell hbt d3
              have l9 := (cell_spot d0).2
              clear hbt
            case' some d' =>
              obtain ⟨q', hq1, hq2, hq3, _⟩ := HY11.out.ds.has x d' hmx
              subst hq1
              rw [hmx, hq2] at hlook
              simp only [Option.getD_some, Option.isSome_some, dW] at hlook
              obtain ⟨T, hT⟩ : ∃ T, w11.heap.size = T := ⟨_, rfl⟩
              obtain ⟨wv, hwv⟩ : ∃ wv, w11.alloc (.cells #[.slice q'.ia q'.d.ins.length q'.ic, .int .i64 q'.d.outs, .int .i64 q'.d.weight, .int .i64 q'.d.fee] 50) = wv := ⟨_, rfl⟩
              have hbt : Below w11.heap.size w11 wv := hwv ▸ kept_new _ _
              obtain ⟨t0, t1, t2, t3⟩ : DeedBox wv T q'.ia q'.ic q'.d := hT ▸ hwv ▸ box_deed w11 q'.ia q'.ic q'.d
              have lt := (cell_spot t0).2
              have HYV := Lib.hid (HY11.out.kept hbt)
              have HBV := Lib.hid (HB11.out.kept hbt)
              have HIV := Lib.hid (insAt_kept hbt HI11.out)
              have HIQ := Lib.hid (insAt_kept hbt hq3)
              have d0 := kept_cell hbt d0
              have d1 := kept_cell hbt d1
              have d2 := kept_cell hbt d2
              have d3 := kept_cell hbt d3
              have l9 := (cell_spot d0).2
              have HQL : Hid (q'.d.ins.length ≤ maxLen) := Lib.hid (by have := (check_ok (HY11.out.ds.id x _ hmx).2).1; have : maxLen = 9223372036854775807 := rfl; omega)
              obtain ⟨eb, heb⟩ : ∃ eb, eqD q'.d dd = eb := ⟨_, rfl⟩
              have HEB := Lib.hid heb
              have HMX := Lib.hid hmx
              clear hbt hq3 hq2 heb hmx
              go_wp2_with fail
              with_reducible refine (deedEq_any q'.d dd q'.ia a9 q'.ic c9 _ HQL.out HIQ.out HIV.out).mono ?_
              rintro e wt ⟨rfl, hbt⟩
              rw [HEB.out]
              have HYT := Lib.hid (HYV.out.kept hbt)
              have HBT := Lib.hid (HBV.out.kept hbt)
              have HIT := Lib.hid (insAt_kept hbt HIV.out)
              have d0 := kept_cell hbt d0
              have d1 := kept_cell hbt d1
              have d2 := kept_cell hbt d2
              have d3 := kept_cell hbt d3
              have l9 := (cell_spot d0).2
              clear hbt t0 t1 t2 t3 lt
              cases eb
              case' false =>
                go_wp2_with fail
                go_ret
                exact ⟨rfl, HYT.out.mine.below⟩
              case' true =>
                have HMO : Hid (∀ e, M x = some e → e = dd) := Lib.hid fun e he => by
                  rw [HMX.out] at he
                  rw [← Option.some.inj he]
                  exact eqD_true HEB.out
            all_goals
              obtain ⟨wx, hput, hn16, ht16, hm16⟩ := HYT.out.put hk2 x ⟨a9, c9, dd⟩ HX.out HCK.out HIT.out HOUT.out
              have HX : Hid (Told w wx G R u B (k + 1) D y) := Lib.hid ⟨_, _, hn16, HS6.out.mono (updD_more HMO.out), (fun d hd => by (rw [HBR.out] at hd; rw [← Option.some.inj hd, HX.out]; exact updD_self _ _ _)), HBT.out.mapped ht16 hm16⟩
              unfold dW at hput
              simp only at hput
              clear hn16 ht16 hm16
      all_goals
        obtain ⟨ev1, M1, hx1, hs1, hb1', ha1⟩ := HX.out
        have H9 := Lib.hid hx1
        have HS9 := Lib.hid (HDS.out M1 hs1 hb1')
        obtain ⟨z0, z1, z2, z3, z4⟩ := ha1
        have lz := (cell_spot z0).2
        clear hx1 hs1 hb1'
        go_wp2_with fail
        with_reducible refine (did_any y k hk2 HN6.out HSS.out _ HQ.out _ H9.out.mine.node).mono ?_
        rintro e w20 ⟨v20, G20, rfl, ho20, h20, t20, _⟩
        simp only at ho20 h20 ⊢
        obtain ⟨a20, c20, rfl, _⟩ := outs_form ho20
        have H20 := Lib.hid (H9.out.turned h20 t20)
        clear ho20 h20 t20 z0 z1 z2 z3 z4 lz
        go_wp2_with fail
        go_roundw
        case rel => exact ⟨k + 1, G20, q1, ev1, M1, by omega, by go_num, H20, HNN, HS9⟩
        case measure => simp [intOf]; omega
    · obtain ⟨n, hn⟩ : ∃ n, u.A.length = n := ⟨_, rfl⟩
      obtain ⟨xs, hxs⟩ : ∃ xs, u.A.map Ju.idD = xs := ⟨_, rfl⟩
      obtain ⟨ys, hys⟩ : ∃ ys, Ho.allL u.P = ys := ⟨_, rfl⟩
      obtain ⟨m, hm⟩ : ∃ m, ys.length = m := ⟨_, rfl⟩
      have hn3 : n ≤ 2950000000000 := by have := HN6.out.sum; omega
      have hm24 : m ≤ 24 := by
        have h1 := H6.out.mine.node.good.P.len
        have h2 := Ho.allL_len u.P
        rw [hys, hm] at h2
        omega
      have HN := Lib.hid hn
      have HXS := Lib.hid hxs
      have HYS := Lib.hid hys
      have HYL := Lib.hid hm
      have HXL : Hid (xs.length = n) := Lib.hid (by rw [← hxs, List.length_map, hn])
      have HXN : Hid (xs.Nodup) := Lib.hid (hxs ▸ HS6.out.nodup)
      obtain ⟨bS, hbS⟩ : ∃ b, wr.heap.size = b := ⟨_, rfl⟩
      obtain ⟨wS, hwS⟩ : ∃ x, wr.alloc (.map #[] 0) = x := ⟨_, rfl⟩
      obtain ⟨bA, hbA⟩ : ∃ b, wS.heap.size = b := ⟨_, rfl⟩
      obtain ⟨wA, hwA⟩ : ∃ x, wS.alloc (.map #[] 0) = x := ⟨_, rfl⟩
      have HM0 : Hid (MaySt w wA G R u B ev M k bS bA 0 0 [] [] none []) := Lib.hid (by
        have k1 : Below wr.heap.size wr wS := hwS ▸ kept_new _ _
        have k2 : Below wS.heap.size wS wA := hwA ▸ kept_new _ _
        have hlt : bS < wS.heap.size := by rw [← hwS, ← hbS]; simp
        have hB := tmap_lt H6.out.ds.map
        have hu := H6.out.mine.below.size
        have s1 := k1.size
        refine ⟨H6.out.kept (kept_trans k1 k2), ?_, ?_, by omega, ⟨by omega, by omega⟩, ⟨fun hf => ?_, fun hf => ?_⟩, ⟨by omega, by omega⟩, fun i hi => absurd hi (by simp)⟩
        · refine Ju.seen_same (w := wS) ?_ (k2.block bS hlt)
          rw [← hwS, ← hbS]
          exact set_new wr
        · rw [← hwA, ← hbA]
          exact set_new wS
        · have := H6.out.mine.node.there _ hf; omega
        · have := H6.out.mine.node.there _ hf; omega)
      clear hn hxs hys hm
      go_wp2_with fail
      with_reducible refine (accepted_by xs n HXS.out HXL.out (by omega) _ HM0.out.nd.mine.node).mono ?_
      rintro e w8 ⟨a8, c8, rfl, hat8, hb8⟩
      have HM8 := Lib.hid ((HM0.out.kept hb8).other hat8)
      obtain ⟨wB, hwB⟩ : ∃ x, x = wr := ⟨_, rfl⟩
      subst hwB
      clear hat8 hb8 hbS hwS hbA hwA
      go_wp2_with fail
      go_loopw [96] (fun i wr => ∃ (j nS : Nat), j ≤ n ∧ nS ≤ 8 * j ∧ i = .int .i64 j ∧ Hid (MaySt w wr G R u B ev M k bS bA nS j (Ju.insL (u.A.take j)) (xs.take j) a8 xs)) (fun i _ => n - (intOf i).toNat)
      case atStart => exact ⟨0, 0, Nat.zero_le _, Nat.zero_le _, rfl, HM8⟩
      case round =>
        obtain ⟨j, nS, hj, hnS, rfl, H9⟩ := hrel
        by_cases hjn : j < n
        · obtain ⟨b, o, rfl, hb, c0⟩ := H9.out.ids j (by rw [HXL.out]; exact hjn)
          have hjA : j < u.A.length := by rw [HN.out]; exact hjn
          have hjX : j < xs.length := by rw [HXL.out]; exact hjn
          obtain ⟨x, hx⟩ : ∃ x, xs[j] = x := ⟨_, rfl⟩
          obtain ⟨d, hd⟩ : ∃ d, u.A[j] = d := ⟨_, rfl⟩
          have hdx : Ju.idD d = x := by
            have h1 : xs[j]? = some (Ju.idD d) := by rw [← HXS.out, List.getElem?_map, List.getElem?_eq_getElem hjA, hd]; rfl
            rw [← hx]
            exact ((List.getElem?_eq_some_iff.1 h1).2).symm
          have hdm : d ∈ u.A := hd ▸ List.getElem_mem _
          have hMx : M x = some d := hdx ▸ HS6.out.a d hdm
          have HYN : Hid (ys.contains x = false) := Lib.hid (by rw [← HYS.out, ← hdx]; exact HS6.out.apart hdm)
          have hin := fun (i : Nat) (hi : i < u.A[j].ins.length) => HS6.out.in_ok hjA hi
          rw [hd] at hin
          have hIT := insL_take hjA
          rw [hd] at hIT
          have hXT : xs.take j = (u.A.take j).map Ju.idD := by rw [← HXS.out, List.map_take]
          have hXT1 : xs.take (j + 1) = xs.take j ++ [x] := by rw [List.take_succ_eq_append_getElem hjX, hx]
          obtain ⟨hd8, _⟩ := check_ok (HS6.out.fine d hdm)
          obtain ⟨⟨qa, qc, qd⟩, hq1, hq2, hq3, _⟩ := H9.out.nd.ds.has x d hMx
          simp only at hq1 hq3
          subst hq1
          have hlook := H9.out.nd.ds.look x
          rw [hMx, hq2] at hlook
          simp only [Option.getD_some, Option.isSome_some, dW] at hlook
          obtain ⟨Q, hQ⟩ : ∃ Q, wr.heap.size = Q := ⟨_, rfl⟩
          obtain ⟨wq, hwq⟩ : ∃ wq, wr.alloc (.cells #[.slice qa qd.ins.length qc, .int .i64 qd.outs, .int .i64 qd.weight, .int .i64 qd.fee] 50) = wq := ⟨_, rfl⟩
          have hbq : Below wr.heap.size wr wq := hwq ▸ kept_new _ _
          obtain ⟨t0, t1, t2, t3⟩ : DeedBox wq Q qa qc qd := hQ ▸ hwq ▸ box_deed wr qa qc qd
          have H10 := Lib.hid (H9.out.kept hbq)
          have HI10 := Lib.hid (insAt_kept hbq hq3)
          have hhead := heads_look H10.out.h x
          rw [show (xs.take j).contains x = false from hx ▸ take_lacksU HXN.out hjX] at hhead
          rw [hx] at c0
          have l5 := (cell_spot c0).2
          have lq := (cell_spot t0).2
          have HIN := Lib.hid hin
          have HIT := Lib.hid hIT
          have HXT := Lib.hid hXT
          have HXT1 := Lib.hid hXT1
          clear hx hd hdx hdm hMx hin hIT hXT hXT1 hq2 hq3 hbq
          go_wp2_with fail
          with_reducible refine (orphans_by ys m HYS.out HYL.out _ H10.out.nd.mine.node).mono ?_
          rintro e w11 ⟨a11, c11, rfl, hat11, hb11⟩
          have H11 := Lib.hid (H10.out.kept hb11)
          have HI11 := Lib.hid (insAt_kept hb11 HI10.out)
          have HA11 := Lib.hid hat11
          have t0 := kept_cell hb11 t0
          have lq := (cell_spot t0).2
          clear hat11 hb11
          go_wp2_with fail
          with_reducible refine (hasID_is ys m HYL.out x false HYN a11 c11 _ (by rw [HYL.out]; omega) HA11.out).mono ?_
          rintro e w12 ⟨rfl, rfl⟩
          obtain ⟨L, hL⟩ : ∃ L, qd.ins.length = L := ⟨_, rfl⟩
          have HL := Lib.hid hL
          have H12 : Hid (MaySt w w11 G R u B ev M k bS bA nS j (Ju.insL (u.A.take j) ++ qd.ins.take 0) (xs.take j) (some ⟨b, o, none⟩) xs) := Lib.hid (by rw [List.take_zero, List.append_nil]; exact H11.out)
          rw [hL] at t0 hd8
          clear hL
          obtain ⟨wC, hwC⟩ : ∃ x, x = wr := ⟨_, rfl⟩
          subst hwC
          go_wp2_with fail
          go_loopw [122] (fun i wr => ∃ (i' nS' : Nat), i' ≤ L ∧ nS' ≤ nS + i' ∧ i = .int .i64 i' ∧ Hid (MaySt w wr G R u B ev M k bS bA nS' j (Ju.insL (u.A.take j) ++ qd.ins.take i') (xs.take j) (some ⟨b, o, none⟩) xs) ∧ Hid (InsAt wr qa qd.ins)) (fun i _ => L - (intOf i).toNat)
          case atStart => exact ⟨0, nS, Nat.zero_le _, Nat.le_refl _, rfl, H12, HI11⟩
          case round =>
            obtain ⟨i', nS', hi', hnS', rfl, H13, HI13⟩ := hrel
            by_cases hil : i' < L
            · have hlt : i' < qd.ins.length := by rw [HL.out]; exact hil
              obtain ⟨b2, o2, rfl, hb2, e0, e1, hok⟩ := HI13.out i' hlt
              obtain ⟨p, hp1, hp2, hp3, hp4⟩ := HIN.out i' hlt
              obtain ⟨⟨v, z⟩, he⟩ : ∃ e, qd.ins[i'] = e := ⟨_, rfl⟩
              have hstep : qd.ins.take (i' + 1) = qd.ins.take i' ++ [(v, z)] := by rw [List.take_succ_eq_append_getElem hlt, he]
              rw [he] at e0 e1 hok hp1 hp2 hp3 hp4
              simp only at e0 e1 hok hp1 hp2 hp3
              obtain ⟨wb, hwb⟩ : ∃ wb, wr.alloc (.cells #[.int .u64 v.toNat, .int .i64 z] 62) = wb := ⟨_, rfl⟩
              have hbb : Below wr.heap.size wr wb := hwb ▸ kept_new _ _
              obtain ⟨E, hE⟩ : ∃ E, wr.heap.size = E := ⟨_, rfl⟩
              have g0 : wb.cell? ⟨E, 0, none⟩ = some (.int .u64 v.toNat) := by rw [← hwb, ← hE]; simp [go_sem]
              have g1 : wb.cell? ⟨E, 1, none⟩ = some (.int .i64 z) := by rw [← hwb, ← hE]; simp [go_sem]
              have lg := (cell_spot g0).2
              have l6 := (cell_spot e0).2
              have H14 := Lib.hid (H13.out.kept hbb)
              have hl1 := Ju.seen_look H14.out.s (v, z) hok
              rw [hp4] at hl1
              have hl2 := heads_look H14.out.h v
              rw [HXT.out, hp3] at hl2
              obtain ⟨⟨ra, rc, rd⟩, hr1, hr2, _, _⟩ := H14.out.nd.ds.has v p hp1
              simp only at hr1
              subst hr1
              have hl3 := H14.out.nd.ds.look1 v
              rw [hr2] at hl3
              simp only [Option.getD_some, dW] at hl3
              obtain ⟨wn, hput, hn', ht'⟩ := H14.out.spend (v, z) hok (by omega)
              have H15 : Hid (MaySt w wn G R u B ev M k bS bA (nS' + 1) j (Ju.insL (u.A.take j) ++ qd.ins.take (i' + 1)) (xs.take j) (some ⟨b, o, none⟩) xs) := Lib.hid (by rw [hstep, ← List.append_assoc]; exact hn')
              have HI15 := Lib.hid (ins_mapped ht' (Ju.seen_at H14.out.s) (insAt_kept hbb HI13.out))
              have hge : ¬ z ≥ rd.outs := by omega
              have hfo := field_outs (.slice ra rd.ins.length rc) (.int .i64 rd.weight) (.int .i64 rd.fee) rd.outs wb
              simp only at hput hl1
              clear he hstep hp1 hp3 hp4 hok hbb hr2 hn' ht'
              go_wp2_with fail
              go_roundw
              case rel => exact ⟨i' + 1, nS' + 1, by omega, by omega, by go_num, H15, HI15⟩
              case measure => simp [intOf]; omega
            · have H15 : Hid (MaySt w wr G R u B ev M k bS bA nS' j (Ju.insL (u.A.take (j + 1))) (xs.take j) (some ⟨b, o, none⟩) xs) := Lib.hid (by
                have := H13.out
                rw [show qd.ins.take i' = qd.ins from List.take_of_length_le (by rw [HL.out]; omega)] at this
                rw [HIT.out]
                exact this)
              obtain ⟨wn, hput, hn'⟩ := H15.out.head x (by omega)
              have H16 : Hid (MaySt w wn G R u B ev M k bS bA nS' (j + 1) (Ju.insL (u.A.take (j + 1))) (xs.take (j + 1)) (some ⟨b, o, none⟩) xs) := Lib.hid (by rw [HXT1.out]; exact hn')
              clear hn'
              go_wp2_with fail
              go_roundw
              case rel => exact ⟨j + 1, nS', by omega, by omega, by go_num, H16⟩
              case measure => simp [intOf]; omega
        · obtain rfl : j = n := by omega
          have HA9 : Hid (xs.take j = xs) := Lib.hid (List.take_of_length_le (by rw [HXL.out]; exact Nat.le_refl _))
          rw [HA9.out] at H9
          clear HM8 HM0
          go_wp2_with fail
          with_reducible refine (orphans_by ys m HYS.out HYL.out _ H9.out.nd.mine.node).mono ?_
          rintro e w11 ⟨a11, c11, rfl, hat11, hb11⟩
          have H11 := Lib.hid ((H9.out.kept hb11).other hat11)
          obtain ⟨wC, hwC⟩ : ∃ x, x = wr := ⟨_, rfl⟩
          subst hwC
          clear hat11 hb11
          go_wp2_with fail
          go_loopw [155] (fun i wr => ∃ (i' : Nat), i' ≤ m ∧ i = .int .i64 i' ∧ Hid (MaySt w wr G R u B ev M k bS bA nS j (Ju.insL (u.A.take j)) xs a11 ys)) (fun i _ => m - (intOf i).toNat)
          case atStart => exact ⟨0, Nat.zero_le _, rfl, H11⟩
          case round =>
            obtain ⟨i', hi', rfl, H12⟩ := hrel
            by_cases him : i' < m
            · obtain ⟨b, o, rfl, hb, c0⟩ := H12.out.ids i' (by rw [HYL.out]; exact him)
              obtain ⟨x, hx⟩ : ∃ x, ys[i']'(by rw [HYL.out]; exact him) = x := ⟨_, rfl⟩
              have hxm : x ∈ Ho.allL u.P := by rw [HYS.out, ← hx]; exact List.getElem_mem _
              obtain ⟨ln, hln, hlx⟩ := Ho.allL_mem.1 hxm
              have hMx : M x = some ln.d := by rw [← hlx]; exact (HS6.out.p ln hln).2.1
              have hck := (HS6.out.p ln hln).2.2.1
              have hwt := HS6.out.waits hln
              rw [HXS.out] at hwt
              obtain ⟨d, hd⟩ : ∃ d, ln.d = d := ⟨_, rfl⟩
              rw [hd] at hMx hck hwt
              obtain ⟨hd8, _⟩ := check_ok hck
              obtain ⟨⟨qa, qc, qd⟩, hq1, hq2, hq3, _⟩ := H12.out.nd.ds.has x d hMx
              simp only at hq1 hq3
              subst hq1
              have hlook := H12.out.nd.ds.look x
              rw [hMx, hq2] at hlook
              simp only [Option.getD_some, Option.isSome_some, dW] at hlook
              obtain ⟨Q, hQ⟩ : ∃ Q, wr.heap.size = Q := ⟨_, rfl⟩
              obtain ⟨wq, hwq⟩ : ∃ wq, wr.alloc (.cells #[.slice qa qd.ins.length qc, .int .i64 qd.outs, .int .i64 qd.weight, .int .i64 qd.fee] 50) = wq := ⟨_, rfl⟩
              have hbq : Below wr.heap.size wr wq := hwq ▸ kept_new _ _
              obtain ⟨t0, t1, t2, t3⟩ : DeedBox wq Q qa qc qd := hQ ▸ hwq ▸ box_deed wr qa qc qd
              have H13 := Lib.hid (H12.out.kept hbq)
              have HI13 := Lib.hid (insAt_kept hbq hq3)
              rw [hx] at c0
              have l5 := (cell_spot c0).2
              have lq := (cell_spot t0).2
              obtain ⟨L, hL⟩ : ∃ L, qd.ins.length = L := ⟨_, rfl⟩
              have HL := Lib.hid hL
              have HWT : Hid (waitB xs qd.ins = true) := Lib.hid hwt
              rw [hL] at t0 hd8 hwq hlook
              obtain ⟨wD, hwD⟩ : ∃ x, x = wr := ⟨_, rfl⟩
              subst hwD
              clear hx hxm hln hlx hMx hck hwt hd hq2 hq3 hbq hL
              go_wp2_with fail
              go_loopw [29, 168] (fun v29 i wr => ∃ (z : Nat) (g : Bool), z ≤ L ∧ i = .int .i64 z ∧ v29 = .bool g ∧ Hid (waitB xs (qd.ins.take z) = g) ∧ Hid (MaySt w wr G R u B ev M k bS bA nS j (Ju.insL (u.A.take j)) xs (some ⟨b, o, none⟩) ys) ∧ Hid (InsAt wr qa qd.ins)) (fun _ i _ => L - (intOf i).toNat)
              case atStart => exact ⟨0, false, Nat.zero_le _, rfl, rfl, Lib.hid rfl, H13, HI13⟩
              case round =>
                obtain ⟨z, g, hz, rfl, rfl, HG, H14, HI14⟩ := hrel
                by_cases hzl : z < L
                · have hlt : z < qd.ins.length := by rw [HL.out]; exact hzl
                  obtain ⟨b2, o2, rfl, hb2, e0, e1, hok⟩ := HI14.out z hlt
                  obtain ⟨⟨v, t⟩, he⟩ : ∃ e, qd.ins[z] = e := ⟨_, rfl⟩
                  have hst := waitB_step (xs := xs) hlt
                  rw [he, HG.out] at hst
                  rw [he] at e0 e1
                  simp only at e0 e1 hst
                  obtain ⟨r, hr⟩ : ∃ r, xs.contains v = r := ⟨_, rfl⟩
                  rw [hr] at hst
                  obtain ⟨wb, hwb⟩ : ∃ wb, wr.alloc (.cells #[.int .u64 v.toNat, .int .i64 t] 62) = wb := ⟨_, rfl⟩
                  have hbb : Below wr.heap.size wr wb := hwb ▸ kept_new _ _
                  obtain ⟨E, hE⟩ : ∃ E, wr.heap.size = E := ⟨_, rfl⟩
                  have g0 : wb.cell? ⟨E, 0, none⟩ = some (.int .u64 v.toNat) := by rw [← hwb, ← hE]; simp [go_sem]
                  have lg := (cell_spot g0).2
                  have l6 := (cell_spot e0).2
                  have H15 := Lib.hid (H14.out.kept hbb)
                  have HI15 := Lib.hid (insAt_kept hbb HI14.out)
                  have hl2 := heads_look H15.out.h v
                  rw [hr] at hl2
                  have HST := Lib.hid hst
                  clear he hst hbb hok hr
                  cases g with
                  | true =>
                    go_wp2_with fail
                    go_roundw
                    case rel => exact ⟨z + 1, true, by omega, by go_num, rfl, Lib.hid (by rw [HST.out]; rfl), H15, HI15⟩
                    case measure => simp [intOf]; omega
                  | false =>
                    cases r with
                    | true =>
                      go_wp2_with fail
                      go_roundw
                      case rel => exact ⟨z + 1, false, by omega, by go_num, rfl, Lib.hid (by rw [HST.out]; rfl), H15, HI15⟩
                      case measure => simp [intOf]; omega
                    | false =>
                      go_wp2_with fail
                      go_roundw
                      case rel => exact ⟨z + 1, true, by omega, by go_num, rfl, Lib.hid (by rw [HST.out]; rfl), H15, HI15⟩
                      case measure => simp [intOf]; omega
                · obtain rfl : g = true := by
                    rw [← HG.out, show qd.ins.take z = qd.ins from List.take_of_length_le (by rw [HL.out]; omega)]
                    exact HWT.out
                  go_wp2_with fail
                  go_roundw
                  case rel => exact ⟨i' + 1, by omega, by go_num, H14⟩
                  case measure => simp [intOf]; omega
            · have HZ := Lib.hid H12.out.nd.mine.below
              go_wp2_with fail
              go_ret
              exact ⟨rfl, HZ.out⟩
end Go.Proofs.YtaaaplbjeknbkaaGreat
