/-
  Run.
-/
import Derived.Test.YtaaaplbjeknbkabGreatPlayW
set_option maxRecDepth 20000
namespace Go.Proofs.YtaaaplbjeknbkabGreat
open Go.RowKit Go.Maps

variable {w w' wr : World} {F F' G : Nat → Prop} {R c m e n k : Nat} {s u u' : NS} {v v' : Value} {os os' : List OutD} {f : Nat → Int}

/-- What Run holds in a round: its node, the actions, the errors of k acts, what was sent. -/
structure RunSt (w wr : World) (G : Nat → Prop) (R : Nat) (u : NS) (c m e : Nat) (v : Value) (os : List OutD) (f : Nat → Int) (n k : Nat) : Prop where
  mine : Mine w wr G R u
  box : wr.cell? ⟨c, 0, none⟩ = some (.pointer (some ⟨R, 0, none⟩))
  map : FMap wr m 4 (actF c)
  errs : wr.rowIs e 29 n (errCells f k)
  outs : OwnOuts wr w.heap.size v os
  nF : ¬ G c ∧ ¬ G m ∧ ¬ G e
  nv : ∀ g, v.ownBlock = some g → ¬ G g ∧ g ≠ c ∧ g ≠ m ∧ g ≠ e
  ne : c ≠ e ∧ m ≠ e
  up : w.heap.size ≤ e
theorem RunSt.kept (h : RunSt w wr G R u c m e v os f n k) (hb : Below wr.heap.size wr w') : RunSt w w' G R u c m e v os f n k :=
  ⟨h.mine.kept hb, kept_cell hb h.box, h.map.same (hb.block _ h.map.lt), rowIs_same h.errs (hb.block _ h.errs.lt), owns_below h.outs hb, h.nF, h.nv, h.ne, h.up⟩
theorem RunSt.turned (h : RunSt w wr G R u c m e v os f n k) (hn : NodeAt w' F' R u') (ht : Turn G F' wr w') : RunSt w w' F' R u' c m e v os f n k := by
  have l0 := (cell_spot h.box).2
  have l1 := h.map.lt
  have l2 := h.errs.lt
  simp only at l0
  have hno : ∀ g, g < wr.heap.size → ¬ G g → ¬ F' g := fun g hg h1 hf => (ht.own g hf).elim h1 (fun hle => by omega)
  exact ⟨h.mine.turned hn ht, (World.cell?_of_block (a := ⟨c, 0, none⟩) (ht.block c l0 h.nF.1)).trans h.box, h.map.same (ht.block _ l1 h.nF.2.1), rowIs_same h.errs (ht.block _ l2 h.nF.2.2), own_turn h.outs ht (fun g hg => (h.nv g hg).1),
    ⟨hno _ l0 h.nF.1, hno _ l1 h.nF.2.1, hno _ l2 h.nF.2.2⟩, fun g hg => ⟨hno g (h.outs.lt g hg).2 (h.nv g hg).1, (h.nv g hg).2⟩, h.ne, h.up⟩
theorem RunSt.appended (h : RunSt w wr G R u c m e v os f n k) (ho : OwnOuts w' w.heap.size v' os') (hg : wr.grownBy w' v.ownBlock) (hk : ∀ g, v'.ownBlock = some g → v.ownBlock = some g ∨ wr.heap.size ≤ g) : RunSt w w' G R u c m e v' os' f n k := by
  have l0 := (cell_spot h.box).2
  have l1 := h.map.lt
  have l2 := h.errs.lt
  simp only at l0
  exact ⟨⟨h.mine.node.turn (Turn.of_grown (F := fun k => v.ownBlock = some k) hg (fun k hk => hk)) (fun k hf hk => (h.nv k hk).1 hf), h.mine.above, below_grown h.mine.below hg (fun g hg => (h.outs.lt g hg).1) h.mine.below.size⟩,
    (World.cell?_of_block (a := ⟨c, 0, none⟩) (hg.block c l0 (fun e' => (h.nv c e'.symm).2.1 rfl))).trans h.box, h.map.same (hg.block m l1 (fun e' => (h.nv m e'.symm).2.2.1 rfl)), rowIs_same h.errs (hg.block e l2 (fun e' => (h.nv e e'.symm).2.2.2 rfl)), ho, h.nF,
    fun g hg' => (hk g hg').elim (h.nv g) (fun hle => ⟨fun hf => by have := h.mine.node.there _ hf; omega, by omega, by omega, by omega⟩), h.ne, h.up⟩
theorem RunSt.stored (h : RunSt w wr G R u c m e v os f n k) : RunSt w (wr.setCell ⟨e, k, none⟩ (.int .i64 (f k))) G R u c m e v os f n (k + 1) := by
  have hs : ∀ i, i ≠ e → (wr.setCell ⟨e, k, none⟩ (.int .i64 (f k))).heap[i]? = wr.heap[i]? := fun i hi => Below.heap_setCell wr ⟨e, k, none⟩ _ i hi
  exact ⟨⟨h.mine.node.turn (Turn.set (F := fun k => k = e) wr ⟨e, k, none⟩ _ rfl) (fun _ hf hk => h.nF.2.2 (hk ▸ hf)), h.mine.above, h.mine.below.setCell h.up _⟩,
    (World.cell?_of_block (a := ⟨c, 0, none⟩) (hs c h.ne.1)).trans h.box, h.map.same (hs m h.ne.2), err_step h.errs, own_same h.outs (fun g hg => hs g (h.nv g hg).2.2.2), h.nF, h.nv, h.ne, h.up⟩

theorem results_four {fn : Func} {t u v x : Tmp} (h : fn.results = #[.tmp t, .tmp u, .tmp v, .tmp x]) (tmps : Array Value) (P : Program) (w : World) :
    (results fn tmps).run P w = .ok (.tuple #[tmps.getD t undef, tmps.getD u undef, tmps.getD v undef, tmps.getD x undef]) w := by
  simp [results, h]
/-- Run's answer. -/
def RanN (w : World) (os : List OutD) (es : List Int) (ids : List UInt64) (e : Ending) (w' : World) : Prop :=
  ∃ v b xa xc, e = .returned (.tuple #[v, .slice (some ⟨b, 0, none⟩) es.length es.length, .slice xa ids.length xc, .int .i64 0]) ∧ OwnOuts w' w.heap.size v os ∧ Tr.IntsAt w' (some ⟨b, 0, none⟩) es ∧ IdsAt w' xa ids ∧ ids.length ≤ 1000 ∧ ids.length ≤ xc ∧ Below w.heap.size w w'
/-- One of the four actions. -/
theorem action_any (a : ActD) (j : Nat) (hj : j ≤ 2950000000000) (hi : NInv j s) (hs : a.bytes.size ≤ maxLen) (hk : 1 ≤ a.kind ∧ a.kind ≤ 4) (q : NS × List OutD × Int) (hq : s.did a = q) (c : Nat) :
    ∃ fid, actF c a.kind = some (fnV fid c) ∧ (∀ (args : Array Value) (w : World), (callFunc fid args).run Tryz.prog w = .ok (.enter fid args) w) ∧
      ∀ (w : World) (F : Nat → Prop) (R : Nat), w.cell? ⟨c, 0, none⟩ = some (.pointer (some ⟨R, 0, none⟩)) → NodeAt w F R s → Calls Tryz.prog fid #[actV a, .pointer (some ⟨c, 0, none⟩)] w (SentN w F R q) := by
  have hA : s.A.length ≤ 2950000000000 := by have := hi.sum; omega
  unfold NS.did at hq
  have hcs : a.kind = 1 ∨ a.kind = 2 ∨ a.kind = 3 ∨ a.kind = 4 := by omega
  rcases hcs with h1 | h1 | h1 | h1
  · rw [if_pos h1] at hq
    exact ⟨_, by rw [h1]; rfl, fun _ _ => by kernel_rfl, fun w F R hc hn => play1_any a q hq c w hc hn⟩
  · rw [if_neg (by omega), if_pos h1] at hq
    exact ⟨_, by rw [h1]; rfl, fun _ _ => by kernel_rfl, fun w F R hc hn => play2_any a q hq c w hc hn⟩
  · rw [if_neg (by omega), if_neg (by omega), if_pos h1] at hq
    exact ⟨_, by rw [h1]; rfl, fun _ _ => by kernel_rfl, fun w F R hc hn => play3_any a hs hA q hq c w hc hn⟩
  · rw [if_neg (by omega), if_neg (by omega), if_neg (by omega), if_pos h1] at hq
    exact ⟨_, by rw [h1]; rfl, fun _ _ => by kernel_rfl, fun w F R hc hn => play4_any a hi.fly q hq c w hc hn⟩
theorem action_none (a : ActD) (hk : ¬ (1 ≤ a.kind ∧ a.kind ≤ 4)) (c : Nat) : actF c a.kind = none ∧ s.did a = (s, [], 1) := by
  unfold actF NS.did
  rw [if_neg (by omega), if_neg (by omega), if_neg (by omega), if_neg (by omega), if_neg (by omega), if_neg (by omega), if_neg (by omega), if_neg (by omega)]
  exact ⟨rfl, rfl⟩
set_option maxRecDepth 20000 in
theorem run_long (salt : UInt64) (n : Nat) (a : Option Addr) (cap : Nat) (hn : 60 < n) (w : World) : Calls Tryz.prog 22 #[.int .u64 salt.toNat, .slice a n cap] w fun e w' => e = .returned (.tuple #[.slice none 0 0, .slice none 0 0, .slice none 0 0, .int .i64 2]) ∧ Below w.heap.size w w' := by
  have hn' : (60 : Int) < (n : Int) := by omega
  clear hn
  go_enter Tryz.func22, Tryz.ntmps22
  go_wp2_with fail
  (try simp only [Exit.inBlock, Exit.then])
  refine bodyPost_ret (results_four rfl _ _ _) rfl ?_
  exact ⟨rfl, Below.refl _ _⟩
set_option maxRecDepth 20000 in
set_option maxHeartbeats 2000000 in
theorem run_ok (salt : UInt64) (l : List ActD) (a : Option Addr) (cap : Nat) (hl : l.length ≤ 60) (hkd : ∀ i (h : i < l.length), (Lit.int .i64 l[i].kind).wf = true) (w : World) (hi : ActsAt w a l) :
    Calls Tryz.prog 22 #[.int .u64 salt.toNat, .slice a l.length cap] w (RanN w (outK (NS.new salt) l l.length) ((List.range l.length).map (errK (NS.new salt) l)) ((stK (NS.new salt) l l.length).A.map Ju.idD)) := by
  have HI := Lib.hid hi
  have HKD := Lib.hid hkd
  have hml : maxLen = 9223372036854775807 := rfl
  obtain ⟨n, hn⟩ : ∃ n, l.length = n := ⟨_, rfl⟩
  rw [hn] at hl ⊢
  have HLN := Lib.hid hn
  have hl' : ¬ (60 : Int) < (n : Int) := by omega
  clear hi hkd hn
  go_enter Tryz.func22, Tryz.ntmps22
  go_wp2_with fail
  with_reducible refine (mine_new salt w (Below.refl _ _)).mono ?_
  rintro e w2 ⟨R, F, rfl, h2, _, _⟩
  have H2 := Lib.hid h2
  clear h2
  go_wp2_with fail
  with_reducible refine (actions_any R w2).mono ?_
  rintro e w3 ⟨c, m, rfl, hc, hm, hb3, hcu, hmu⟩
  obtain ⟨e, he⟩ : ∃ e, w3.heap.size = e := ⟨_, rfl⟩
  have hmk := make_errs n (by omega) w3
  obtain ⟨w4, hw4⟩ : ∃ x, w3.alloc (.cells (madeCells #[.int .i64 0] n) 29) = x := ⟨_, rfl⟩
  have hrow := made_errs w3 (errK (NS.new salt) l) n
  have hk4 : Below w3.heap.size w3 w4 := hw4 ▸ kept_new _ _
  rw [hw4] at hrow hmk
  rw [he] at hrow hmk
  have H4 : Hid (RunSt w w4 F R (NS.new salt) c m e (.slice none 0 0) [] (errK (NS.new salt) l) n 0) := Lib.hid (by
    have s2 := H2.out.below.size
    have s3 := hb3.size
    have lc := (cell_spot hc).2
    have lm := hm.lt
    simp only at lc
    have hno : ∀ g, w2.heap.size ≤ g → ¬ F g := fun g hg hf => by have := H2.out.node.there _ hf; omega
    exact ⟨(H2.out.kept hb3).kept hk4, kept_cell hk4 hc, hm.same (hk4.block _ lm), hrow, outs_nil _ _, ⟨hno _ hcu, hno _ hmu, hno _ (by omega)⟩, fun g hg => (by cases hg), ⟨by omega, by omega⟩, by omega⟩)
  clear hc hm hb3 hcu hmu hrow hk4 hw4 he
  go_wp2_with fail
  go_loopw [10, 30] (fun vo i wr => ∃ (k : Nat) (G : Nat → Prop) (u : NS) (os : List OutD), k ≤ n ∧ i = .int .i64 k ∧ Hid (RunSt w wr G R u c m e vo os (errK (NS.new salt) l) n k) ∧ Hid (stK (NS.new salt) l k = u) ∧ Hid (outK (NS.new salt) l k = os) ∧ Hid (NInv k u)) (fun _ i _ => n - (intOf i).toNat)
  case atStart => exact ⟨0, F, NS.new salt, [], Nat.zero_le _, rfl, H4, Lib.hid rfl, Lib.hid rfl, Lib.hid (inv_new salt)⟩
  case round =>
    obtain ⟨k, G, u, os, hk, rfl, H5, HU, HO, HN⟩ := hrel
    rename_i vo
    by_cases hkn : k < n
    · have hkl : k < l.length := by rw [HLN.out]; exact hkn
      have hgd := act_at hkl
      have hwf := HKD.out k hkl
      obtain ⟨⟨g, o, rfl, hg, c0⟩, hs⟩ := HI.out k hkl
      obtain ⟨y, hy⟩ : ∃ y, l[k] = y := ⟨_, rfl⟩
      rw [hy] at c0 hs hwf hgd
      obtain ⟨c0, c1, c2, c3, c4⟩ := c0
      have k0 := cell_later H5.out.mine.below c0
      have k1 := cell_later H5.out.mine.below c1
      have k2 := cell_later H5.out.mine.below c2
      have k3 := cell_later H5.out.mine.below c3
      have k4 := cell_later H5.out.mine.below c4
      have l5 := (cell_spot k0).2
      obtain ⟨D, hD⟩ : ∃ D, wr.heap.size = D := ⟨_, rfl⟩
      obtain ⟨wy, hwy⟩ : ∃ wy, wr.alloc (.cells #[.int .i64 y.kind, .int .i64 y.peer, .int .i64 y.n, .bool y.flag, .string y.bytes] 109) = wy := ⟨_, rfl⟩
      have hby : Below wr.heap.size wr wy := hwy ▸ kept_new _ _
      obtain ⟨y0, y1, y2, y3, y4⟩ := box_act wr y
      rw [hwy, hD] at y0 y1 y2 y3 y4
      have l6 := (cell_spot y0).2
      have h6 := H5.out.kept hby
      have H6 := Lib.hid h6
      have hzk : (k : Int) < (n : Int) := by omega
      have hlook := h6.map.look_ok y.kind hwf
      have HNN : Hid (NInv (k + 1) (u.did y).1) := Lib.hid (did_inv HN.out h6.mine.node.good.T y)
      obtain ⟨q1, q2, q3, hq⟩ : ∃ q1 q2 q3, u.did y = (q1, q2, q3) := ⟨_, _, _, rfl⟩
      have HQ := Lib.hid hq
      rw [hq] at HNN
      simp only at HNN
      have HU1 : Hid (stK (NS.new salt) l (k + 1) = q1) := Lib.hid (by simp only [stK]; rw [hgd, HU.out, hq])
      have HO1 : Hid (outK (NS.new salt) l (k + 1) = os ++ q2) := Lib.hid (by simp only [outK]; rw [hgd, HU.out, HO.out, hq])
      have HE1 : Hid (errK (NS.new salt) l k = q3) := Lib.hid (by unfold errK; rw [hgd, HU.out, hq])
      have hln : os.length ≤ 100 * k := by rw [← HO.out]; exact out_len l k
      have hq2 : q2.length ≤ 100 := by have := did_out u y; rw [hq] at this; exact this
      clear hy c0 c1 c2 c3 c4 hby hq hgd hwf h6
      by_cases hkd : 1 ≤ y.kind ∧ y.kind ≤ 4
      · obtain ⟨fid, hget, hcf, hcall⟩ := action_any y k (by omega) HN.out hs hkd _ HQ.out c
        have HCALL := Lib.hid hcall
        rw [hget] at hlook
        simp only [Option.getD_some, Option.isSome_some, fnV] at hlook
        clear hcall hget hkd hs
        go_wp2_with fail
        with_reducible refine (HCALL.out _ _ _ H6.out.box H6.out.mine.node).mono ?_
        rintro e w7 ⟨v7, G7, rfl, ho7, h7, t7, _⟩
        simp only at ho7 h7 ⊢
        have H7 := Lib.hid (H6.out.turned h7 t7)
        have HO7 := Lib.hid ho7
        have HSZ := Lib.hid H7.out.mine.below.size
        clear ho7 h7 t7 hlook hcf
        go_wp2_with (at_builtin; refine append_outs rfl _ _ rfl rfl rfl H7.out.outs HO7.out (by omega) HSZ.out ?_; intro v8 w8 ho8 hg8 hk8; refine Hid.out ?_)
        refine Lib.hid ?_
        have H8 := Lib.hid (H7.out.appended ho8 hg8 hk8)
        have e0 := H8.out.errs.cell (i := k) hkn
        have e1 := H8.out.errs.frozen k
        have l8 := (cell_spot e0).2
        clear ho8 hg8 hk8
        go_wp2_with fail
        go_roundw
        case rel => exact ⟨k + 1, G7, q1, os ++ q2, by omega, by go_num, Lib.hid (by rw [← HE1.out]; exact H8.out.stored), HU1, HO1, HNN⟩
        case measure => simp [intOf]; omega
      · obtain ⟨hget, hdid⟩ := action_none (s := u) y hkd c
        rw [hget] at hlook
        simp only [Option.getD_none, Option.isSome_none] at hlook
        have hqq := HQ.out
        rw [hdid] at hqq
        simp only [Prod.mk.injEq] at hqq
        obtain ⟨rfl, rfl, rfl⟩ := hqq
        have e0 := H6.out.errs.cell (i := k) hkn
        have e1 := H6.out.errs.frozen k
        have l8 := (cell_spot e0).2
        clear hget hdid hkd hs
        go_wp2_with fail
        go_roundw
        case rel => exact ⟨k + 1, G, u, os, by omega, by go_num, Lib.hid (by rw [← HE1.out]; exact H6.out.stored), HU1, Lib.hid (by rw [HO1.out, List.append_nil]), HNN⟩
        case measure => simp [intOf]; omega
    · obtain rfl : k = n := by omega
      have hA : u.A.length ≤ 10000000000000 := by have := HN.out.sum; omega
      have hA' : (u.A.map Ju.idD).length ≤ 1000 := by have := HN.out.sum; rw [List.length_map]; omega
      go_wp2_with fail
      with_reducible refine (accepted_any hA _ H5.out.mine.node).mono ?_
      rintro e w9 ⟨xa, xc, rfl, ho9, hb9⟩
      have H9 := Lib.hid (H5.out.kept hb9)
      have HO9 := Lib.hid ho9
      clear ho9 hb9
      go_wp2_with fail
      (try simp only [Exit.inBlock, Exit.then])
      refine bodyPost_ret (results_four rfl _ _ _) rfl ?_
      rw [HU.out, HO.out]
      obtain ⟨xa', xc', e', hxc, hat, _⟩ := owns_idsAt HO9.out
      simp only [Value.slice.injEq] at e'
      obtain ⟨rfl, _, rfl⟩ := e'
      refine ⟨_, e, xa, xc, ?_, H9.out.outs, row_errs H9.out.errs, hat, hA', hxc, H9.out.mine.below⟩
      simp
end Go.Proofs.YtaaaplbjeknbkabGreat
