/-
  A law's own map from IDs to deeds, and an act of its own, beside a node.
-/
import Derived.Test.YtaaaplbjeknbkaaGreatSoundMath
import Derived.Test.YtaaaplbjeknbkaaGreatJ5
import Derived.Test.YtaaaplbjeknbkaaGreatRefEq
import Derived.Test.YtaaaplbjeknbkaaGreatJ3
set_option maxRecDepth 20000
namespace Go.Proofs.YtaaaplbjeknbkaaGreat
open Go.RowKit Go.Maps

variable {w w' w0 : World} {F F' : Nat → Prop} {R b n D : Nat} {s u : NS} {ev : UInt64 → Option Value} {M : UInt64 → Option DeedD} {y : ActD}

/-- A deed as a law's map keeps it. -/
def dW (q : DeedH) : Value := .agg #[.slice q.ia q.d.ins.length q.ic, .int .i64 q.d.outs, .int .i64 q.d.weight, .int .i64 q.d.fee]
/-- The map holds these deeds, at most n; nothing of it is the node's. -/
structure DMap (w : World) (F : Nat → Prop) (b : Nat) (ev : UInt64 → Option Value) (M : UInt64 → Option DeedD) (n : Nat) : Prop where
  map : TMap w b none ev
  has : ∀ x d, M x = some d → ∃ q : DeedH, q.d = d ∧ ev x = some (dW q) ∧ InsAt w q.ia d.ins ∧ ∀ bb o, d.ins ≠ [] → q.ia = some ⟨bb, o, none⟩ → ¬ F bb
  not : ∀ x, M x = none → ev x = none
  keys : ∃ ks : List UInt64, ks.length ≤ n ∧ ∀ x, (ev x).isSome = true → x ∈ ks
  id : ∀ x d, M x = some d → Ju.idD d = x ∧ checkD d = 0
  out : ¬ F b
theorem DMap.kept (h : DMap w F b ev M n) (hb : Below w.heap.size w w') : DMap w' F b ev M n :=
  ⟨tmap_same h.map (hb.block b (tmap_lt h.map)) (fun i hi => by cases hi), fun x d hx => by
    obtain ⟨q, h1, h2, h3, h4⟩ := h.has x d hx
    exact ⟨q, h1, h2, insAt_kept hb h3, h4⟩, h.not, h.keys, h.id, h.out⟩
theorem DMap.turned (h : DMap w F b ev M n) (ht : Turn F F' w w') : DMap w' F' b ev M n :=
  ⟨tmap_same h.map (ht.block b (tmap_lt h.map) h.out) (fun i hi => by cases hi), fun x d hx => by
    obtain ⟨q, h1, h2, h3, h4⟩ := h.has x d hx
    refine ⟨q, h1, h2, insAt_turn h3 ht h4, fun bb o h0 e hf => ?_⟩
    rcases ht.own bb hf with h5 | h5
    · exact h4 bb o h0 e h5
    · obtain ⟨b', o', e', hlt, _⟩ := h3 0 (List.length_pos_iff.2 h0)
      rw [e] at e'
      cases e'
      omega, h.not, h.keys, h.id, fun hf => (ht.own b hf).elim h.out (fun hle => by have := tmap_lt h.map; omega)⟩
theorem tmap_map (h : TMap w b none ev) : ∃ es c, w.heap[b]? = some (.map es c) := by
  obtain ⟨D, hm, _, _⟩ := h
  obtain ⟨n, es, clock, hb, _⟩ := mapIs_owns hm
  exact ⟨es, clock, hb⟩
/-- Cells are as they were where a map turned. -/
theorem cell_mapped {p : Addr} {v : Value} (ht : Turn (fun k => k = b) (fun k => k = b) w w') (hm : ∃ es clock, w.heap[b]? = some (.map es clock)) (hc : w.cell? p = some v) : w'.cell? p = some v := by
  have hne : p.block ≠ b := fun e => by
    obtain ⟨es, cl, hb⟩ := hm
    unfold World.cell? at hc
    rw [e, hb] at hc
    cases hc
  exact (World.cell?_of_block (a := p) (ht.block _ (cell_spot hc).2 hne)).trans hc
theorem ins_mapped {a : Option Addr} {l : List InD} (ht : Turn (fun k => k = b) (fun k => k = b) w w') (hm : ∃ es clock, w.heap[b]? = some (.map es clock)) (h : InsAt w a l) : InsAt w' a l := fun i hi => by
  obtain ⟨bb, o, e, hb, c0, c1, c2⟩ := h i hi
  exact ⟨bb, o, e, Nat.lt_of_lt_of_le hb ht.size, cell_mapped ht hm c0, cell_mapped ht hm c1, c2⟩
theorem tmap_put_many (h : TMap w b none ev) (ks : List UInt64) (hks : ∀ x, (ev x).isSome = true → x ∈ ks) (hkl : ks.length ≤ 10000000000000) (x : UInt64) (v : Value) :
    ∃ w', (Instr.mapUpdate 47 (.map (some b)) (.int .u64 x.toNat) v).run Tryz.prog w = .ok () w' ∧ TMap w' b none (fun y => if y = x then some v else ev y) ∧ Turn (fun k => k = b) (fun k => k = b) w w' := by
  obtain ⟨D, ⟨n, hm⟩, hat, hhas⟩ := h
  have hm2 := tmap_small hm ks (fun y hy => hks y (by rw [← hhas y]; exact hy))
  obtain ⟨w', hrun, ho, hg⟩ := hm2.update u64_keyed Tryz.underlying47 (by unfold maxLen; omega) (u64_key x) (val := v) (d := .held v) (ps := []) rfl
  refine ⟨w', hrun, ⟨_, ⟨_, ho⟩, fun y u hy z => ?_, fun y => ?_⟩, Turn.of_grown hg (fun k hk => by cases hk; rfl)⟩
  · replace hy : (if y = x then some v else ev y) = some u := hy
    by_cases e : y = x
    · rw [if_pos e] at hy
      cases hy
      rw [e, atKey_put_same hm2.isMap (u64_keyed.key (u64_key _))]
    · rw [if_neg e] at hy
      rw [atKey_put_other (lit_ne e), hat y u hy]
  · show _ = (if y = x then some v else ev y).isSome
    by_cases e : y = x
    · rw [e, if_pos rfl, has_put_same hm2.isMap (u64_keyed.key (u64_key _))]
      rfl
    · rw [if_neg e, has_put_other (lit_ne e), hhas y]
def updD (M : UInt64 → Option DeedD) (x : UInt64) (d : DeedD) : UInt64 → Option DeedD := fun y => if y = x then some d else M y
theorem updD_self (M : UInt64 → Option DeedD) (x : UInt64) (d : DeedD) : updD M x d x = some d := by unfold updD; rw [if_pos rfl]
/-- More is known, where what was known under the ID is the same. -/
theorem updD_more {x : UInt64} {d : DeedD} (h : ∀ e, M x = some e → e = d) : ∀ z e, M z = some e → updD M x d z = some e := fun z e hz => by
  unfold updD
  by_cases hx : z = x
  · rw [if_pos hx]
    rw [hx] at hz
    rw [h e hz]
  · rw [if_neg hx]; exact hz
/-- A node, a map of deeds, an act. -/
structure NodeDs (w0 w : World) (F : Nat → Prop) (R : Nat) (u : NS) (b : Nat) (ev : UInt64 → Option Value) (M : UInt64 → Option DeedD) (n : Nat) : Prop where
  mine : Mine w0 w F R u
  ds : DMap w F b ev M n
  above : w0.heap.size ≤ b
theorem NodeDs.kept (h : NodeDs w0 w F R u b ev M n) (hb : Below w.heap.size w w') : NodeDs w0 w' F R u b ev M n := ⟨h.mine.kept hb, h.ds.kept hb, h.above⟩
theorem NodeDs.turned (h : NodeDs w0 w F R u b ev M n) {u' : NS} (hn : NodeAt w' F' R u') (ht : Turn F F' w w') : NodeDs w0 w' F' R u' b ev M n := ⟨h.mine.turned hn ht, h.ds.turned ht, h.above⟩
/-- An act in a block. -/
def ActB (w : World) (D : Nat) (y : ActD) : Prop :=
  w.cell? ⟨D, 0, none⟩ = some (.int .i64 y.kind) ∧ w.cell? ⟨D, 1, none⟩ = some (.int .i64 y.peer) ∧ w.cell? ⟨D, 2, none⟩ = some (.int .i64 y.n) ∧ w.cell? ⟨D, 3, none⟩ = some (.bool y.flag) ∧ w.cell? ⟨D, 4, none⟩ = some (.string y.bytes)
theorem ActB.kept (h : ActB w D y) (hb : Below w.heap.size w w') : ActB w' D y := ⟨kept_cell hb h.1, kept_cell hb h.2.1, kept_cell hb h.2.2.1, kept_cell hb h.2.2.2.1, kept_cell hb h.2.2.2.2⟩
theorem ActB.lt (h : ActB w D y) : D < w.heap.size := (cell_spot h.1).2
theorem NodeDs.put (h : NodeDs w0 w F R u b ev M n) (hn : n ≤ 2950000000000) (x : UInt64) (q : DeedH) (hid : Ju.idD q.d = x) (hc : checkD q.d = 0) (hi : InsAt w q.ia q.d.ins) (ho : ∀ bb o, q.d.ins ≠ [] → q.ia = some ⟨bb, o, none⟩ → ¬ F bb) :
    ∃ w', (Instr.mapUpdate 47 (.map (some b)) (.int .u64 x.toNat) (dW q)).run Tryz.prog w = .ok () w' ∧ NodeDs w0 w' F R u b (fun z => if z = x then some (dW q) else ev z) (updD M x q.d) (n + 1) ∧ Turn (fun k => k = b) (fun k => k = b) w w' ∧ ∃ es c, w.heap[b]? = some (.map es c) := by
  obtain ⟨ks, hk1, hk2⟩ := h.ds.keys
  have hm := tmap_map h.ds.map
  obtain ⟨w', h1, h2, h3⟩ := tmap_put_many h.ds.map ks hk2 (by omega) x (dW q)
  refine ⟨w', h1, ⟨⟨h.mine.node.turn h3 (fun k hf hk => h.ds.out (hk ▸ hf)), h.mine.above, h.mine.below.trans (h3.below (fun k hk => hk ▸ h.above) h.mine.below.size)⟩, ⟨h2, fun z d hz => ?_, fun z hz => ?_, ⟨x :: ks, by simp; omega, fun z hz => ?_⟩, fun z d hz => ?_, h.ds.out⟩, h.above⟩, h3, hm⟩
  · unfold updD at hz
    by_cases e : z = x
    · rw [if_pos e] at hz
      obtain rfl := Option.some.inj hz
      exact ⟨q, rfl, by simp [e], ins_mapped h3 hm hi, ho⟩
    · rw [if_neg e] at hz
      obtain ⟨q', g1, g2, g3, g4⟩ := h.ds.has z d hz
      exact ⟨q', g1, by simp only [if_neg e]; exact g2, ins_mapped h3 hm g3, g4⟩
  · unfold updD at hz
    by_cases e : z = x
    · rw [if_pos e] at hz; cases hz
    · rw [if_neg e] at hz
      simp only [if_neg e]
      exact h.ds.not z hz
  · by_cases e : z = x
    · rw [e]; exact List.mem_cons_self
    · simp only [if_neg e] at hz
      exact List.mem_cons_of_mem _ (hk2 z hz)
  · unfold updD at hz
    by_cases e : z = x
    · rw [if_pos e] at hz
      obtain rfl := Option.some.inj hz
      exact ⟨hid.trans e.symm, hc⟩
    · rw [if_neg e] at hz
      exact h.ds.id z d hz
theorem ActB.mapped (h : ActB w D y) (ht : Turn (fun k => k = b) (fun k => k = b) w w') (hm : ∃ es clock, w.heap[b]? = some (.map es clock)) : ActB w' D y :=
  ⟨cell_mapped ht hm h.1, cell_mapped ht hm h.2.1, cell_mapped ht hm h.2.2.1, cell_mapped ht hm h.2.2.2.1, cell_mapped ht hm h.2.2.2.2⟩
/-- What a law's map answers. -/
theorem DMap.look (h : DMap w F b ev M n) (x : UInt64) : (Instr.lookup 47 (.map (some b)) (.int .u64 x.toNat) true).run Tryz.prog w = .ok (.tuple #[(ev x).getD zeroD, .bool (M x).isSome]) w := by
  have h1 := tmap_look_ok h.map x
  have h2 : (ev x).isSome = (M x).isSome := by
    cases hm : M x with
    | none => rw [h.not x hm]; rfl
    | some d =>
      obtain ⟨q, _, e, _⟩ := h.has x d hm
      rw [e]; rfl
  rw [h2] at h1
  exact h1
theorem DMap.new (w : World) (hF : ∀ k, F k → k < w.heap.size) : DMap (w.alloc (.map #[] 0)) F w.heap.size (fun _ => none) (fun _ => none) 0 :=
  ⟨tmap_new w, fun x d h => (by cases h), fun x _ => rfl, ⟨[], Nat.le_refl _, fun x h => by simp at h⟩, fun x d h => (by cases h), fun hf => by have := hF _ hf; omega⟩
/-- Two deeds that the reference takes for equal are equal. -/
theorem eqD_true {d e : DeedD} (h : eqD d e = true) : d = e := by
  unfold eqD at h
  obtain ⟨a1, a2, a3, a4⟩ := d
  obtain ⟨b1, b2, b3, b4⟩ := e
  simp only [Bool.and_eq_true, beq_iff_eq] at h
  simp_all
variable {B : Nat} {G : Nat → Prop}
/-- What is so behind the part of a round in which the law's map is turned. -/
def Told (w0 w : World) (G : Nat → Prop) (R : Nat) (u : NS) (B n D : Nat) (y : ActD) : Prop :=
  ∃ ev M, NodeDs w0 w G R u B ev M n ∧ Sound M u.A u.P [] ∧ (∀ d, broughtB y.bytes = some d → M (Ju.idD d) = some d) ∧ ActB w D y
theorem NodeDs.more (h : NodeDs w0 w F R u B ev M n) : NodeDs w0 w F R u B ev M (n + 1) :=
  ⟨h.mine, ⟨h.ds.map, h.ds.has, h.ds.not, by obtain ⟨ks, h1, h2⟩ := h.ds.keys; exact ⟨ks, by omega, h2⟩, h.ds.id, h.ds.out⟩, h.above⟩
theorem told_none (h : NodeDs w0 w G R u B ev M n) (hs : Sound M u.A u.P []) (hb : ActB w D y) (hn : broughtB y.bytes = none) : Told w0 w G R u B (n + 1) D y := ⟨ev, M, h.more, hs, fun d hd => by (rw [hn] at hd; cases hd), hb⟩
theorem brought_not {b : ByteArray} (h : ¬ (Ms.errM b.data.toList = 0 ∧ (Ms.ansM b.data.toList).kind = 3 ∧ errD (Ms.ansM b.data.toList).body.data.toList = 0)) : broughtB b = none := by unfold broughtB; rw [if_neg h]
/-- All is as it was where another map turned. -/
theorem NodeDs.mapped (h : NodeDs w0 w F R u B ev M n) (ht : Turn (fun k => k = b) (fun k => k = b) w w') (hm : ∃ es clock, w.heap[b]? = some (.map es clock)) (hb : b ≠ B) (hF : ¬ F b) (hu : w0.heap.size ≤ b) : NodeDs w0 w' F R u B ev M n :=
  ⟨⟨h.mine.node.turn ht (fun k hf hk => hF (hk ▸ hf)), h.mine.above, h.mine.below.trans (ht.below (fun k hk => hk ▸ hu) h.mine.below.size)⟩,
    ⟨tmap_same h.ds.map (ht.block B (tmap_lt h.ds.map) (fun e => hb e.symm)) (fun i hi => by cases hi), fun x d hx => by
      obtain ⟨q, h1, h2, h3, h4⟩ := h.ds.has x d hx
      exact ⟨q, h1, h2, ins_mapped ht hm h3, h4⟩, h.ds.not, h.ds.keys, h.ds.id, h.ds.out⟩, h.above⟩
theorem ids_mapped {a : Option Addr} {l : List UInt64} (ht : Turn (fun k => k = b) (fun k => k = b) w w') (hm : ∃ es clock, w.heap[b]? = some (.map es clock)) (h : IdsAt w a l) : IdsAt w' a l := fun i hi => by
  obtain ⟨bb, o, e, hb, c0⟩ := h i hi
  exact ⟨bb, o, e, Nat.lt_of_lt_of_le hb ht.size, cell_mapped ht hm c0⟩
theorem DMap.look1 (h : DMap w F b ev M n) (x : UInt64) : (Instr.lookup 47 (.map (some b)) (.int .u64 x.toNat) false).run Tryz.prog w = .ok ((ev x).getD zeroD) w := tmap_look h.map x
end Go.Proofs.YtaaaplbjeknbkaaGreat
