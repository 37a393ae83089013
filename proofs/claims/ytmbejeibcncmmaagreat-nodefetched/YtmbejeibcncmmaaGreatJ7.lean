/-
  The map of a pool: from IDs to deeds, whose values are known to the sign; perhaps with a range over it under way.
  Rows in blocks of their own, as a thing owns them; the Ins of a deed that passes the check.
  A pool in memory.
  The contract of deed.Clone: a deed whose Ins lie in a new block.
  Contracts of package orphan that only look at a pool, or at a deed: New, isPeer, Has, clone, Deed.
  Contracts of package orphan: keep, Deed, usages, Usage.
  Contracts of package orphan: usages, Usage.
-/
import Derived.Test.YtmbejeibcncmmaaGreatJ1
import Derived.Test.YtmbejeibcncmmaaGreatJ2
import Derived.Maps.OwnOps
import Derived.Maps.OwnSet
import Derived.Maps.RangeWalk
import Derived.Test.YtmbejeibcncmmaaGreatJ6
import Derived.Deep.AppendLies
import Derived.Shelf.SlMaps.Clone
import Derived.Deep.RegionLaw
import Derived.BigQuiet
import Derived.Deep.QuietTactic
namespace Go.Proofs.YtmbejeibcncmmaaGreat
open Go.RowKit Go.Maps

theorem u64_keyed : Maps.Keyed Tryz.prog 22 := int_keyed Tryz.underlying22
theorem u64_key (x : UInt64) : keyOf Tryz.prog 22 (.int .u64 x.toNat) = some (.int .u64 x.toNat) := keyOf_int_mk Tryz.underlying22 (wf_u64_of x)
theorem lit_ne {x y : UInt64} (h : x ≠ y) : Lit.int .u64 x.toNat ≠ Lit.int .u64 y.toNat := fun e => h (by simp only [Lit.int.injEq, true_and] at e; exact u64_inj e)
theorem same_lit (x y : UInt64) : (Lit.int .u64 x.toNat).sameKey (.int .u64 y.toNat) = (x == y) := by
  rw [Bool.eq_iff_iff]
  constructor
  · intro h
    have := WideAt.sameKey_eq h
    simp only [Lit.int.injEq, true_and] at this
    exact beq_iff_eq.2 (u64_inj this)
  · intro h
    rw [beq_iff_eq.1 h]
    exact WideAt.sameKey_self (u64_keyed.key (u64_key y))

/-- An element is its own reading. -/
def exactE (v : Value) : Option (DataW Value × List MemPlace) := some (.held v, [])
/-- A range over a map under way: its iterator, what is to come, how many. -/
structure It where
  r : Nat
  left : Lit → Bool
  cnt : Nat
/-- Block b is a map that reads as D, with a range over it under way or none. -/
def MapIs (w : World) (b : Nat) (it : Option It) (D : DataW Value) : Prop :=
  ∃ n, match it with
  | none => w.ownsMap Tryz.prog 22 exactE b n D
  | some i => w.ranges Tryz.prog 22 exactE b i.r n D i.left i.cnt
theorem mapIs_owns {w : World} {b : Nat} {it : Option It} {D : DataW Value} (h : MapIs w b it D) : ∃ n, w.ownsMap Tryz.prog 22 exactE b n D := by
  obtain ⟨n, h⟩ := h
  cases it with
  | none => exact ⟨n, h⟩
  | some i => exact ⟨n, World.ranges.owns h⟩
/-- The map holds these values under these IDs, and no others. -/
def TMap (w : World) (b : Nat) (it : Option It) (ev : UInt64 → Option Value) : Prop :=
  ∃ D, MapIs w b it D ∧ (∀ x v, ev x = some v → ∀ z, D.atKey (.int .u64 x.toNat) z = .held v) ∧ (∀ x, Maps.has D (.int .u64 x.toNat) = (ev x).isSome)
theorem tmap_lt {w : World} {b : Nat} {it : Option It} {ev : UInt64 → Option Value} (h : TMap w b it ev) : b < w.heap.size := by
  obtain ⟨D, hm, _⟩ := h
  obtain ⟨n, hn⟩ := mapIs_owns hm
  exact hn.lt
theorem tmap_same {w w' : World} {b : Nat} {it : Option It} {ev : UInt64 → Option Value} (h : TMap w b it ev) (e : w'.heap[b]? = w.heap[b]?) (er : ∀ i, it = some i → w'.heap[i.r]? = w.heap[i.r]?) : TMap w' b it ev := by
  obtain ⟨D, ⟨n, hm⟩, r2⟩ := h
  refine ⟨D, ⟨n, ?_⟩, r2⟩
  cases it with
  | none =>
    obtain ⟨es, clock, hb, r⟩ := hm
    exact ⟨es, clock, e.trans hb, r⟩
  | some i =>
    obtain ⟨es, clock, since, seen, c0, hb, q1, q2, q3, hr, r⟩ := hm
    exact ⟨es, clock, since, seen, c0, e.trans hb, q1, q2, q3, (er i rfl).trans hr, r⟩
theorem tmap_new (w : World) : TMap (w.alloc (.map #[] 0)) w.heap.size none (fun _ => none) := ⟨.map [], ⟨0, World.ownsMap_made w _ _ _⟩, fun x v h => by simp at h, fun x => rfl⟩
/-- The deed that no ID has. -/
abbrev zeroD : Value := .agg #[.slice none 0 0, .int .i64 0, .int .i64 0, .int .i64 0]
theorem zero_deed (w : World) : (zeroValue 53).run Tryz.prog w = .ok zeroD w := by kernel_rfl
theorem tmap_look {w : World} {b : Nat} {it : Option It} {ev : UInt64 → Option Value} (h : TMap w b it ev) (x : UInt64) :
    (Instr.lookup 50 (.map (some b)) (.int .u64 x.toNat) false).run Tryz.prog w = .ok ((ev x).getD zeroD) w := by
  obtain ⟨D, hm, hat, hhas⟩ := h
  obtain ⟨n, hD⟩ := mapIs_owns hm
  obtain ⟨u, ps, hrun, hu⟩ := hD.lookup u64_keyed Tryz.underlying50 (zero_deed w) (zd := .held zeroD) (zp := []) rfl (u64_key x)
  rw [hrun]
  unfold exactE at hu
  simp only [Option.some.injEq, Prod.mk.injEq] at hu
  cases hx : ev x with
  | some v =>
    rw [hat x v hx] at hu
    have := hu.1
    simp only [DataW.held.injEq] at this
    rw [this]
    rfl
  | none =>
    have h0 := hhas x
    rw [hx] at h0
    rw [atKey_of_not_has h0] at hu
    have := hu.1
    simp only [DataW.held.injEq] at this
    rw [this]
    rfl
theorem tmap_look_ok {w : World} {b : Nat} {it : Option It} {ev : UInt64 → Option Value} (h : TMap w b it ev) (x : UInt64) :
    (Instr.lookup 50 (.map (some b)) (.int .u64 x.toNat) true).run Tryz.prog w = .ok (.tuple #[(ev x).getD zeroD, .bool (ev x).isSome]) w := by
  obtain ⟨D, hm, hat, hhas⟩ := h
  obtain ⟨n, hD⟩ := mapIs_owns hm
  obtain ⟨u, ps, hrun, hu⟩ := hD.look_ok u64_keyed Tryz.underlying50 (zero_deed w) (zd := .held zeroD) (zp := []) rfl (u64_key x)
  rw [hrun, hhas x]
  unfold exactE at hu
  simp only [Option.some.injEq, Prod.mk.injEq] at hu
  cases hx : ev x with
  | some v =>
    rw [hat x v hx] at hu
    have := hu.1
    simp only [DataW.held.injEq] at this
    rw [this]
    rfl
  | none =>
    have h0 := hhas x
    rw [hx] at h0
    rw [atKey_of_not_has h0] at hu
    have := hu.1
    simp only [DataW.held.injEq] at this
    rw [this]
    rfl
/-- What is left where a key is taken out. -/
def It.drop (i : It) (x : UInt64) (n : Nat) : It := ⟨i.r, fun z => i.left z && !z.sameKey (.int .u64 x.toNat), n⟩
theorem mapTurned_turn {w w' : World} {b : Nat} (h : w.mapTurned w' b) : Turn (fun k => k = b) (fun k => k = b) w w' := Turn.of_grown h.grown (fun k hk => by cases hk; rfl)
theorem del_has {D : DataW Value} {ev : UInt64 → Option Value} (h : ∀ x : UInt64, Maps.has D (.int .u64 x.toNat) = (ev x).isSome) (x y : UInt64) : Maps.has (D.del (.int .u64 x.toNat)) (.int .u64 y.toNat) = (if y = x then none else ev y).isSome := by
  by_cases e : y = x
  · rw [e, if_pos rfl, has_del_same]; rfl
  · rw [if_neg e, has_del_other (lit_ne e), h y]
theorem del_at {D : DataW Value} {ev : UInt64 → Option Value} (h : ∀ x v, ev x = some v → ∀ z, D.atKey (.int .u64 x.toNat) z = .held v) (x y : UInt64) (v : Value) (hy : (if y = x then none else ev y) = some v) (z : DataW Value) : (D.del (.int .u64 x.toNat)).atKey (.int .u64 y.toNat) z = .held v := by
  by_cases e : y = x
  · rw [if_pos e] at hy; cases hy
  · rw [if_neg e] at hy
    rw [atKey_del_other (lit_ne e), h y v hy]
theorem tmap_delete {w : World} {b : Nat} {it : Option It} {ev : UInt64 → Option Value} (h : TMap w b it ev) (x : UInt64) :
    ∃ w', (∀ ty, (Builtin.delete_ #[50, 22] ty #[.map (some b), .int .u64 x.toNat]).run Tryz.prog w = .ok (.tuple #[]) w') ∧
      (∃ n, (∀ i, it = some i → n ≤ i.cnt) ∧ TMap w' b (it.map fun i => i.drop x n) (fun y => if y = x then none else ev y)) ∧ Turn (fun k => k = b) (fun k => k = b) w w' := by
  obtain ⟨D, ⟨n, hm⟩, hat, hhas⟩ := h
  cases it with
  | none =>
    obtain ⟨w', hrun, ho, ht⟩ := World.ownsMap.drop hm u64_keyed Tryz.underlying50 (u64_key x) 0
    exact ⟨w', fun ty => hrun, ⟨0, (fun i hi => by cases hi), _, ⟨n, ho⟩, fun y v hy z => del_at hat x y v hy z, fun y => del_has hhas x y⟩, mapTurned_turn ht⟩
  | some i =>
    obtain ⟨w', cnt', hrun, ho, hc, ht⟩ := World.ranges.drop hm u64_keyed Tryz.underlying50 (u64_key x) 0
    exact ⟨w', fun ty => hrun, ⟨cnt', (fun j hj => by cases hj; exact hc), _, ⟨n, ho⟩, fun y v hy z => del_at hat x y v hy z, fun y => del_has hhas x y⟩, mapTurned_turn ht⟩
/-- As many keys as there are entries. -/
theorem nodup_le : ∀ {a b : List UInt64}, a.Nodup → (∀ x ∈ a, x ∈ b) → a.length ≤ b.length
  | [], _, _, _ => Nat.zero_le _
  | x :: r, b, hn, hs => by
    obtain ⟨hx, hr⟩ := List.nodup_cons.1 hn
    have hxb : x ∈ b := hs x (by simp)
    have := nodup_le hr (b := b.erase x) (fun y hy => (List.mem_erase_of_ne (show y ≠ x from fun e => hx (e ▸ hy))).2 (hs y (by simp [hy])))
    rw [List.length_erase_of_mem hxb] at this
    have h1 : 0 < b.length := List.length_pos_of_mem hxb
    simp only [List.length_cons]
    omega
def litId : Lit → UInt64
  | .int _ a => UInt64.ofNat a.toNat
  | _ => 0
theorem litId_mk (x : UInt64) : litId (.int .u64 x.toNat) = x := by simp [litId]
theorem tmap_small {w : World} {b : Nat} {D : DataW Value} {n : Nat} (h : w.ownsMap Tryz.prog 22 exactE b n D) (ks : List UInt64) (hks : ∀ x : UInt64, Maps.has D (.int .u64 x.toNat) = true → x ∈ ks) : w.ownsMap Tryz.prog 22 exactE b ks.length D := by
  obtain ⟨es, clock, hb, F, hs, hD⟩ := h
  refine ⟨es, clock, hb, F, ?_, hD⟩
  have hkeys : ∀ p ∈ es.toList.map (WideElems.rg Tryz.prog 22 exactE), ∃ x : UInt64, p.1 = .int .u64 x.toNat := fun p hp => by
    obtain ⟨v, hv⟩ := fit_keys F p hp
    obtain ⟨a, _, e, hw⟩ := keyOf_int_inv Tryz.underlying22 hv
    obtain ⟨u, rfl⟩ := wf_u64 hw
    exact ⟨u, e⟩
  have hap := fit_apart u64_keyed F
  have hnd : ((es.toList.map (WideElems.rg Tryz.prog 22 exactE)).map fun p => litId p.1).Nodup := by
    unfold List.Nodup
    rw [List.pairwise_map]
    refine List.Pairwise.imp_of_mem (fun {p q} hp hq hne => ?_) hap
    obtain ⟨x, hx⟩ := hkeys p hp
    obtain ⟨y, hy⟩ := hkeys q hq
    rw [hx, hy, litId_mk, litId_mk]
    intro e
    exact hne (by rw [hx, hy, e])
  have hsub : ∀ x ∈ (es.toList.map (WideElems.rg Tryz.prog 22 exactE)).map (fun p => litId p.1), x ∈ ks := fun x hx => by
    obtain ⟨p, hp, rfl⟩ := List.mem_map.1 hx
    obtain ⟨y, hy⟩ := hkeys p hp
    rw [hy, litId_mk]
    refine hks y ?_
    rw [hD, has_eq, List.any_eq_true]
    exact ⟨p, mem_sorted.2 hp, by rw [hy, same_lit]; simp⟩
  have := nodup_le hnd hsub
  simpa using this
theorem tmap_put {w : World} {b : Nat} {ev : UInt64 → Option Value} (h : TMap w b none ev) (ks : List UInt64) (hks : ∀ x, (ev x).isSome = true → x ∈ ks) (hkl : ks.length ≤ 1000) (x : UInt64) (v : Value) :
    ∃ w', (Instr.mapUpdate 50 (.map (some b)) (.int .u64 x.toNat) v).run Tryz.prog w = .ok () w' ∧ TMap w' b none (fun y => if y = x then some v else ev y) ∧ Turn (fun k => k = b) (fun k => k = b) w w' := by
  obtain ⟨D, ⟨n, hm⟩, hat, hhas⟩ := h
  have hm2 := tmap_small hm ks (fun y hy => hks y (by rw [← hhas y]; exact hy))
  obtain ⟨w', hrun, ho, hg⟩ := hm2.update u64_keyed Tryz.underlying50 (by unfold maxLen; omega) (u64_key x) (val := v) (d := .held v) (ps := []) rfl
  refine ⟨w', hrun, ⟨_, ⟨_, ho⟩, fun y u hy z => ?_, fun y => ?_⟩, Turn.of_grown hg (fun k hk => by cases hk; rfl)⟩
  · replace hy : (if y = x then some v else ev y) = some u := hy
    by_cases e : y = x
    · rw [if_pos e] at hy
      cases hy
      rw [e, atKey_put_same hm2.isMap (u64_keyed.key (u64_key _))]
    · rw [if_neg e] at hy
      rw [atKey_put_other (lit_ne e), hat y u hy]
  · show _ = (if y = x then some v else ev y).isSome
    by_cases e : y = x
    · rw [e, if_pos rfl, has_put_same hm2.isMap (u64_keyed.key (u64_key _))]
      rfl
    · rw [if_neg e, has_put_other (lit_ne e), hhas y]
end Go.Proofs.YtmbejeibcncmmaaGreat
namespace Go.Proofs.YtmbejeibcncmmaaGreat
open Go.RowKit

/-- A function with another value in one place. -/
def upd {α β : Type} [DecidableEq α] (f : α → β) (a : α) (v : β) : α → β := fun x => if x = a then v else f x
theorem upd_same {α β : Type} [DecidableEq α] (f : α → β) (a : α) (v : β) : upd f a v a = v := if_pos rfl
theorem upd_other {α β : Type} [DecidableEq α] (f : α → β) {a x : α} (v : β) (h : x ≠ a) : upd f a v x = f x := if_neg h
/-- The deed with nothing in it. -/
def nod : DeedD := ⟨[], 0, 0, 0⟩
theorem own_at {w : World} {B : Nat} {e : TypeId} {size n : Nat} {v : Value} {xs : List Value} {g : Nat} (h : w.ownsRow B e size v n xs) (hg : v.ownBlock = some g) : ∃ cur, w.heap[g]? = some (.cells cur e (0, 0)) := by
  rcases h.2 with ⟨hv, _⟩ | ⟨g', cap, cur, hv, _, hh, _⟩
  · rw [hv] at hg; cases hg
  · rw [hv] at hg
    simp only [Value.ownBlock, Option.some.injEq] at hg
    subst hg
    exact ⟨cur, hh⟩
theorem own_same {w w' : World} {B : Nat} {e : TypeId} {size n : Nat} {v : Value} {xs : List Value} (h : w.ownsRow B e size v n xs) (hs : ∀ g, v.ownBlock = some g → w'.heap[g]? = w.heap[g]?) : w'.ownsRow B e size v n xs := by
  refine ⟨h.1, ?_⟩
  rcases h.2 with hv | ⟨g, cap, cur, hv, hb, hh, r⟩
  · exact .inl hv
  · exact .inr ⟨g, cap, cur, hv, hb, (hs g (by rw [hv]; rfl)).trans hh, r⟩
theorem own_turn {w w' : World} {G G' : Nat → Prop} {B : Nat} {e : TypeId} {size n : Nat} {v : Value} {xs : List Value} (h : w.ownsRow B e size v n xs) (ht : Turn G G' w w') (hn : ∀ g, v.ownBlock = some g → ¬ G g) : w'.ownsRow B e size v n xs :=
  own_same h fun g hg => ht.block g ((h.lt g hg).2) (hn g hg)
theorem head_cell {w : World} {R : Nat} {cs : Array Value} {t : TypeId} {fr : Nat × Nat} (h : w.heap[R]? = some (.cells cs t fr)) (j : Nat) : w.cell? ⟨R, j, none⟩ = cs[j]? := by simp [World.cell?, h]
theorem ins_ok {d : DeedD} (h : checkD d = 0) : ∀ z ∈ d.ins, inOk z := fun z hz => by
  obtain ⟨k, hk, rfl⟩ := List.getElem_of_mem hz
  have := (check_ok h).2.1 k hk
  unfold inOk
  simp only [Lit.wf, Bool.and_eq_true, decide_eq_true_eq]
  exact ⟨by show (-9223372036854775808 : Int) ≤ _; omega, by show _ ≤ (9223372036854775807 : Int); omega⟩
theorem insAt_turn {w w' : World} {G G' : Nat → Prop} {a : Option Addr} {l : List InD} (h : InsAt w a l) (ht : Turn G G' w w') (hn : ∀ bb o, l ≠ [] → a = some ⟨bb, o, none⟩ → ¬ G bb) : InsAt w' a l := fun i hi => by
  obtain ⟨bb, o, e, hb, c0, c1, c2⟩ := h i hi
  have hG := hn bb o (fun e => by rw [e] at hi; simp at hi) e
  have hs := ht.block bb hb hG
  exact ⟨bb, o, e, Nat.lt_of_lt_of_le hb ht.size, (World.cell?_of_block (a := ⟨bb, o + i * 2, none⟩) hs).trans c0, (World.cell?_of_block (a := ⟨bb, o + i * 2 + 1, none⟩) hs).trans c1, c2⟩
theorem turn_set4 (w : World) (n : Nat) (u0 u1 u2 u3 : Value) : Turn (fun k => k = n) (fun k => k = n) w ((((w.setCell ⟨n, 0, none⟩ u0).setCell ⟨n, 1, none⟩ u1).setCell ⟨n, 2, none⟩ u2).setCell ⟨n, 3, none⟩ u3) :=
  (((Turn.set (F := fun k => k = n) w ⟨n, 0, none⟩ u0 rfl).trans (Turn.set _ ⟨n, 1, none⟩ u1 rfl)).trans (Turn.set _ ⟨n, 2, none⟩ u2 rfl)).trans (Turn.set _ ⟨n, 3, none⟩ u3 rfl)
/-- The answer of Deed. -/
def DeedAns (w : World) (m : Option DeedD) (e : Ending) (w' : World) : Prop :=
  ∃ a c, e = .returned (.tuple #[.agg #[.slice a (m.getD nod).ins.length c, .int .i64 (m.getD nod).outs, .int .i64 (m.getD nod).weight, .int .i64 (m.getD nod).fee], .int .i64 (if m.isSome then 0 else 5)]) ∧ (m.getD nod).ins.length ≤ 8 ∧ (m.getD nod).ins.length ≤ c ∧ InsAt w' a (m.getD nod).ins ∧ Below w.heap.size w w'
end Go.Proofs.YtmbejeibcncmmaaGreat
namespace Go.Proofs.YtmbejeibcncmmaaGreat.Ho
open Go.RowKit Go.Maps

/-- The cells of a node, two of them its pool's. -/
def homeC (oc : Nat → Value) (m v : Value) : Array Value := #[oc 0, oc 1, oc 2, oc 3, oc 4, oc 5, oc 6, oc 7, oc 8, oc 9, oc 10, oc 11, oc 12, oc 13, oc 14, oc 15, oc 16, oc 17, oc 18, oc 19, oc 20, oc 21, oc 22, oc 23, oc 24, oc 25, oc 26, m, v, oc 29, oc 30, oc 31, oc 32, oc 33]
/-- Block R.b is a pool with the links ls and the deeds M: its map lies in block b and holds the values ev, its links are the slice v; F: the blocks that it owns. -/
structure HomeAt (w : World) (F : Nat → Prop) (R : Loc) (it : Option It) (ls : List LD) (M : UInt64 → Option DeedD) (b : Nat) (ev : UInt64 → Option Value) (v : Value) : Prop where
  head : w.heap[R.b]? = some (.cells (homeC R.oc (.map (some b)) v) 107 (0, 0))
  map : TMap w b it ev
  deeds : ∀ x, (ev x = none ∧ M x = none) ∨ ∃ a c d, ev x = some (deedV a c d) ∧ M x = some d ∧ OwnIns w (.slice a d.ins.length c) d.ins ∧ ∀ g, (Value.slice a d.ins.length c).ownBlock = some g → F g
  fine : ∀ x d, M x = some d → checkD d = 0
  links : OwnLinks w v ls
  fR : F R.b
  fb : F b
  fv : ∀ g, v.ownBlock = some g → F g
  there : There w F
  out : ∀ i, it = some i → ¬ F i.r ∧ i.r < w.heap.size


variable {w w' : World} {F : Nat → Prop} {R : Loc} {it : Option It} {ls : List LD} {M : UInt64 → Option DeedD} {b : Nat} {ev : UInt64 → Option Value} {v : Value}

theorem HomeAt.same (h : HomeAt w F R it ls M b ev v) (e : ∀ k, k < w.heap.size → F k → w'.heap[k]? = w.heap[k]?) (er : ∀ i, it = some i → w'.heap[i.r]? = w.heap[i.r]?) (hs : w.heap.size ≤ w'.heap.size) : HomeAt w' F R it ls M b ev v where
  head := (e R.b (h.there R.b h.fR) h.fR).trans h.head
  map := tmap_same h.map (e b (h.there b h.fb) h.fb) er
  deeds := fun x => (h.deeds x).imp id fun ⟨a, c, d, h1, h2, h3, h4⟩ => ⟨a, c, d, h1, h2, own_same h3 fun g hg => e g (h.there g (h4 g hg)) (h4 g hg), h4⟩
  fine := h.fine
  links := own_same h.links fun g hg => e g (h.there g (h.fv g hg)) (h.fv g hg)
  fR := h.fR
  fb := h.fb
  fv := h.fv
  there := h.there.later hs
  out := fun i hi => ⟨(h.out i hi).1, Nat.lt_of_lt_of_le (h.out i hi).2 hs⟩
theorem HomeAt.kept (h : HomeAt w F R it ls M b ev v) (hb : Below w.heap.size w w') : HomeAt w' F R it ls M b ev v :=
  h.same (fun k hk _ => hb.block k hk) (fun i hi => hb.block i.r (h.out i hi).2) hb.size
theorem HomeAt.turn (h : HomeAt w F R it ls M b ev v) {G G' : Nat → Prop} (ht : Turn G G' w w') (ha : Apart F G) (hr : ∀ i, it = some i → ¬ G i.r) : HomeAt w' F R it ls M b ev v :=
  h.same (fun k hk hf => ht.block k hk (ha k hf)) (fun i hi => ht.block i.r (h.out i hi).2 (hr i hi)) ht.size
theorem HomeAt.lt (h : HomeAt w F R it ls M b ev v) : R.b < w.heap.size := h.there R.b h.fR
theorem HomeAt.mapc (h : HomeAt w F R it ls M b ev v) : w.cell? ⟨R.b, 27, none⟩ = some (.map (some b)) := (head_cell h.head 27).trans rfl
theorem HomeAt.linkc (h : HomeAt w F R it ls M b ev v) : w.cell? ⟨R.b, 28, none⟩ = some v ∧ w.frozen? ⟨R.b, 28, none⟩ = false := ⟨(head_cell h.head 28).trans rfl, frozen_of_row w R.b (28) _ _ h.head⟩
theorem HomeAt.look (h : HomeAt w F R it ls M b ev v) (x : UInt64) : (Instr.lookup 50 (.map (some b)) (.int .u64 x.toNat) false).run Tryz.prog w = .ok ((ev x).getD zeroD) w := tmap_look h.map x
theorem HomeAt.look_ok (h : HomeAt w F R it ls M b ev v) (x : UInt64) : (Instr.lookup 50 (.map (some b)) (.int .u64 x.toNat) true).run Tryz.prog w = .ok (.tuple #[(ev x).getD zeroD, .bool (ev x).isSome]) w := tmap_look_ok h.map x
theorem HomeAt.there_is (h : HomeAt w F R it ls M b ev v) (x : UInt64) : (ev x).isSome = (M x).isSome := by
  rcases h.deeds x with ⟨h1, h2⟩ | ⟨a, c, d, h1, h2, _⟩
  · rw [h1, h2]; rfl
  · rw [h1, h2]; rfl
/-- The deed of an ID, as the map answers it. -/
theorem HomeAt.deed (h : HomeAt w F R it ls M b ev v) (x : UInt64) : ∃ a c, (ev x).getD zeroD = deedV a c ((M x).getD nod) ∧ ((M x).getD nod).ins.length ≤ 8 ∧ ((M x).getD nod).ins.length ≤ c ∧ InsAt w a ((M x).getD nod).ins := by
  rcases h.deeds x with ⟨h1, h2⟩ | ⟨a, c, d, h1, h2, h3, h4⟩
  · rw [h1, h2]
    exact ⟨none, 0, rfl, Nat.zero_le _, Nat.zero_le _, fun i hi => absurd hi (by simp [nod])⟩
  · rw [h1, h2]
    have hf := h.fine x d h2
    obtain ⟨_, hc, hi⟩ := ownIns_slice h3 (ins_ok hf)
    exact ⟨a, c, rfl, (check_ok hf).1, hc, hi⟩
theorem HomeAt.b_ne (h : HomeAt w F R it ls M b ev v) {g : Nat} (hg : v.ownBlock = some g) : g ≠ R.b ∧ g ≠ b := by
  obtain ⟨cur, hc⟩ := own_at h.links hg
  refine ⟨fun e => ?_, fun e => ?_⟩
  · rw [e, h.head] at hc; simp at hc
  · obtain ⟨D, hm, _⟩ := h.map
    obtain ⟨n, es, clock, hb, _⟩ := mapIs_owns hm
    rw [e, hb] at hc; cases hc
theorem HomeAt.i_ne (h : HomeAt w F R it ls M b ev v) {l : List InD} {u : Value} (ho : OwnIns w u l) {g : Nat} (hg : u.ownBlock = some g) : g ≠ R.b ∧ g ≠ b ∧ v.ownBlock ≠ some g := by
  obtain ⟨cur, hc⟩ := own_at ho hg
  refine ⟨fun e => ?_, fun e => ?_, fun e => ?_⟩
  · rw [e, h.head] at hc; simp at hc
  · obtain ⟨D, hm, _⟩ := h.map
    obtain ⟨n, es, clock, hb, _⟩ := mapIs_owns hm
    rw [e, hb] at hc; cases hc
  · obtain ⟨cur', hc'⟩ := own_at h.links e
    rw [hc'] at hc; simp at hc
theorem HomeAt.R_ne (h : HomeAt w F R it ls M b ev v) : R.b ≠ b := fun e => by
  obtain ⟨D, hm, _⟩ := h.map
  obtain ⟨n, es, clock, hb, _⟩ := mapIs_owns hm
  have := h.head
  rw [e, hb] at this; cases this

/-- The links are written anew, in their block or a new one, and the slice is stored. -/
theorem HomeAt.setLinks (h : HomeAt w F R it ls M b ev v) {u : Value} {l : List LD} {G : Nat → Prop} (hG : ∀ k, G k → v.ownBlock = some k) (ht : Turn G G w w') (ho : OwnLinks w' u l) (hv : ∀ k, u.ownBlock = some k → v.ownBlock = some k ∨ w.heap.size ≤ k) :
    HomeAt (w'.setCell ⟨R.b, 28, none⟩ u) (fun k => F k ∨ u.ownBlock = some k) R it l M b ev u ∧ Turn F (fun k => F k ∨ u.ownBlock = some k) w (w'.setCell ⟨R.b, 28, none⟩ u) := by
  have hnR : ¬ G R.b := fun hg => (h.b_ne (hG R.b hg)).1 rfl
  have hnb : ¬ G b := fun hg => (h.b_ne (hG b hg)).2 rfl
  have hlt : ∀ k, k < w.heap.size → k < w'.heap.size := fun k hk => Nat.lt_of_lt_of_le hk ht.size
  have hset : ∀ k, k ≠ R.b → (w'.setCell ⟨R.b, 28, none⟩ u).heap[k]? = w'.heap[k]? := fun k hk => Below.heap_setCell w' ⟨R.b, 28, none⟩ u k hk
  have hold : ∀ k, k < w.heap.size → k ≠ R.b → ¬ G k → (w'.setCell ⟨R.b, 28, none⟩ u).heap[k]? = w.heap[k]? := fun k hk hkR hn => (hset k hkR).trans (ht.block k hk hn)
  have hvR : ∀ k, u.ownBlock = some k → k ≠ R.b := fun k hk => (hv k hk).elim (fun e => (h.b_ne e).1) (fun hle e => by have := h.lt; omega)
  refine ⟨⟨?_, tmap_same h.map (hold b (h.there b h.fb) (fun e => h.R_ne e.symm) hnb) (fun i hi => hold i.r (h.out i hi).2 (fun e => (h.out i hi).1 (by rw [e]; exact h.fR)) (fun hg => (h.out i hi).1 (h.fv i.r (hG _ hg)))),
    fun x => (h.deeds x).imp id fun ⟨a, c, d, h1, h2, h3, h4⟩ => ⟨a, c, d, h1, h2, own_same h3 fun g hg => hold g (h.there g (h4 g hg)) (h.i_ne h3 hg).1 (fun hk => (h.i_ne h3 hg).2.2 (hG g hk)), fun g hg => .inl (h4 g hg)⟩,
    h.fine, own_same ho fun g hg => hset g (hvR g hg), .inl h.fR, .inl h.fb, fun g hg => .inr hg, fun k hk => ?_, fun i hi => ⟨fun hk => ?_, ?_⟩⟩, ?_⟩
  · exact heap_setCell_same w' R.b (28) _ _ u ((ht.block R.b h.lt hnR).trans h.head)
  · rw [World.size_setCell]
    exact hk.elim (fun hf => hlt k (h.there k hf)) (fun e => (ho.lt k e).2)
  · rcases hk with hk | hk
    · exact (h.out i hi).1 hk
    · exact (hv _ hk).elim (fun e => (h.out i hi).1 (h.fv _ e)) (fun hle => by have := (h.out i hi).2; omega)
  · rw [World.size_setCell]
    exact hlt _ (h.out i hi).2
  · refine ⟨ht.os, ht.tape, ht.output, by rw [World.size_setCell]; exact ht.size, fun k hk hn => hold k hk (fun e => hn (by rw [e]; exact h.fR)) (fun hg => hn (h.fv k (hG k hg))), fun k hk => hk.elim .inl (fun e => (hv k e).elim (fun e' => .inl (h.fv k e')) .inr)⟩
/-- An ID is taken out of the map. -/
theorem HomeAt.deleted (h : HomeAt w F R it ls M b ev v) (x : UInt64) : ∃ w', (∀ ty, (Builtin.delete_ #[50, 22] ty #[.map (some b), .int .u64 x.toNat]).run Tryz.prog w = .ok (.tuple #[]) w') ∧ ∃ n, (∀ i, it = some i → n ≤ i.cnt) ∧
    HomeAt w' F R (it.map fun i => i.drop x n) ls (upd M x none) b (upd ev x none) v ∧ Turn F F w w' := by
  obtain ⟨w5, hdel, ⟨n, hn, hm5⟩, ht5⟩ := tmap_delete h.map x
  refine ⟨w5, hdel, n, hn, ?_, ⟨ht5.os, ht5.tape, ht5.output, ht5.size, fun j hj hnj => ht5.block j hj (fun e => hnj (by rw [e]; exact h.fb)), fun j hj => .inl hj⟩⟩
  refine ⟨(ht5.block R.b h.lt h.R_ne).trans h.head, hm5, fun y => ?_, fun y d hy => ?_, own_turn h.links ht5 (fun g hg e => (h.b_ne hg).2 e), h.fR, h.fb, h.fv, h.there.later ht5.size, fun i hi => ?_⟩
  · by_cases hy : y = x
    · exact .inl ⟨by rw [hy, upd_same], by rw [hy, upd_same]⟩
    · rcases h.deeds y with ⟨h1, h2⟩ | ⟨a, c, d, h1, h2, h3, h4⟩
      · exact .inl ⟨(upd_other _ _ hy).trans h1, (upd_other _ _ hy).trans h2⟩
      · exact .inr ⟨a, c, d, (upd_other _ _ hy).trans h1, (upd_other _ _ hy).trans h2, own_turn h3 ht5 (fun g hg e => (h.i_ne h3 hg).2.1 e), h4⟩
  · by_cases e : y = x
    · rw [e, upd_same] at hy; cases hy
    · rw [upd_other _ _ e] at hy
      exact h.fine y d hy
  · cases it with
    | none => cases hi
    | some j =>
      cases hi
      exact ⟨(h.out j rfl).1, Nat.lt_of_lt_of_le (h.out j rfl).2 ht5.size⟩
/-- A deed whose Ins lie in a new block is put into the map. -/
theorem HomeAt.put (h : HomeAt w F R none ls M b ev v) (ks : List UInt64) (hks : ∀ x, (M x).isSome = true → x ∈ ks) (hkl : ks.length ≤ 1000) (x : UInt64) {a : Option Addr} {c : Nat} {d : DeedD} (hd : checkD d = 0) (hb : Below w.heap.size w w') (ho : w'.ownsRow w.heap.size 64 2 (.slice a d.ins.length c) d.ins.length (insC d.ins)) :
    ∃ w2, (Instr.mapUpdate 50 (.map (some b)) (.int .u64 x.toNat) (deedV a c d)).run Tryz.prog w' = .ok () w2 ∧ ∃ F', HomeAt w2 F' R none ls (upd M x (some d)) b (upd ev x (some (deedV a c d))) v ∧ Turn F F' w w2 := by
  have h' := h.kept hb
  obtain ⟨w2, hrun, hm2, ht2⟩ := tmap_put h'.map ks (fun y hy => hks y (by rw [← h.there_is y]; exact hy)) hkl x (deedV a c d)
  have hnew : ∀ g, (Value.slice a d.ins.length c).ownBlock = some g → w.heap.size ≤ g := fun g hg => (ho.lt g hg).1
  have hbl := h.there b h.fb
  refine ⟨w2, hrun, fun k => F k ∨ (Value.slice a d.ins.length c).ownBlock = some k, ⟨(ht2.block R.b h'.lt h.R_ne).trans h'.head, hm2, fun y => ?_, fun y e hy => ?_, own_turn h'.links ht2 (fun g hg e => (h.b_ne hg).2 e), .inl h.fR, .inl h.fb, fun g hg => .inl (h.fv g hg), fun k hk => ?_, fun i hi => by cases hi⟩, ?_⟩
  · by_cases e : y = x
    · refine .inr ⟨a, c, d, by rw [e, upd_same], by rw [e, upd_same], ?_, fun g hg => .inr hg⟩
      have ho2 := own_turn ho ht2 (fun g hg e => by have := hnew g hg; omega)
      exact ⟨ho2.1, ho2.2.imp id fun ⟨g, cap, cur, q1, q2, q3⟩ => ⟨g, cap, cur, q1, Nat.zero_le _, q3⟩⟩
    · rcases h'.deeds y with ⟨h1, h2⟩ | ⟨a', c', d', h1, h2, h3, h4⟩
      · exact .inl ⟨(upd_other _ _ e).trans h1, (upd_other _ _ e).trans h2⟩
      · exact .inr ⟨a', c', d', (upd_other _ _ e).trans h1, (upd_other _ _ e).trans h2, own_turn h3 ht2 (fun g hg e => (h'.i_ne h3 hg).2.1 e), fun g hg => .inl (h4 g hg)⟩
  · by_cases e' : y = x
    · rw [e', upd_same] at hy; cases hy; exact hd
    · rw [upd_other _ _ e'] at hy
      exact h.fine y e hy
  · exact hk.elim (fun hf => Nat.lt_of_lt_of_le (h'.there k hf) ht2.size) (fun e => Nat.lt_of_lt_of_le (ho.lt k e).2 ht2.size)
  · have : Turn F F w' w2 := ⟨ht2.os, ht2.tape, ht2.output, ht2.size, fun j hj hnj => ht2.block j hj (fun e => hnj (by rw [e]; exact h.fb)), fun j hj => .inl hj⟩
    exact ((Turn.of_below hb).trans this).more (fun k hk => hk.elim .inl (fun e => .inr (hnew k e)))
end Go.Proofs.YtmbejeibcncmmaaGreat.Ho
namespace Go.Proofs.YtmbejeibcncmmaaGreat
open Go.RowKit

theorem info_in : (Tryz.prog.info? 64).map (fun i => (i.zero, i.size, i.bytes)) = some (some (.agg #[.int .u64 0, .int .i64 0]), 2, 16) := by kernel_rfl
theorem insC_one (l : List InD) : ∀ u ∈ insC l, u.oneCell' = true := fun u hu => by
  unfold insC at hu
  obtain ⟨x, _, hx⟩ := List.mem_flatMap.1 hu
  simp only [inC, List.mem_cons, List.not_mem_nil, or_false] at hx
  rcases hx with rfl | rfl <;> rfl
theorem ins_cells {w : World} {bb o : Nat} {l : List InD} (h : InsAt w (some ⟨bb, o, none⟩) l) : ∀ j u, (insC l)[j]? = some u → w.cell? ((⟨bb, o, none⟩ : Addr).add j) = some u := fun j u hj => by
  have hl : j < (insC l).length := (List.getElem?_eq_some_iff.1 hj).1
  rw [insC_length] at hl
  have hi : j / 2 < l.length := by omega
  have e2 := insC_at l (j / 2) hi (j % 2) (by omega)
  rw [show j / 2 * 2 + j % 2 = j by omega, hj] at e2
  obtain ⟨b', o', e, _, c0, c1, _⟩ := h (j / 2) hi
  simp only [Option.some.injEq, Addr.mk.injEq, and_true] at e
  obtain ⟨rfl, rfl⟩ := e
  have e3 : (⟨bb, o, none⟩ : Addr).add j = ⟨bb, o + j, none⟩ := by unfold Addr.add; split <;> simp_all
  rw [e3]
  have hm : j % 2 = 0 ∨ j % 2 = 1 := by omega
  rcases hm with hm | hm
  · rw [hm] at e2
    rw [show o + j = o + j / 2 * 2 by omega, c0, e2]
    rfl
  · rw [hm] at e2
    rw [show o + j = o + j / 2 * 2 + 1 by omega, c1, e2]
    rfl
theorem append_none (a : Option Addr) (cap : Nat) (ty : TypeId) (w : World) : (Builtin.append_ #[51, 51] ty #[.slice none 0 0, .slice a 0 cap]).run Tryz.prog w = .ok (.slice none 0 0) w := by
  obtain ⟨iE, hiE, _, hz1, _⟩ := info_parts info_in
  cases a with
  | none => simp [Builtin.append_, run_underlying Tryz.underlying51, Builtin.lenOf, Builtin.firstCells, sizeOf, typeInfo, hiE]
  | some ad => simp [Builtin.append_, run_underlying Tryz.underlying51, Builtin.lenOf, Builtin.firstCells, sizeOf, typeInfo, hiE, loadCells, loadCellsFrom]
theorem step_append_none {ops : Array Oper} {rest : List Oper} {o : Oper} {a : Act} {Q : Exit → Act → World → Prop} {w : World} (hgd : o.guard = none) (s x : Operand) (ho : o.op = .call { callee := .builtin .append, args := #[s, x], argTypes := #[51, 51] })
    (ad : Option Addr) (cap : Nat) (hs : a.eval s = .slice none 0 0) (hx : a.eval x = .slice ad 0 cap) (h : wpList Tryz.prog ops Q rest (a.put o.dst (.slice none 0 0)) w) : wpList Tryz.prog ops Q (o :: rest) a w := by
  refine wpList_plain hgd fun K' hK' => ?_
  unfold Oper.wp
  simp [execOp, ho, resolve, invoke, builtin, hs, hx, append_none, Result.andThen]
  exact hK' _ _ h
/-- The answer is this deed, its Ins in a block of their own that is new. -/
def Cloned (w : World) (d : DeedD) (v : Value) (w' : World) : Prop := ∃ a c, v = .agg #[.slice a d.ins.length c, .int .i64 d.outs, .int .i64 d.weight, .int .i64 d.fee] ∧ w'.ownsRow w.heap.size 64 2 (.slice a d.ins.length c) d.ins.length (insC d.ins) ∧ Below w.heap.size w w'
set_option maxRecDepth 20000 in
theorem clone_any (d : DeedD) (a : Option Addr) (cap : Nat) (w : World) (hl : d.ins.length ≤ 8) (hi : InsAt w a d.ins) :
    Calls Tryz.prog 129 #[.agg #[.slice a d.ins.length cap, .int .i64 d.outs, .int .i64 d.weight, .int .i64 d.fee]] w fun e w' => ∃ v, e = .returned v ∧ Cloned w d v w' := by
  obtain ⟨l, o, g, f⟩ := d
  simp only at hl hi ⊢
  by_cases hnil : l = []
  · subst hnil
    have HE : ∀ w2, Below w.heap.size w w2 → Cloned w ⟨[], o, g, f⟩ (.agg #[.slice none 0 0, .int .i64 o, .int .i64 g, .int .i64 f]) w2 := fun w2 hb => ⟨none, 0, rfl, World.ownsRow_nil _ _ _ _, hb⟩
    have HE := Lib.hid HE
    clear hl hi
    simp only [List.length_nil]
    go_enter Tryz.func129, Tryz.ntmps129
    go_wp2_with (at_builtin; refine step_append_none rfl _ _ rfl a cap rfl rfl ?_)
    refine bodyPost_ret (v := .agg #[.slice none 0 0, .int .i64 o, .int .i64 g, .int .i64 f]) (by simp [results, Tryz.results129, go_sem]) rfl ?_
    exact ⟨_, rfl, HE.out _ (kept_alloc (kept_new _ _) _)⟩
  · have hpos : 0 < l.length := List.length_pos_iff.2 hnil
    obtain ⟨bb, oo, rfl, hbl, _, _, _⟩ := hi 0 hpos
    obtain ⟨iE, hiE, hz0, hz1, hz2⟩ := info_parts info_in
    have hk : Below w.heap.size w ((w.alloc (.cells #[.slice (some ⟨bb, oo, none⟩) l.length cap, .int .i64 o, .int .i64 g, .int .i64 f] 53)).alloc (.cells #[.slice none 0 0, .int .i64 0, .int .i64 0, .int .i64 0] 53)) := kept_alloc (kept_new _ _) _
    have HN := Lib.hid (ins_cells (insAt_kept hk hi))
    have HL := Lib.hid hl
    clear hnil hi
    go_enter Tryz.func129, Tryz.ntmps129
    go_wp2_with (at_builtin; refine wpList_append_lies _ rfl _ _ 51 rfl w.heap.size 64 iE _ 2 16 Tryz.underlying51 hiE hz0 hz1 hz2 rfl (by decide) (.slice none 0 0) 0 [] rfl (World.ownsRow_nil _ _ _ _) ⟨bb, oo, none⟩ l.length cap (insC l) rfl (insC_length l) HN.out (insC_one l) hpos (by have := HL.out; unfold maxLen; omega) (by have := HL.out; omega) (by simp; omega) _ rfl ?_; intro g2 cap2 w2 hown2 hgrow2 hat2 hlt2; refine Hid.out ?_)
    refine Lib.hid ?_
    have hb2 := grown_below hgrow2
    have hB1 : w2.heap[w.heap.size]? = some (.cells #[.slice (some ⟨bb, oo, none⟩) l.length cap, .int .i64 o, .int .i64 g, .int .i64 f] 53 (0, 0)) := (hb2.block _ (by simp; omega)).trans (heap_alloc2_old _ _ _)
    have hB2 : w2.heap[w.heap.size + 1]? = some (.cells #[.slice none 0 0, .int .i64 0, .int .i64 0, .int .i64 0] 53 (0, 0)) := (hb2.block _ (by simp)).trans (heap_alloc2_new _ _ _)
    have c0 : w2.cell? ⟨w.heap.size, 0, none⟩ = some (.slice (some ⟨bb, oo, none⟩) l.length cap) := head_cell hB1 0
    have c1 : w2.cell? ⟨w.heap.size, 1, none⟩ = some (.int .i64 o) := head_cell hB1 1
    have c2 : w2.cell? ⟨w.heap.size, 2, none⟩ = some (.int .i64 g) := head_cell hB1 2
    have c3 : w2.cell? ⟨w.heap.size, 3, none⟩ = some (.int .i64 f) := head_cell hB1 3
    have d0 : w2.cell? ⟨w.heap.size + 1, 0, none⟩ = some (.slice none 0 0) := head_cell hB2 0
    have d1 : w2.cell? ⟨w.heap.size + 1, 1, none⟩ = some (.int .i64 0) := head_cell hB2 1
    have d2 : w2.cell? ⟨w.heap.size + 1, 2, none⟩ = some (.int .i64 0) := head_cell hB2 2
    have d3 : w2.cell? ⟨w.heap.size + 1, 3, none⟩ = some (.int .i64 0) := head_cell hB2 3
    have e0 := frozen_of_row w2 _ 0 _ _ hB1
    have f0 := frozen_of_row w2 _ 0 _ _ hB2
    have f1 := frozen_of_row w2 _ 1 _ _ hB2
    have f2 := frozen_of_row w2 _ 2 _ _ hB2
    have f3 := frozen_of_row w2 _ 3 _ _ hB2
    have hs2 : w.heap.size + 1 < w2.heap.size := by have := hb2.size; simp at this; omega
    have hg2 : g2 = w.heap.size + 2 := by
      rcases hat2 with h | h
      · cases h
      · rw [h]; simp
    have HO : Hid (w2.ownsRow w.heap.size 64 2 (.slice (some ⟨g2, 0, none⟩) l.length cap2) l.length (insC l)) := Lib.hid (by rw [Nat.zero_add] at hown2; exact hown2)
    have HB := Lib.hid (kept_trans hk hb2)
    have HG := Lib.hid hg2
    clear hown2 hgrow2 hat2 hlt2 hB1 hB2 hb2 hg2
    go_wp2
    refine bodyPost_ret (v := .agg #[.slice (some ⟨g2, 0, none⟩) l.length cap2, .int .i64 o, .int .i64 g, .int .i64 f]) (by simp [results, Tryz.results129, go_sem, d0, d1, d2, d3]) rfl ?_
    have ht : Turn (fun k => k = w.heap.size ∨ k = w.heap.size + 1) (fun k => k = w.heap.size ∨ k = w.heap.size + 1) w2 _ := ((((Turn.set w2 ⟨w.heap.size, 0, none⟩ (.slice (some ⟨g2, 0, none⟩) l.length cap2) (.inl rfl)).trans (Turn.set _ ⟨w.heap.size + 1, 0, none⟩ (.slice (some ⟨g2, 0, none⟩) l.length cap2) (.inr rfl))).trans (Turn.set _ ⟨w.heap.size + 1, 1, none⟩ (.int .i64 o) (.inr rfl))).trans (Turn.set _ ⟨w.heap.size + 1, 2, none⟩ (.int .i64 g) (.inr rfl))).trans (Turn.set _ ⟨w.heap.size + 1, 3, none⟩ (.int .i64 f) (.inr rfl))
    refine ⟨_, rfl, _, _, rfl, own_turn HO.out ht (fun k hk => ?_), HB.out.trans (ht.below (fun k hk => by omega) HB.out.size)⟩
    have hk : g2 = k := by simpa [Value.ownBlock] using hk
    have := HG.out
    omega
theorem map_not_nil (w : World) (b : Nat) : (binOp .eql 50 (.map (some b)) (.map none)).run Tryz.prog w = .ok (.bool false) w := run_eql_map_nil_sl (P := Tryz.prog) w 50 _ _ (some b) Tryz.underlying50
end Go.Proofs.YtmbejeibcncmmaaGreat
namespace Go.Proofs.YtmbejeibcncmmaaGreat.Ho
open Go.RowKit Go.Maps

theorem isPeer_any (p : Int) (w : World) : Calls Tryz.prog 101 #[.int .i64 p] w fun e w' => e = .returned (.bool (decide (0 ≤ p ∧ p < 8))) ∧ w = w' := by
  by_cases h1 : 0 ≤ p
  · by_cases h2 : p < 8
    · have h3 : decide (0 ≤ p ∧ p < 8) = true := by simp [h1, h2]
      rw [h3]
      go_enter Tryz.func101, Tryz.ntmps101
      go_wp2
      go_ret
      exact ⟨rfl, rfl⟩
    · have h3 : decide (0 ≤ p ∧ p < 8) = false := by simp [h2]
      rw [h3]
      go_enter Tryz.func101, Tryz.ntmps101
      go_wp2
      go_ret
      exact ⟨rfl, rfl⟩
  · have h3 : decide (0 ≤ p ∧ p < 8) = false := by simp [h1]
    rw [h3]
    go_enter Tryz.func101, Tryz.ntmps101
    go_wp2
    go_ret
    exact ⟨rfl, rfl⟩
def goodP (p : Int) : Prop := 0 ≤ p ∧ p < 8
instance (p : Int) : Decidable (goodP p) := by unfold goodP; infer_instance
theorem peer_nat {p : Int} (h : goodP p) : ∃ n : Nat, p = n ∧ n < 8 ∧ p.toNat = n := by
  obtain ⟨h1, h2⟩ := h
  exact ⟨p.toNat, by omega, by omega, rfl⟩
theorem isPeer_yes (p : Int) (n : Nat) (h : p = n) (hn : n < 8) (w : World) : Calls Tryz.prog 101 #[.int .i64 p] w fun e w' => e = .returned (.bool true) ∧ w = w' := by
  refine (isPeer_any p w).mono fun e w' ⟨h1, h2⟩ => ⟨?_, h2⟩
  rw [h1, decide_eq_true ⟨by omega, by omega⟩]
theorem isPeer_no (p : Int) (h : ¬ goodP p) (w : World) : Calls Tryz.prog 101 #[.int .i64 p] w fun e w' => e = .returned (.bool false) ∧ w = w' := by
  refine (isPeer_any p w).mono fun e w' ⟨h1, h2⟩ => ⟨?_, h2⟩
  rw [h1, show decide (0 ≤ p ∧ p < 8) = false from decide_eq_false h]

variable {w w' : World} {F : Nat → Prop} {R : Loc} {it : Option It} {ls : List LD} {M : UInt64 → Option DeedD} {b : Nat} {ev : UInt64 → Option Value} {v : Value}

/-- A pool by itself: its block and its map are new. -/
theorem home_new (w : World) : Calls Tryz.prog 45 #[] w fun e w' => e = .returned (.pointer (some ⟨w.heap.size + 1, 0, none⟩)) ∧ w' = (w.alloc (.map #[] 0)).alloc (.cells #[.map (some w.heap.size), .slice none 0 0] 95) := by
  have hmm := @run_makeMap Tryz.prog
  go_enter Tryz.func45, Tryz.ntmps45
  go_wp2
  go_ret
  exact ⟨rfl, rfl⟩
set_option maxRecDepth 20000 in
theorem has_home (x : UInt64) (w : World) (h : HomeAt w F R it ls M b ev v) :
    Calls Tryz.prog 108 #[.pointer (some ⟨R.b, 27, none⟩), .int .u64 x.toNat] w fun e w' => e = .returned (.bool (M x).isSome) ∧ Below w.heap.size w w' := by
  have hmc := h.mapc
  have hlk := h.look_ok x
  have hlt := h.lt
  obtain ⟨a, c, hv, _, _, _⟩ := h.deed x
  rw [hv, h.there_is x] at hlk
  unfold deedV at hlk
  clear h hv
  obtain ⟨d, hd⟩ : ∃ d, (M x).getD nod = d := ⟨_, rfl⟩
  rw [hd] at hlk
  clear hd
  go_enter Tryz.func108, Tryz.ntmps108
  go_wp2
  go_ret
  exact ⟨rfl, kept_new _ _⟩
theorem has_home_is (x : UInt64) (w : World) (h : HomeAt w F R it ls M b ev v) (r : Bool) (hr : (M x).isSome = r) :
    Calls Tryz.prog 108 #[.pointer (some ⟨R.b, 27, none⟩), .int .u64 x.toNat] w fun e w' => e = .returned (.bool r) ∧ Below w.heap.size w w' := hr ▸ has_home x w h
end Go.Proofs.YtmbejeibcncmmaaGreat.Ho
namespace Go.Proofs.YtmbejeibcncmmaaGreat.Ho
open Go.RowKit Go.Maps

variable {w w' : World} {F : Nat → Prop} {R : Loc} {it : Option It} {ls : List LD} {M : UInt64 → Option DeedD} {b : Nat} {ev : UInt64 → Option Value} {v : Value}

set_option maxRecDepth 20000 in
theorem keep_any (x : UInt64) (d : DeedD) (a : Option Addr) (cap : Nat) (ks : List UInt64) (hks : ∀ x, (M x).isSome = true → x ∈ ks) (hkl : ks.length ≤ 1000) (hd : checkD d = 0) (w : World) (h : HomeAt w F R none ls M b ev v) (hi : InsAt w a d.ins) :
    Calls Tryz.prog 109 #[.pointer (some ⟨R.b, 27, none⟩), .int .u64 x.toNat, .agg #[.slice a d.ins.length cap, .int .i64 d.outs, .int .i64 d.weight, .int .i64 d.fee]] w fun e w' => e = .returned (.tuple #[]) ∧ ∃ F' ev', HomeAt w' F' R none ls (upd M x (some d)) b ev' v ∧ Turn F F' w w' := by
  have hk0 := kept_new w (.cells #[.slice a d.ins.length cap, .int .i64 d.outs, .int .i64 d.weight, .int .i64 d.fee] 53)
  have hkd := (kept_new w (.cells #[.slice a d.ins.length cap, .int .i64 d.outs, .int .i64 d.weight, .int .i64 d.fee] 53)).drew
  have hmc := h.mapc
  have hlt := h.lt
  have hnn := map_not_nil
  have HD := Lib.hid (h.kept hkd)
  have HI := Lib.hid (insAt_kept hkd hi)
  have hl := (check_ok hd).1
  have HC := Lib.hid hd
  have HK := Lib.hid hks
  have HKL := Lib.hid hkl
  have HTD : Hid (Turn F F w (w.alloc (.cells #[.slice a d.ins.length cap, .int .i64 d.outs, .int .i64 d.weight, .int .i64 d.fee] 53)).drew) := Lib.hid (Turn.of_below hkd)
  clear h hi hks hkl hd hk0 hkd
  go_enter Tryz.func109, Tryz.ntmps109
  go_wp2_with fail
  go_region_law (first
    | (go_simp; go_at_call 129; (with_reducible refine (clone_any d a cap _ hl HI.out).mono ?_); rintro e w1 ⟨v1, rfl, a1, c1, rfl, ho1, hb1⟩; obtain ⟨w2, hput, F2, h2, t2⟩ := HD.out.put ks HK.out HKL.out x HC.out hb1 ho1; have j0 := (HD.out.kept hb1).mapc; have j1 := (HD.out.kept hb1).lt; have H2 := Lib.hid h2; have T2 := Lib.hid t2; unfold deedV at hput; clear h2 t2 ho1 hb1))
  all_goals
    go_wp2_with fail
    go_end0
    exact ⟨rfl, F2, _, H2.out, HTD.out.trans T2.out⟩
set_option maxRecDepth 20000 in
theorem deed_none (x : UInt64) (w : World) (h : HomeAt w F R it ls M b ev v) (hx : M x = none) :
    Calls Tryz.prog 135 #[.pointer (some ⟨R.b, 27, none⟩), .int .u64 x.toNat] w (DeedAns w none) := by
  have H := Lib.hid (h.kept (kept_new w (.cells #[.slice none 0 0, .int .i64 0, .int .i64 0, .int .i64 0] 53)))
  have HX : Hid ((M x).isSome = false) := Lib.hid (by rw [hx]; rfl)
  clear h hx
  go_enter Tryz.func135, Tryz.ntmps135
  go_wp2_with fail
  with_reducible refine (has_home_is x _ H.out false HX.out).mono ?_
  rintro e w1 ⟨rfl, hb1⟩
  have hB := (hb1.block w.heap.size (by simp)).trans (heap_alloc_new w _)
  have c0 := (head_cell hB 0).trans rfl
  have c1 := (head_cell hB 1).trans rfl
  have c2 := (head_cell hB 2).trans rfl
  have c3 := (head_cell hB 3).trans rfl
  have f0 := frozen_of_row w1 _ 0 _ _ hB
  have f1 := frozen_of_row w1 _ 1 _ _ hB
  have f2 := frozen_of_row w1 _ 2 _ _ hB
  have f3 := frozen_of_row w1 _ 3 _ _ hB
  have hs := (cell_spot c0).2
  have HB := Lib.hid (kept_trans (kept_new _ _) hb1)
  clear hB hb1
  go_wp2_with fail
  refine bodyPost_ret (v := .tuple #[.agg #[.slice none 0 0, .int .i64 0, .int .i64 0, .int .i64 0], .int .i64 5]) (by simp [results, Tryz.results135, go_sem, c0, c1, c2, c3]) rfl ?_
  have ht := turn_set4 w1 w.heap.size (.slice none 0 0) (.int .i64 0) (.int .i64 0) (.int .i64 0)
  exact ⟨none, 0, rfl, Nat.zero_le _, Nat.zero_le _, fun i hi => absurd hi (by simp [nod]), HB.out.trans (ht.below (fun k hk => by omega) HB.out.size)⟩
set_option maxRecDepth 20000 in
theorem deed_some (x : UInt64) (d : DeedD) (w : World) (h : HomeAt w F R it ls M b ev v) (hx : M x = some d) :
    Calls Tryz.prog 135 #[.pointer (some ⟨R.b, 27, none⟩), .int .u64 x.toNat] w (DeedAns w (some d)) := by
  have H := Lib.hid (h.kept (kept_new w (.cells #[.slice none 0 0, .int .i64 0, .int .i64 0, .int .i64 0] 53)))
  have HX : Hid ((M x).isSome = true) := Lib.hid (by rw [hx]; rfl)
  have HXD := Lib.hid hx
  have HF := Lib.hid (h.fine x d hx)
  clear h hx
  go_enter Tryz.func135, Tryz.ntmps135
  go_wp2_with fail
  with_reducible refine (has_home_is x _ H.out true HX.out).mono ?_
  rintro e w1 ⟨rfl, hb1⟩
  have H1 := H.out.kept hb1
  have hmc := H1.mapc
  have hlt := H1.lt
  have hlk := H1.look x
  obtain ⟨a, c, hv, hl, hc, hi⟩ := H1.deed x
  rw [HXD.out] at hv hl hc hi
  rw [hv] at hlk
  simp only [Option.getD_some] at hlk hl hc hi
  unfold deedV at hlk
  have hB := (hb1.block w.heap.size (by simp)).trans (heap_alloc_new w _)
  have HB1 := Lib.hid hB
  have HB := Lib.hid (kept_trans (kept_new _ _) hb1)
  have HI := Lib.hid hi
  clear hB hb1 H1 hi hv
  go_wp2_with fail
  with_reducible refine (clone_any d a c _ hl HI.out).mono ?_
  rintro e w2 ⟨v2, rfl, a2, k2, rfl, ho2, hb2⟩
  have hB := (hb2.block w.heap.size (cell_spot (head_cell HB1.out 0)).2).trans HB1.out
  have c0 := (head_cell hB 0).trans rfl
  have c1 := (head_cell hB 1).trans rfl
  have c2 := (head_cell hB 2).trans rfl
  have c3 := (head_cell hB 3).trans rfl
  have f0 := frozen_of_row w2 _ 0 _ _ hB
  have f1 := frozen_of_row w2 _ 1 _ _ hB
  have f2 := frozen_of_row w2 _ 2 _ _ hB
  have f3 := frozen_of_row w2 _ 3 _ _ hB
  have hs := (cell_spot c0).2
  have HO := Lib.hid ho2
  have HB2 := Lib.hid (kept_trans HB.out hb2)
  have HS : Hid (w.heap.size < w1.heap.size) := Lib.hid (cell_spot (head_cell HB1.out 0)).2
  clear hB hb2 ho2
  go_wp2_with fail
  refine bodyPost_ret (v := .tuple #[.agg #[.slice a2 d.ins.length k2, .int .i64 d.outs, .int .i64 d.weight, .int .i64 d.fee], .int .i64 0]) (by simp [results, Tryz.results135, go_sem, c0, c1, c2, c3]) rfl ?_
  have ht := turn_set4 w2 w.heap.size (.slice a2 d.ins.length k2) (.int .i64 d.outs) (.int .i64 d.weight) (.int .i64 d.fee)
  have ho3 := own_turn HO.out ht (fun k hk e => by have := (HO.out.lt k hk).1; have := HS.out; omega)
  have ho4 : OwnIns _ _ d.ins := ⟨ho3.1, ho3.2.imp id fun ⟨g, cap, cur, q1, _, q3⟩ => ⟨g, cap, cur, q1, Nat.zero_le _, q3⟩⟩
  obtain ⟨_, hc4, hi4⟩ := ownIns_slice ho4 (ins_ok HF.out)
  exact ⟨a2, k2, rfl, hl, hc4, hi4, HB2.out.trans (ht.below (fun k hk => by omega) HB2.out.size)⟩
theorem deed_any (x : UInt64) (w : World) (h : HomeAt w F R it ls M b ev v) :
    Calls Tryz.prog 135 #[.pointer (some ⟨R.b, 27, none⟩), .int .u64 x.toNat] w (DeedAns w (M x)) := by
  cases hx : M x with
  | none => exact deed_none x w h hx
  | some d => exact deed_some x d w h hx

/-- The weight of a link's deed. -/
def wM (M : UInt64 → Option DeedD) (l : LD) : Int := ((M l.id).getD nod).weight
/-- The usage of each peer. -/
def usageF (M : UInt64 → Option DeedD) (ls : List LD) : Nat → Int × Int := fun p => (((ls.filter fun l => l.peer == p).map (wM M)).sum, ((ls.filter fun l => l.peer == p).length : Int))
/-- The sixteen cells of all usages. -/
def usC (u : Nat → Int × Int) : Array Value := #[.int .i64 (u 0).1, .int .i64 (u 0).2, .int .i64 (u 1).1, .int .i64 (u 1).2, .int .i64 (u 2).1, .int .i64 (u 2).2, .int .i64 (u 3).1, .int .i64 (u 3).2,
  .int .i64 (u 4).1, .int .i64 (u 4).2, .int .i64 (u 5).1, .int .i64 (u 5).2, .int .i64 (u 6).1, .int .i64 (u 6).2, .int .i64 (u 7).1, .int .i64 (u 7).2]
theorem usC_at (u : Nat → Int × Int) (p : Nat) (hp : p < 8) : (usC u)[p * 2]? = some (.int .i64 (u p).1) ∧ (usC u)[p * 2 + 1]? = some (.int .i64 (u p).2) :=
  match p, hp with
  | 0, _ => ⟨rfl, rfl⟩
  | 1, _ => ⟨rfl, rfl⟩
  | 2, _ => ⟨rfl, rfl⟩
  | 3, _ => ⟨rfl, rfl⟩
  | 4, _ => ⟨rfl, rfl⟩
  | 5, _ => ⟨rfl, rfl⟩
  | 6, _ => ⟨rfl, rfl⟩
  | 7, _ => ⟨rfl, rfl⟩
theorem usC_set (u : Nat → Int × Int) (p : Nat) (hp : p < 8) (x y : Int) : ((usC u).setIfInBounds (p * 2) (.int .i64 x)).setIfInBounds (p * 2 + 1) (.int .i64 y) = usC (upd u p (x, y)) :=
  match p, hp with
  | 0, _ => by simp [usC, upd]
  | 1, _ => by simp [usC, upd]
  | 2, _ => by simp [usC, upd]
  | 3, _ => by simp [usC, upd]
  | 4, _ => by simp [usC, upd]
  | 5, _ => by simp [usC, upd]
  | 6, _ => by simp [usC, upd]
  | 7, _ => by simp [usC, upd]
theorem usageF_step {M : UInt64 → Option DeedD} {ls : List LD} {k : Nat} (h : k < ls.length) : usageF M (ls.take (k + 1)) = upd (usageF M (ls.take k)) ls[k].peer ((usageF M (ls.take k) ls[k].peer).1 + wM M ls[k], (usageF M (ls.take k) ls[k].peer).2 + 1) := by
  funext p
  unfold usageF
  rw [List.take_succ_eq_append_getElem h, List.filter_append, List.map_append, List.sum_append, List.length_append]
  by_cases hp : p = ls[k].peer
  · rw [hp, upd_same]
    simp
  · rw [upd_other _ _ hp]
    have : (ls[k].peer == p) = false := beq_eq_false_iff_ne.2 (fun e => hp e.symm)
    simp [this]
theorem sum_bound {α : Type} (f : α → Int) (lo hi : Int) : ∀ (l : List α), (∀ x ∈ l, lo ≤ f x ∧ f x ≤ hi) → lo * l.length ≤ (l.map f).sum ∧ (l.map f).sum ≤ hi * l.length
  | [], _ => by simp
  | a :: r, h => by
    have h1 := sum_bound f lo hi r (fun x hx => h x (by simp [hx]))
    have h2 := h a (by simp)
    simp only [List.map_cons, List.sum_cons, List.length_cons]
    have e1 : lo * ((r.length + 1 : Nat) : Int) = lo * r.length + lo := by rw [Int.natCast_add, Int.mul_add]; simp
    have e2 : hi * ((r.length + 1 : Nat) : Int) = hi * r.length + hi := by rw [Int.natCast_add, Int.mul_add]; simp
    rw [e1, e2]
    omega
theorem HomeAt.weight (h : HomeAt w F R it ls M b ev v) (l : LD) : 0 ≤ wM M l ∧ wM M l ≤ 1000 := by
  unfold wM
  cases hx : M l.id with
  | none => simp [nod]
  | some d =>
    have := (check_ok (h.fine _ d hx)).2.2.2.2.1
    simp only [Option.getD_some]
    omega
theorem usage_bound (hw : ∀ l, 0 ≤ wM M l ∧ wM M l ≤ 1000) (ls : List LD) (p : Nat) : 0 ≤ (usageF M ls p).1 ∧ (usageF M ls p).1 ≤ 1000 * ls.length ∧ 0 ≤ (usageF M ls p).2 ∧ (usageF M ls p).2 ≤ ls.length := by
  have h1 := sum_bound (wM M) 0 1000 (ls.filter fun l => l.peer == p) (fun x _ => hw x)
  have h2 := List.length_filter_le (fun l => l.peer == p) ls
  unfold usageF
  simp only
  omega
end Go.Proofs.YtmbejeibcncmmaaGreat.Ho
namespace Go.Proofs.YtmbejeibcncmmaaGreat.Ho
open Go.RowKit Go.Maps

variable {w w' : World} {F : Nat → Prop} {R : Loc} {it : Option It} {ls : List LD} {M : UInt64 → Option DeedD} {b : Nat} {ev : UInt64 → Option Value} {v : Value}

theorem below_set {n : Nat} {a c : World} (h : Below n a c) {p : Addr} {u : Value} (hp : n ≤ p.block) : Below n a (c.setCell p u) :=
  ⟨h.os, h.tape, h.output, by rw [World.size_setCell]; exact h.size, fun k hk => (Below.heap_setCell c p u k (by omega)).trans (h.block k hk)⟩
theorem HomeAt.linkForm (h : HomeAt w F R it ls M b ev v) : ∃ a cap, v = .slice a ls.length cap ∧ ls.length ≤ cap ∧ LinksAt w a ls := ownLinks_form h.links
theorem HomeAt.linksAt {a : Option Addr} {n cap : Nat} (h : HomeAt w F R it ls M b ev (.slice a n cap)) : LinksAt w a ls := by
  obtain ⟨a', cap', e, _, hat⟩ := h.linkForm
  simp only [Value.slice.injEq] at e
  rw [e.1]
  exact hat
/-- Block U holds these usages. -/
def UsAt (w : World) (U : Nat) (u : Nat → Int × Int) : Prop := w.heap[U]? = some (.cells (usC u) 190 (0, 0))
theorem usAt_cell {U : Nat} {u : Nat → Int × Int} (h : UsAt w U u) {p : Nat} (hp : p < 8) : w.cell? ⟨U, p * 2, none⟩ = some (.int .i64 (u p).1) ∧ w.cell? ⟨U, p * 2 + 1, none⟩ = some (.int .i64 (u p).2) ∧ w.frozen? ⟨U, p * 2, none⟩ = false ∧ w.frozen? ⟨U, p * 2 + 1, none⟩ = false :=
  ⟨(head_cell h _).trans (usC_at u p hp).1, (head_cell h _).trans (usC_at u p hp).2, frozen_of_row w U _ _ _ h, frozen_of_row w U _ _ _ h⟩
theorem usAt_set {U : Nat} {u : Nat → Int × Int} (h : UsAt w U u) {p : Nat} (hp : p < 8) (x y : Int) : UsAt ((w.setCell ⟨U, p * 2, none⟩ (.int .i64 x)).setCell ⟨U, p * 2 + 1, none⟩ (.int .i64 y)) U (upd u p (x, y)) := by
  unfold UsAt
  rw [← usC_set u p hp x y]
  exact heap_setCell_same _ U _ _ _ _ (heap_setCell_same _ U _ _ _ _ h)
theorem HomeAt.look_weight (h : HomeAt w F R it ls M b ev v) (x : UInt64) : ∃ a c, (Instr.lookup 50 (.map (some b)) (.int .u64 x.toNat) false).run Tryz.prog w = .ok (.agg #[.slice a ((M x).getD nod).ins.length c, .int .i64 ((M x).getD nod).outs, .int .i64 ((M x).getD nod).weight, .int .i64 ((M x).getD nod).fee]) w := by
  obtain ⟨a, c, e, _⟩ := h.deed x
  exact ⟨a, c, by rw [h.look x, e]; rfl⟩
theorem field_weight (a : Option Addr) (n c : Nat) (o z f : Int) (w : World) : (Instr.field 53 (.agg #[.slice a n c, .int .i64 o, .int .i64 z, .int .i64 f]) 2).run Tryz.prog w = .ok (.int .i64 z) w := by kernel_rfl
set_option maxRecDepth 20000 in
theorem usages_any (w : World) (h : HomeAt w F R it ls M b ev v) (hl : ls.length ≤ 1000) (hp8 : ∀ l ∈ ls, l.peer < 8) :
    Calls Tryz.prog 144 #[.pointer (some ⟨R.b, 27, none⟩)] w fun e w' => e = .returned (.agg (usC (usageF M ls))) ∧ Below w.heap.size w w' := by
  have HW := Lib.hid h.weight
  obtain ⟨a, cap, rfl, hcap, _⟩ := h.linkForm
  have hk2 : Below w.heap.size w ((w.alloc (.cells (usC fun _ => (0, 0)) 190)).alloc (.cells (usC fun _ => (0, 0)) 190)) := kept_alloc (kept_new _ _) _
  have HK2 := Lib.hid hk2
  have H := Lib.hid (h.kept hk2)
  have hlc := (h.linkc).1
  have hlt := h.lt
  have HP := Lib.hid hp8
  have HTH := Lib.hid h.there
  have HIR : Hid (∀ i, it = some i → i.r < w.heap.size) := Lib.hid (fun i hi => (h.out i hi).2)
  have HU0 : Hid (UsAt ((w.alloc (.cells (usC fun _ => (0, 0)) 190)).alloc (.cells (usC fun _ => (0, 0)) 190)) w.heap.size (fun _ => (0, 0))) := Lib.hid (heap_alloc2_old _ _ _)
  have HU1 : Hid (UsAt ((w.alloc (.cells (usC fun _ => (0, 0)) 190)).alloc (.cells (usC fun _ => (0, 0)) 190)) (w.heap.size + 1) (usageF M (ls.take 0))) := Lib.hid (heap_alloc2_new _ _ _)
  unfold usC at HU0 HU1 HK2 H
  simp only at HU0 HU1 HK2 H
  clear h hp8 hk2
  go_enter Tryz.func144, Tryz.ntmps144
  go_wp2_with fail
  go_loopw [11] (fun i wr => ∃ k : Nat, k ≤ ls.length ∧ i = .int .i64 k ∧ Hid (HomeAt wr F R it ls M b ev (.slice a ls.length cap)) ∧ Hid (UsAt wr w.heap.size (fun _ => (0, 0))) ∧ Hid (UsAt wr (w.heap.size + 1) (usageF M (ls.take k))) ∧ Hid (Below w.heap.size w wr)) (fun i _ => ls.length - (intOf i).toNat)
  case atStart => exact ⟨0, Nat.zero_le _, rfl, H, HU0, HU1, HK2⟩
  case round =>
    clear H HU0 HU1 HK2
    obtain ⟨k, hk, rfl, H, HU0, HU1, HB⟩ := hrel
    by_cases hkl : k < ls.length
    · obtain ⟨g, o, rfl, hg, hc2⟩ := H.out.linksAt k hkl
      have hpk := HP.out _ (List.getElem_mem hkl)
      have hstep := usageF_step (M := M) hkl
      obtain ⟨l0, hl0⟩ : ∃ l0, ls[k] = l0 := ⟨_, rfl⟩
      rw [hl0] at hc2 hpk hstep
      obtain ⟨c0, c1⟩ := hc2
      have HST := Lib.hid hstep
      have hpi : (l0.peer : Int) < 8 := by omega
      obtain ⟨wd, hwd⟩ : ∃ wd, (wr.alloc (.cells #[.int .i64 l0.peer, .int .u64 l0.id.toNat] 136)).drew = wd := ⟨_, rfl⟩
      have hbd : Below wr.heap.size wr wd := hwd ▸ (kept_new _ _).drew
      have HD := H.out.kept hbd
      have hmd := HD.mapc
      have hRd := HD.lt
      obtain ⟨ia, ic, hlk⟩ := HD.look_weight l0.id
      have hU1 : UsAt wd (w.heap.size + 1) (usageF M (ls.take k)) := (hbd.block _ (by have := HU1.out; unfold UsAt at this; exact (Array.getElem?_eq_some_iff.1 this).1)).trans HU1.out
      have hU0 : UsAt wd w.heap.size (fun _ => (0, 0)) := (hbd.block _ (by have := HU0.out; unfold UsAt at this; exact (Array.getElem?_eq_some_iff.1 this).1)).trans HU0.out
      obtain ⟨u0, u1, f0, f1⟩ := usAt_cell hU1 hpk
      have d0 : wd.cell? ⟨wr.heap.size, 0, none⟩ = some (.int .i64 l0.peer) := by rw [← hwd]; show (wr.alloc _).cell? _ = _; simp [go_sem]
      have d1 : wd.cell? ⟨wr.heap.size, 1, none⟩ = some (.int .u64 l0.id.toNat) := by rw [← hwd]; show (wr.alloc _).cell? _ = _; simp [go_sem]
      have hub := usage_bound HW.out (ls.take k) l0.peer
      have hwb := HW.out l0
      have htk : ((ls.take k).length : Int) ≤ 1000 := by rw [List.length_take]; omega
      obtain ⟨x, hx⟩ : ∃ x, (usageF M (ls.take k) l0.peer).1 = x := ⟨_, rfl⟩
      obtain ⟨y, hy⟩ : ∃ y, (usageF M (ls.take k) l0.peer).2 = y := ⟨_, rfl⟩
      obtain ⟨z, hz⟩ : ∃ z, wM M l0 = z := ⟨_, rfl⟩
      have hz' : ((M l0.id).getD nod).weight = z := hz
      rw [hx, hy] at hub
      rw [hx] at u0
      rw [hy] at u1
      rw [hz] at hwb
      rw [hz'] at hlk
      have HXX := Lib.hid hx
      have HYY := Lib.hid hy
      have HZZ := Lib.hid hz
      have hx1 : x ≤ 1000000 := by omega
      have hy1 : y ≤ 1000 := by omega
      have hx0 := hub.1
      have hy0 := hub.2.2.1
      obtain ⟨hz0, hz1⟩ := hwb
      have hs0 := (cell_spot u0).2
      have hs1 := (cell_spot d0).2
      have hne : wr.heap.size ≠ w.heap.size + 1 := by
        have := HU1.out
        unfold UsAt at this
        have := (Array.getElem?_eq_some_iff.1 this).1
        omega
      have HWD := Lib.hid hwd
      have HHD := Lib.hid HD
      have HU1' := Lib.hid hU1
      have HU0' := Lib.hid hU0
      have HBD := Lib.hid (kept_trans HB.out hbd)
      clear hl0 hstep HD hbd hU1 hU0 hub htk hx hy hz hz' hwd
      have hfd := field_weight
      go_wp2_with fail
      refine region_tail 16 (by kernel_rfl) (by kernel_rfl) HWD.out ?_
      simp only [List.take_succ_cons, List.take_zero, List.drop_succ_cons, List.drop_zero]
      repeat still_step
      refine wpStill_nil ?_
      go_wp2_with fail
      go_roundw
      case rel =>
        have ht : Turn (fun j => j = w.heap.size + 1) (fun j => j = w.heap.size + 1) wd _ := (Turn.set (F := fun j => j = w.heap.size + 1) wd ⟨w.heap.size + 1, l0.peer * 2, none⟩ (.int .i64 (x + z)) rfl).trans (Turn.set (F := fun j => j = w.heap.size + 1) _ ⟨w.heap.size + 1, l0.peer * 2 + 1, none⟩ (.int .i64 (y + 1)) rfl)
        refine ⟨k + 1, by omega, by go_num, Lib.hid (HHD.out.turn ht (fun j hj e => by have := HTH.out j hj; omega) (fun i hi e => by have := HIR.out i hi; omega)), Lib.hid ?_, Lib.hid ?_, Lib.hid (HBD.out.trans (ht.below (fun j hj => by omega) HBD.out.size))⟩
        · exact (ht.block _ (Nat.lt_trans (Nat.lt_succ_self _) hs0) (by omega)).trans HU0'.out
        · rw [HST.out, HXX.out, HYY.out, HZZ.out]
          exact usAt_set HU1'.out hpk _ _
      case measure => simp [intOf]; omega
    · have he : ls.take k = ls := List.take_of_length_le (by omega)
      have h1 := HU1.out
      rw [he] at h1
      have h0 := HU0.out
      unfold UsAt at h0 h1
      have hs1 := (Array.getElem?_eq_some_iff.1 h1).1
      have hs0 := (Array.getElem?_eq_some_iff.1 h0).1
      obtain ⟨u, hu⟩ : ∃ u, usageF M ls = u := ⟨_, rfl⟩
      rw [hu] at h1
      have HUU := Lib.hid hu
      have a0 : wr.cell? ⟨w.heap.size + 1, 0, none⟩ = some (.int .i64 (u 0).1) := (head_cell h1 0).trans rfl
      have b0 : wr.cell? ⟨w.heap.size, 0, none⟩ = some (.int .i64 0) := (head_cell h0 0).trans rfl
      have f0 := frozen_of_row wr _ 0 _ _ h0
      have a1 : wr.cell? ⟨w.heap.size + 1, 1, none⟩ = some (.int .i64 (u 0).2) := (head_cell h1 1).trans rfl
      have b1 : wr.cell? ⟨w.heap.size, 1, none⟩ = some (.int .i64 0) := (head_cell h0 1).trans rfl
      have f1 := frozen_of_row wr _ 1 _ _ h0
      have a2 : wr.cell? ⟨w.heap.size + 1, 2, none⟩ = some (.int .i64 (u 1).1) := (head_cell h1 2).trans rfl
      have b2 : wr.cell? ⟨w.heap.size, 2, none⟩ = some (.int .i64 0) := (head_cell h0 2).trans rfl
      have f2 := frozen_of_row wr _ 2 _ _ h0
      have a3 : wr.cell? ⟨w.heap.size + 1, 3, none⟩ = some (.int .i64 (u 1).2) := (head_cell h1 3).trans rfl
      have b3 : wr.cell? ⟨w.heap.size, 3, none⟩ = some (.int .i64 0) := (head_cell h0 3).trans rfl
      have f3 := frozen_of_row wr _ 3 _ _ h0
      have a4 : wr.cell? ⟨w.heap.size + 1, 4, none⟩ = some (.int .i64 (u 2).1) := (head_cell h1 4).trans rfl
      have b4 : wr.cell? ⟨w.heap.size, 4, none⟩ = some (.int .i64 0) := (head_cell h0 4).trans rfl
      have f4 := frozen_of_row wr _ 4 _ _ h0
      have a5 : wr.cell? ⟨w.heap.size + 1, 5, none⟩ = some (.int .i64 (u 2).2) := (head_cell h1 5).trans rfl
      have b5 : wr.cell? ⟨w.heap.size, 5, none⟩ = some (.int .i64 0) := (head_cell h0 5).trans rfl
      have f5 := frozen_of_row wr _ 5 _ _ h0
      have a6 : wr.cell? ⟨w.heap.size + 1, 6, none⟩ = some (.int .i64 (u 3).1) := (head_cell h1 6).trans rfl
      have b6 : wr.cell? ⟨w.heap.size, 6, none⟩ = some (.int .i64 0) := (head_cell h0 6).trans rfl
      have f6 := frozen_of_row wr _ 6 _ _ h0
      have a7 : wr.cell? ⟨w.heap.size + 1, 7, none⟩ = some (.int .i64 (u 3).2) := (head_cell h1 7).trans rfl
      have b7 : wr.cell? ⟨w.heap.size, 7, none⟩ = some (.int .i64 0) := (head_cell h0 7).trans rfl
      have f7 := frozen_of_row wr _ 7 _ _ h0
      have a8 : wr.cell? ⟨w.heap.size + 1, 8, none⟩ = some (.int .i64 (u 4).1) := (head_cell h1 8).trans rfl
      have b8 : wr.cell? ⟨w.heap.size, 8, none⟩ = some (.int .i64 0) := (head_cell h0 8).trans rfl
      have f8 := frozen_of_row wr _ 8 _ _ h0
      have a9 : wr.cell? ⟨w.heap.size + 1, 9, none⟩ = some (.int .i64 (u 4).2) := (head_cell h1 9).trans rfl
      have b9 : wr.cell? ⟨w.heap.size, 9, none⟩ = some (.int .i64 0) := (head_cell h0 9).trans rfl
      have f9 := frozen_of_row wr _ 9 _ _ h0
      have a10 : wr.cell? ⟨w.heap.size + 1, 10, none⟩ = some (.int .i64 (u 5).1) := (head_cell h1 10).trans rfl
      have b10 : wr.cell? ⟨w.heap.size, 10, none⟩ = some (.int .i64 0) := (head_cell h0 10).trans rfl
      have f10 := frozen_of_row wr _ 10 _ _ h0
      have a11 : wr.cell? ⟨w.heap.size + 1, 11, none⟩ = some (.int .i64 (u 5).2) := (head_cell h1 11).trans rfl
      have b11 : wr.cell? ⟨w.heap.size, 11, none⟩ = some (.int .i64 0) := (head_cell h0 11).trans rfl
      have f11 := frozen_of_row wr _ 11 _ _ h0
      have a12 : wr.cell? ⟨w.heap.size + 1, 12, none⟩ = some (.int .i64 (u 6).1) := (head_cell h1 12).trans rfl
      have b12 : wr.cell? ⟨w.heap.size, 12, none⟩ = some (.int .i64 0) := (head_cell h0 12).trans rfl
      have f12 := frozen_of_row wr _ 12 _ _ h0
      have a13 : wr.cell? ⟨w.heap.size + 1, 13, none⟩ = some (.int .i64 (u 6).2) := (head_cell h1 13).trans rfl
      have b13 : wr.cell? ⟨w.heap.size, 13, none⟩ = some (.int .i64 0) := (head_cell h0 13).trans rfl
      have f13 := frozen_of_row wr _ 13 _ _ h0
      have a14 : wr.cell? ⟨w.heap.size + 1, 14, none⟩ = some (.int .i64 (u 7).1) := (head_cell h1 14).trans rfl
      have b14 : wr.cell? ⟨w.heap.size, 14, none⟩ = some (.int .i64 0) := (head_cell h0 14).trans rfl
      have f14 := frozen_of_row wr _ 14 _ _ h0
      have a15 : wr.cell? ⟨w.heap.size + 1, 15, none⟩ = some (.int .i64 (u 7).2) := (head_cell h1 15).trans rfl
      have b15 : wr.cell? ⟨w.heap.size, 15, none⟩ = some (.int .i64 0) := (head_cell h0 15).trans rfl
      have f15 := frozen_of_row wr _ 15 _ _ h0
      clear h0 h1 he HU0 HU1 hu
      go_wp2_with fail
      refine bodyPost_ret (v := .agg (usC u)) (by simp [results, Tryz.results144, go_sem, usC, b0, b1, b2, b3, b4, b5, b6, b7, b8, b9, b10, b11, b12, b13, b14, b15]) rfl ?_
      rw [HUU.out]
      refine ⟨rfl, ?_⟩
      iterate 16 refine below_set ?_ (Nat.le_refl _)
      exact HB.out
end Go.Proofs.YtmbejeibcncmmaaGreat.Ho
