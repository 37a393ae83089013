/-
  The map of a pool: from IDs to deeds, whose values are known to the sign; perhaps with a range over it under way.
-/
import Derived.Test.YtihbcgdbennegaaBase
import Derived.Test.YtihbcgdbennegaaTurn
import Derived.Test.YtihbcgdbennegaaFrame
import Derived.Maps.OwnOps
import Derived.Maps.OwnSet
import Derived.Maps.RangeWalk
namespace Go.Proofs.Ytihbcgdbennegaa
open Go.RowKit Go.Maps

theorem u64_keyed : Maps.Keyed Try.prog 36 := int_keyed Try.underlying36
theorem u64_key (x : UInt64) : keyOf Try.prog 36 (.int .u64 x.toNat) = some (.int .u64 x.toNat) := keyOf_int_mk Try.underlying36 (wf_u64_of x)
theorem lit_ne {x y : UInt64} (h : x ≠ y) : Lit.int .u64 x.toNat ≠ Lit.int .u64 y.toNat := fun e => h (by simp only [Lit.int.injEq, true_and] at e; exact u64_inj e)
theorem same_lit (x y : UInt64) : (Lit.int .u64 x.toNat).sameKey (.int .u64 y.toNat) = (x == y) := by
  rw [Bool.eq_iff_iff]
  constructor
  · intro h
    have := WideAt.sameKey_eq h
    simp only [Lit.int.injEq, true_and] at this
    exact beq_iff_eq.2 (u64_inj this)
  · intro h
    rw [beq_iff_eq.1 h]
    exact WideAt.sameKey_self (u64_keyed.key (u64_key y))

/-- An element is its own reading. -/
def exactE (v : Value) : Option (DataW Value × List MemPlace) := some (.held v, [])
/-- A range over a map under way: its iterator, what is to come, how many. -/
structure It where
  r : Nat
  left : Lit → Bool
  cnt : Nat
/-- Block b is a map that reads as D, with a range over it under way or none. -/
def MapIs (w : World) (b : Nat) (it : Option It) (D : DataW Value) : Prop :=
  ∃ n, match it with
  | none => w.ownsMap Try.prog 36 exactE b n D
  | some i => w.ranges Try.prog 36 exactE b i.r n D i.left i.cnt
theorem mapIs_owns {w : World} {b : Nat} {it : Option It} {D : DataW Value} (h : MapIs w b it D) : ∃ n, w.ownsMap Try.prog 36 exactE b n D := by
  obtain ⟨n, h⟩ := h
  cases it with
  | none => exact ⟨n, h⟩
  | some i => exact ⟨n, World.ranges.owns h⟩
/-- The map holds these values under these IDs, and no others. -/
def TMap (w : World) (b : Nat) (it : Option It) (ev : UInt64 → Option Value) : Prop :=
  ∃ D, MapIs w b it D ∧ (∀ x v, ev x = some v → ∀ z, D.atKey (.int .u64 x.toNat) z = .held v) ∧ (∀ x, Maps.has D (.int .u64 x.toNat) = (ev x).isSome)
theorem tmap_lt {w : World} {b : Nat} {it : Option It} {ev : UInt64 → Option Value} (h : TMap w b it ev) : b < w.heap.size := by
  obtain ⟨D, hm, _⟩ := h
  obtain ⟨n, hn⟩ := mapIs_owns hm
  exact hn.lt
theorem tmap_same {w w' : World} {b : Nat} {it : Option It} {ev : UInt64 → Option Value} (h : TMap w b it ev) (e : w'.heap[b]? = w.heap[b]?) (er : ∀ i, it = some i → w'.heap[i.r]? = w.heap[i.r]?) : TMap w' b it ev := by
  obtain ⟨D, ⟨n, hm⟩, r2⟩ := h
  refine ⟨D, ⟨n, ?_⟩, r2⟩
  cases it with
  | none =>
    obtain ⟨es, clock, hb, r⟩ := hm
    exact ⟨es, clock, e.trans hb, r⟩
  | some i =>
    obtain ⟨es, clock, since, seen, c0, hb, q1, q2, q3, hr, r⟩ := hm
    exact ⟨es, clock, since, seen, c0, e.trans hb, q1, q2, q3, (er i rfl).trans hr, r⟩
theorem tmap_new (w : World) : TMap (w.alloc (.map #[] 0)) w.heap.size none (fun _ => none) := ⟨.map [], ⟨0, World.ownsMap_made w _ _ _⟩, fun x v h => by simp at h, fun x => rfl⟩
/-- The deed that no ID has. -/
abbrev zeroD : Value := .agg #[.slice none 0 0, .int .i64 0, .int .i64 0, .int .i64 0]
theorem zero_deed (w : World) : (zeroValue 30).run Try.prog w = .ok zeroD w := by kernel_rfl
theorem tmap_look {w : World} {b : Nat} {it : Option It} {ev : UInt64 → Option Value} (h : TMap w b it ev) (x : UInt64) :
    (Instr.lookup 58 (.map (some b)) (.int .u64 x.toNat) false).run Try.prog w = .ok ((ev x).getD zeroD) w := by
  obtain ⟨D, hm, hat, hhas⟩ := h
  obtain ⟨n, hD⟩ := mapIs_owns hm
  obtain ⟨u, ps, hrun, hu⟩ := hD.lookup u64_keyed Try.underlying58 (zero_deed w) (zd := .held zeroD) (zp := []) rfl (u64_key x)
  rw [hrun]
  unfold exactE at hu
  simp only [Option.some.injEq, Prod.mk.injEq] at hu
  cases hx : ev x with
  | some v =>
    rw [hat x v hx] at hu
    have := hu.1
    simp only [DataW.held.injEq] at this
    rw [this]
    rfl
  | none =>
    have h0 := hhas x
    rw [hx] at h0
    rw [atKey_of_not_has h0] at hu
    have := hu.1
    simp only [DataW.held.injEq] at this
    rw [this]
    rfl
theorem tmap_look_ok {w : World} {b : Nat} {it : Option It} {ev : UInt64 → Option Value} (h : TMap w b it ev) (x : UInt64) :
    (Instr.lookup 58 (.map (some b)) (.int .u64 x.toNat) true).run Try.prog w = .ok (.tuple #[(ev x).getD zeroD, .bool (ev x).isSome]) w := by
  obtain ⟨D, hm, hat, hhas⟩ := h
  obtain ⟨n, hD⟩ := mapIs_owns hm
  obtain ⟨u, ps, hrun, hu⟩ := hD.look_ok u64_keyed Try.underlying58 (zero_deed w) (zd := .held zeroD) (zp := []) rfl (u64_key x)
  rw [hrun, hhas x]
  unfold exactE at hu
  simp only [Option.some.injEq, Prod.mk.injEq] at hu
  cases hx : ev x with
  | some v =>
    rw [hat x v hx] at hu
    have := hu.1
    simp only [DataW.held.injEq] at this
    rw [this]
    rfl
  | none =>
    have h0 := hhas x
    rw [hx] at h0
    rw [atKey_of_not_has h0] at hu
    have := hu.1
    simp only [DataW.held.injEq] at this
    rw [this]
    rfl
/-- What is left where a key is taken out. -/
def It.drop (i : It) (x : UInt64) (n : Nat) : It := ⟨i.r, fun z => i.left z && !z.sameKey (.int .u64 x.toNat), n⟩
theorem mapTurned_turn {w w' : World} {b : Nat} (h : w.mapTurned w' b) : Turn (fun k => k = b) (fun k => k = b) w w' := Turn.of_grown h.grown (fun k hk => by cases hk; rfl)
theorem del_has {D : DataW Value} {ev : UInt64 → Option Value} (h : ∀ x : UInt64, Maps.has D (.int .u64 x.toNat) = (ev x).isSome) (x y : UInt64) : Maps.has (D.del (.int .u64 x.toNat)) (.int .u64 y.toNat) = (if y = x then none else ev y).isSome := by
  by_cases e : y = x
  · rw [e, if_pos rfl, has_del_same]; rfl
  · rw [if_neg e, has_del_other (lit_ne e), h y]
theorem del_at {D : DataW Value} {ev : UInt64 → Option Value} (h : ∀ x v, ev x = some v → ∀ z, D.atKey (.int .u64 x.toNat) z = .held v) (x y : UInt64) (v : Value) (hy : (if y = x then none else ev y) = some v) (z : DataW Value) : (D.del (.int .u64 x.toNat)).atKey (.int .u64 y.toNat) z = .held v := by
  by_cases e : y = x
  · rw [if_pos e] at hy; cases hy
  · rw [if_neg e] at hy
    rw [atKey_del_other (lit_ne e), h y v hy]
theorem tmap_delete {w : World} {b : Nat} {it : Option It} {ev : UInt64 → Option Value} (h : TMap w b it ev) (x : UInt64) :
    ∃ w', (∀ ty, (Builtin.delete_ #[58, 36] ty #[.map (some b), .int .u64 x.toNat]).run Try.prog w = .ok (.tuple #[]) w') ∧
      (∃ n, (∀ i, it = some i → n ≤ i.cnt) ∧ TMap w' b (it.map fun i => i.drop x n) (fun y => if y = x then none else ev y)) ∧ Turn (fun k => k = b) (fun k => k = b) w w' := by
  obtain ⟨D, ⟨n, hm⟩, hat, hhas⟩ := h
  cases it with
  | none =>
    obtain ⟨w', hrun, ho, ht⟩ := World.ownsMap.drop hm u64_keyed Try.underlying58 (u64_key x) 0
    exact ⟨w', fun ty => hrun, ⟨0, (fun i hi => by cases hi), _, ⟨n, ho⟩, fun y v hy z => del_at hat x y v hy z, fun y => del_has hhas x y⟩, mapTurned_turn ht⟩
  | some i =>
    obtain ⟨w', cnt', hrun, ho, hc, ht⟩ := World.ranges.drop hm u64_keyed Try.underlying58 (u64_key x) 0
    exact ⟨w', fun ty => hrun, ⟨cnt', (fun j hj => by cases hj; exact hc), _, ⟨n, ho⟩, fun y v hy z => del_at hat x y v hy z, fun y => del_has hhas x y⟩, mapTurned_turn ht⟩
/-- As many keys as there are entries. -/
theorem nodup_le : ∀ {a b : List UInt64}, a.Nodup → (∀ x ∈ a, x ∈ b) → a.length ≤ b.length
  | [], _, _, _ => Nat.zero_le _
  | x :: r, b, hn, hs => by
    obtain ⟨hx, hr⟩ := List.nodup_cons.1 hn
    have hxb : x ∈ b := hs x (by simp)
    have := nodup_le hr (b := b.erase x) (fun y hy => (List.mem_erase_of_ne (show y ≠ x from fun e => hx (e ▸ hy))).2 (hs y (by simp [hy])))
    rw [List.length_erase_of_mem hxb] at this
    have h1 : 0 < b.length := List.length_pos_of_mem hxb
    simp only [List.length_cons]
    omega
def litId : Lit → UInt64
  | .int _ a => UInt64.ofNat a.toNat
  | _ => 0
theorem litId_mk (x : UInt64) : litId (.int .u64 x.toNat) = x := by simp [litId]
theorem tmap_small {w : World} {b : Nat} {D : DataW Value} {n : Nat} (h : w.ownsMap Try.prog 36 exactE b n D) (ks : List UInt64) (hks : ∀ x : UInt64, Maps.has D (.int .u64 x.toNat) = true → x ∈ ks) : w.ownsMap Try.prog 36 exactE b ks.length D := by
  obtain ⟨es, clock, hb, F, hs, hD⟩ := h
  refine ⟨es, clock, hb, F, ?_, hD⟩
  have hkeys : ∀ p ∈ es.toList.map (WideElems.rg Try.prog 36 exactE), ∃ x : UInt64, p.1 = .int .u64 x.toNat := fun p hp => by
    obtain ⟨v, hv⟩ := fit_keys F p hp
    obtain ⟨a, _, e, hw⟩ := keyOf_int_inv Try.underlying36 hv
    obtain ⟨u, rfl⟩ := wf_u64 hw
    exact ⟨u, e⟩
  have hap := fit_apart u64_keyed F
  have hnd : ((es.toList.map (WideElems.rg Try.prog 36 exactE)).map fun p => litId p.1).Nodup := by
    unfold List.Nodup
    rw [List.pairwise_map]
    refine List.Pairwise.imp_of_mem (fun {p q} hp hq hne => ?_) hap
    obtain ⟨x, hx⟩ := hkeys p hp
    obtain ⟨y, hy⟩ := hkeys q hq
    rw [hx, hy, litId_mk, litId_mk]
    intro e
    exact hne (by rw [hx, hy, e])
  have hsub : ∀ x ∈ (es.toList.map (WideElems.rg Try.prog 36 exactE)).map (fun p => litId p.1), x ∈ ks := fun x hx => by
    obtain ⟨p, hp, rfl⟩ := List.mem_map.1 hx
    obtain ⟨y, hy⟩ := hkeys p hp
    rw [hy, litId_mk]
    refine hks y ?_
    rw [hD, has_eq, List.any_eq_true]
    exact ⟨p, mem_sorted.2 hp, by rw [hy, same_lit]; simp⟩
  have := nodup_le hnd hsub
  simpa using this
theorem tmap_put {w : World} {b : Nat} {ev : UInt64 → Option Value} (h : TMap w b none ev) (ks : List UInt64) (hks : ∀ x, (ev x).isSome = true → x ∈ ks) (hkl : ks.length ≤ 1000) (x : UInt64) (v : Value) :
    ∃ w', (Instr.mapUpdate 58 (.map (some b)) (.int .u64 x.toNat) v).run Try.prog w = .ok () w' ∧ TMap w' b none (fun y => if y = x then some v else ev y) ∧ Turn (fun k => k = b) (fun k => k = b) w w' := by
  obtain ⟨D, ⟨n, hm⟩, hat, hhas⟩ := h
  have hm2 := tmap_small hm ks (fun y hy => hks y (by rw [← hhas y]; exact hy))
  obtain ⟨w', hrun, ho, hg⟩ := hm2.update u64_keyed Try.underlying58 (by unfold maxLen; omega) (u64_key x) (val := v) (d := .held v) (ps := []) rfl
  refine ⟨w', hrun, ⟨_, ⟨_, ho⟩, fun y u hy z => ?_, fun y => ?_⟩, Turn.of_grown hg (fun k hk => by cases hk; rfl)⟩
  · replace hy : (if y = x then some v else ev y) = some u := hy
    by_cases e : y = x
    · rw [if_pos e] at hy
      cases hy
      rw [e, atKey_put_same hm2.isMap (u64_keyed.key (u64_key _))]
    · rw [if_neg e] at hy
      rw [atKey_put_other (lit_ne e), hat y u hy]
  · show _ = (if y = x then some v else ev y).isSome
    by_cases e : y = x
    · rw [e, if_pos rfl, has_put_same hm2.isMap (u64_keyed.key (u64_key _))]
      rfl
    · rw [if_neg e, has_put_other (lit_ne e), hhas y]
end Go.Proofs.Ytihbcgdbennegaa
