/-
  A map from IDs to ints of a law's own: look, put, delete, clear, a put in two steps.
-/
import Derived.Test.YtaaaplbjeknbkaaGreatJ3
import Derived.WideKeyEntry
set_option maxRecDepth 20000
namespace Go.Proofs.YtaaaplbjeknbkaaGreat
open Go.RowKit Go.Maps

variable {w w' : World} {b n : Nat} {it : Option It} {f : UInt64 → Option Int}

def intV (f : UInt64 → Option Int) : UInt64 → Option Value := fun x => (f x).map fun a => .int .i64 a
/-- Block b is a map from IDs to ints, of at most n keys; perhaps with a range over it under way. -/
structure IMap (w : World) (b : Nat) (it : Option It) (f : UInt64 → Option Int) (n : Nat) : Prop where
  map : TMap w b it (intV f)
  keys : ∃ ks : List UInt64, ks.length ≤ n ∧ ∀ x, (f x).isSome = true → x ∈ ks
theorem IMap.lt (h : IMap w b it f n) : b < w.heap.size := tmap_lt h.map
theorem IMap.same (h : IMap w b none f n) (e : w'.heap[b]? = w.heap[b]?) : IMap w' b none f n := ⟨tmap_same h.map e (fun i hi => by cases hi), h.keys⟩
theorem IMap.obj (h : IMap w b it f n) : ∃ es c, w.heap[b]? = some (.map es c) := by
  obtain ⟨D, hm, _, _⟩ := h.map
  obtain ⟨n, es, clock, hb, _⟩ := mapIs_owns hm
  exact ⟨es, clock, hb⟩
theorem imap_new (w : World) : IMap (w.alloc (.map #[] 0)) w.heap.size none (fun _ => none) 0 := ⟨tmap_new w, [], Nat.le_refl _, fun x h => by simp at h⟩
theorem zero_i64 (w : World) : (zeroValue 3).run Tryz.prog w = .ok (.int .i64 0) w := by kernel_rfl
theorem intV_get (f : UInt64 → Option Int) (x : UInt64) : (intV f x).getD (.int .i64 0) = .int .i64 ((f x).getD 0) := by
  unfold intV
  cases f x <;> rfl
theorem intV_is (f : UInt64 → Option Int) (x : UInt64) : (intV f x).isSome = (f x).isSome := by unfold intV; cases f x <;> rfl
theorem imap_at {D : DataW Value} {ev : UInt64 → Option Value} (hat : ∀ x v, ev x = some v → ∀ z, D.atKey (.int .u64 x.toNat) z = .held v) (hhas : ∀ x : UInt64, Maps.has D (.int .u64 x.toNat) = (ev x).isSome) (x : UInt64) (z : Value) : D.atKey (.int .u64 x.toNat) (.held z) = .held ((ev x).getD z) := by
  cases hx : ev x with
  | some v => exact hat x v hx _
  | none =>
    have h0 := hhas x
    rw [hx] at h0
    rw [atKey_of_not_has h0]
    rfl
theorem IMap.look (h : IMap w b it f n) (x : UInt64) : (Instr.lookup 42 (.map (some b)) (.int .u64 x.toNat) false).run Tryz.prog w = .ok (.int .i64 ((f x).getD 0)) w := by
  obtain ⟨D, hm, hat, hhas⟩ := h.map
  obtain ⟨n, hD⟩ := mapIs_owns hm
  obtain ⟨u, ps, hrun, hu⟩ := hD.lookup u64_keyed Tryz.underlying42 (zero_i64 w) (zd := .held (.int .i64 0)) (zp := []) rfl (u64_key x)
  rw [imap_at hat hhas] at hu
  unfold exactE at hu
  simp only [Option.some.injEq, Prod.mk.injEq, DataW.held.injEq] at hu
  rw [hrun, hu.1, intV_get]
theorem IMap.look_ok (h : IMap w b it f n) (x : UInt64) : (Instr.lookup 42 (.map (some b)) (.int .u64 x.toNat) true).run Tryz.prog w = .ok (.tuple #[.int .i64 ((f x).getD 0), .bool (f x).isSome]) w := by
  obtain ⟨D, hm, hat, hhas⟩ := h.map
  obtain ⟨n, hD⟩ := mapIs_owns hm
  obtain ⟨u, ps, hrun, hu⟩ := hD.look_ok u64_keyed Tryz.underlying42 (zero_i64 w) (zd := .held (.int .i64 0)) (zp := []) rfl (u64_key x)
  rw [imap_at hat hhas] at hu
  unfold exactE at hu
  simp only [Option.some.injEq, Prod.mk.injEq, DataW.held.injEq] at hu
  rw [hrun, hu.1, intV_get, hhas x, intV_is]
theorem imap_upd (f : UInt64 → Option Int) (x : UInt64) (a : Int) : (fun y => if y = x then some (Value.int .i64 a) else intV f y) = intV (fun y => if y = x then some a else f y) := by
  funext y
  unfold intV
  by_cases e : y = x
  · simp [e]
  · simp [e]
theorem imap_del (f : UInt64 → Option Int) (x : UInt64) : (fun y => if y = x then none else intV f y) = intV (fun y => if y = x then none else f y) := by
  funext y
  unfold intV
  by_cases e : y = x
  · simp [e]
  · simp [e]
theorem IMap.delete (h : IMap w b none f n) (x : UInt64) :
    ∃ w', (∀ ty, (Builtin.delete_ #[42, 22] ty #[.map (some b), .int .u64 x.toNat]).run Tryz.prog w = .ok (.tuple #[]) w') ∧ IMap w' b none (fun y => if y = x then none else f y) n ∧ Turn (fun k => k = b) (fun k => k = b) w w' := by
  obtain ⟨D, ⟨m, hm⟩, hat, hhas⟩ := h.map
  obtain ⟨ks, k1, k2⟩ := h.keys
  obtain ⟨w', hrun, ho, ht⟩ := World.ownsMap.drop hm u64_keyed Tryz.underlying42 (u64_key x) 0
  refine ⟨w', fun ty => hrun, ⟨?_, ks, k1, fun y hy => ?_⟩, mapTurned_turn ht⟩
  · rw [← imap_del]
    exact ⟨_, ⟨m, ho⟩, fun y v hy z => del_at hat x y v hy z, fun y => del_has hhas x y⟩
  · by_cases e : y = x
    · simp [e] at hy
    · simp only [if_neg e] at hy
      exact k2 y hy
theorem IMap.put (h : IMap w b none f n) (hn : n ≤ 1000000000000000) (x : UInt64) (a : Int) :
    ∃ w', (Instr.mapUpdate 42 (.map (some b)) (.int .u64 x.toNat) (.int .i64 a)).run Tryz.prog w = .ok () w' ∧ IMap w' b none (fun y => if y = x then some a else f y) (n + 1) ∧ Turn (fun k => k = b) (fun k => k = b) w w' := by
  obtain ⟨D, ⟨m, hm⟩, hat, hhas⟩ := h.map
  obtain ⟨ks, k1, k2⟩ := h.keys
  have hm2 := tmap_small hm ks (fun y hy => k2 y (by rw [← intV_is, ← hhas y]; exact hy))
  obtain ⟨w', hrun, ho, hg⟩ := hm2.update u64_keyed Tryz.underlying42 (by unfold maxLen; omega) (u64_key x) (val := .int .i64 a) (d := .held (.int .i64 a)) (ps := []) rfl
  refine ⟨w', hrun, ⟨?_, x :: ks, by simp; omega, fun y hy => ?_⟩, Turn.of_grown hg (fun k hk => by cases hk; rfl)⟩
  · rw [← imap_upd]
    refine ⟨_, ⟨_, ho⟩, fun y u hy z => ?_, fun y => ?_⟩
    · replace hy : (if y = x then some (Value.int .i64 a) else intV f y) = some u := hy
      by_cases e : y = x
      · rw [if_pos e] at hy
        cases hy
        rw [e, atKey_put_same hm2.isMap (u64_keyed.key (u64_key _))]
      · rw [if_neg e] at hy
        rw [atKey_put_other (lit_ne e), hat y u hy]
    · show _ = (if y = x then some (Value.int .i64 a) else intV f y).isSome
      by_cases e : y = x
      · rw [e, if_pos rfl, has_put_same hm2.isMap (u64_keyed.key (u64_key _))]
        rfl
      · rw [if_neg e, has_put_other (lit_ne e), hhas y]
  · by_cases e : y = x
    · rw [e]; exact List.mem_cons_self
    · simp only [if_neg e] at hy
      exact List.mem_cons_of_mem _ (k2 y hy)
theorem set_turn {es es' : Array MapEntry} {c c' : Nat} (hb : w.heap[b]? = some (.map es c)) : Turn (fun k => k = b) (fun k => k = b) w (ChangeMaps.setBlock w b (.map es' c')) := by
  have hg : w.grownBy (ChangeMaps.setBlock w b (.map es' c')) (some b) := ⟨rfl, rfl, rfl, by simp [ChangeMaps.setBlock], fun i _ hi => ChangeMaps.heap_setBlock_other hb _ (fun e => hi (by rw [e]))⟩
  exact Turn.of_grown hg (fun k hk => by cases hk; rfl)
theorem IMap.clear (h : IMap w b none f n) :
    ∃ w', (∀ ty, (Builtin.clear_ #[42] ty #[.map (some b)]).run Tryz.prog w = .ok (.tuple #[]) w') ∧ IMap w' b none (fun _ => none) n ∧ Turn (fun k => k = b) (fun k => k = b) w w' := by
  obtain ⟨D, ⟨m, es, clock, hb, F, _⟩, _⟩ := h.map
  refine ⟨ChangeMaps.setBlock w b (.map #[] clock), fun ty => ?_, ⟨⟨.map [], ⟨0, #[], clock, ChangeMaps.heap_setBlock_same hb _, ⟨by simp, MapKept.stamped_empty clock, by simp⟩, Nat.le_refl _, rfl⟩, fun x v hx => (by cases hx), fun x => rfl⟩, [], Nat.zero_le _, fun x hx => by simp at hx⟩,
    set_turn hb⟩
  simp [Builtin.clear_, run_underlying Tryz.underlying42, MapKept.run_getObj_map hb, MapKept.run_setObj_map _ hb, Result.andThen, ChangeMaps.setBlock]
theorem born_at {es : Array MapEntry} (hn : (es.toList.map (·.born)).Nodup) {j : Nat} {e : MapEntry} (h : es[j]? = some e) : es.findIdx? (fun x => ((x.born : Nat) : Int) == ((e.born : Nat) : Int)) = some j := by
  rw [WideElems.findIdx_arr]
  exact WideElems.findIdx_born hn (by simpa using h)
/-- The entry of a key, found or made; its element is stored in whatever world that has the map as it was left: as if put at once. -/
theorem two_steps {k e t : TypeId} {R : Value → Option (DataW Value × List MemPlace)} {es : Array MapEntry} {clock : Nat} (K : Keyed Tryz.prog k) (ht : Tryz.prog.underlying t = some (.map k e)) {z : Value} (hz : ∀ u : World, (zeroValue e).run Tryz.prog u = .ok z u)
    (hb : w.heap[b]? = some (.map es clock)) (F : WideElems.Fit Tryz.prog k R es clock) {key : Value} {kl : Lit} (hkey : keyOf Tryz.prog k key = some kl) :
    ∃ (v0 : Value) (st : Nat) (es1 : Array MapEntry) (c1 : Nat), (Instr.mapEntry t (.map (some b)) key).run Tryz.prog w = .ok (.tuple #[v0, goInt st]) (ChangeMaps.setBlock w b (.map es1 c1)) ∧
      ∀ (w2 : World) (val : Value), w2.heap[b]? = some (.map es1 c1) → ∃ es2 c2, (Instr.entryStore t (.map (some b)) (goInt st) val).run Tryz.prog w2 = .ok () (ChangeMaps.setBlock w2 b (.map es2 c2)) ∧ (Instr.mapUpdate t (.map (some b)) key val).run Tryz.prog w = .ok () (ChangeMaps.setBlock w b (.map es2 c2)) := by
  have hst := F.stamped
  rcases K.find w hkey es.toList F.keys with ⟨hf, hno⟩ | ⟨j, e0, hf, hj, hk0⟩
  · have hst1 := MapKept.stamped_push hst (key := key) (val := z) hno
    have hj1 : (es.push ⟨key, z, clock⟩)[es.size]? = some ⟨key, z, clock⟩ := by simp
    refine ⟨z, clock, es.push ⟨key, z, clock⟩, clock + 1, ?_, fun w2 val hw2 => ⟨es.push ⟨key, val, clock⟩, clock + 1, ?_, ?_⟩⟩
    · simp [Instr.mapEntry, run_underlying ht, MapKept.run_getObj_map hb, K.check w false hkey, hf, hz, MapKept.run_setObj_map _ hb, Result.andThen, ChangeMaps.setBlock]
    · have h1 := born_at ((MapKept.stamped_iff _ _).1 hst1).2.1 hj1
      have h2 : (es.push ⟨key, z, clock⟩).modify es.size (fun x => { x with val := val }) = es.push ⟨key, val, clock⟩ := by
        apply Array.ext'
        simp only [Array.toList_modify, Array.toList_push]
        rw [← Array.length_toList, WideElems.modify_last]
      simp only at h1
      simp [Instr.entryStore, MapKept.run_getObj_map hw2, asInt, asIntOf, goInt, h1, h2, MapKept.run_setObj_map _ hw2, Result.andThen, ChangeMaps.setBlock]
    · simp [Instr.mapUpdate, run_underlying ht, MapKept.run_getObj_map hb, K.check w false hkey, hf, MapKept.run_setObj_map _ hb, Result.andThen, ChangeMaps.setBlock]
  · have hja : es[j]? = some e0 := by simpa using hj
    have hst1 := MapKept.stamped_modify hst j (fun x => { x with key := key }) (fun _ _ => rfl) (fun x _ hx => by
      rw [hja] at hx
      cases hx
      exact hk0.symm)
    have hj1 : (es.modify j fun x => { x with key := key })[j]? = some { e0 with key := key } := by
      rw [Array.getElem?_modify, if_pos rfl, hja]
      rfl
    refine ⟨e0.val, e0.born, es.modify j fun x => { x with key := key }, clock, ?_, fun w2 val hw2 => ⟨es.modify j fun x => { x with key := key, val := val }, clock, ?_, ?_⟩⟩
    · simp [Instr.mapEntry, run_underlying ht, MapKept.run_getObj_map hb, K.check w false hkey, hf, hja, hk0, K.stays w hkey, MapKept.run_setObj_map _ hb, Result.andThen, ChangeMaps.setBlock]
    · have h1 := born_at ((MapKept.stamped_iff _ _).1 hst1).2.1 hj1
      have h2 : (es.modify j fun x => { x with key := key }).modify j (fun x => { x with val := val }) = es.modify j fun x => { x with key := key, val := val } := by
        apply Array.ext'
        simp only [Array.toList_modify]
        rw [List.modify_modify_eq]
        rfl
      simp only at h1
      simp [Instr.entryStore, MapKept.run_getObj_map hw2, asInt, asIntOf, goInt, h1, h2, MapKept.run_setObj_map _ hw2, Result.andThen, ChangeMaps.setBlock]
    · simp [Instr.mapUpdate, run_underlying ht, MapKept.run_getObj_map hb, K.check w false hkey, hf, hja, hk0, K.stays w hkey, MapKept.run_setObj_map _ hb, Result.andThen, ChangeMaps.setBlock]
theorem IMap.entry (h : IMap w b none f n) (hn : n ≤ 1000000000000000) (x : UInt64) (a : Int) :
    ∃ (v0 : Value) (st : Nat) (w1 : World), (Instr.mapEntry 42 (.map (some b)) (.int .u64 x.toNat)).run Tryz.prog w = .ok (.tuple #[v0, .int .i64 st]) w1 ∧ Turn (fun k => k = b) (fun k => k = b) w w1 ∧ (∃ es c, w1.heap[b]? = some (.map es c)) ∧
      ∀ w2 : World, w2.heap[b]? = w1.heap[b]? → ∃ w3, (Instr.entryStore 42 (.map (some b)) (.int .i64 st) (.int .i64 a)).run Tryz.prog w2 = .ok () w3 ∧ IMap w3 b none (fun y => if y = x then some a else f y) (n + 1) ∧ Turn (fun k => k = b) (fun k => k = b) w2 w3 := by
  obtain ⟨wu, hu, hm, _⟩ := h.put hn x a
  obtain ⟨D, ⟨m, es, clock, hb, F, _⟩, _⟩ := h.map
  obtain ⟨v0, st, es1, clock1, h1, h2⟩ := two_steps u64_keyed Tryz.underlying42 (z := .int .i64 0) (fun u => zero_i64 u) hb F (u64_key x)
  have hb1 := ChangeMaps.heap_setBlock_same hb (.map es1 clock1)
  refine ⟨v0, st, _, h1, set_turn hb, ⟨_, _, hb1⟩, fun w2 hw2 => ?_⟩
  rw [hb1] at hw2
  obtain ⟨es', clock', h3, h4⟩ := h2 w2 (.int .i64 a) hw2
  refine ⟨_, h3, ?_, set_turn hw2⟩
  rw [hu] at h4
  have e : wu = ChangeMaps.setBlock w b (.map es' clock') := by
    simp only [Result.ok.injEq, true_and] at h4
    exact h4
  refine hm.same ?_
  rw [e, ChangeMaps.heap_setBlock_same hb, ChangeMaps.heap_setBlock_same hw2]
end Go.Proofs.YtaaaplbjeknbkaaGreat
