/-
  A generation of a filter: a map of IDs to true (or no map yet), as the list of its keys in the order in which they were put.
  A filter in memory, and the contracts of package ring: New, turn, Put, Has, Reset, Count.
  The contracts of package ring that write: maps.Clone, turn, Put, Reset.
  A node in memory.
  The calls of a node's parts: its tracker, its pool, its ledger, its filters.
-/
import Derived.Test.YtmbejeibcncmmaaGreatJ1
import Derived.Maps.OwnOps
import Derived.Maps.OwnSet
import Derived.Maps.RangeWalk
import Derived.Test.YtmbejeibcncmmaaGreatJ12
import Derived.BigQuiet
import Derived.Shelf.SlMaps.Clone
set_option maxRecDepth 20000
namespace Go.Proofs.YtmbejeibcncmmaaGreat.Ri
open Go.RowKit Go.Maps

theorem u64_keyed : Maps.Keyed Tryz.prog 22 := int_keyed Tryz.underlying22
theorem u64_key (x : UInt64) : keyOf Tryz.prog 22 (.int .u64 x.toNat) = some (.int .u64 x.toNat) := keyOf_int_mk Tryz.underlying22 (wf_u64_of x)
theorem lit_ne {x y : UInt64} (h : x ≠ y) : Lit.int .u64 x.toNat ≠ Lit.int .u64 y.toNat := fun e => h (by simp only [Lit.int.injEq, true_and] at e; exact u64_inj e)

/-- Block b is a map whose keys are just these, each with true. -/
def MapAt (w : World) (b : Nat) (ks : List UInt64) : Prop :=
  ∃ D : DataW Unit, w.ownsMap Tryz.prog 22 (plainElem Tryz.prog 4) b ks.length D ∧ Maps.size D = ks.length ∧ (∀ x : UInt64, Maps.has D (.int .u64 x.toNat) = ks.contains x) ∧
    ∀ x : UInt64, D.atKey (.int .u64 x.toNat) (.lit (.bool false)) = .lit (.bool (ks.contains x))
/-- A generation: a map, or none. -/
def GenAt (w : World) (p : Option Nat) (ks : List UInt64) : Prop := (p = none ∧ ks = []) ∨ ∃ b, p = some b ∧ MapAt w b ks

theorem map_lt {w : World} {b : Nat} {ks : List UInt64} (h : MapAt w b ks) : b < w.heap.size := by
  obtain ⟨D, hD, _⟩ := h
  exact hD.lt
theorem map_same {w w' : World} {b : Nat} {ks : List UInt64} (h : MapAt w b ks) (e : w'.heap[b]? = w.heap[b]?) : MapAt w' b ks := by
  obtain ⟨D, ⟨es, clock, hb, r⟩, r2⟩ := h
  exact ⟨D, ⟨es, clock, e.trans hb, r⟩, r2⟩
theorem gen_same {w w' : World} {p : Option Nat} {ks : List UInt64} (h : GenAt w p ks) (e : ∀ b, p = some b → w'.heap[b]? = w.heap[b]?) : GenAt w' p ks := by
  rcases h with h | ⟨b, hp, h⟩
  · exact .inl h
  · exact .inr ⟨b, hp, map_same h (e b hp)⟩
theorem gen_lt {w : World} {p : Option Nat} {ks : List UInt64} (h : GenAt w p ks) : ∀ b, p = some b → b < w.heap.size := fun b hp => by
  rcases h with ⟨h, _⟩ | ⟨b', hp', h⟩
  · rw [h] at hp; cases hp
  · rw [hp'] at hp; cases hp; exact map_lt h
theorem map_new (w : World) : MapAt (w.alloc (.map #[] 0)) w.heap.size [] := ⟨.map [], World.ownsMap_made w _ _ _, rfl, fun _ => rfl, fun _ => rfl⟩
theorem map_look {w : World} {b : Nat} {ks : List UInt64} (h : MapAt w b ks) (x : UInt64) : (Instr.lookup 171 (.map (some b)) (.int .u64 x.toNat) false).run Tryz.prog w = .ok (.bool (ks.contains x)) w := by
  obtain ⟨D, hD, _, _, hat⟩ := h
  obtain ⟨u, ps, hrun, hu⟩ := hD.lookup u64_keyed Tryz.underlying171 (zero_bool w) (plainElem_bool Tryz.underlying4 false) (u64_key x)
  rw [hat x] at hu
  rw [hrun]
  unfold plainElem at hu
  rw [Tryz.underlying4] at hu
  cases u <;> simp at hu
  rw [hu.1]
  simp
theorem gen_look {w : World} {p : Option Nat} {ks : List UInt64} (h : GenAt w p ks) (x : UInt64) : (Instr.lookup 171 (.map p) (.int .u64 x.toNat) false).run Tryz.prog w = .ok (.bool (ks.contains x)) w := by
  rcases h with ⟨rfl, rfl⟩ | ⟨b, rfl, h⟩
  · exact Maps.look_nil false u64_keyed Tryz.underlying171 (zero_bool w) (u64_key x)
  · exact map_look h x
theorem map_len {w : World} {b : Nat} {ks : List UInt64} (h : MapAt w b ks) (ty : TypeId) : (Builtin.len_ #[171] ty #[.map (some b)]).run Tryz.prog w = .ok (.int .i64 ks.length) w := by
  obtain ⟨D, hD, hs, _⟩ := h
  have := hD.len Tryz.underlying171 ty
  rw [hs] at this
  exact this
theorem map_put {w : World} {b : Nat} {ks : List UInt64} (h : MapAt w b ks) (x : UInt64) (hx : ks.contains x = false) (hn : ks.length < maxLen) :
    ∃ w', (Instr.mapUpdate 171 (.map (some b)) (.int .u64 x.toNat) (.bool true)).run Tryz.prog w = .ok () w' ∧ MapAt w' b (ks ++ [x]) ∧ w.grownBy w' (some b) := by
  obtain ⟨D, hD, hs, hat, hv⟩ := h
  obtain ⟨w', hrun, hown, hg⟩ := hD.update u64_keyed Tryz.underlying171 hn (u64_key x) (plainElem_bool Tryz.underlying4 true)
  have hsz := size_put (hD.tidy u64_keyed) (k := .int .u64 x.toNat) (.lit (.bool true))
  rw [hat, hs, if_neg (by rw [hx]; decide)] at hsz
  have hl : (ks ++ [x]).length = ks.length + 1 := by simp
  have hc : ∀ y, (ks ++ [x]).contains y = (ks.contains y || y == x) := fun y => by
    rw [Bool.eq_iff_iff]
    simp
  refine ⟨w', hrun, ⟨_, by rw [hl]; exact hown, by rw [hl]; exact hsz, fun y => ?_, fun y => ?_⟩, hg⟩
  · rw [hc]
    by_cases hyx : y = x
    · rw [hyx, has_put_same hD.isMap (u64_keyed.key (u64_key _))]
      simp
    · rw [has_put_other (lit_ne hyx), hat y]
      simp [hyx]
  · rw [hc]
    by_cases hyx : y = x
    · rw [hyx, atKey_put_same hD.isMap (u64_keyed.key (u64_key _))]
      simp
    · rw [atKey_put_other (lit_ne hyx), hv y]
      simp [hyx]
theorem map_clear {w : World} {b : Nat} {ks : List UInt64} (h : MapAt w b ks) :
    ∃ w', (∀ ty, (Builtin.clear_ #[171] ty #[.map (some b)]).run Tryz.prog w = .ok (.tuple #[]) w') ∧ MapAt w' b [] ∧ w.grownBy w' (some b) := by
  obtain ⟨D, ⟨es, clock, hb, F, _⟩, _⟩ := h
  refine ⟨ChangeMaps.setBlock w b (.map #[] clock), fun ty => ?_, ⟨.map [], ⟨#[], clock, ChangeMaps.heap_setBlock_same hb _, ⟨by simp, MapKept.stamped_empty clock, by simp⟩, Nat.le_refl _, rfl⟩, rfl, fun _ => rfl, fun _ => rfl⟩,
    ⟨rfl, rfl, rfl, by simp [ChangeMaps.setBlock], fun i _ hi => ChangeMaps.heap_setBlock_other hb _ (fun e => hi (by rw [e]))⟩⟩
  simp [Builtin.clear_, run_underlying Tryz.underlying171, MapKept.run_getObj_map hb, MapKept.run_setObj_map _ hb, Result.andThen, ChangeMaps.setBlock]
theorem gen_clear {w : World} {p : Option Nat} {ks : List UInt64} (h : GenAt w p ks) :
    ∃ w', (∀ ty, (Builtin.clear_ #[171] ty #[.map p]).run Tryz.prog w = .ok (.tuple #[]) w') ∧ GenAt w' p [] ∧ w.grownBy w' p := by
  rcases h with ⟨rfl, rfl⟩ | ⟨b, rfl, h⟩
  · exact ⟨w, fun ty => by simp [Builtin.clear_, run_underlying Tryz.underlying171, Result.andThen], .inl ⟨rfl, rfl⟩, ⟨rfl, rfl, rfl, Nat.le_refl _, fun _ _ _ => rfl⟩⟩
  · obtain ⟨w', h1, h2, h3⟩ := map_clear h
    exact ⟨w', h1, .inr ⟨b, rfl, h2⟩, h3⟩
/-- A copy. -/
theorem map_clone {w : World} {b : Nat} {ks : List UInt64} (h : MapAt w b ks) : ∃ es clock, w.heap[b]? = some (.map es clock) ∧ MapAt (w.alloc (.map es clock)) w.heap.size ks := by
  obtain ⟨D, ⟨es, clock, hb, r⟩, r2⟩ := h
  exact ⟨es, clock, hb, D, ⟨es, clock, (MapKept.heap_alloc w _).1, r⟩, r2⟩

/-- How many of a list are at hand: those that are no longer to come and that the other generation lacks. -/
def come (ks cs : List UInt64) (left : Lit → Bool) : Nat := (ks.filter fun x => !left (.int .u64 x.toNat) && !cs.contains x).length
theorem come_start {ks cs : List UInt64} {left : Lit → Bool} (h : ∀ x : UInt64, left (.int .u64 x.toNat) = ks.contains x) : come ks cs left = 0 := by
  unfold come
  rw [List.filter_eq_nil_iff.2, List.length_nil]
  intro x hx
  rw [h x, List.contains_iff_mem.2 hx]
  simp
theorem come_end {ks cs : List UInt64} {left : Lit → Bool} (h : ∀ kl, left kl = false) : come ks cs left = (ks.filter fun x => !cs.contains x).length := by
  unfold come
  congr 1
  exact List.filter_congr fun x _ => by rw [h]; rfl
theorem come_le (ks cs : List UInt64) (left : Lit → Bool) : come ks cs left ≤ ks.length := List.length_filter_le _ _
theorem same_lit (x y : UInt64) : (Lit.int .u64 x.toNat).sameKey (.int .u64 y.toNat) = (x == y) := by
  rw [Bool.eq_iff_iff]
  constructor
  · intro h
    have := WideAt.sameKey_eq h
    simp only [Lit.int.injEq, true_and] at this
    exact beq_iff_eq.2 (u64_inj this)
  · intro h
    rw [beq_iff_eq.1 h]
    exact WideAt.sameKey_self (u64_keyed.key (u64_key y))
theorem come_step : ∀ {ks cs : List UInt64} {left : Lit → Bool} {y : UInt64}, ks.Nodup → y ∈ ks → left (.int .u64 y.toNat) = true →
    come ks cs (fun z => left z && !z.sameKey (.int .u64 y.toNat)) = come ks cs left + (if cs.contains y = true then 0 else 1)
  | [], _, _, _, _, hy, _ => absurd hy (by simp)
  | a :: ks, cs, left, y, hn, hy, hl => by
    obtain ⟨ha, hn'⟩ := List.nodup_cons.1 hn
    have hcons : ∀ f : Lit → Bool, come (a :: ks) cs f = (if (!f (.int .u64 a.toNat) && !cs.contains a) = true then 1 else 0) + come ks cs f := fun f => by
      unfold come
      rw [List.filter_cons]
      split <;> simp [Nat.add_comm]
    rw [hcons, hcons]
    by_cases hay : a = y
    · subst hay
      have hrest : come ks cs (fun z => left z && !z.sameKey (.int .u64 a.toNat)) = come ks cs left := by
        unfold come
        congr 1
        refine List.filter_congr fun x hx => ?_
        have : (x == a) = false := beq_eq_false_iff_ne.2 fun e => ha (e ▸ hx)
        simp only [same_lit, this]
        simp
      simp only [hrest, same_lit, hl]
      cases cs.contains a <;> simp <;> omega
    · have hm : y ∈ ks := (List.mem_cons.1 hy).resolve_left (fun e => hay e.symm)
      have : (a == y) = false := beq_eq_false_iff_ne.2 hay
      rw [come_step hn' hm hl]
      simp only [same_lit, this, Bool.not_false, Bool.and_true]
      omega
end Go.Proofs.YtmbejeibcncmmaaGreat.Ri
namespace Go.Proofs.YtmbejeibcncmmaaGreat.Ri
open Go.RowKit Go.Maps

/-- Block R is a filter: its size and its two maps; F: the blocks that it owns. -/
def RingAt (w : World) (F : Nat → Prop) (R : Nat) (s : RingS) : Prop :=
  ∃ c p, (w.cell? ⟨R, 0, none⟩ = some (.int .i64 s.size) ∧ w.cell? ⟨R, 1, none⟩ = some (.map (some c)) ∧ w.cell? ⟨R, 2, none⟩ = some (.map p) ∧ w.frozen? ⟨R, 2, none⟩ = false) ∧ MapAt w c s.cur ∧ GenAt w p s.prev ∧
    (c ≠ R ∧ ∀ b, p = some b → b ≠ R ∧ b ≠ c) ∧ (F R ∧ F c ∧ ∀ b, p = some b → F b) ∧ There w F
theorem ringAt_same {w w' : World} {F : Nat → Prop} {R : Nat} {s : RingS} (h : RingAt w F R s) (e : ∀ k, k < w.heap.size → F k → w'.heap[k]? = w.heap[k]?) (hs : w.heap.size ≤ w'.heap.size) : RingAt w' F R s := by
  obtain ⟨c, p, ⟨c0, c1, c2, f2⟩, hc, hp, hn, ⟨hFR, hFc, hFp⟩, ht⟩ := h
  have hR := e R (ht R hFR) hFR
  refine ⟨c, p, ⟨?_, ?_, ?_, ?_⟩, map_same hc (e c (ht c hFc) hFc), gen_same hp (fun b hb => e b (ht b (hFp b hb)) (hFp b hb)), hn, ⟨hFR, hFc, hFp⟩, ht.later hs⟩
  · exact (World.cell?_of_block (w := w) (a := ⟨R, 0, none⟩) hR).trans c0
  · exact (World.cell?_of_block (w := w) (a := ⟨R, 1, none⟩) hR).trans c1
  · exact (World.cell?_of_block (w := w) (a := ⟨R, 2, none⟩) hR).trans c2
  · exact (World.frozen?_of_block (w := w) (a := ⟨R, 2, none⟩) hR).trans f2
theorem ringAt_kept {w w' : World} {F : Nat → Prop} {R : Nat} {s : RingS} (h : RingAt w F R s) (hb : Below w.heap.size w w') : RingAt w' F R s := ringAt_same h (fun k hk _ => hb.block k hk) hb.size
theorem ringAt_turn {w w' : World} {F G G' : Nat → Prop} {R : Nat} {s : RingS} (h : RingAt w F R s) (ht : Turn G G' w w') (ha : Apart F G) : RingAt w' F R s := ringAt_same h (fun k hk hf => ht.block k hk (ha k hf)) ht.size
theorem ringAt_there {w : World} {F : Nat → Prop} {R : Nat} {s : RingS} (h : RingAt w F R s) : There w F := by
  obtain ⟨_, _, _, _, _, _, _, h⟩ := h
  exact h
theorem ringAt_block {w : World} {F : Nat → Prop} {R : Nat} {s : RingS} (h : RingAt w F R s) : F R := by
  obtain ⟨_, _, _, _, _, _, h, _⟩ := h
  exact h.1

theorem ring_made (w : World) (n : Nat) : RingAt ((w.alloc (.map #[] 0)).alloc (.cells #[.int .i64 n, .map (some w.heap.size), .map none] 173)) (fun k => k = w.heap.size ∨ k = w.heap.size + 1) (w.heap.size + 1) (RingS.none n) := by
  refine ⟨w.heap.size, none, ⟨by simp [go_sem, RingS.none], by simp [go_sem], by simp [go_sem], by simp [go_sem]⟩, map_same (map_new w) (Below.heap_alloc _ _ _ (by simp)), .inl ⟨rfl, rfl⟩, ⟨by omega, fun b hb => by cases hb⟩, ⟨.inr rfl, .inl rfl, fun b hb => by cases hb⟩, fun k hk => ?_⟩
  simp
  omega
theorem ring_new (n : Nat) (w : World) (h1 : 1 ≤ n) (h2 : n ≤ 50) :
    Calls Tryz.prog 78 #[.int .i64 n] w fun e w' => e = .returned (.tuple #[.pointer (some ⟨w.heap.size + 1, 0, none⟩), .int .i64 0]) ∧
      RingAt w' (fun k => k = w.heap.size ∨ k = w.heap.size + 1) (w.heap.size + 1) (RingS.none n) ∧ Below w.heap.size w w' := by
  have hmm := @run_makeMap Tryz.prog
  have HM := Lib.hid (ring_made w n)
  have ha : ¬ (n : Int) < 1 := by omega
  have hb : ¬ (n : Int) > 50 := by omega
  go_enter Tryz.func78, Tryz.ntmps78
  go_wp2
  go_ret2
  exact ⟨rfl, HM.out, kept_alloc (kept_new _ _) _⟩
theorem ring_new_bad (n : Int) (w : World) (h : n < 1 ∨ 50 < n) :
    Calls Tryz.prog 78 #[.int .i64 n] w fun e w' => e = .returned (.tuple #[.pointer none, .int .i64 1]) ∧ w = w' := by
  by_cases h1 : n < 1
  · clear h
    go_enter Tryz.func78, Tryz.ntmps78
    go_wp2
    go_ret2
    exact ⟨rfl, rfl⟩
  · have h2 : n > 50 := by omega
    clear h
    go_enter Tryz.func78, Tryz.ntmps78
    go_wp2
    go_ret2
    exact ⟨rfl, rfl⟩
theorem ring_has (F : Nat → Prop) (R : Nat) (s : RingS) (x : UInt64) (r : Bool) (hr : s.has x = r) (w : World) (h : RingAt w F R s) :
    Calls Tryz.prog 95 #[.pointer (some ⟨R, 0, none⟩), .int .u64 x.toNat] w fun e w' => e = .returned (.bool r) ∧ w = w' := by
  obtain ⟨c, p, ⟨c0, c1, c2, f2⟩, hc, hp, hn, hF, ht⟩ := h
  have l1 := map_look hc x
  have l2 := gen_look hp x
  generalize e1 : s.cur.contains x = b1 at l1
  generalize e2 : s.prev.contains x = b2 at l2
  have HR : Hid ((b1 || b2) = r) := Lib.hid (by rw [← e1, ← e2]; exact hr)
  clear hc hp hn hF ht hr e1 e2
  cases b1
  · go_enter Tryz.func95, Tryz.ntmps95
    go_wp2
    go_ret
    exact ⟨ret_bool HR.out, rfl⟩
  · go_enter Tryz.func95, Tryz.ntmps95
    go_wp2
    go_ret
    exact ⟨ret_bool HR.out, rfl⟩
end Go.Proofs.YtmbejeibcncmmaaGreat.Ri
namespace Go.Proofs.YtmbejeibcncmmaaGreat.Ri
open Go.RowKit Go.Maps

theorem eql_nil (w : World) (b : Nat) : (binOp .eql 171 (.map (some b)) (.map none)).run Tryz.prog w = .ok (.bool false) w := run_eql_map_nil_sl (P := Tryz.prog) w 171 _ _ (some b) Tryz.underlying171
theorem clone_any (b : Nat) (es : Array MapEntry) (clock : Nat) (w : World) (hb : w.heap[b]? = some (.map es clock)) :
    Calls Tryz.prog 162 #[.map (some b)] w fun e w' => e = .returned (.map (some w.heap.size)) ∧ w' = w.alloc (.map es clock) := by
  have hq := eql_nil
  go_enter Tryz.func162, Tryz.ntmps162
  go_wp2
  rw [run_callFunc_extern Tryz.func169 (by kernel_rfl) (by kernel_rfl) (by kernel_rfl) (e := Extern.MapsClone.clone) (by kernel_rfl), run_maps_clone_sl w 171 hb]
  simp only [Result.andThen]
  rw [Oper.upon_value]
  go_wp2
  rw [run_typeAssert_map_sl _ 171 20 _ _ _ Tryz.underlying171]
  simp only [Result.andThen]
  rw [Oper.upon_value]
  go_wp2
  go_ret
  exact ⟨rfl, rfl⟩

theorem ring_turn (F : Nat → Prop) (R : Nat) (s : RingS) (w : World) (h : RingAt w F R s) :
    Calls Tryz.prog 154 #[.pointer (some ⟨R, 0, none⟩)] w fun e w' => e = .returned (.tuple #[]) ∧ ∃ F', RingAt w' F' R ⟨s.size, [], s.cur⟩ ∧ Turn F F' w w' := by
  obtain ⟨c, p, ⟨c0, c1, c2, f2⟩, hc, hp, ⟨hcR, hpn⟩, ⟨hFR, hFc, hFp⟩, ht⟩ := h
  obtain ⟨es, clock, hb, hcl⟩ := map_clone hc
  have hlt : R < w.heap.size := ht R hFR
  have hclt : c < w.heap.size := ht c hFc
  -- behind the copy and the store
  have hcs : MapAt ((w.alloc (.map es clock)).setCell ⟨R, 2, none⟩ (.map (some w.heap.size))) c s.cur := map_same hc ((Below.heap_setCell _ _ _ _ hcR).trans (Below.heap_alloc _ _ _ hclt))
  have hps : MapAt ((w.alloc (.map es clock)).setCell ⟨R, 2, none⟩ (.map (some w.heap.size))) w.heap.size s.cur := map_same hcl (Below.heap_setCell _ _ _ _ (by show w.heap.size ≠ R; omega))
  have d0 : ((w.alloc (.map es clock)).setCell ⟨R, 2, none⟩ (.map (some w.heap.size))).cell? ⟨R, 0, none⟩ = some (.int .i64 s.size) := by simp [go_sem, c0, hlt]
  have d1 : ((w.alloc (.map es clock)).setCell ⟨R, 2, none⟩ (.map (some w.heap.size))).cell? ⟨R, 1, none⟩ = some (.map (some c)) := by simp [go_sem, c1, hlt]
  have d2 : ((w.alloc (.map es clock)).setCell ⟨R, 2, none⟩ (.map (some w.heap.size))).cell? ⟨R, 2, none⟩ = some (.map (some w.heap.size)) := by simp [go_sem, c2, hlt]
  have g2 : ((w.alloc (.map es clock)).setCell ⟨R, 2, none⟩ (.map (some w.heap.size))).frozen? ⟨R, 2, none⟩ = false := by simp [go_sem, f2, hlt]
  rw [World.setCell_alloc_past _ _ _ _ hlt] at hcs hps d0 d1 d2 g2
  obtain ⟨w3, hrun, h3, hg3⟩ := map_clear hcs
  have hsz : ((w.setCell ⟨R, 2, none⟩ (.map (some w.heap.size))).alloc (.map es clock)).heap.size = w.heap.size + 1 := by simp
  have hR3 : w3.heap[R]? = ((w.setCell ⟨R, 2, none⟩ (.map (some w.heap.size))).alloc (.map es clock)).heap[R]? := hg3.block R (by omega) (fun e => hcR (Option.some.inj e).symm)
  have c1' : w3.cell? ⟨R, 1, none⟩ = some (.map (some c)) := (World.cell?_of_block (a := ⟨R, 1, none⟩) hR3).trans d1
  have HE : Hid (∃ F', RingAt w3 F' R ⟨s.size, [], s.cur⟩ ∧ Turn F F' w w3) := Lib.hid (by
    refine ⟨fun k => F k ∨ k = w.heap.size, ⟨c, some w.heap.size, ⟨?_, c1', ?_, ?_⟩, h3, .inr ⟨_, rfl, map_same hps (hg3.block _ (by omega) (fun e => by have := Option.some.inj e; omega))⟩, ⟨hcR, fun b hb => ?_⟩, ⟨.inl hFR, .inl hFc, fun b hb => ?_⟩, fun k hk => ?_⟩, ?_⟩
    · exact (World.cell?_of_block (a := ⟨R, 0, none⟩) hR3).trans d0
    · exact (World.cell?_of_block (a := ⟨R, 2, none⟩) hR3).trans d2
    · exact (World.frozen?_of_block (a := ⟨R, 2, none⟩) hR3).trans g2
    · cases hb; exact ⟨by omega, by omega⟩
    · cases hb; exact .inr rfl
    · have := hg3.size
      rcases hk with hk | hk
      · have := ht k hk; omega
      · omega
    · have t1 : Turn F F w (w.setCell ⟨R, 2, none⟩ (.map (some w.heap.size))) := Turn.set _ _ _ hFR
      have t2 : Turn F F (w.setCell ⟨R, 2, none⟩ (.map (some w.heap.size))) ((w.setCell ⟨R, 2, none⟩ (.map (some w.heap.size))).alloc (.map es clock)) := Turn.of_below (kept_new _ _)
      have t3 : Turn F F ((w.setCell ⟨R, 2, none⟩ (.map (some w.heap.size))).alloc (.map es clock)) w3 := Turn.of_grown hg3 (fun k hk => by cases hk; exact hFc)
      exact ((t1.trans t2).trans t3).more (fun k hk => hk.imp id (fun e => by omega)))
  have hq := eql_nil
  clear hc hp hcl hcs hps d0 d2 g2 h3 hg3 hsz hR3 hpn hFp
  go_enter Tryz.func154, Tryz.ntmps154
  go_wp2_with (first | (go_at_call 162; refine (clone_any c es clock _ hb).mono ?_; rintro e w1 ⟨rfl, rfl⟩) | go_in)
  go_end0
  exact ⟨rfl, HE.out⟩

/-- What a store into the current map makes of a filter. -/
theorem ring_stored {w w' : World} {F : Nat → Prop} {R c : Nat} {p : Option Nat} {s : RingS} {x : UInt64} (hcell : w.cell? ⟨R, 0, none⟩ = some (.int .i64 s.size) ∧ w.cell? ⟨R, 1, none⟩ = some (.map (some c)) ∧ w.cell? ⟨R, 2, none⟩ = some (.map p) ∧ w.frozen? ⟨R, 2, none⟩ = false)
    (hp : GenAt w p s.prev) (hn : c ≠ R ∧ ∀ b, p = some b → b ≠ R ∧ b ≠ c) (hF : F R ∧ F c ∧ ∀ b, p = some b → F b) (ht : There w F) (hm : MapAt w' c (s.cur ++ [x])) (hg : w.grownBy w' (some c)) :
    RingAt w' F R ⟨s.size, s.cur ++ [x], s.prev⟩ ∧ Turn F F w w' := by
  obtain ⟨c0, c1, c2, f2⟩ := hcell
  have hR := hg.block R (ht R hF.1) (fun e => hn.1 (Option.some.inj e).symm)
  refine ⟨⟨c, p, ⟨?_, ?_, ?_, ?_⟩, hm, gen_same hp (fun b hb => hg.block b (ht b (hF.2.2 b hb)) (fun e => (hn.2 b hb).2 (Option.some.inj e))), hn, hF, ht.later hg.size⟩, Turn.of_grown hg (fun k hk => by cases hk; exact hF.2.1)⟩
  · exact (World.cell?_of_block (a := ⟨R, 0, none⟩) hR).trans c0
  · exact (World.cell?_of_block (a := ⟨R, 1, none⟩) hR).trans c1
  · exact (World.cell?_of_block (a := ⟨R, 2, none⟩) hR).trans c2
  · exact (World.frozen?_of_block (a := ⟨R, 2, none⟩) hR).trans f2

theorem ring_put (F : Nat → Prop) (R : Nat) (s : RingS) (x : UInt64) (w : World) (h : RingAt w F R s) (hg : s.Good) :
    Calls Tryz.prog 132 #[.pointer (some ⟨R, 0, none⟩), .int .u64 x.toNat] w fun e w' => e = .returned (.tuple #[]) ∧ ∃ F', RingAt w' F' R (s.put x) ∧ Turn F F' w w' := by
  have hlen := hg.2.2.1
  have hlen2 := hg.2.1
  cases hx : s.cur.contains x with
  | true =>
    have HE : Hid (∃ F', RingAt w F' R (s.put x) ∧ Turn F F' w w) := Lib.hid ⟨F, by rw [put_there hx]; exact h, Turn.refl F w⟩
    obtain ⟨c, p, ⟨c0, c1, c2, f2⟩, hc, hp, hn, hF, ht⟩ := h
    have l1 := map_look hc x
    rw [hx] at l1
    clear hc hp hn hF ht hg hx hlen hlen2
    go_enter Tryz.func132, Tryz.ntmps132
    go_wp2
    refine bodyPost_ret (results_none rfl _ _ _) rfl ?_
    exact ⟨rfl, HE.out⟩
  | false =>
    have H := Lib.hid h
    obtain ⟨c, p, ⟨c0, c1, c2, f2⟩, hc, hp, hn, hF, ht⟩ := h
    have l1 := map_look hc x
    have l2 := fun n ty => map_len (map_same hc (w' := w.drewN n) rfl) ty
    rw [hx] at l1
    have HC := Lib.hid hc
    have HP := Lib.hid hp
    have HN := Lib.hid hn
    have HF := Lib.hid hF
    have HT := Lib.hid ht
    have HX := Lib.hid hx
    have HG := Lib.hid hg
    clear hc hp hn hF ht hx hg
    by_cases hfull : s.size ≤ s.cur.length
    · go_enter Tryz.func132, Tryz.ntmps132
      go_wp2_with fail
      go_quiet (fail)
      generalize hw2 : World.drewN w nq = w2
      have hb2 : Below w.heap.size w w2 := hw2 ▸ below_drewN (Below.refl _ _) _
      have H2 := ringAt_kept H.out hb2
      clear hw2
      go_wp2_with fail
      with_reducible refine (ring_turn F R s _ H2).mono ?_
      rintro e w3 ⟨rfl, F', h3, t3⟩
      obtain ⟨c', p', ⟨k0, k1, k2, g2⟩, hc', hp', hn', hF', ht'⟩ := h3
      obtain ⟨w4, hput, hm4, hg4⟩ := map_put hc' x (by simp) (by unfold maxLen; simp)
      have HE : Hid (∃ F'', RingAt w4 F'' R (s.put x) ∧ Turn F F'' w w4) := Lib.hid (by
        obtain ⟨r1, r2⟩ := ring_stored (s := ⟨s.size, [], s.cur⟩) ⟨k0, k1, k2, g2⟩ hp' hn' hF' ht' hm4 hg4
        exact ⟨F', by rw [put_full HX.out hfull]; exact r1, ((Turn.of_below hb2).trans t3).trans r2⟩)
      clear hc' hp' hn' hF' ht' hm4 hg4 k2 g2 H2 t3
      go_wp2_with fail
      go_end0
      exact ⟨rfl, HE.out⟩
    · go_enter Tryz.func132, Tryz.ntmps132
      go_wp2_with fail
      go_quiet (fail)
      generalize hw2 : World.drewN w nq = w2
      have hb2 : Below w.heap.size w w2 := hw2 ▸ below_drewN (Below.refl _ _) _
      have H2 := ringAt_kept H.out hb2
      clear hw2
      obtain ⟨c', p', ⟨k0, k1, k2, g2⟩, hc', hp', hn', hF', ht'⟩ := H2
      obtain ⟨w4, hput, hm4, hg4⟩ := map_put hc' x HX.out (by unfold maxLen; omega)
      have HE : Hid (∃ F'', RingAt w4 F'' R (s.put x) ∧ Turn F F'' w w4) := Lib.hid (by
        obtain ⟨r1, r2⟩ := ring_stored ⟨k0, k1, k2, g2⟩ hp' hn' hF' ht' hm4 hg4
        exact ⟨F, by rw [put_room HX.out (by omega)]; exact r1, (Turn.of_below hb2).trans r2⟩)
      clear hc' hp' hn' hF' ht' hm4 hg4 k2 g2
      go_wp2_with fail
      go_end0
      exact ⟨rfl, HE.out⟩

end Go.Proofs.YtmbejeibcncmmaaGreat.Ri
namespace Go.Proofs.YtmbejeibcncmmaaGreat
open Go.RowKit Go.Maps

/-- The cells of a block, by their places. -/
def ocOf (cs : Array Value) : Nat → Value := fun i => cs.getD i (.bool false)
theorem ocOf_at {cs : Array Value} {i : Nat} {v : Value} (h : cs[i]? = some v) : ocOf cs i = v := by
  unfold ocOf
  rw [Array.getD_eq_getD_getElem?, h]
  rfl
theorem ocOf_some {cs : Array Value} (hs : cs.size = 34) {i : Nat} (h : i < 34) : some (ocOf cs i) = cs[i]? := by
  have : i < cs.size := by omega
  rw [Array.getElem?_eq_getElem this]
  exact congrArg some (ocOf_at (Array.getElem?_eq_getElem this))
theorem none34 {cs : Array Value} (hs : cs.size = 34) {i : Nat} (h : 34 ≤ i) : cs[i]? = none := Array.getElem?_eq_none (by omega)
theorem trackC_other (oc : Nat → Value) (salt : UInt64) (b : Nat) (pv : Nat → Value) (i : Nat) (h : i < 17 ∨ 27 ≤ i ∧ i < 34) : (Tr.trackC oc salt b pv)[i]? = some (oc i) := by
  match i, h with
  | 0, _ => rfl
  | 1, _ => rfl
  | 2, _ => rfl
  | 3, _ => rfl
  | 4, _ => rfl
  | 5, _ => rfl
  | 6, _ => rfl
  | 7, _ => rfl
  | 8, _ => rfl
  | 9, _ => rfl
  | 10, _ => rfl
  | 11, _ => rfl
  | 12, _ => rfl
  | 13, _ => rfl
  | 14, _ => rfl
  | 15, _ => rfl
  | 16, _ => rfl
  | 17, h => exact absurd h (by omega)
  | 18, h => exact absurd h (by omega)
  | 19, h => exact absurd h (by omega)
  | 20, h => exact absurd h (by omega)
  | 21, h => exact absurd h (by omega)
  | 22, h => exact absurd h (by omega)
  | 23, h => exact absurd h (by omega)
  | 24, h => exact absurd h (by omega)
  | 25, h => exact absurd h (by omega)
  | 26, h => exact absurd h (by omega)
  | 27, _ => rfl
  | 28, _ => rfl
  | 29, _ => rfl
  | 30, _ => rfl
  | 31, _ => rfl
  | 32, _ => rfl
  | 33, _ => rfl
  | n + 34, h => exact absurd h (by omega)
theorem homeC_other (oc : Nat → Value) (m v : Value) (i : Nat) (h : i < 27 ∨ 29 ≤ i ∧ i < 34) : (Ho.homeC oc m v)[i]? = some (oc i) := by
  match i, h with
  | 0, _ => rfl
  | 1, _ => rfl
  | 2, _ => rfl
  | 3, _ => rfl
  | 4, _ => rfl
  | 5, _ => rfl
  | 6, _ => rfl
  | 7, _ => rfl
  | 8, _ => rfl
  | 9, _ => rfl
  | 10, _ => rfl
  | 11, _ => rfl
  | 12, _ => rfl
  | 13, _ => rfl
  | 14, _ => rfl
  | 15, _ => rfl
  | 16, _ => rfl
  | 17, _ => rfl
  | 18, _ => rfl
  | 19, _ => rfl
  | 20, _ => rfl
  | 21, _ => rfl
  | 22, _ => rfl
  | 23, _ => rfl
  | 24, _ => rfl
  | 25, _ => rfl
  | 26, _ => rfl
  | 27, h => exact absurd h (by omega)
  | 28, h => exact absurd h (by omega)
  | 29, _ => rfl
  | 30, _ => rfl
  | 31, _ => rfl
  | 32, _ => rfl
  | 33, _ => rfl
  | n + 34, h => exact absurd h (by omega)
theorem ledC_other (oc : Nat → Value) (m v s : Value) (i : Nat) (h : i < 29 ∨ 32 ≤ i ∧ i < 34) : (Ju.ledC oc m v s)[i]? = some (oc i) := by
  match i, h with
  | 0, _ => rfl
  | 1, _ => rfl
  | 2, _ => rfl
  | 3, _ => rfl
  | 4, _ => rfl
  | 5, _ => rfl
  | 6, _ => rfl
  | 7, _ => rfl
  | 8, _ => rfl
  | 9, _ => rfl
  | 10, _ => rfl
  | 11, _ => rfl
  | 12, _ => rfl
  | 13, _ => rfl
  | 14, _ => rfl
  | 15, _ => rfl
  | 16, _ => rfl
  | 17, _ => rfl
  | 18, _ => rfl
  | 19, _ => rfl
  | 20, _ => rfl
  | 21, _ => rfl
  | 22, _ => rfl
  | 23, _ => rfl
  | 24, _ => rfl
  | 25, _ => rfl
  | 26, _ => rfl
  | 27, _ => rfl
  | 28, _ => rfl
  | 29, h => exact absurd h (by omega)
  | 30, h => exact absurd h (by omega)
  | 31, h => exact absurd h (by omega)
  | 32, _ => rfl
  | 33, _ => rfl
  | n + 34, h => exact absurd h (by omega)
theorem trackC_self {cs : Array Value} (hs : cs.size = 34) {salt : UInt64} {b : Nat} {pv : Nat → Value} (h : ∀ i, 17 ≤ i → i < 27 → cs[i]? = (Tr.trackC (ocOf cs) salt b pv)[i]?) : Tr.trackC (ocOf cs) salt b pv = cs := by
  refine Array.ext_getElem? fun i => ?_
  by_cases h1 : 34 ≤ i
  · rw [none34 hs h1, none34 rfl h1]
  · by_cases h2 : 17 ≤ i ∧ i < 27
    · exact (h i h2.1 h2.2).symm
    · rw [trackC_other _ _ _ _ i (by omega)]
      exact ocOf_some hs (by omega)
theorem homeC_self {cs : Array Value} (hs : cs.size = 34) {m v : Value} (h0 : cs[27]? = some m) (h1 : cs[28]? = some v) : Ho.homeC (ocOf cs) m v = cs := by
  refine Array.ext_getElem? fun i => ?_
  by_cases h3 : 34 ≤ i
  · rw [none34 hs h3, none34 rfl h3]
  · by_cases h2 : i < 27 ∨ 29 ≤ i ∧ i < 34
    · rw [homeC_other _ _ _ i h2]
      exact ocOf_some hs (by omega)
    · obtain rfl | rfl : i = 27 ∨ i = 28 := by omega
      · exact h0.symm
      · exact h1.symm
theorem ledC_self {cs : Array Value} (hs : cs.size = 34) {m v s : Value} (h0 : cs[29]? = some m) (h1 : cs[30]? = some v) (h2 : cs[31]? = some s) : Ju.ledC (ocOf cs) m v s = cs := by
  refine Array.ext_getElem? fun i => ?_
  by_cases h3 : 34 ≤ i
  · rw [none34 hs h3, none34 rfl h3]
  · by_cases h4 : i < 29 ∨ 32 ≤ i ∧ i < 34
    · rw [ledC_other _ _ _ _ i h4]
      exact ocOf_some hs (by omega)
    · obtain rfl | rfl | rfl : i = 29 ∨ i = 30 ∨ i = 31 := by omega
      · exact h0.symm
      · exact h1.symm
      · exact h2.symm

variable {w w' : World} {F F' : Nat → Prop} {R : Nat} {s : NS}

/-- The block of a node has these cells. -/
abbrev Cells (w : World) (R : Nat) (cs : Array Value) : Prop := w.heap[R]? = some (.cells cs 107 (0, 0))
/-- All but the node's own block is as it was. -/
def But (F : Nat → Prop) (R : Nat) (w w' : World) : Prop := w.heap.size ≤ w'.heap.size ∧ ∀ k, k < w.heap.size → F k → k ≠ R → w'.heap[k]? = w.heap[k]?

theorem TL_head {oc : Nat → Value} {salt : UInt64} {L : List Tr.TEnt} (h : Tr.TL w F ⟨R, oc⟩ salt L) : ∃ b pv, Cells w R (Tr.trackC oc salt b pv) := by
  obtain ⟨_, b, ev, pv, h⟩ := h
  exact ⟨b, pv, h.head⟩
theorem HL_head {oc : Nat → Value} {L : List Ho.LinkD} (h : Ho.HL w F ⟨R, oc⟩ L) : ∃ m v, Cells w R (Ho.homeC oc m v) := by
  obtain ⟨_, b, ev, v, h⟩ := h
  exact ⟨_, v, h.head⟩
theorem LedL_head {oc : Nat → Value} {L : List DeedD} (h : Ju.LedL w F ⟨R, oc⟩ L) : ∃ m v s, Cells w R (Ju.ledC oc m v s) := by
  obtain ⟨b, s, n, ev, v, _, h⟩ := h
  exact ⟨_, v, _, h.head⟩
theorem cells_eq {cs cs' : Array Value} (h : Cells w R cs) (h' : Cells w R cs') : cs = cs' := by
  unfold Cells at h h'
  rw [h] at h'
  simpa using h'
/-- The node's other cells turned: the tracker is as it was. -/
theorem TL_again {oc : Nat → Value} {salt : UInt64} {L : List Tr.TEnt} {cs cs' : Array Value} (h : Tr.TL w F ⟨R, oc⟩ salt L) (hc : Cells w R cs) (hc' : Cells w' R cs') (hs : cs'.size = 34) (hi : ∀ i, 17 ≤ i → i < 27 → cs'[i]? = cs[i]?) (hb : But F R w w') : Tr.TL w' F ⟨R, ocOf cs'⟩ salt L := by
  obtain ⟨hg, b, ev, pv, h⟩ := h
  have e := cells_eq hc h.head
  have e' : Tr.trackC (ocOf cs') salt b pv = cs' := trackC_self hs fun i h1 h2 => by
    rw [hi i h1 h2, e]
    match i, h1, h2 with
    | 17, _, _ => rfl
    | 18, _, _ => rfl
    | 19, _, _ => rfl
    | 20, _, _ => rfl
    | 21, _, _ => rfl
    | 22, _, _ => rfl
    | 23, _, _ => rfl
    | 24, _, _ => rfl
    | 25, _, _ => rfl
    | 26, _, _ => rfl
    | n + 27, _, h => exact absurd h (by omega)
  have e2 := hb.2
  refine ⟨hg, b, ev, pv, ?_⟩
  exact {
    head := by show w'.heap[R]? = some (.cells (Tr.trackC (ocOf cs') salt b pv) _ _); rw [e']; exact hc'
    map := Tr.tmap_same h.map (e2 b (h.there b h.fb) h.fb (fun e => h.R_ne e.symm)) (fun i hi => by cases hi)
    ents := fun x => (h.ents x).imp id fun ⟨v, l, h1, h2, h3⟩ => ⟨v, l, h1, h2, Tr.own_same h3 fun g hg => e2 g (h.there g (h.fe x v g h1 hg)) (h.fe x v g h1 hg) (h.e_ne h1 hg).1⟩
    ids := fun p hp => Tr.own_same (h.ids p hp) fun g hg => e2 g (h.there g (h.fp p g hp hg)) (h.fp p g hp hg) (h.p_ne hp hg).1
    eapart := h.eapart
    papart := h.papart
    fR := h.fR
    fb := h.fb
    fe := h.fe
    fp := h.fp
    there := h.there.later hb.1
    out := fun i hi => by cases hi }
theorem HL_again {oc : Nat → Value} {L : List Ho.LinkD} {cs cs' : Array Value} (h : Ho.HL w F ⟨R, oc⟩ L) (hc : Cells w R cs) (hc' : Cells w' R cs') (hs : cs'.size = 34) (hi : ∀ i, 27 ≤ i → i < 29 → cs'[i]? = cs[i]?) (hb : But F R w w') : Ho.HL w' F ⟨R, ocOf cs'⟩ L := by
  obtain ⟨hg, b, ev, v, h⟩ := h
  have e := cells_eq hc h.head
  have e' : Ho.homeC (ocOf cs') (.map (some b)) v = cs' := homeC_self hs (by rw [hi 27 (by omega) (by omega), e]; rfl) (by rw [hi 28 (by omega) (by omega), e]; rfl)
  have e2 := hb.2
  refine ⟨hg, b, ev, v, ?_⟩
  exact {
    head := by show w'.heap[R]? = some (.cells (Ho.homeC (ocOf cs') (.map (some b)) v) _ _); rw [e']; exact hc'
    map := tmap_same h.map (e2 b (h.there b h.fb) h.fb (fun e => h.R_ne e.symm)) (fun i hi => by cases hi)
    deeds := fun x => (h.deeds x).imp id fun ⟨a, c, d, h1, h2, h3, h4⟩ => ⟨a, c, d, h1, h2, own_same h3 fun g hg => e2 g (h.there g (h4 g hg)) (h4 g hg) (h.i_ne h3 hg).1, h4⟩
    fine := h.fine
    links := own_same h.links fun g hg => e2 g (h.there g (h.fv g hg)) (h.fv g hg) (h.b_ne hg).1
    fR := h.fR
    fb := h.fb
    fv := h.fv
    there := h.there.later hb.1
    out := fun i hi => by cases hi }
theorem LedL_again {oc : Nat → Value} {L : List DeedD} {cs cs' : Array Value} (h : Ju.LedL w F ⟨R, oc⟩ L) (hc : Cells w R cs) (hc' : Cells w' R cs') (hs : cs'.size = 34) (hi : ∀ i, 29 ≤ i → i < 32 → cs'[i]? = cs[i]?) (hb : But F R w w') : Ju.LedL w' F ⟨R, ocOf cs'⟩ L := by
  obtain ⟨b, s, n, ev, v, hn, h⟩ := h
  have e := cells_eq hc h.head
  have e' : Ju.ledC (ocOf cs') (.map (some b)) v (.map (some s)) = cs' := ledC_self hs (by rw [hi 29 (by omega) (by omega), e]; rfl) (by rw [hi 30 (by omega) (by omega), e]; rfl) (by rw [hi 31 (by omega) (by omega), e]; rfl)
  have e2 := hb.2
  refine ⟨b, s, n, ev, v, hn, ?_⟩
  exact {
    head := by show w'.heap[R]? = some (.cells (Ju.ledC (ocOf cs') (.map (some b)) v (.map (some s))) _ _); rw [e']; exact hc'
    map := tmap_same h.map (e2 b (h.there b h.fb) h.fb (fun e => h.R_ne.1 e.symm)) (fun i hi => by cases hi)
    deeds := fun x => (h.deeds x).imp id fun ⟨a, c, d, h1, h2, h3, h4⟩ => ⟨a, c, d, h1, h2, own_same h3 fun g hg => e2 g (h.there g (h4 g hg)) (h4 g hg) (h.i_ne h3 hg).1, h4⟩
    fine := h.fine
    order := own_same h.order fun g hg => e2 g (h.there g (h.fv g hg)) (h.fv g hg) (h.v_ne hg).1
    spent := Ju.seen_same h.spent (e2 s (h.there s h.fs) h.fs (fun e => h.R_ne.2 e.symm))
    ne := h.ne
    fR := h.fR
    fb := h.fb
    fs := h.fs
    fv := h.fv
    there := h.there.later hb.1 }

/-- Block R is a node with the data s; cs: its cells, FT .. FQ: the blocks of its tracker, pool, ledger and filters (a and z: the filters' blocks). -/
structure NodeIs (w : World) (F : Nat → Prop) (R : Nat) (s : NS) (cs : Array Value) (FT FH FJ FW FQ : Nat → Prop) (a z : Nat) : Prop where
  head : Cells w R cs
  size : cs.size = 34
  peers : ∀ p, p < 8 → cs[2 * p]? = some (.bool (s.peers p).1) ∧ cs[2 * p + 1]? = some (.bool (s.peers p).2)
  now : cs[16]? = some (.int .i64 s.now)
  T : Tr.TL w FT ⟨R, ocOf cs⟩ s.salt s.T
  P : Ho.HL w FH ⟨R, ocOf cs⟩ s.P
  A : Ju.LedL w FJ ⟨R, ocOf cs⟩ s.A
  cW : cs[32]? = some (.pointer (some ⟨a, 0, none⟩))
  cQ : cs[33]? = some (.pointer (some ⟨z, 0, none⟩))
  W : Ri.RingAt w FW a s.W
  Q : Ri.RingAt w FQ z s.Q
  good : NGood s
  th : ∀ k, FT k → FH k → k = R
  tj : ∀ k, FT k → FJ k → k = R
  hj : ∀ k, FH k → FJ k → k = R
  tw : Apart FT FW
  hw : Apart FH FW
  jw : Apart FJ FW
  tq : Apart FT FQ
  hq : Apart FH FQ
  jq : Apart FJ FQ
  wq : Apart FW FQ
  all : ∀ k, F k ↔ FT k ∨ FH k ∨ FJ k ∨ FW k ∨ FQ k
/-- Block R is a node with the data s; F: the blocks that it owns. -/
def NodeAt (w : World) (F : Nat → Prop) (R : Nat) (s : NS) : Prop := ∃ cs FT FH FJ FW FQ a z, NodeIs w F R s cs FT FH FJ FW FQ a z

theorem NodeAt.good (h : NodeAt w F R s) : NGood s := by
  obtain ⟨_, _, _, _, _, _, _, _, h⟩ := h
  exact h.good
theorem NodeAt.there (h : NodeAt w F R s) : There w F := by
  obtain ⟨_, _, _, _, _, _, _, _, h⟩ := h
  intro k hk
  rcases (h.all k).1 hk with hk | hk | hk | hk | hk
  · exact h.T.there k hk
  · exact h.P.there k hk
  · exact h.A.there k hk
  · exact Ri.ringAt_there h.W k hk
  · exact Ri.ringAt_there h.Q k hk
theorem NodeAt.block (h : NodeAt w F R s) : F R := by
  obtain ⟨_, _, _, _, _, _, _, _, h⟩ := h
  exact (h.all R).2 (.inl h.T.block)
theorem NodeAt.same (h : NodeAt w F R s) (e : ∀ k, k < w.heap.size → F k → w'.heap[k]? = w.heap[k]?) (hs : w.heap.size ≤ w'.heap.size) : NodeAt w' F R s := by
  have hl := h.there
  have hR := h.block
  obtain ⟨cs, FT, FH, FJ, FW, FQ, a, z, h⟩ := h
  have hc : Cells w' R cs := (e R (hl R hR) hR).trans h.head
  refine ⟨cs, FT, FH, FJ, FW, FQ, a, z, ?_⟩
  exact { h with
    head := hc
    T := TL_again h.T h.head hc h.size (fun _ _ _ => rfl) ⟨hs, fun k hk hf _ => e k hk ((h.all k).2 (.inl hf))⟩
    P := HL_again h.P h.head hc h.size (fun _ _ _ => rfl) ⟨hs, fun k hk hf _ => e k hk ((h.all k).2 (.inr (.inl hf)))⟩
    A := LedL_again h.A h.head hc h.size (fun _ _ _ => rfl) ⟨hs, fun k hk hf _ => e k hk ((h.all k).2 (.inr (.inr (.inl hf))))⟩
    W := Ri.ringAt_same h.W (fun k hk hf => e k hk ((h.all k).2 (.inr (.inr (.inr (.inl hf)))))) hs
    Q := Ri.ringAt_same h.Q (fun k hk hf => e k hk ((h.all k).2 (.inr (.inr (.inr (.inr hf)))))) hs }
theorem NodeAt.kept (h : NodeAt w F R s) (hb : Below w.heap.size w w') : NodeAt w' F R s := h.same (fun k hk _ => hb.block k hk) hb.size
theorem NodeAt.turn (h : NodeAt w F R s) {G G' : Nat → Prop} (ht : Turn G G' w w') (ha : Apart F G) : NodeAt w' F R s := h.same (fun k hk hf => ht.block k hk (ha k hf)) ht.size
/-- The tracker turned. -/
theorem NodeIs.turnT {cs : Array Value} {FT FH FJ FW FQ FT' : Nat → Prop} {a z : Nat} (h : NodeIs w F R s cs FT FH FJ FW FQ a z) {T' : List Tr.TEnt} (hT : Tr.TL w' FT' ⟨R, ocOf cs⟩ s.salt T') (ht : Turn FT FT' w w') : ∃ F', NodeAt w' F' R { s with T := T' } ∧ Turn F F' w w' := by
  obtain ⟨b, pv, hc⟩ := TL_head hT
  have hT2 := hT
  have ho : ∀ i, i < 17 ∨ 27 ≤ i ∧ i < 34 → (Tr.trackC (ocOf cs) s.salt b pv)[i]? = cs[i]? := fun i hi => by
    rw [trackC_other _ _ _ _ i hi]
    have : i < cs.size := by rw [h.size]; omega
    rw [Array.getElem?_eq_getElem this]
    exact congrArg some (ocOf_at (Array.getElem?_eq_getElem this))
  have hn : ∀ k, FT' k → FT k ∨ w.heap.size ≤ k := ht.own
  have hR : FT R := h.T.block
  have out : ∀ {G : Nat → Prop}, There w G → (∀ k, FT k → ¬ G k) → Apart FT' G := fun hG ha k hk hg => (hn k hk).elim (fun hf => ha k hf hg) (fun hle => by have := hG k hg; omega)
  have outR : ∀ {G : Nat → Prop}, There w G → (∀ k, FT k → G k → k = R) → ∀ k, FT' k → G k → k = R := fun hG ha k hk hg => (hn k hk).elim (fun hf => ha k hf hg) (fun hle => by have := hG k hg; omega)
  have hsz : (Tr.trackC (ocOf cs) s.salt b pv).size = 34 := rfl
  refine ⟨fun k => FT' k ∨ FH k ∨ FJ k ∨ FW k ∨ FQ k, ⟨Tr.trackC (ocOf cs) s.salt b pv, FT', FH, FJ, FW, FQ, a, z, ?_⟩, ?_⟩
  · exact {
      head := hc
      size := hsz
      peers := fun p hp => ⟨(ho _ (by omega)).trans (h.peers p hp).1, (ho _ (by omega)).trans (h.peers p hp).2⟩
      now := (ho _ (by omega)).trans h.now
      T := TL_again hT hc hc hsz (fun _ _ _ => rfl) ⟨Nat.le_refl _, fun _ _ _ _ => rfl⟩
      P := HL_again h.P h.head hc hsz (fun i h1 h2 => ho i (by omega)) ⟨ht.size, fun k hk hf hk2 => ht.block k hk (fun hT => hk2 (h.th k hT hf))⟩
      A := LedL_again h.A h.head hc hsz (fun i h1 h2 => ho i (by omega)) ⟨ht.size, fun k hk hf hk2 => ht.block k hk (fun hT => hk2 (h.tj k hT hf))⟩
      cW := (ho _ (by omega)).trans h.cW
      cQ := (ho _ (by omega)).trans h.cQ
      W := Ri.ringAt_turn h.W ht h.tw.symm
      Q := Ri.ringAt_turn h.Q ht h.tq.symm
      good := { h.good with T := hT2.1 }
      th := outR h.P.there h.th
      tj := outR h.A.there h.tj
      hj := h.hj
      tw := out (Ri.ringAt_there h.W) h.tw
      hw := h.hw
      jw := h.jw
      tq := out (Ri.ringAt_there h.Q) h.tq
      hq := h.hq
      jq := h.jq
      wq := h.wq
      all := fun k => Iff.rfl }
  · refine ⟨ht.os, ht.tape, ht.output, ht.size, fun k hk hf => ht.block k hk (fun hT => hf ((h.all k).2 (.inl hT))), fun k hk => ?_⟩
    rcases hk with hk | hk
    · exact (hn k hk).imp (fun hT => (h.all k).2 (.inl hT)) id
    · exact .inl ((h.all k).2 (.inr hk))
/-- The pool turned. -/
theorem NodeIs.turnP {cs : Array Value} {FT FH FJ FW FQ FH' : Nat → Prop} {a z : Nat} (h : NodeIs w F R s cs FT FH FJ FW FQ a z) {P' : List Ho.LinkD} (hP : Ho.HL w' FH' ⟨R, ocOf cs⟩ P') (ht : Turn FH FH' w w') : ∃ F', NodeAt w' F' R { s with P := P' } ∧ Turn F F' w w' := by
  obtain ⟨m, v, hc⟩ := HL_head hP
  have hP2 := hP
  have ho : ∀ i, i < 27 ∨ 29 ≤ i ∧ i < 34 → (Ho.homeC (ocOf cs) m v)[i]? = cs[i]? := fun i hi => by
    rw [homeC_other _ _ _ i hi]
    have : i < cs.size := by rw [h.size]; omega
    rw [Array.getElem?_eq_getElem this]
    exact congrArg some (ocOf_at (Array.getElem?_eq_getElem this))
  have hn : ∀ k, FH' k → FH k ∨ w.heap.size ≤ k := ht.own
  have out : ∀ {G : Nat → Prop}, There w G → (∀ k, FH k → ¬ G k) → Apart FH' G := fun hG ha k hk hg => (hn k hk).elim (fun hf => ha k hf hg) (fun hle => by have := hG k hg; omega)
  have outR : ∀ {G : Nat → Prop}, There w G → (∀ k, FH k → G k → k = R) → ∀ k, FH' k → G k → k = R := fun hG ha k hk hg => (hn k hk).elim (fun hf => ha k hf hg) (fun hle => by have := hG k hg; omega)
  have hsz : (Ho.homeC (ocOf cs) m v).size = 34 := rfl
  refine ⟨fun k => FT k ∨ FH' k ∨ FJ k ∨ FW k ∨ FQ k, ⟨Ho.homeC (ocOf cs) m v, FT, FH', FJ, FW, FQ, a, z, ?_⟩, ?_⟩
  · exact {
      head := hc
      size := hsz
      peers := fun p hp => ⟨(ho _ (by omega)).trans (h.peers p hp).1, (ho _ (by omega)).trans (h.peers p hp).2⟩
      now := (ho _ (by omega)).trans h.now
      T := TL_again h.T h.head hc hsz (fun i h1 h2 => ho i (by omega)) ⟨ht.size, fun k hk hf hk2 => ht.block k hk (fun hT => hk2 (h.th k hf hT))⟩
      P := HL_again hP hc hc hsz (fun _ _ _ => rfl) ⟨Nat.le_refl _, fun _ _ _ _ => rfl⟩
      A := LedL_again h.A h.head hc hsz (fun i h1 h2 => ho i (by omega)) ⟨ht.size, fun k hk hf hk2 => ht.block k hk (fun hT => hk2 (h.hj k hT hf))⟩
      cW := (ho _ (by omega)).trans h.cW
      cQ := (ho _ (by omega)).trans h.cQ
      W := Ri.ringAt_turn h.W ht h.hw.symm
      Q := Ri.ringAt_turn h.Q ht h.hq.symm
      good := { h.good with P := hP2.1 }
      th := fun k h1 h2 => outR h.T.there (fun k a b => h.th k b a) k h2 h1
      tj := h.tj
      hj := outR h.A.there h.hj
      tw := h.tw
      hw := out (Ri.ringAt_there h.W) h.hw
      jw := h.jw
      tq := h.tq
      hq := out (Ri.ringAt_there h.Q) h.hq
      jq := h.jq
      wq := h.wq
      all := fun k => Iff.rfl }
  · refine ⟨ht.os, ht.tape, ht.output, ht.size, fun k hk hf => ht.block k hk (fun hT => hf ((h.all k).2 (.inr (.inl hT)))), fun k hk => ?_⟩
    rcases hk with hk | hk | hk
    · exact .inl ((h.all k).2 (.inl hk))
    · exact (hn k hk).imp (fun hT => (h.all k).2 (.inr (.inl hT))) id
    · exact .inl ((h.all k).2 (.inr (.inr hk)))
/-- The ledger turned. -/
theorem NodeIs.turnA {cs : Array Value} {FT FH FJ FW FQ FJ' : Nat → Prop} {a z : Nat} (h : NodeIs w F R s cs FT FH FJ FW FQ a z) {A' : List DeedD} (hA : Ju.LedL w' FJ' ⟨R, ocOf cs⟩ A') (hg : Ju.GoodJ A') (ht : Turn FJ FJ' w w') : ∃ F', NodeAt w' F' R { s with A := A' } ∧ Turn F F' w w' := by
  obtain ⟨m, v, u, hc⟩ := LedL_head hA
  have ho : ∀ i, i < 29 ∨ 32 ≤ i ∧ i < 34 → (Ju.ledC (ocOf cs) m v u)[i]? = cs[i]? := fun i hi => by
    rw [ledC_other _ _ _ _ i hi]
    have : i < cs.size := by rw [h.size]; omega
    rw [Array.getElem?_eq_getElem this]
    exact congrArg some (ocOf_at (Array.getElem?_eq_getElem this))
  have hn : ∀ k, FJ' k → FJ k ∨ w.heap.size ≤ k := ht.own
  have out : ∀ {G : Nat → Prop}, There w G → (∀ k, FJ k → ¬ G k) → Apart FJ' G := fun hG ha k hk hg => (hn k hk).elim (fun hf => ha k hf hg) (fun hle => by have := hG k hg; omega)
  have outR : ∀ {G : Nat → Prop}, There w G → (∀ k, FJ k → G k → k = R) → ∀ k, FJ' k → G k → k = R := fun hG ha k hk hg => (hn k hk).elim (fun hf => ha k hf hg) (fun hle => by have := hG k hg; omega)
  have hsz : (Ju.ledC (ocOf cs) m v u).size = 34 := rfl
  refine ⟨fun k => FT k ∨ FH k ∨ FJ' k ∨ FW k ∨ FQ k, ⟨Ju.ledC (ocOf cs) m v u, FT, FH, FJ', FW, FQ, a, z, ?_⟩, ?_⟩
  · exact {
      head := hc
      size := hsz
      peers := fun p hp => ⟨(ho _ (by omega)).trans (h.peers p hp).1, (ho _ (by omega)).trans (h.peers p hp).2⟩
      now := (ho _ (by omega)).trans h.now
      T := TL_again h.T h.head hc hsz (fun i h1 h2 => ho i (by omega)) ⟨ht.size, fun k hk hf hk2 => ht.block k hk (fun hT => hk2 (h.tj k hf hT))⟩
      P := HL_again h.P h.head hc hsz (fun i h1 h2 => ho i (by omega)) ⟨ht.size, fun k hk hf hk2 => ht.block k hk (fun hT => hk2 (h.hj k hf hT))⟩
      A := LedL_again hA hc hc hsz (fun _ _ _ => rfl) ⟨Nat.le_refl _, fun _ _ _ _ => rfl⟩
      cW := (ho _ (by omega)).trans h.cW
      cQ := (ho _ (by omega)).trans h.cQ
      W := Ri.ringAt_turn h.W ht h.jw.symm
      Q := Ri.ringAt_turn h.Q ht h.jq.symm
      good := { h.good with A := hg }
      th := h.th
      tj := fun k h1 h2 => outR h.T.there (fun k a b => h.tj k b a) k h2 h1
      hj := fun k h1 h2 => outR h.P.there (fun k a b => h.hj k b a) k h2 h1
      tw := h.tw
      hw := h.hw
      jw := out (Ri.ringAt_there h.W) h.jw
      tq := h.tq
      hq := h.hq
      jq := out (Ri.ringAt_there h.Q) h.jq
      wq := h.wq
      all := fun k => Iff.rfl }
  · refine ⟨ht.os, ht.tape, ht.output, ht.size, fun k hk hf => ht.block k hk (fun hT => hf ((h.all k).2 (.inr (.inr (.inl hT))))), fun k hk => ?_⟩
    rcases hk with hk | hk | hk | hk
    · exact .inl ((h.all k).2 (.inl hk))
    · exact .inl ((h.all k).2 (.inr (.inl hk)))
    · exact (hn k hk).imp (fun hT => (h.all k).2 (.inr (.inr (.inl hT)))) id
    · exact .inl ((h.all k).2 (.inr (.inr (.inr hk))))
/-- The filter of Wicked ones turned. -/
theorem NodeIs.turnW {cs : Array Value} {FT FH FJ FW FQ FW' : Nat → Prop} {a z : Nat} (h : NodeIs w F R s cs FT FH FJ FW FQ a z) {W' : Ri.RingS} (hW : Ri.RingAt w' FW' a W') (hg : W'.Good) (ht : Turn FW FW' w w') : ∃ F', NodeAt w' F' R { s with W := W' } ∧ Turn F F' w w' := by
  have hn : ∀ k, FW' k → FW k ∨ w.heap.size ≤ k := ht.own
  have out : ∀ {G : Nat → Prop}, There w G → (∀ k, G k → ¬ FW k) → Apart G FW' := fun hG ha k hg hk => (hn k hk).elim (fun hf => ha k hg hf) (fun hle => by have := hG k hg; omega)
  have hb : ∀ {G : Nat → Prop}, (∀ k, G k → ¬ FW k) → But G R w w' := fun ha => ⟨ht.size, fun k hk hf _ => ht.block k hk (ha k hf)⟩
  have hc : Cells w' R cs := (ht.block R (h.T.there R h.T.block) (h.tw R h.T.block)).trans h.head
  refine ⟨fun k => FT k ∨ FH k ∨ FJ k ∨ FW' k ∨ FQ k, ⟨cs, FT, FH, FJ, FW', FQ, a, z, ?_⟩, ?_⟩
  · exact { h with
      head := hc
      T := TL_again h.T h.head hc h.size (fun _ _ _ => rfl) (hb h.tw)
      P := HL_again h.P h.head hc h.size (fun _ _ _ => rfl) (hb h.hw)
      A := LedL_again h.A h.head hc h.size (fun _ _ _ => rfl) (hb h.jw)
      W := hW
      Q := Ri.ringAt_turn h.Q ht h.wq.symm
      good := { h.good with W := hg }
      tw := out h.T.there h.tw
      hw := out h.P.there h.hw
      jw := out h.A.there h.jw
      wq := (out (Ri.ringAt_there h.Q) h.wq.symm).symm
      all := fun k => Iff.rfl }
  · refine ⟨ht.os, ht.tape, ht.output, ht.size, fun k hk hf => ht.block k hk (fun hT => hf ((h.all k).2 (.inr (.inr (.inr (.inl hT)))))), fun k hk => ?_⟩
    rcases hk with hk | hk | hk | hk | hk
    · exact .inl ((h.all k).2 (.inl hk))
    · exact .inl ((h.all k).2 (.inr (.inl hk)))
    · exact .inl ((h.all k).2 (.inr (.inr (.inl hk))))
    · exact (hn k hk).imp (fun hT => (h.all k).2 (.inr (.inr (.inr (.inl hT))))) id
    · exact .inl ((h.all k).2 (.inr (.inr (.inr (.inr hk)))))
/-- The filter of Poor ones turned. -/
theorem NodeIs.turnQ {cs : Array Value} {FT FH FJ FW FQ FQ' : Nat → Prop} {a z : Nat} (h : NodeIs w F R s cs FT FH FJ FW FQ a z) {Q' : Ri.RingS} (hQ : Ri.RingAt w' FQ' z Q') (hg : Q'.Good) (ht : Turn FQ FQ' w w') : ∃ F', NodeAt w' F' R { s with Q := Q' } ∧ Turn F F' w w' := by
  have hn : ∀ k, FQ' k → FQ k ∨ w.heap.size ≤ k := ht.own
  have out : ∀ {G : Nat → Prop}, There w G → (∀ k, G k → ¬ FQ k) → Apart G FQ' := fun hG ha k hg hk => (hn k hk).elim (fun hf => ha k hg hf) (fun hle => by have := hG k hg; omega)
  have hb : ∀ {G : Nat → Prop}, (∀ k, G k → ¬ FQ k) → But G R w w' := fun ha => ⟨ht.size, fun k hk hf _ => ht.block k hk (ha k hf)⟩
  have hc : Cells w' R cs := (ht.block R (h.T.there R h.T.block) (h.tq R h.T.block)).trans h.head
  refine ⟨fun k => FT k ∨ FH k ∨ FJ k ∨ FW k ∨ FQ' k, ⟨cs, FT, FH, FJ, FW, FQ', a, z, ?_⟩, ?_⟩
  · exact { h with
      head := hc
      T := TL_again h.T h.head hc h.size (fun _ _ _ => rfl) (hb h.tq)
      P := HL_again h.P h.head hc h.size (fun _ _ _ => rfl) (hb h.hq)
      A := LedL_again h.A h.head hc h.size (fun _ _ _ => rfl) (hb h.jq)
      W := Ri.ringAt_turn h.W ht h.wq
      Q := hQ
      good := { h.good with Q := hg }
      tq := out h.T.there h.tq
      hq := out h.P.there h.hq
      jq := out h.A.there h.jq
      wq := out (Ri.ringAt_there h.W) h.wq
      all := fun k => Iff.rfl }
  · refine ⟨ht.os, ht.tape, ht.output, ht.size, fun k hk hf => ht.block k hk (fun hT => hf ((h.all k).2 (.inr (.inr (.inr (.inr hT)))))), fun k hk => ?_⟩
    rcases hk with hk | hk | hk | hk | hk
    · exact .inl ((h.all k).2 (.inl hk))
    · exact .inl ((h.all k).2 (.inr (.inl hk)))
    · exact .inl ((h.all k).2 (.inr (.inr (.inl hk))))
    · exact .inl ((h.all k).2 (.inr (.inr (.inr (.inl hk)))))
    · exact (hn k hk).imp (fun hT => (h.all k).2 (.inr (.inr (.inr (.inr hT))))) id
end Go.Proofs.YtmbejeibcncmmaaGreat
namespace Go.Proofs.YtmbejeibcncmmaaGreat
open Go.RowKit Go.Maps

variable {w w' : World} {F F' : Nat → Prop} {R : Nat} {s : NS}

/-- A call that turns the node: its answer, and what the node is then. -/
def TurnsN (w : World) (F : Nat → Prop) (R : Nat) (v : Value) (s' : NS) (e : Ending) (w' : World) : Prop := e = .returned v ∧ ∃ F', NodeAt w' F' R s' ∧ Turn F F' w w'

theorem cells_at {cs : Array Value} (h : Cells w R cs) {i : Nat} {u : Value} (hi : cs[i]? = some u) : w.cell? ⟨R, i, none⟩ = some u ∧ w.frozen? ⟨R, i, none⟩ = false :=
  ⟨(head_cell h i).trans hi, frozen_of_row w R i _ _ h⟩
theorem NodeAt.nowc (h : NodeAt w F R s) : w.cell? ⟨R, 16, none⟩ = some (.int .i64 s.now) ∧ w.frozen? ⟨R, 16, none⟩ = false := by
  obtain ⟨_, _, _, _, _, _, _, _, h⟩ := h
  exact cells_at h.head h.now
theorem NodeAt.peerc (h : NodeAt w F R s) (p : Nat) (hp : p < 8) : (w.cell? ⟨R, 2 * p, none⟩ = some (.bool (s.peers p).1) ∧ w.frozen? ⟨R, 2 * p, none⟩ = false) ∧ (w.cell? ⟨R, 2 * p + 1, none⟩ = some (.bool (s.peers p).2) ∧ w.frozen? ⟨R, 2 * p + 1, none⟩ = false) := by
  obtain ⟨_, _, _, _, _, _, _, _, h⟩ := h
  exact ⟨cells_at h.head (h.peers p hp).1, cells_at h.head (h.peers p hp).2⟩
theorem NodeAt.rings (h : NodeAt w F R s) : ∃ a z, w.cell? ⟨R, 32, none⟩ = some (.pointer (some ⟨a, 0, none⟩)) ∧ w.cell? ⟨R, 33, none⟩ = some (.pointer (some ⟨z, 0, none⟩)) := by
  obtain ⟨_, _, _, _, _, _, a, z, h⟩ := h
  exact ⟨a, z, (cells_at h.head h.cW).1, (cells_at h.head h.cQ).1⟩
theorem NodeAt.lt (h : NodeAt w F R s) : R < w.heap.size := h.there R h.block

/-! The tracker. -/
theorem n_answer (p : Int) (x : UInt64) (w : World) (h : NodeAt w F R s) : Calls Tryz.prog 60 #[.pointer (some ⟨R, 17, none⟩), .int .i64 p, .int .u64 x.toNat] w
    (TurnsN w F R (.int .i64 (Tr.answerC s.T p x).1) { s with T := (Tr.answerC s.T p x).2 }) := by
  obtain ⟨cs, FT, FH, FJ, FW, FQ, a, z, h⟩ := h
  exact (Tr.tl_answer FT ⟨R, ocOf cs⟩ s.salt s.T w h.T p x).mono fun e w' ⟨he, FT', h1, h2⟩ => ⟨he, h.turnT h1 h2⟩
theorem n_forget (x : UInt64) (w : World) (h : NodeAt w F R s) : Calls Tryz.prog 128 #[.pointer (some ⟨R, 17, none⟩), .int .u64 x.toNat] w
    (TurnsN w F R (.tuple #[]) { s with T := Tr.forgetL s.T x }) := by
  obtain ⟨cs, FT, FH, FJ, FW, FQ, a, z, h⟩ := h
  exact (Tr.tl_forget FT ⟨R, ocOf cs⟩ s.salt s.T w h.T x).mono fun e w' ⟨he, FT', h1, h2⟩ => ⟨he, h.turnT h1 h2⟩
theorem n_announce (p : Int) (x : UInt64) (t : Int) (f : Bool) (w : World) (h : NodeAt w F R s) : Calls Tryz.prog 90 #[.pointer (some ⟨R, 17, none⟩), .int .i64 p, .int .u64 x.toNat, .int .i64 t, .bool f] w
    (TurnsN w F R (.int .i64 (Tr.annC s.T p x t f).1) { s with T := (Tr.annC s.T p x t f).2 }) := by
  obtain ⟨cs, FT, FH, FJ, FW, FQ, a, z, h⟩ := h
  exact (Tr.tl_announce FT ⟨R, ocOf cs⟩ s.salt s.T w h.T p x t f).mono fun e w' ⟨he, FT', h1, h2⟩ => ⟨he, h.turnT h1 h2⟩
theorem n_ask (p : Int) (x : UInt64) (t : Int) (w : World) (h : NodeAt w F R s) : Calls Tryz.prog 106 #[.pointer (some ⟨R, 17, none⟩), .int .i64 p, .int .u64 x.toNat, .int .i64 t] w
    (TurnsN w F R (.int .i64 (Tr.askC s.T p x t).1) { s with T := (Tr.askC s.T p x t).2 }) := by
  obtain ⟨cs, FT, FH, FJ, FW, FQ, a, z, h⟩ := h
  exact (Tr.tl_ask FT ⟨R, ocOf cs⟩ s.salt s.T w h.T p x t).mono fun e w' ⟨he, FT', h1, h2⟩ => ⟨he, h.turnT h1 h2⟩
theorem n_due (now : Int) (w : World) (h : NodeAt w F R s) : Calls Tryz.prog 66 #[.pointer (some ⟨R, 17, none⟩), .int .i64 now] w
    (TurnsN w F R (.tuple #[]) { s with T := Tr.dueL now s.T }) := by
  obtain ⟨cs, FT, FH, FJ, FW, FQ, a, z, h⟩ := h
  exact (Tr.tl_due FT ⟨R, ocOf cs⟩ s.salt s.T w h.T now).mono fun e w' ⟨he, FT', h1, h2⟩ => ⟨he, h.turnT h1 h2⟩
theorem n_dropT (p : Int) (w : World) (h : NodeAt w F R s) : Calls Tryz.prog 64 #[.pointer (some ⟨R, 17, none⟩), .int .i64 p] w
    (TurnsN w F R (.int .i64 (Tr.dropC s.T p).1) { s with T := (Tr.dropC s.T p).2 }) := by
  obtain ⟨cs, FT, FH, FJ, FW, FQ, a, z, h⟩ := h
  exact (Tr.tl_drop FT ⟨R, ocOf cs⟩ s.salt s.T w h.T p).mono fun e w' ⟨he, FT', h1, h2⟩ => ⟨he, h.turnT h1 h2⟩
theorem n_counts (p n m k : Int) (hk : (if Tr.goodP p then (((s.T.filter fun e => e.peer == p.toNat).length : Int), ((s.T.filter fun e => e.peer == p.toNat && e.st == 2).length : Int), (0 : Int)) else (0, 0, 1)) = (n, m, k)) (w : World) (h : NodeAt w F R s) :
    Calls Tryz.prog 53 #[.pointer (some ⟨R, 17, none⟩), .int .i64 p] w fun e w' => e = .returned (.tuple #[.int .i64 n, .int .i64 m, .int .i64 k]) ∧ Below w.heap.size w w' := by
  obtain ⟨cs, FT, FH, FJ, FW, FQ, a, z, h⟩ := h
  exact Tr.tl_counts FT ⟨R, ocOf cs⟩ s.salt s.T w h.T p n m k hk
theorem n_next (p : Nat) (hp : p < 8) (w : World) (h : NodeAt w F R s) : Calls Tryz.prog 105 #[.pointer (some ⟨R, 17, none⟩), .int .i64 p] w fun e w' => Tr.GaveIds w ((Tr.idsOf s.T p).filter ((Tr.ofL s.salt s.T).isNext p)) e w' ∧ Below w.heap.size w w' := by
  obtain ⟨cs, FT, FH, FJ, FW, FQ, a, z, h⟩ := h
  exact Tr.tl_next FT ⟨R, ocOf cs⟩ s.salt s.T w h.T p hp
/-! The pool. -/
theorem n_add (p : Int) (x : UInt64) (d : DeedD) (a : Option Addr) (cap : Nat) (w : World) (h : NodeAt w F R s) (hi : InsAt w a d.ins) (hout : ∀ bb o, d.ins ≠ [] → a = some ⟨bb, o, none⟩ → ¬ F bb) :
    Calls Tryz.prog 69 #[.pointer (some ⟨R, 27, none⟩), .int .i64 p, .int .u64 x.toNat, .agg #[.slice a d.ins.length cap, .int .i64 d.outs, .int .i64 d.weight, .int .i64 d.fee]] w
      (TurnsN w F R (.tuple #[.bool (Ho.addC s.P p x d).1.1, .int .i64 (Ho.addC s.P p x d).1.2]) { s with P := (Ho.addC s.P p x d).2 }) := by
  obtain ⟨cs, FT, FH, FJ, FW, FQ, _, _, h⟩ := h
  exact (Ho.hl_add (R := ⟨R, ocOf cs⟩) p x d a cap w h.P hi (fun bb o hne e hf => hout bb o hne e ((h.all bb).2 (.inr (.inl hf))))).mono fun e w' ⟨he, FT', h1, h2⟩ => ⟨he, h.turnP h1 h2⟩
theorem n_remove (x : UInt64) (w : World) (h : NodeAt w F R s) : Calls Tryz.prog 155 #[.pointer (some ⟨R, 27, none⟩), .int .u64 x.toNat] w
    (TurnsN w F R (.bool (Ho.deedOf s.P x).isSome) { s with P := Ho.removeL s.P x }) := by
  obtain ⟨cs, FT, FH, FJ, FW, FQ, a, z, h⟩ := h
  exact (Ho.hl_remove (R := ⟨R, ocOf cs⟩) x w h.P).mono fun e w' ⟨he, FT', h1, h2⟩ => ⟨he, h.turnP h1 h2⟩
theorem n_dropP (p : Nat) (hp : p < 8) (w : World) (h : NodeAt w F R s) : Calls Tryz.prog 65 #[.pointer (some ⟨R, 27, none⟩), .int .i64 p] w
    (TurnsN w F R (.int .i64 0) { s with P := Ho.dropL s.P p }) := by
  obtain ⟨cs, FT, FH, FJ, FW, FQ, a, z, h⟩ := h
  exact (Ho.hl_drop (R := ⟨R, ocOf cs⟩) p hp w h.P).mono fun e w' ⟨he, FT', h1, h2⟩ => ⟨he, h.turnP h1 h2⟩
theorem n_hasP (x : UInt64) (r : Bool) (hr : (Ho.deedOf s.P x).isSome = r) (w : World) (h : NodeAt w F R s) : Calls Tryz.prog 108 #[.pointer (some ⟨R, 27, none⟩), .int .u64 x.toNat] w fun e w' => e = .returned (.bool r) ∧ Below w.heap.size w w' := by
  obtain ⟨cs, FT, FH, FJ, FW, FQ, a, z, h⟩ := h
  exact Ho.hl_has (R := ⟨R, ocOf cs⟩) x w h.P r hr
theorem n_deedP (x : UInt64) (w : World) (h : NodeAt w F R s) : Calls Tryz.prog 135 #[.pointer (some ⟨R, 27, none⟩), .int .u64 x.toNat] w (Ho.DeedAnsF w (Ho.deedOf s.P x)) := by
  obtain ⟨cs, FT, FH, FJ, FW, FQ, a, z, h⟩ := h
  exact Ho.hl_deed (R := ⟨R, ocOf cs⟩) x w h.P
theorem n_allP (w : World) (h : NodeAt w F R s) : Calls Tryz.prog 49 #[.pointer (some ⟨R, 27, none⟩)] w (GaveIds w (Ho.allL s.P)) := by
  obtain ⟨cs, FT, FH, FJ, FW, FQ, a, z, h⟩ := h
  exact Ho.hl_all (R := ⟨R, ocOf cs⟩) w h.P
theorem n_childP (x : UInt64) (w : World) (h : NodeAt w F R s) : Calls Tryz.prog 70 #[.pointer (some ⟨R, 27, none⟩), .int .u64 x.toNat] w (GaveIds w (Ho.childL s.P x)) := by
  obtain ⟨cs, FT, FH, FJ, FW, FQ, a, z, h⟩ := h
  exact Ho.hl_children (R := ⟨R, ocOf cs⟩) x w h.P
/-! The ledger. -/
theorem n_accept (d : DeedD) (a : Option Addr) (cap : Nat) (hl : s.A.length ≤ 5000000000000) (w : World) (h : NodeAt w F R s) (hi : InsAt w a d.ins) (hout : ∀ bb o, d.ins ≠ [] → a = some ⟨bb, o, none⟩ → ¬ F bb) :
    Calls Tryz.prog 71 #[.pointer (some ⟨R, 29, none⟩), .agg #[.slice a d.ins.length cap, .int .i64 d.outs, .int .i64 d.weight, .int .i64 d.fee]] w
      (TurnsN w F R (.int .i64 (Ju.acceptL s.A d).1) { s with A := (Ju.acceptL s.A d).2 }) := by
  obtain ⟨cs, FT, FH, FJ, FW, FQ, _, _, h⟩ := h
  exact (Ju.acceptL_any (R := ⟨R, ocOf cs⟩) d a cap hl w h.A hi (fun bb o hne e hf => hout bb o hne e ((h.all bb).2 (.inr (.inr (.inl hf))))) _ _ rfl).mono fun e w' ⟨he, FT', h1, h2⟩ => ⟨he, h.turnA h1 (Ju.acceptL_good h.good.A d) h2⟩
theorem n_judge (d : DeedD) (a : Option Addr) (cap : Nat) (w : World) (h : NodeAt w F R s) (hi : InsAt w a d.ins) (q : Int × List UInt64 × Int) (hq : Ju.judgeL s.A d = q) :
    Calls Tryz.prog 72 #[.pointer (some ⟨R, 29, none⟩), .agg #[.slice a d.ins.length cap, .int .i64 d.outs, .int .i64 d.weight, .int .i64 d.fee]] w (Ju.GaveJ w q) := by
  obtain ⟨cs, FT, FH, FJ, FW, FQ, _, _, h⟩ := h
  exact hq ▸ Ju.judgeL_any (R := ⟨R, ocOf cs⟩) d a cap w h.A hi
theorem n_pair (p c : DeedD) (pa ca : Option Addr) (pc cc : Nat) (w : World) (h : NodeAt w F R s) (hpi : InsAt w pa p.ins) (hci : InsAt w ca c.ins) (k r : Int) (hr : Ju.pairL s.A p c = (k, r)) :
    Calls Tryz.prog 156 #[.pointer (some ⟨R, 29, none⟩), .agg #[.slice pa p.ins.length pc, .int .i64 p.outs, .int .i64 p.weight, .int .i64 p.fee], .agg #[.slice ca c.ins.length cc, .int .i64 c.outs, .int .i64 c.weight, .int .i64 c.fee]] w fun e w' => e = .returned (.tuple #[.int .i64 k, .int .i64 r]) ∧ Below w.heap.size w w' := by
  obtain ⟨cs, FT, FH, FJ, FW, FQ, _, _, h⟩ := h
  exact Ju.pairL_any (R := ⟨R, ocOf cs⟩) p c pa ca pc cc w h.A hpi hci k r hr
theorem n_hasA (x : UInt64) (r : Bool) (hr : (Ju.findL s.A x).isSome = r) (w : World) (h : NodeAt w F R s) : Calls Tryz.prog 94 #[.pointer (some ⟨R, 29, none⟩), .int .u64 x.toNat] w fun e w' => e = .returned (.bool r) ∧ Below w.heap.size w w' := by
  obtain ⟨cs, FT, FH, FJ, FW, FQ, a, z, h⟩ := h
  exact Ju.hasL_any (R := ⟨R, ocOf cs⟩) x w h.A r hr
theorem n_deedA (x : UInt64) (w : World) (h : NodeAt w F R s) : Calls Tryz.prog 93 #[.pointer (some ⟨R, 29, none⟩), .int .u64 x.toNat] w (DeedAns w (Ju.findL s.A x)) := by
  obtain ⟨cs, FT, FH, FJ, FW, FQ, a, z, h⟩ := h
  exact Ju.deedL_any (R := ⟨R, ocOf cs⟩) x w h.A
theorem n_allA (hl : s.A.length ≤ 10000000000000) (w : World) (h : NodeAt w F R s) : Calls Tryz.prog 48 #[.pointer (some ⟨R, 29, none⟩)] w (GaveIds w (s.A.map Ju.idD)) := by
  obtain ⟨cs, FT, FH, FJ, FW, FQ, a, z, h⟩ := h
  exact Ju.allL_any (R := ⟨R, ocOf cs⟩) w h.A hl
/-! The filters. -/
theorem n_hasW {a : Nat} (x : UInt64) (r : Bool) (hr : s.W.has x = r) (w : World) (h : NodeAt w F R s) (ha : w.cell? ⟨R, 32, none⟩ = some (.pointer (some ⟨a, 0, none⟩))) : Calls Tryz.prog 95 #[.pointer (some ⟨a, 0, none⟩), .int .u64 x.toNat] w fun e w' => e = .returned (.bool r) ∧ w = w' := by
  obtain ⟨cs, FT, FH, FJ, FW, FQ, a', z, h⟩ := h
  have e := (cells_at h.head h.cW).1.symm.trans ha
  simp only [Option.some.injEq, Value.pointer.injEq, Addr.mk.injEq, and_true] at e
  subst e
  exact Ri.ring_has FW a' s.W x r hr w h.W
theorem n_hasQ {a : Nat} (x : UInt64) (r : Bool) (hr : s.Q.has x = r) (w : World) (h : NodeAt w F R s) (ha : w.cell? ⟨R, 33, none⟩ = some (.pointer (some ⟨a, 0, none⟩))) : Calls Tryz.prog 95 #[.pointer (some ⟨a, 0, none⟩), .int .u64 x.toNat] w fun e w' => e = .returned (.bool r) ∧ w = w' := by
  obtain ⟨cs, FT, FH, FJ, FW, FQ, a', z, h⟩ := h
  have e := (cells_at h.head h.cQ).1.symm.trans ha
  simp only [Option.some.injEq, Value.pointer.injEq, Addr.mk.injEq, and_true] at e
  subst e
  exact Ri.ring_has FQ z s.Q x r hr w h.Q
theorem n_putW {a : Nat} (x : UInt64) (w : World) (h : NodeAt w F R s) (ha : w.cell? ⟨R, 32, none⟩ = some (.pointer (some ⟨a, 0, none⟩))) : Calls Tryz.prog 132 #[.pointer (some ⟨a, 0, none⟩), .int .u64 x.toNat] w (TurnsN w F R (.tuple #[]) { s with W := s.W.put x }) := by
  obtain ⟨cs, FT, FH, FJ, FW, FQ, a', z, h⟩ := h
  have e := (cells_at h.head h.cW).1.symm.trans ha
  simp only [Option.some.injEq, Value.pointer.injEq, Addr.mk.injEq, and_true] at e
  subst e
  exact (Ri.ring_put FW a' s.W x w h.W h.good.W).mono fun e w' ⟨he, FT', h1, h2⟩ => ⟨he, h.turnW h1 (Ri.put_good h.good.W x) h2⟩
theorem n_putQ {a : Nat} (x : UInt64) (w : World) (h : NodeAt w F R s) (ha : w.cell? ⟨R, 33, none⟩ = some (.pointer (some ⟨a, 0, none⟩))) : Calls Tryz.prog 132 #[.pointer (some ⟨a, 0, none⟩), .int .u64 x.toNat] w (TurnsN w F R (.tuple #[]) { s with Q := s.Q.put x }) := by
  obtain ⟨cs, FT, FH, FJ, FW, FQ, a', z, h⟩ := h
  have e := (cells_at h.head h.cQ).1.symm.trans ha
  simp only [Option.some.injEq, Value.pointer.injEq, Addr.mk.injEq, and_true] at e
  subst e
  exact (Ri.ring_put FQ z s.Q x w h.Q h.good.Q).mono fun e w' ⟨he, FT', h1, h2⟩ => ⟨he, h.turnQ h1 (Ri.put_good h.good.Q x) h2⟩
end Go.Proofs.YtmbejeibcncmmaaGreat
