/-
  A generation of a filter: a map of IDs to true (or no map yet), as the list of its keys in the order in which they were put.
-/
import Derived.Test.YtagbcgbngdfapaaBase
import Derived.Test.YtagbcgbngdfapaaTurn
import Derived.Maps.OwnOps
import Derived.Maps.OwnSet
import Derived.Maps.RangeWalk
namespace Go.Proofs.Ytagbcgbngdfapaa
open Go.RowKit Go.Maps

theorem u64_keyed : Maps.Keyed Try.prog 31 := int_keyed Try.underlying31
theorem u64_key (x : UInt64) : keyOf Try.prog 31 (.int .u64 x.toNat) = some (.int .u64 x.toNat) := keyOf_int_mk Try.underlying31 (wf_u64_of x)
theorem lit_ne {x y : UInt64} (h : x ≠ y) : Lit.int .u64 x.toNat ≠ Lit.int .u64 y.toNat := fun e => h (by simp only [Lit.int.injEq, true_and] at e; exact u64_inj e)

/-- Block b is a map whose keys are just these, each with true. -/
def MapAt (w : World) (b : Nat) (ks : List UInt64) : Prop :=
  ∃ D : DataW Unit, w.ownsMap Try.prog 31 (plainElem Try.prog 4) b ks.length D ∧ Maps.size D = ks.length ∧ (∀ x : UInt64, Maps.has D (.int .u64 x.toNat) = ks.contains x) ∧
    ∀ x : UInt64, D.atKey (.int .u64 x.toNat) (.lit (.bool false)) = .lit (.bool (ks.contains x))
/-- A generation: a map, or none. -/
def GenAt (w : World) (p : Option Nat) (ks : List UInt64) : Prop := (p = none ∧ ks = []) ∨ ∃ b, p = some b ∧ MapAt w b ks

theorem map_lt {w : World} {b : Nat} {ks : List UInt64} (h : MapAt w b ks) : b < w.heap.size := by
  obtain ⟨D, hD, _⟩ := h
  exact hD.lt
theorem map_same {w w' : World} {b : Nat} {ks : List UInt64} (h : MapAt w b ks) (e : w'.heap[b]? = w.heap[b]?) : MapAt w' b ks := by
  obtain ⟨D, ⟨es, clock, hb, r⟩, r2⟩ := h
  exact ⟨D, ⟨es, clock, e.trans hb, r⟩, r2⟩
theorem gen_same {w w' : World} {p : Option Nat} {ks : List UInt64} (h : GenAt w p ks) (e : ∀ b, p = some b → w'.heap[b]? = w.heap[b]?) : GenAt w' p ks := by
  rcases h with h | ⟨b, hp, h⟩
  · exact .inl h
  · exact .inr ⟨b, hp, map_same h (e b hp)⟩
theorem gen_lt {w : World} {p : Option Nat} {ks : List UInt64} (h : GenAt w p ks) : ∀ b, p = some b → b < w.heap.size := fun b hp => by
  rcases h with ⟨h, _⟩ | ⟨b', hp', h⟩
  · rw [h] at hp; cases hp
  · rw [hp'] at hp; cases hp; exact map_lt h
theorem map_new (w : World) : MapAt (w.alloc (.map #[] 0)) w.heap.size [] := ⟨.map [], World.ownsMap_made w _ _ _, rfl, fun _ => rfl, fun _ => rfl⟩
theorem map_look {w : World} {b : Nat} {ks : List UInt64} (h : MapAt w b ks) (x : UInt64) : (Instr.lookup 47 (.map (some b)) (.int .u64 x.toNat) false).run Try.prog w = .ok (.bool (ks.contains x)) w := by
  obtain ⟨D, hD, _, _, hat⟩ := h
  obtain ⟨u, ps, hrun, hu⟩ := hD.lookup u64_keyed Try.underlying47 (zero_bool w) (plainElem_bool Try.underlying4 false) (u64_key x)
  rw [hat x] at hu
  rw [hrun]
  unfold plainElem at hu
  rw [Try.underlying4] at hu
  cases u <;> simp at hu
  rw [hu.1]
  simp
theorem gen_look {w : World} {p : Option Nat} {ks : List UInt64} (h : GenAt w p ks) (x : UInt64) : (Instr.lookup 47 (.map p) (.int .u64 x.toNat) false).run Try.prog w = .ok (.bool (ks.contains x)) w := by
  rcases h with ⟨rfl, rfl⟩ | ⟨b, rfl, h⟩
  · exact Maps.look_nil false u64_keyed Try.underlying47 (zero_bool w) (u64_key x)
  · exact map_look h x
theorem map_len {w : World} {b : Nat} {ks : List UInt64} (h : MapAt w b ks) (ty : TypeId) : (Builtin.len_ #[47] ty #[.map (some b)]).run Try.prog w = .ok (.int .i64 ks.length) w := by
  obtain ⟨D, hD, hs, _⟩ := h
  have := hD.len Try.underlying47 ty
  rw [hs] at this
  exact this
theorem map_put {w : World} {b : Nat} {ks : List UInt64} (h : MapAt w b ks) (x : UInt64) (hx : ks.contains x = false) (hn : ks.length < maxLen) :
    ∃ w', (Instr.mapUpdate 47 (.map (some b)) (.int .u64 x.toNat) (.bool true)).run Try.prog w = .ok () w' ∧ MapAt w' b (ks ++ [x]) ∧ w.grownBy w' (some b) := by
  obtain ⟨D, hD, hs, hat, hv⟩ := h
  obtain ⟨w', hrun, hown, hg⟩ := hD.update u64_keyed Try.underlying47 hn (u64_key x) (plainElem_bool Try.underlying4 true)
  have hsz := size_put (hD.tidy u64_keyed) (k := .int .u64 x.toNat) (.lit (.bool true))
  rw [hat, hs, if_neg (by rw [hx]; decide)] at hsz
  have hl : (ks ++ [x]).length = ks.length + 1 := by simp
  have hc : ∀ y, (ks ++ [x]).contains y = (ks.contains y || y == x) := fun y => by
    rw [Bool.eq_iff_iff]
    simp
  refine ⟨w', hrun, ⟨_, by rw [hl]; exact hown, by rw [hl]; exact hsz, fun y => ?_, fun y => ?_⟩, hg⟩
  · rw [hc]
    by_cases hyx : y = x
    · rw [hyx, has_put_same hD.isMap (u64_keyed.key (u64_key _))]
      simp
    · rw [has_put_other (lit_ne hyx), hat y]
      simp [hyx]
  · rw [hc]
    by_cases hyx : y = x
    · rw [hyx, atKey_put_same hD.isMap (u64_keyed.key (u64_key _))]
      simp
    · rw [atKey_put_other (lit_ne hyx), hv y]
      simp [hyx]
theorem map_clear {w : World} {b : Nat} {ks : List UInt64} (h : MapAt w b ks) :
    ∃ w', (∀ ty, (Builtin.clear_ #[47] ty #[.map (some b)]).run Try.prog w = .ok (.tuple #[]) w') ∧ MapAt w' b [] ∧ w.grownBy w' (some b) := by
  obtain ⟨D, ⟨es, clock, hb, F, _⟩, _⟩ := h
  refine ⟨ChangeMaps.setBlock w b (.map #[] clock), fun ty => ?_, ⟨.map [], ⟨#[], clock, ChangeMaps.heap_setBlock_same hb _, ⟨by simp, MapKept.stamped_empty clock, by simp⟩, Nat.le_refl _, rfl⟩, rfl, fun _ => rfl, fun _ => rfl⟩,
    ⟨rfl, rfl, rfl, by simp [ChangeMaps.setBlock], fun i _ hi => ChangeMaps.heap_setBlock_other hb _ (fun e => hi (by rw [e]))⟩⟩
  simp [Builtin.clear_, run_underlying Try.underlying47, MapKept.run_getObj_map hb, MapKept.run_setObj_map _ hb, Result.andThen, ChangeMaps.setBlock]
theorem gen_clear {w : World} {p : Option Nat} {ks : List UInt64} (h : GenAt w p ks) :
    ∃ w', (∀ ty, (Builtin.clear_ #[47] ty #[.map p]).run Try.prog w = .ok (.tuple #[]) w') ∧ GenAt w' p [] ∧ w.grownBy w' p := by
  rcases h with ⟨rfl, rfl⟩ | ⟨b, rfl, h⟩
  · exact ⟨w, fun ty => by simp [Builtin.clear_, run_underlying Try.underlying47, Result.andThen], .inl ⟨rfl, rfl⟩, ⟨rfl, rfl, rfl, Nat.le_refl _, fun _ _ _ => rfl⟩⟩
  · obtain ⟨w', h1, h2, h3⟩ := map_clear h
    exact ⟨w', h1, .inr ⟨b, rfl, h2⟩, h3⟩
/-- A copy. -/
theorem map_clone {w : World} {b : Nat} {ks : List UInt64} (h : MapAt w b ks) : ∃ es clock, w.heap[b]? = some (.map es clock) ∧ MapAt (w.alloc (.map es clock)) w.heap.size ks := by
  obtain ⟨D, ⟨es, clock, hb, r⟩, r2⟩ := h
  exact ⟨es, clock, hb, D, ⟨es, clock, (MapKept.heap_alloc w _).1, r⟩, r2⟩

/-- How many of a list are at hand: those that are no longer to come and that the other generation lacks. -/
def come (ks cs : List UInt64) (left : Lit → Bool) : Nat := (ks.filter fun x => !left (.int .u64 x.toNat) && !cs.contains x).length
theorem come_start {ks cs : List UInt64} {left : Lit → Bool} (h : ∀ x : UInt64, left (.int .u64 x.toNat) = ks.contains x) : come ks cs left = 0 := by
  unfold come
  rw [List.filter_eq_nil_iff.2, List.length_nil]
  intro x hx
  rw [h x, List.contains_iff_mem.2 hx]
  simp
theorem come_end {ks cs : List UInt64} {left : Lit → Bool} (h : ∀ kl, left kl = false) : come ks cs left = (ks.filter fun x => !cs.contains x).length := by
  unfold come
  congr 1
  exact List.filter_congr fun x _ => by rw [h]; rfl
theorem come_le (ks cs : List UInt64) (left : Lit → Bool) : come ks cs left ≤ ks.length := List.length_filter_le _ _
theorem same_lit (x y : UInt64) : (Lit.int .u64 x.toNat).sameKey (.int .u64 y.toNat) = (x == y) := by
  rw [Bool.eq_iff_iff]
  constructor
  · intro h
    have := WideAt.sameKey_eq h
    simp only [Lit.int.injEq, true_and] at this
    exact beq_iff_eq.2 (u64_inj this)
  · intro h
    rw [beq_iff_eq.1 h]
    exact WideAt.sameKey_self (u64_keyed.key (u64_key y))
theorem come_step : ∀ {ks cs : List UInt64} {left : Lit → Bool} {y : UInt64}, ks.Nodup → y ∈ ks → left (.int .u64 y.toNat) = true →
    come ks cs (fun z => left z && !z.sameKey (.int .u64 y.toNat)) = come ks cs left + (if cs.contains y = true then 0 else 1)
  | [], _, _, _, _, hy, _ => absurd hy (by simp)
  | a :: ks, cs, left, y, hn, hy, hl => by
    obtain ⟨ha, hn'⟩ := List.nodup_cons.1 hn
    have hcons : ∀ f : Lit → Bool, come (a :: ks) cs f = (if (!f (.int .u64 a.toNat) && !cs.contains a) = true then 1 else 0) + come ks cs f := fun f => by
      unfold come
      rw [List.filter_cons]
      split <;> simp [Nat.add_comm]
    rw [hcons, hcons]
    by_cases hay : a = y
    · subst hay
      have hrest : come ks cs (fun z => left z && !z.sameKey (.int .u64 a.toNat)) = come ks cs left := by
        unfold come
        congr 1
        refine List.filter_congr fun x hx => ?_
        have : (x == a) = false := beq_eq_false_iff_ne.2 fun e => ha (e ▸ hx)
        simp only [same_lit, this]
        simp
      simp only [hrest, same_lit, hl]
      cases cs.contains a <;> simp <;> omega
    · have hm : y ∈ ks := (List.mem_cons.1 hy).resolve_left (fun e => hay e.symm)
      have : (a == y) = false := beq_eq_false_iff_ne.2 hay
      rw [come_step hn' hm hl]
      simp only [same_lit, this, Bool.not_false, Bool.and_true]
      omega
end Go.Proofs.Ytagbcgbngdfapaa
