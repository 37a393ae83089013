/-
  slices.IndexFunc, DeleteFunc, Index and Contains of IDs (up to a thousand).
-/
import Derived.Test.YtihbcgdbennegaaFirstAt
import Derived.Test.YtihbcgdbennegaaRows1
import Derived.Test.YtihbcgdbennegaaTurn
import Derived.Test.YtihbcgdbennegaaIdsOwn
namespace Go.Proofs.Ytihbcgdbennegaa
open Go.RowKit

/-- A function value that says of an ID whether it is chosen, in every world that keeps K. -/
def PicksI (K : World → Prop) (f : FuncId) (cap : Array Value) (q : UInt64 → Bool) : Prop :=
  (∀ (args : Array Value) (w : World), (callFunc f args).run Try.prog w = .ok (.enter f args) w) ∧
  ∀ (x : UInt64) (w : World), K w → Calls Try.prog f (#[.int .u64 x.toNat] ++ cap) w fun e w' => e = .returned (.bool (q x)) ∧ Below w.heap.size w w'

theorem zero_u64 (w : World) : (zeroValue 36).run Try.prog w = .ok (.int .u64 0) w := by kernel_rfl
theorem ids_clear {w : World} {g cap i n : Nat} {m : List UInt64} (hi : i < n) (hn : m.length = n) (ho : OwnIds w 0 (.slice (some ⟨g, 0, none⟩) n cap) m) :
    ∃ w', (∀ ty, (Builtin.clear_ #[31] ty #[.slice (some ⟨g, i, none⟩) (n - i) (cap - i)]).run Try.prog w = .ok (.tuple #[]) w') ∧ OwnIds w' 0 (.slice (some ⟨g, 0, none⟩) i cap) (m.take i) ∧ Turn (fun k => k = g) (fun k => k = g) w w' := by
  subst hn
  obtain ⟨w', h1, h2, h3⟩ := clear_row (t := 31) (size := 1) _ Try.underlying31 zero_u64 rfl (by decide) (by decide) hi ho
  simp only [Nat.mul_one] at h1 h2
  refine ⟨w', h1, ?_, h3⟩
  unfold OwnIds
  rw [List.map_take, List.length_take, Nat.min_eq_left (Nat.le_of_lt hi)]
  exact h2
theorem id_stored {w : World} {g cap n : Nat} {m : List UInt64} (ho : OwnIds w 0 (.slice (some ⟨g, 0, none⟩) n cap) m) (hn : m.length = n) (i : Nat) (x : UInt64) : OwnIds (w.setCell ⟨g, i, none⟩ (.int .u64 x.toNat)) 0 (.slice (some ⟨g, 0, none⟩) n cap) (m.set i x) ∧ Turn (fun k => k = g) (fun k => k = g) w (w.setCell ⟨g, i, none⟩ (.int .u64 x.toNat)) := by
  subst hn
  refine ⟨?_, Turn.set (F := fun k => k = g) w ⟨g, i, none⟩ _ rfl⟩
  unfold OwnIds
  rw [List.map_set, List.length_set]
  exact (ho.stored i _).1
/-- The owned slice in the case that it is not nil. -/
theorem ownIds_some {w : World} {g cap n : Nat} {l : List UInt64} (h : OwnIds w 0 (.slice (some ⟨g, 0, none⟩) n cap) l) (i : Nat) (hi : i < l.length) : w.cell? ⟨g, i, none⟩ = some (.int .u64 l[i].toNat) ∧ w.frozen? ⟨g, i, none⟩ = false ∧ g < w.heap.size := by
  obtain ⟨a, c, e, _, hat, _⟩ := owns_idsAt h
  simp only [Value.slice.injEq] at e
  obtain ⟨rfl, rfl, rfl⟩ := e
  obtain ⟨b, o, e, hb, hc⟩ := hat i hi
  simp only [Option.some.injEq, Addr.mk.injEq, and_true] at e
  obtain ⟨rfl, rfl⟩ := e
  rw [Nat.zero_add] at hc
  exact ⟨hc, h.frozenAt i, hb⟩

theorem idFind_any (x : UInt64) (l : List UInt64) (a : Option Addr) (cp : Nat) (w : World) (hl : l.length ≤ 1000) (hi : IdsAt w a l) :
    Calls Try.prog 65 #[.slice a l.length cp, .int .u64 x.toNat] w fun e w' => e = .returned (.int .i64 (firstAt (fun y => x == y) l)) ∧ Below w.heap.size w w' := by
  go_enter Try.func65, Try.ntmps65
  go_wp2
  go_loopw [8] (fun i wr => ∃ k : Nat, k ≤ l.length ∧ i = .int .i64 k ∧ Hid ((l.take k).findIdx? (fun y => x == y) = none) ∧ Below w.heap.size w wr) (fun i _ => l.length - (intOf i).toNat)
  case atStart => exact ⟨0, Nat.zero_le _, rfl, Lib.hid rfl, Below.refl _ _⟩
  case round =>
    obtain ⟨k, hk, rfl, NO, hbel⟩ := hrel
    by_cases hlt : k < l.length
    · obtain ⟨b, o, rfl, hb, c0⟩ := idsAt_kept hbel hi k hlt
      have hxb : ((x.toNat : Int) == (l[k].toNat : Int)) = (x == l[k]) := u64_beq x l[k]
      cases hx : x == l[k] with
      | true =>
        rw [hx] at hxb
        have HX := Lib.hid hx
        clear hx
        go_wp2
        go_ret
        exact ⟨ret_i64 (firstAt_hit hlt NO.out HX.out).symm, hbel⟩
      | false =>
        rw [hx] at hxb
        have HX := Lib.hid hx
        clear hx
        go_wp2
        go_roundw
        case rel => exact ⟨k + 1, by omega, by go_num, Lib.hid (firstAt_miss hlt NO.out HX.out), hbel⟩
        case measure => simp [intOf]; omega
    · go_wp2
      go_ret
      refine ⟨ret_i64 ?_, hbel⟩
      have := NO.out
      rw [List.take_of_length_le (by omega)] at this
      unfold firstAt
      rw [this]
theorem any_contains (x : UInt64) (l : List UInt64) : (l.any fun y => x == y) = l.contains x := by
  rw [Bool.eq_iff_iff, List.any_eq_true, List.contains_iff_mem]
  constructor
  · rintro ⟨y, hy, e⟩
    rw [beq_iff_eq.1 e]
    exact hy
  · exact fun h => ⟨x, h, by simp⟩
theorem idHas_any (x : UInt64) (l : List UInt64) (r : Bool) (hr : l.contains x = r) (a : Option Addr) (cp : Nat) (w : World) (hl : l.length ≤ 1000) (hi : IdsAt w a l) :
    Calls Try.prog 51 #[.slice a l.length cp, .int .u64 x.toNat] w fun e w' => e = .returned (.bool r) ∧ Below w.heap.size w w' := by
  have HI := Lib.hid hi
  have HR := Lib.hid hr
  clear hi hr
  go_enter Try.func51, Try.ntmps51
  go_wp2_with fail
  refine (idFind_any x l _ _ _ hl HI.out).mono ?_
  rintro e w1 ⟨rfl, hb1⟩
  have e1 := firstAt_neg (fun y => x == y) l
  rw [any_contains, HR.out] at e1
  obtain ⟨i, hi⟩ : ∃ i, firstAt (fun y => x == y) l = i := ⟨_, rfl⟩
  rw [hi] at e1 ⊢
  clear hi
  go_wp2
  go_ret
  exact ⟨rfl, hb1⟩
end Go.Proofs.Ytihbcgdbennegaa
