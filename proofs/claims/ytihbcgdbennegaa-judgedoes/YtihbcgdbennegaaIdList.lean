/-
  Slices of IDs: how they lie in memory; the contract of the reference's Has of IDs.
-/
import Derived.Test.YtihbcgdbennegaaBase
namespace Go.Proofs.Ytihbcgdbennegaa
open Go.RowKit

/-- The memory behind a slice's address holds these IDs. -/
def IdsAt (w : World) (a : Option Addr) (l : List UInt64) : Prop :=
  ∀ i (h : i < l.length), ∃ b o, a = some ⟨b, o, none⟩ ∧ b < w.heap.size ∧ w.cell? ⟨b, o + i, none⟩ = some (.int .u64 l[i].toNat)
theorem idsAt_kept {a b : World} {x : Option Addr} {l : List UInt64} (h : Below a.heap.size a b) (hi : IdsAt a x l) : IdsAt b x l := fun i hl => by
  obtain ⟨bb, o, e, hb, c0⟩ := hi i hl
  exact ⟨bb, o, e, Nat.lt_of_lt_of_le hb h.size, kept_cell h c0⟩
theorem idsAt_nil (w : World) (a : Option Addr) : IdsAt w a [] := fun i hi => absurd hi (by simp)
theorem idsAt_take {w : World} {a : Option Addr} {l : List UInt64} (k : Nat) (h : IdsAt w a l) : IdsAt w a (l.take k) := fun i hi => by
  have h1 : i < l.length := by rw [List.length_take] at hi; omega
  rw [List.getElem_take]
  exact h i h1
theorem idsAt_set {w : World} {a : Option Addr} {l : List UInt64} {n : Nat} {p : Addr} (h : IdsAt w a l) (hf : Fresh n a) (hp : p.block < n) (v : Value) : IdsAt (w.setCell p v) a l := fun i hi => by
  obtain ⟨b, o, e, hb, c0⟩ := h i hi
  have hn : b ≠ p.block := by have := hf b o none e; omega
  have hs : ∀ oo, (w.setCell p v).cell? ⟨b, oo, none⟩ = w.cell? ⟨b, oo, none⟩ := fun oo => World.cell?_of_block (w := w) (a := ⟨b, oo, none⟩) (Below.heap_setCell w p v b hn)
  exact ⟨b, o, e, by simpa using hb, by rw [hs]; exact c0⟩

theorem contains_id {l : List UInt64} {x : UInt64} {k : Nat} (h : k < l.length) (e : x = l[k]) : l.contains x = true := by
  rw [List.contains_iff_mem]; rw [e]; exact List.getElem_mem h
theorem take_contains_id {l : List UInt64} {x : UInt64} {k : Nat} (h : k < l.length) (n : (l.take k).contains x = false) (e : x ≠ l[k]) : (l.take (k + 1)).contains x = false := by
  rw [List.take_succ_eq_append_getElem h, ← Bool.not_eq_true, List.contains_iff_mem, List.mem_append, not_or]
  refine ⟨by rw [← List.contains_iff_mem, n]; simp, by simpa using e⟩

theorem hasID_any (l : List UInt64) (x : UInt64) (r : Bool) (HR : Hid (l.contains x = r)) (a : Option Addr) (cap : Nat) (w : World) (hl : l.length ≤ maxLen) (hi : IdsAt w a l) :
    Calls Try.prog 26 #[.slice a l.length cap, .int .u64 x.toNat] w fun e w' => e = .returned (.bool r) ∧ w = w' := by
  unfold maxLen at hl
  go_enter Try.func26, Try.ntmps26
  go_wp2
  go_loop [9] (fun i => ∃ k : Nat, k ≤ l.length ∧ i = .int .i64 k ∧ Hid ((l.take k).contains x = false)) (fun i => l.length - (intOf i).toNat)
  case atStart => exact ⟨0, Nat.zero_le _, rfl, Lib.hid rfl⟩
  case round =>
    obtain ⟨k, hk, rfl, NO⟩ := hrel
    by_cases hlt : k < l.length
    · obtain ⟨b, o, rfl, hb, hd⟩ := hi k hlt
      by_cases hx : x = l[k]
      · have hxb : ((x.toNat : Int) == (l[k].toNat : Int)) = true := by rw [u64_beq]; exact beq_iff_eq.2 hx
        have HX := Lib.hid hx
        clear hx
        go_wp2
        go_ret
        exact ⟨ret_bool ((contains_id hlt HX.out).symm.trans HR.out), rfl⟩
      · have hxb : ((x.toNat : Int) == (l[k].toNat : Int)) = false := by rw [u64_beq]; exact beq_eq_false_iff_ne.2 hx
        have HX := Lib.hid hx
        clear hx
        go_wp2
        go_round
        case rel => exact ⟨k + 1, by omega, by go_num, Lib.hid (take_contains_id hlt NO.out HX.out)⟩
        case measure => simp [intOf]; omega
    · go_wp2
      go_ret
      refine ⟨ret_bool ?_, rfl⟩
      have := NO.out
      rw [List.take_of_length_le (by omega)] at this
      exact this.symm.trans HR.out
theorem hasID_take (l : List UInt64) (k : Nat) (r : Bool) (x : UInt64) (a : Option Addr) (cap : Nat) (w : World) (hk : k ≤ l.length) (hl : l.length ≤ maxLen) (hi : IdsAt w a l) (h : (l.take k).contains x = r) :
    Calls Try.prog 26 #[.slice a k cap, .int .u64 x.toNat] w fun e w' => e = .returned (.bool r) ∧ w = w' := by
  have := hasID_any (l.take k) x r (Lib.hid h) a cap w (by rw [List.length_take]; omega) (idsAt_take k hi)
  rw [List.length_take, Nat.min_eq_left hk] at this
  exact this

end Go.Proofs.Ytihbcgdbennegaa
