/-
  Slices of Ins: how they lie in memory; contracts of the functions that only look them over (the reference's Has, Eq; outside; the program's range check).
-/
import Derived.Test.YtihbcgdbennegaaBase
namespace Go.Proofs.Ytihbcgdbennegaa
open Go.RowKit

/-- An In as a value. -/
def inV (x : InD) : Value := .agg #[.int .u64 x.1.toNat, .int .i64 x.2]
/-- The memory behind a slice's address holds these Ins. -/
def InsAt (w : World) (a : Option Addr) (l : List InD) : Prop :=
  ∀ i (h : i < l.length), ∃ b o, a = some ⟨b, o, none⟩ ∧ b < w.heap.size ∧ w.cell? ⟨b, o + i * 2, none⟩ = some (.int .u64 l[i].1.toNat) ∧ w.cell? ⟨b, o + i * 2 + 1, none⟩ = some (.int .i64 l[i].2) ∧ (Lit.int .i64 l[i].2).wf = true

theorem insAt_kept {a b : World} {x : Option Addr} {l : List InD} (h : Below a.heap.size a b) (hi : InsAt a x l) : InsAt b x l := fun i hl => by
  obtain ⟨bb, o, e, hb, c0, c1, c2⟩ := hi i hl
  exact ⟨bb, o, e, Nat.lt_of_lt_of_le hb h.size, kept_cell h c0, kept_cell h c1, c2⟩
theorem in_eq {x y : InD} (h : (x.1.toNat : Int) = y.1.toNat) (h2 : x.2 = y.2) : x = y := Prod.ext (UInt64.toNat_inj.1 (by omega)) h2
/-- Two Ins compared. -/
theorem run_eq_in (x y : InD) (w : World) : (binOp .eql 52 (.agg #[.int .u64 x.1.toNat, .int .i64 x.2]) (.agg #[.int .u64 y.1.toNat, .int .i64 y.2])).run Try.prog w = .ok (.bool (x == y)) w := by
  by_cases h1 : (x.1.toNat : Int) = y.1.toNat
  · by_cases h2 : x.2 = y.2
    · have e := in_eq h1 h2
      subst e
      simp [go_sem]
    · have e : (x == y) = false := beq_eq_false_iff_ne.2 fun e => h2 (by rw [e])
      rw [e]
      simp [go_sem, h1, h2]
  · have e : (x == y) = false := beq_eq_false_iff_ne.2 fun e => h1 (by rw [e])
    rw [e]
    simp [go_sem, h1]
theorem contains_at {l : List InD} {x : InD} {k : Nat} (h : k < l.length) (e : x = l[k]) : l.contains x = true := by
  rw [List.contains_iff_mem]; rw [e]; exact List.getElem_mem h
theorem take_contains {l : List InD} {x : InD} {k : Nat} (h : k < l.length) (n : (l.take k).contains x = false) (e : x ≠ l[k]) : (l.take (k + 1)).contains x = false := by
  rw [List.take_succ_eq_append_getElem h, ← Bool.not_eq_true, List.contains_iff_mem, List.mem_append, not_or]
  refine ⟨by rw [← List.contains_iff_mem, n]; simp, by simpa using e⟩

theorem has_any (l : List InD) (x : InD) (a : Option Addr) (cap : Nat) (w : World) (hl : l.length ≤ maxLen) (hi : InsAt w a l) :
    Calls Try.prog 55 #[.slice a l.length cap, inV x] w fun e w' => e = .returned (.bool (l.contains x)) ∧ Below w.heap.size w w' := by
  unfold maxLen at hl
  unfold inV
  have hi0 := insAt_kept (kept_new w (.cells #[.int .u64 x.1.toNat, .int .i64 x.2] 52)) hi
  go_enter Try.func55, Try.ntmps55
  go_wp2
  go_loopw [9] (fun i wr => ∃ k : Nat, k ≤ l.length ∧ i = .int .i64 k ∧ Hid ((l.take k).contains x = false) ∧ Below (w.alloc (.cells #[.int .u64 x.1.toNat, .int .i64 x.2] 52)).heap.size (w.alloc (.cells #[.int .u64 x.1.toNat, .int .i64 x.2] 52)) wr) (fun i _ => l.length - (intOf i).toNat)
  case atStart =>
    exact ⟨0, Nat.zero_le _, rfl, Lib.hid rfl, Below.refl _ _⟩
  case round =>
    obtain ⟨k, hk, rfl, NO, hbel⟩ := hrel
    obtain ⟨hx0, hx1, hws⟩ := box_pair hbel
    have hkw := kept_trans (kept_new _ _) hbel
    by_cases hlt : k < l.length
    · obtain ⟨b, o, rfl, hb, hd0, hd1, _⟩ := insAt_kept hbel hi0 k hlt
      have hq := fun wx => run_eq_in x l[k] wx
      by_cases hx : x = l[k]
      · have hxb : (x == l[k]) = true := beq_iff_eq.2 hx
        have HX := Lib.hid hx
        clear hx
        go_wp2
        go_ret
        exact ⟨ret_bool (contains_at hlt HX.out).symm, kept_alloc hkw _⟩
      · have hxb : (x == l[k]) = false := beq_eq_false_iff_ne.2 hx
        go_wp2
        go_roundw
        case rel => exact ⟨k + 1, by omega, by go_num, Lib.hid (take_contains hlt NO.out hx), kept_alloc hbel _⟩
        case measure => simp [intOf]; omega
    · go_wp2
      go_ret
      refine ⟨ret_bool ?_, hkw⟩
      have := NO.out
      rw [List.take_of_length_le (by omega)] at this
      exact this.symm

/-- An In as a key of a map. -/
def inKey (x : InD) : Lit := .string (keyBytes [.int .u64 x.1.toNat, .int .i64 x.2])
def inOk (x : InD) : Prop := (Lit.int .i64 x.2).wf = true
theorem in_keyed : Maps.Keyed Try.prog 52 := Maps.Keyed.of_law (deep_law_laid laid (m := 2) (by omega) (of_decide_eq_true (by kernel_rfl)) (by kernel_rfl) (by kernel_rfl))
theorem in_key (x : InD) (h : inOk x) : keyOf Try.prog 52 (.agg #[.int .u64 x.1.toNat, .int .i64 x.2]) = some (inKey x) :=
  keyOf_struct2 Try.underlying52 (by kernel_rfl) (by kernel_rfl) (by kernel_rfl) rfl rfl Try.underlying36 Try.underlying3 (by kernel_rfl) (by kernel_rfl) (m := Try.prog.types.size - 1) (by kernel_rfl) (wf_u64_of _) h
theorem inKey_inj {x y : InD} (hx : inOk x) (hy : inOk y) (h : inKey x = inKey y) : x = y := by
  have e := in_keyed.inj (in_key x hx) (h ▸ in_key y hy)
  simp only [Value.agg.injEq, Array.mk.injEq, List.cons.injEq, Value.int.injEq, true_and, and_true] at e
  exact in_eq e.1 e.2
end Go.Proofs.Ytihbcgdbennegaa
