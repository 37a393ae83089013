/-
  Plain mathematics of the two hash functions: the model's integers of kind u64 against UInt64, and what is injective. No program is named here.
-/
import Derived.Laws.Bits64
namespace Go.Proofs.Ytihbcgdbennegaa

/-! ### The model's words on integers of kind u64, at numbers that are a UInt64's -/

theorem u64_lt (a : UInt64) : a.toNat < 18446744073709551616 := a.toNat_lt
theorem u64_bd (a : UInt64) : (0 : Int) ≤ (a.toNat : Int) ∧ (a.toNat : Int) < 18446744073709551616 := by
  have := u64_lt a; omega
theorem u64_of (n : Int) (h0 : 0 ≤ n) (h1 : n < 18446744073709551616) : ∃ u : UInt64, n = (u.toNat : Int) := by
  refine ⟨UInt64.ofNat n.toNat, ?_⟩
  rw [UInt64.toNat_ofNat_of_lt' (by show n.toNat < 18446744073709551616; omega)]
  omega
theorem u64_inj {a b : UInt64} (h : (a.toNat : Int) = (b.toNat : Int)) : a = b := UInt64.toNat_inj.1 (by omega)
theorem u64_beq (a b : UInt64) : ((a.toNat : Int) == (b.toNat : Int)) = (a == b) := by
  rw [Bool.eq_iff_iff]; simp only [beq_iff_eq]; exact ⟨u64_inj, fun h => by rw [h]⟩
theorem wrap_mul_u64 (a b : UInt64) : IntKind.u64.wrap ((a.toNat : Int) * (b.toNat : Int)) = ((a * b).toNat : Int) := by
  rw [IntKind.wrap_u64, UInt64.toNat_mul, Int.natCast_emod, Int.natCast_mul]; rfl
theorem wrap_add_u64 (a b : UInt64) : IntKind.u64.wrap ((a.toNat : Int) + (b.toNat : Int)) = ((a + b).toNat : Int) := by
  rw [IntKind.wrap_u64, UInt64.toNat_add, Int.natCast_emod, Int.natCast_add]; rfl
theorem wrap_self_u64 (a : UInt64) : IntKind.u64.wrap (a.toNat : Int) = (a.toNat : Int) := by
  have := u64_bd a; rw [IntKind.wrap_u64]; omega
theorem xor_u64 (a b : UInt64) : bits .xor .u64 (a.toNat : Int) (b.toNat : Int) = ((a ^^^ b).toNat : Int) := by
  rw [bits_xor_u64_nat _ _ (u64_lt a) (u64_lt b), UInt64.toNat_xor]
theorem shr_u64 (a : UInt64) (n : Nat) (hn : n < 64) : (a.toNat : Int) / 2 ^ n = ((a >>> (UInt64.ofNat n)).toNat : Int) := by
  rw [UInt64.toNat_shiftRight, Nat.shiftRight_eq_div_pow]
  have e : (UInt64.ofNat n).toNat % 64 = n := by
    rw [UInt64.toNat_ofNat_of_lt' (by show n < 18446744073709551616; omega)]; omega
  rw [e, Int.natCast_ediv, Int.natCast_pow]; rfl
theorem tdiv_u64 (a : UInt64) (n : Nat) (hn : n < 64) : (a.toNat : Int).tdiv (2 ^ n) = ((a >>> (UInt64.ofNat n)).toNat : Int) := by
  rw [Int.tdiv_eq_ediv_of_nonneg (by omega), shr_u64 a n hn]
theorem wrap_byte_u64 (c : UInt8) : IntKind.u64.wrap (c.toNat : Int) = ((c.toUInt64).toNat : Int) := by
  have h : c.toUInt64.toNat = c.toNat := UInt8.toNat_toUInt64 c
  have := c.toNat_lt
  rw [IntKind.wrap_u64, h]; omega

/-! ### Go's remainder against the one that is never negative -/

theorem tmod_cases (n m : Int) (hm : 0 < m) : -m < n.tmod m ∧ n.tmod m < m ∧ (n.tmod m < 0 → n.tmod m + m = n % m) ∧ (0 ≤ n.tmod m → n.tmod m = n % m) := by
  have h0 := Int.emod_nonneg n (show m ≠ 0 by omega)
  have h1 := Int.emod_lt_of_pos n hm
  have e := @Int.tmod_eq_emod n m
  have ha : (m.natAbs : Int) = m := by omega
  split at e
  · simp only [Int.natCast_zero, Int.sub_zero] at e
    omega
  · rename_i h
    have hne : n % m ≠ 0 := fun hz => h (Or.inr (Int.dvd_of_emod_eq_zero hz))
    rw [ha] at e
    omega

/-! ### What the two hash functions compute -/

def ofStep (x : UInt64) (c : UInt8) : UInt64 := (x ^^^ c.toUInt64) * 1099511628211
def ofU (l : List UInt8) : UInt64 := l.foldl ofStep 14695981039346656037
def foldU (x : UInt64) (n : UInt64) : UInt64 := x ^^^ (x >>> n)
def mixU (a b c : UInt64) : UInt64 := foldU (foldU (foldU (a * 11400714819323198485 + b) 30 * 13787848793156543929 + c) 27 * 10723151780598845931) 31

theorem of_empty : ofU [] = 14695981039346656037 := rfl
theorem of_a : ofU [97] = 12638187200555641996 := by decide +kernel
theorem of_snoc (l : List UInt8) (c : UInt8) : ofU (l ++ [c]) = ofStep (ofU l) c := by
  unfold ofU; rw [List.foldl_append]; rfl

/-! ### Bijections -/

theorem mul_inj (k i : UInt64) (h : k * i = 1) {a b : UInt64} (e : a * k = b * k) : a = b := by
  have := congrArg (· * i) e
  simp only [UInt64.mul_assoc, h, UInt64.mul_one] at this
  exact this
theorem xor_inj (c : UInt64) {a b : UInt64} (e : a ^^^ c = b ^^^ c) : a = b := by
  have := congrArg (· ^^^ c) e
  simpa only [UInt64.xor_assoc, UInt64.xor_self, UInt64.xor_zero] using this
theorem xor_inj_left (c : UInt64) {a b : UInt64} (e : c ^^^ a = c ^^^ b) : a = b := by
  rw [UInt64.xor_comm c a, UInt64.xor_comm c b] at e; exact xor_inj c e
theorem add_inj (c : UInt64) {a b : UInt64} (e : a + c = b + c) : a = b := by
  have := congrArg (· - c) e
  simpa only [UInt64.add_sub_cancel] using this
theorem add_inj_left (c : UInt64) {a b : UInt64} (e : c + a = c + b) : a = b := by
  rw [UInt64.add_comm c a, UInt64.add_comm c b] at e; exact add_inj c e

/-- x XOR (x shifted right by n) tells x: the highest n bits are its own, and each further bit follows. -/
theorem bv_fold_inj (n : Nat) (hn : 21 < n) {a b : BitVec 64} (e : a ^^^ (a >>> n) = b ^^^ (b >>> n)) : a = b := by
  have back : ∀ x : BitVec 64, (x ^^^ (x >>> n)) ^^^ ((x ^^^ (x >>> n)) >>> n) ^^^ ((x ^^^ (x >>> n)) >>> (n + n)) = x := by
    intro x
    have hz : x >>> (n + (n + n)) = 0#64 := BitVec.ushiftRight_eq_zero (by omega)
    rw [BitVec.ushiftRight_xor_distrib, BitVec.ushiftRight_xor_distrib, ← BitVec.shiftRight_add, ← BitVec.shiftRight_add, hz]
    generalize x >>> n = y
    generalize x >>> (n + n) = z
    rw [BitVec.xor_zero, BitVec.xor_assoc, BitVec.xor_assoc, BitVec.xor_assoc, BitVec.xor_self, BitVec.xor_zero, BitVec.xor_self, BitVec.xor_zero]
  rw [← back a, e, back b]
theorem foldU_inj (n : UInt64) (h1 : 21 < n.toNat) (h2 : n.toNat < 64) {a b : UInt64} (e : foldU a n = foldU b n) : a = b := by
  unfold foldU at e
  have hn : (n % 64).toNat = n.toNat := by
    rw [UInt64.toNat_mod]; exact Nat.mod_eq_of_lt h2
  have e' := congrArg UInt64.toBitVec e
  simp only [UInt64.toBitVec_xor, UInt64.toBitVec_shiftRight] at e'
  have hm : (n.toBitVec % 64) = n.toBitVec := by
    apply BitVec.eq_of_toNat_eq
    rw [BitVec.toNat_umod]; exact Nat.mod_eq_of_lt h2
  rw [hm, BitVec.ushiftRight_eq', BitVec.ushiftRight_eq'] at e'
  exact UInt64.toBitVec_inj.1 (bv_fold_inj _ h1 e')

theorem ofStep_inj (c : UInt8) {x y : UInt64} (e : ofStep x c = ofStep y c) : x = y := xor_inj _ (mul_inj _ 14886173955864302971 (by decide +kernel) e)
theorem ofStep_inj_byte (x : UInt64) {c d : UInt8} (e : ofStep x c = ofStep x d) : c = d := by
  have h := xor_inj_left _ (mul_inj _ 14886173955864302971 (by decide +kernel) e)
  have h' := congrArg UInt64.toNat h
  rw [UInt8.toNat_toUInt64, UInt8.toNat_toUInt64] at h'
  exact UInt8.toNat_inj.1 h'
theorem foldl_inj (l : List UInt8) : ∀ {x y : UInt64}, l.foldl ofStep x = l.foldl ofStep y → x = y := by
  induction l with
  | nil => intro x y h; exact h
  | cons c r ih => intro x y h; exact ofStep_inj c (ih h)
theorem of_goesOn (a b more : List UInt8) : (ofU a == ofU b) = (ofU (a ++ more) == ofU (b ++ more)) := by
  rw [Bool.eq_iff_iff]; simp only [beq_iff_eq]
  unfold ofU
  rw [List.foldl_append, List.foldl_append]
  exact ⟨fun h => by rw [h], fun h => foldl_inj more h⟩
theorem of_changed (p q : List UInt8) (c d : UInt8) : (ofU (p ++ c :: q) == ofU (p ++ d :: q)) = (p ++ c :: q == p ++ d :: q) := by
  rw [Bool.eq_iff_iff]; simp only [beq_iff_eq]
  constructor
  · intro h
    unfold ofU at h
    rw [List.foldl_append, List.foldl_append, List.foldl_cons, List.foldl_cons] at h
    rw [ofStep_inj_byte _ (foldl_inj q h)]
  · intro h; rw [h]
theorem mix_inj1 (a x b c : UInt64) : (mixU a b c == mixU x b c) = (a == x) := by
  rw [Bool.eq_iff_iff]; simp only [beq_iff_eq]
  refine ⟨fun h => ?_, fun h => by rw [h]⟩
  unfold mixU at h
  have h1 := mul_inj _ 3573116690164977347 (by decide +kernel) (foldU_inj 31 (by decide) (by decide) h)
  have h2 := mul_inj _ 10871156337175269513 (by decide +kernel) (add_inj _ (foldU_inj 27 (by decide) (by decide) h1))
  exact mul_inj _ 17428512612931826493 (by decide +kernel) (add_inj _ (foldU_inj 30 (by decide) (by decide) h2))
theorem mix_inj2 (a b x c : UInt64) : (mixU a b c == mixU a x c) = (b == x) := by
  rw [Bool.eq_iff_iff]; simp only [beq_iff_eq]
  refine ⟨fun h => ?_, fun h => by rw [h]⟩
  unfold mixU at h
  have h1 := mul_inj _ 3573116690164977347 (by decide +kernel) (foldU_inj 31 (by decide) (by decide) h)
  have h2 := mul_inj _ 10871156337175269513 (by decide +kernel) (add_inj _ (foldU_inj 27 (by decide) (by decide) h1))
  exact add_inj_left _ (foldU_inj 30 (by decide) (by decide) h2)
theorem mix_inj3 (a b c x : UInt64) : (mixU a b c == mixU a b x) = (c == x) := by
  rw [Bool.eq_iff_iff]; simp only [beq_iff_eq]
  refine ⟨fun h => ?_, fun h => by rw [h]⟩
  unfold mixU at h
  have h1 := mul_inj _ 3573116690164977347 (by decide +kernel) (foldU_inj 31 (by decide) (by decide) h)
  exact add_inj_left _ (foldU_inj 27 (by decide) (by decide) h1)
end Go.Proofs.Ytihbcgdbennegaa
