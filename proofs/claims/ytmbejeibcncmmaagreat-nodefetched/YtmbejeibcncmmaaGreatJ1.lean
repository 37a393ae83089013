/-
  A map from keys to bools that a call makes and keeps to itself, as the list of the keys that were put: no program is named here.
  Deeds as plain data: what Check answers, what Encode and Decode answer. No program is named here.
  Plain mathematics of the two hash functions: the model's integers of kind u64 against UInt64, and what is injective. No program is named here.
  Byte slices that a call builds by append: what they hold, and which memory may have turned. No program is named here.
  What the walks of every seat share: worlds that only grew, boxes, byte slices, strings. No function of a program is named here.
  Memory that one thing owns is a set of blocks: what a call that turns that thing does to all other blocks, and to what is owned behind it. No program is named here.
  Entries of a tracker: how slices of them lie in memory; functions that choose among them; slices.IndexFunc.
  Rows in blocks of their own, whatever their elements: stores, and clear of what lies behind. No function of a program is named here.
  Slices of entries in blocks of their own: reading, storing, cutting, clearing; slices.DeleteFunc of entries.
  Slices of IDs: how they lie in memory; the contract of the reference's Has of IDs.
-/
import Derived.Maps.OwnSet
import Derived.Maps.Views
import Derived.Below
import Derived.StillTailTactics
import Derived.Laws.Bits64
import Derived.OwnWalk
import Derived.Maps.AppendAt
import Derived.Laws.IdiomStrings
import Derived.Lib.SmallJoins
import Derived.Lib.AppendStr
import Derived.Test.YtmbejeibcncmmaaGreatChecked
import Derived.WalkKit
import Derived.Outline
import Derived.WalkLawsBesides
import Derived.WalkSpells
import Derived.Lib.Hide
import Derived.Lib.ConvBytes
import Derived.Lib.Strings
import Derived.DeepKeys4
import Derived.Maps.Keyed
import Derived.IntWalk
import Derived.Deep.Draws
import Derived.Lib.SliceRun
import Derived.Deep.AppendLies
import Derived.Laws.OwnMore
namespace Go.Proofs.YtmbejeibcncmmaaGreat
open Go.RowKit Go.Maps

/-- A region whose operations read but for the last ones: the world behind its draw stands under a name of its own. -/
theorem region_tail {P : Program} {id : Nat} {Q : Exit → Act → World → Prop} {a : Act} {w w2 : World} {l : List Oper} (n : Nat) (hm : P.follows .mixedOrders = true) (hB : Region.lexTailB .any l.toArray n = true) (hw : w.drew = w2)
    (h : wpStill P l.toArray w2 (fun a' => wpList P l.toArray Q (l.drop n) a' w2) (l.take n) a) : (Code.region id l.toArray true).wp P Q a w := by
  subst hw
  exact wp_region_still_tail n hm hB h

theorem keyOf_struct2 {P : Program} {k : TypeId} {f0 f1 : Field} {q0 q1 : IntKind} (hu : P.underlying k = some (.struct #[f0, f1])) (hkt : P.keyType k = true) (hC : P.cellsOf k = 2) (hn : (#[f0, f1].all (·.name != "_")) = true)
    (o0 : f0.offset = 0) (o1 : f1.offset = 1) (h0 : P.underlying f0.type = some (.int q0)) (h1 : P.underlying f1.type = some (.int q1)) (c0 : P.cellsOf f0.type = 1) (c1 : P.cellsOf f1.type = 1) {m : Nat} (hsz : P.types.size = m + 1)
    {a b : Int} (wa : (Lit.int q0 a).wf = true) (wb : (Lit.int q1 b).wf = true) : keyOf P k (.agg #[.int q0 a, .int q1 b]) = some (.string (keyBytes [.int q0 a, .int q1 b])) := by
  unfold keyOf
  simp only [hu]
  rw [if_pos (by simp [hkt, Value.formed, hu, hC]), hsz]
  unfold Program.keyLits
  simp only [hu, Value.cells]
  rw [if_pos ⟨by rw [hC]; rfl, hn⟩, List.mapM_cons, List.mapM_cons, List.mapM_nil]
  simp [o0, o1, c0, c1, Program.keyLits, h0, h1, wa, wb]

section
variable {α : Type} [BEq α] {P : Program} {k e t : TypeId} {ok : α → Prop} {kl : α → Lit}

/-- Block b is a map whose keys with 'true' are just these, each put once or more often. -/
def SetIs (P : Program) (k e : TypeId) (ok : α → Prop) (kl : α → Lit) (w : World) (b n : Nat) (ks : List α) : Prop :=
  ∃ D : DataW Unit, w.ownsMap P k (plainElem P e) b n D ∧ IsMap D ∧ ∀ x, ok x → D.atKey (kl x) (.lit (.bool false)) = .lit (.bool (ks.contains x))

theorem set_new (w : World) : SetIs P k e ok kl (w.alloc (.map #[] 0)) w.heap.size 0 ([] : List α) :=
  ⟨.map [], World.ownsMap_made w P k _, isMap_empty, fun _ _ => rfl⟩
theorem set_alloc {w : World} {b n : Nat} {ks : List α} (h : SetIs P k e ok kl w b n ks) (o : Obj) : SetIs P k e ok kl (w.alloc o) b n ks := by
  obtain ⟨D, hD, r⟩ := h
  exact ⟨D, hD.alloc o, r⟩
theorem set_look [LawfulBEq α] {w : World} {b n : Nat} {ks : List α} (h : SetIs P k e ok kl w b n ks) (K : Keyed P k) (ht : P.underlying t = some (.map k e)) (he : P.underlying e = some .bool) (hz : (zeroValue e).run P w = .ok (.bool false) w)
    {x : α} {v : Value} (hx : ok x) (hkey : keyOf P k v = some (kl x)) : (Instr.lookup t (.map (some b)) v false).run P w = .ok (.bool (ks.contains x)) w := by
  obtain ⟨D, hD, _, hat⟩ := h
  obtain ⟨u, ps, hrun, hu⟩ := hD.lookup K ht hz (plainElem_bool he false) hkey
  rw [hat x hx] at hu
  rw [hrun]
  unfold plainElem at hu
  rw [he] at hu
  cases u <;> simp at hu
  rw [hu.1]
  simp
theorem set_put [LawfulBEq α] {w : World} {b n : Nat} {ks : List α} (h : SetIs P k e ok kl w b n ks) (K : Keyed P k) (ht : P.underlying t = some (.map k e)) (he : P.underlying e = some .bool) (hn : n < maxLen)
    {x : α} {v : Value} (hx : ok x) (hkey : keyOf P k v = some (kl x)) (hinj : ∀ y, ok y → kl y = kl x → y = x) :
    ∃ w', (Instr.mapUpdate t (.map (some b)) v (.bool true)).run P w = .ok () w' ∧ SetIs P k e ok kl w' b (n + 1) (ks ++ [x]) ∧ w.grownBy w' (some b) := by
  obtain ⟨D, hD, hm, hat⟩ := h
  obtain ⟨w', hrun, hown, hg⟩ := hD.update K ht hn hkey (plainElem_bool he true)
  refine ⟨w', hrun, ⟨_, hown, hm.put _ _, fun y hy => ?_⟩, hg⟩
  by_cases hyx : y = x
  · subst hyx
    rw [atKey_put_same hm (K.key hkey)]
    simp
  · rw [atKey_put_other (fun ee => hyx (hinj y hy ee)), hat y hy]
    simp [hyx]
end
end Go.Proofs.YtmbejeibcncmmaaGreat
namespace Go.Proofs.YtmbejeibcncmmaaGreat

/-- An In: its ID and its index. -/
abbrev InD := UInt64 × Int
/-- A deed. -/
structure DeedD where
  ins : List InD
  outs : Int
  weight : Int
  fee : Int

def within (n lo hi : Int) : Bool := decide (lo ≤ n ∧ n ≤ hi)
/-- Two are equal. -/
def dupB (l : List InD) : Bool := decide (¬ l.Nodup)
def atsB (l : List InD) : Bool := l.all fun x => within x.2 0 15
def restB (o w f : Int) : Bool := within o 1 16 && within w 1 1000 && within f 0 1000
/-- P4: the first error. -/
def checkD (d : DeedD) : Int :=
  if 8 < d.ins.length then 2 else if atsB d.ins = false then 1 else if dupB d.ins = true then 6 else if restB d.outs d.weight d.fee = false then 1 else 0

theorem atsB_take {l : List InD} {k : Nat} (h : k < l.length) (h0 : atsB (l.take k) = true) (h1 : within l[k].2 0 15 = true) : atsB (l.take (k + 1)) = true := by
  unfold atsB at *
  rw [List.take_succ_eq_append_getElem h, List.all_append, h0]
  simpa using h1
theorem atsB_bad {l : List InD} {k : Nat} (h : k < l.length) (h1 : within l[k].2 0 15 = false) : atsB l = false := by
  unfold atsB
  rw [List.all_eq_false]
  exact ⟨l[k], List.getElem_mem h, by simp [h1]⟩
theorem dup_at {l : List InD} {k : Nat} (h : k < l.length) (h1 : (l.take k).contains l[k] = true) : dupB l = true := by
  unfold dupB
  refine decide_eq_true fun hn => ?_
  have h2 := List.contains_iff_mem.1 h1
  obtain ⟨j, hj, e⟩ := List.getElem_of_mem h2
  rw [List.length_take] at hj
  rw [List.getElem_take] at e
  have := (List.getElem_inj hn).1 e
  omega
theorem nodup_take {l : List InD} {k : Nat} (h : k < l.length) (h0 : (l.take k).Nodup) (h1 : (l.take k).contains l[k] = false) : (l.take (k + 1)).Nodup := by
  rw [List.take_succ_eq_append_getElem h, List.nodup_append]
  refine ⟨h0, by simp, fun a ha b hb => ?_⟩
  simp only [List.mem_singleton] at hb
  subst hb
  intro e
  subst e
  rw [List.contains_iff_mem.2 ha] at h1
  cases h1
theorem dup_none {l : List InD} {k : Nat} (h : l.length ≤ k) (h0 : (l.take k).Nodup) : dupB l = false := by
  rw [List.take_of_length_le h] at h0
  unfold dupB
  exact decide_eq_false (fun hn => hn h0)
theorem take_snoc {α : Type} {l : List α} {k : Nat} (h : k < l.length) : l.take k ++ [l[k]] = l.take (k + 1) := (List.take_succ_eq_append_getElem h).symm

/-- The lowest n bytes of a number, the most significant one first. -/
def be : Nat → Nat → List UInt8
  | 0, _ => []
  | n + 1, x => be n (x / 256) ++ [UInt8.ofNat x]
theorem be_length : ∀ n x, (be n x).length = n
  | 0, _ => rfl
  | n + 1, x => by simp [be, be_length n]
theorem be_step (n k x : Nat) (hk : k < n) : be (n - (k + 1)) (x / 256 ^ (k + 1)) ++ [UInt8.ofNat (x / 256 ^ k)] = be (n - k) (x / 256 ^ k) := by
  obtain ⟨m, hm⟩ : ∃ m, n - k = m + 1 := ⟨n - k - 1, by omega⟩
  rw [hm, show n - (k + 1) = m by omega, be, Nat.div_div_eq_div_mul, ← Nat.pow_succ]
/-- An In's bytes. -/
def inB (x : InD) : List UInt8 := be 8 x.1.toNat ++ [UInt8.ofNat x.2.toNat]
/-- P4: the encoding of a deed that has no error. -/
def encL (l : List InD) : List UInt8 := l.flatMap inB
def encB (d : DeedD) : List UInt8 := [68, UInt8.ofNat d.ins.length] ++ encL d.ins ++ [UInt8.ofNat d.outs.toNat] ++ be 2 d.weight.toNat ++ be 2 d.fee.toNat
theorem encL_length : ∀ l, (encL l).length = 9 * l.length
  | [] => rfl
  | x :: r => by
    have := encL_length r
    unfold encL at *
    simp [inB, be_length, this]
    omega
theorem encB_length (d : DeedD) : (encB d).length = 7 + 9 * d.ins.length := by
  simp [encB, encL_length, be_length]
  omega
theorem encL_take {l : List InD} {k : Nat} (h : k < l.length) : encL (l.take (k + 1)) = encL (l.take k) ++ be 8 l[k].1.toNat ++ [UInt8.ofNat l[k].2.toNat] := by
  unfold encL
  rw [List.take_succ_eq_append_getElem h, List.flatMap_append]
  simp [inB]
end Go.Proofs.YtmbejeibcncmmaaGreat
namespace Go.Proofs.YtmbejeibcncmmaaGreat

/-! ### The model's words on integers of kind u64, at numbers that are a UInt64's -/

theorem u64_lt (a : UInt64) : a.toNat < 18446744073709551616 := a.toNat_lt
theorem u64_bd (a : UInt64) : (0 : Int) ≤ (a.toNat : Int) ∧ (a.toNat : Int) < 18446744073709551616 := by
  have := u64_lt a; omega
theorem u64_of (n : Int) (h0 : 0 ≤ n) (h1 : n < 18446744073709551616) : ∃ u : UInt64, n = (u.toNat : Int) := by
  refine ⟨UInt64.ofNat n.toNat, ?_⟩
  rw [UInt64.toNat_ofNat_of_lt' (by show n.toNat < 18446744073709551616; omega)]
  omega
theorem u64_inj {a b : UInt64} (h : (a.toNat : Int) = (b.toNat : Int)) : a = b := UInt64.toNat_inj.1 (by omega)
theorem u64_beq (a b : UInt64) : ((a.toNat : Int) == (b.toNat : Int)) = (a == b) := by
  rw [Bool.eq_iff_iff]; simp only [beq_iff_eq]; exact ⟨u64_inj, fun h => by rw [h]⟩
theorem wrap_mul_u64 (a b : UInt64) : IntKind.u64.wrap ((a.toNat : Int) * (b.toNat : Int)) = ((a * b).toNat : Int) := by
  rw [IntKind.wrap_u64, UInt64.toNat_mul, Int.natCast_emod, Int.natCast_mul]; rfl
theorem wrap_add_u64 (a b : UInt64) : IntKind.u64.wrap ((a.toNat : Int) + (b.toNat : Int)) = ((a + b).toNat : Int) := by
  rw [IntKind.wrap_u64, UInt64.toNat_add, Int.natCast_emod, Int.natCast_add]; rfl
theorem wrap_self_u64 (a : UInt64) : IntKind.u64.wrap (a.toNat : Int) = (a.toNat : Int) := by
  have := u64_bd a; rw [IntKind.wrap_u64]; omega
theorem xor_u64 (a b : UInt64) : bits .xor .u64 (a.toNat : Int) (b.toNat : Int) = ((a ^^^ b).toNat : Int) := by
  rw [bits_xor_u64_nat _ _ (u64_lt a) (u64_lt b), UInt64.toNat_xor]
theorem shr_u64 (a : UInt64) (n : Nat) (hn : n < 64) : (a.toNat : Int) / 2 ^ n = ((a >>> (UInt64.ofNat n)).toNat : Int) := by
  rw [UInt64.toNat_shiftRight, Nat.shiftRight_eq_div_pow]
  have e : (UInt64.ofNat n).toNat % 64 = n := by
    rw [UInt64.toNat_ofNat_of_lt' (by show n < 18446744073709551616; omega)]; omega
  rw [e, Int.natCast_ediv, Int.natCast_pow]; rfl
theorem tdiv_u64 (a : UInt64) (n : Nat) (hn : n < 64) : (a.toNat : Int).tdiv (2 ^ n) = ((a >>> (UInt64.ofNat n)).toNat : Int) := by
  rw [Int.tdiv_eq_ediv_of_nonneg (by omega), shr_u64 a n hn]
theorem wrap_byte_u64 (c : UInt8) : IntKind.u64.wrap (c.toNat : Int) = ((c.toUInt64).toNat : Int) := by
  have h : c.toUInt64.toNat = c.toNat := UInt8.toNat_toUInt64 c
  have := c.toNat_lt
  rw [IntKind.wrap_u64, h]; omega

/-! ### Go's remainder against the one that is never negative -/

theorem tmod_cases (n m : Int) (hm : 0 < m) : -m < n.tmod m ∧ n.tmod m < m ∧ (n.tmod m < 0 → n.tmod m + m = n % m) ∧ (0 ≤ n.tmod m → n.tmod m = n % m) := by
  have h0 := Int.emod_nonneg n (show m ≠ 0 by omega)
  have h1 := Int.emod_lt_of_pos n hm
  have e := @Int.tmod_eq_emod n m
  have ha : (m.natAbs : Int) = m := by omega
  split at e
  · simp only [Int.natCast_zero, Int.sub_zero] at e
    omega
  · rename_i h
    have hne : n % m ≠ 0 := fun hz => h (Or.inr (Int.dvd_of_emod_eq_zero hz))
    rw [ha] at e
    omega

/-! ### What the two hash functions compute -/

def ofStep (x : UInt64) (c : UInt8) : UInt64 := (x ^^^ c.toUInt64) * 1099511628211
def ofU (l : List UInt8) : UInt64 := l.foldl ofStep 14695981039346656037
def foldU (x : UInt64) (n : UInt64) : UInt64 := x ^^^ (x >>> n)
def mixU (a b c : UInt64) : UInt64 := foldU (foldU (foldU (a * 11400714819323198485 + b) 30 * 13787848793156543929 + c) 27 * 10723151780598845931) 31

theorem of_empty : ofU [] = 14695981039346656037 := rfl
theorem of_a : ofU [97] = 12638187200555641996 := by decide +kernel
theorem of_snoc (l : List UInt8) (c : UInt8) : ofU (l ++ [c]) = ofStep (ofU l) c := by
  unfold ofU; rw [List.foldl_append]; rfl

/-! ### Bijections -/

theorem mul_inj (k i : UInt64) (h : k * i = 1) {a b : UInt64} (e : a * k = b * k) : a = b := by
  have := congrArg (· * i) e
  simp only [UInt64.mul_assoc, h, UInt64.mul_one] at this
  exact this
theorem xor_inj (c : UInt64) {a b : UInt64} (e : a ^^^ c = b ^^^ c) : a = b := by
  have := congrArg (· ^^^ c) e
  simpa only [UInt64.xor_assoc, UInt64.xor_self, UInt64.xor_zero] using this
theorem xor_inj_left (c : UInt64) {a b : UInt64} (e : c ^^^ a = c ^^^ b) : a = b := by
  rw [UInt64.xor_comm c a, UInt64.xor_comm c b] at e; exact xor_inj c e
theorem add_inj (c : UInt64) {a b : UInt64} (e : a + c = b + c) : a = b := by
  have := congrArg (· - c) e
  simpa only [UInt64.add_sub_cancel] using this
theorem add_inj_left (c : UInt64) {a b : UInt64} (e : c + a = c + b) : a = b := by
  rw [UInt64.add_comm c a, UInt64.add_comm c b] at e; exact add_inj c e

/-- x XOR (x shifted right by n) tells x: the highest n bits are its own, and each further bit follows. -/
theorem bv_fold_inj (n : Nat) (hn : 21 < n) {a b : BitVec 64} (e : a ^^^ (a >>> n) = b ^^^ (b >>> n)) : a = b := by
  have back : ∀ x : BitVec 64, (x ^^^ (x >>> n)) ^^^ ((x ^^^ (x >>> n)) >>> n) ^^^ ((x ^^^ (x >>> n)) >>> (n + n)) = x := by
    intro x
    have hz : x >>> (n + (n + n)) = 0#64 := BitVec.ushiftRight_eq_zero (by omega)
    rw [BitVec.ushiftRight_xor_distrib, BitVec.ushiftRight_xor_distrib, ← BitVec.shiftRight_add, ← BitVec.shiftRight_add, hz]
    generalize x >>> n = y
    generalize x >>> (n + n) = z
    rw [BitVec.xor_zero, BitVec.xor_assoc, BitVec.xor_assoc, BitVec.xor_assoc, BitVec.xor_self, BitVec.xor_zero, BitVec.xor_self, BitVec.xor_zero]
  rw [← back a, e, back b]
theorem foldU_inj (n : UInt64) (h1 : 21 < n.toNat) (h2 : n.toNat < 64) {a b : UInt64} (e : foldU a n = foldU b n) : a = b := by
  unfold foldU at e
  have hn : (n % 64).toNat = n.toNat := by
    rw [UInt64.toNat_mod]; exact Nat.mod_eq_of_lt h2
  have e' := congrArg UInt64.toBitVec e
  simp only [UInt64.toBitVec_xor, UInt64.toBitVec_shiftRight] at e'
  have hm : (n.toBitVec % 64) = n.toBitVec := by
    apply BitVec.eq_of_toNat_eq
    rw [BitVec.toNat_umod]; exact Nat.mod_eq_of_lt h2
  rw [hm, BitVec.ushiftRight_eq', BitVec.ushiftRight_eq'] at e'
  exact UInt64.toBitVec_inj.1 (bv_fold_inj _ h1 e')

theorem ofStep_inj (c : UInt8) {x y : UInt64} (e : ofStep x c = ofStep y c) : x = y := xor_inj _ (mul_inj _ 14886173955864302971 (by decide +kernel) e)
theorem ofStep_inj_byte (x : UInt64) {c d : UInt8} (e : ofStep x c = ofStep x d) : c = d := by
  have h := xor_inj_left _ (mul_inj _ 14886173955864302971 (by decide +kernel) e)
  have h' := congrArg UInt64.toNat h
  rw [UInt8.toNat_toUInt64, UInt8.toNat_toUInt64] at h'
  exact UInt8.toNat_inj.1 h'
theorem foldl_inj (l : List UInt8) : ∀ {x y : UInt64}, l.foldl ofStep x = l.foldl ofStep y → x = y := by
  induction l with
  | nil => intro x y h; exact h
  | cons c r ih => intro x y h; exact ofStep_inj c (ih h)
theorem of_goesOn (a b more : List UInt8) : (ofU a == ofU b) = (ofU (a ++ more) == ofU (b ++ more)) := by
  rw [Bool.eq_iff_iff]; simp only [beq_iff_eq]
  unfold ofU
  rw [List.foldl_append, List.foldl_append]
  exact ⟨fun h => by rw [h], fun h => foldl_inj more h⟩
theorem of_changed (p q : List UInt8) (c d : UInt8) : (ofU (p ++ c :: q) == ofU (p ++ d :: q)) = (p ++ c :: q == p ++ d :: q) := by
  rw [Bool.eq_iff_iff]; simp only [beq_iff_eq]
  constructor
  · intro h
    unfold ofU at h
    rw [List.foldl_append, List.foldl_append, List.foldl_cons, List.foldl_cons] at h
    rw [ofStep_inj_byte _ (foldl_inj q h)]
  · intro h; rw [h]
theorem mix_inj1 (a x b c : UInt64) : (mixU a b c == mixU x b c) = (a == x) := by
  rw [Bool.eq_iff_iff]; simp only [beq_iff_eq]
  refine ⟨fun h => ?_, fun h => by rw [h]⟩
  unfold mixU at h
  have h1 := mul_inj _ 3573116690164977347 (by decide +kernel) (foldU_inj 31 (by decide) (by decide) h)
  have h2 := mul_inj _ 10871156337175269513 (by decide +kernel) (add_inj _ (foldU_inj 27 (by decide) (by decide) h1))
  exact mul_inj _ 17428512612931826493 (by decide +kernel) (add_inj _ (foldU_inj 30 (by decide) (by decide) h2))
theorem mix_inj2 (a b x c : UInt64) : (mixU a b c == mixU a x c) = (b == x) := by
  rw [Bool.eq_iff_iff]; simp only [beq_iff_eq]
  refine ⟨fun h => ?_, fun h => by rw [h]⟩
  unfold mixU at h
  have h1 := mul_inj _ 3573116690164977347 (by decide +kernel) (foldU_inj 31 (by decide) (by decide) h)
  have h2 := mul_inj _ 10871156337175269513 (by decide +kernel) (add_inj _ (foldU_inj 27 (by decide) (by decide) h1))
  exact add_inj_left _ (foldU_inj 30 (by decide) (by decide) h2)
theorem mix_inj3 (a b c x : UInt64) : (mixU a b c == mixU a b x) = (c == x) := by
  rw [Bool.eq_iff_iff]; simp only [beq_iff_eq]
  refine ⟨fun h => ?_, fun h => by rw [h]⟩
  unfold mixU at h
  have h1 := mul_inj _ 3573116690164977347 (by decide +kernel) (foldU_inj 31 (by decide) (by decide) h)
  exact add_inj_left _ (foldU_inj 27 (by decide) (by decide) h1)
end Go.Proofs.YtmbejeibcncmmaaGreat
namespace Go.Proofs.YtmbejeibcncmmaaGreat
open Go.RowKit Go.Joins

def byteV (b : UInt8) : Value := .int .u8 b.toNat
/-- The slice v owns a row of memory, from block B on, that holds these bytes. -/
def BytesAt (e : TypeId) (w : World) (B : Nat) (v : Value) (l : List UInt8) : Prop := w.ownsRow B e 1 v l.length (l.map byteV)
/-- From world w0, in which the slice was v0, to world w, in which it is v and holds l: no other old memory has turned. -/
structure Buf (e : TypeId) (B : Nat) (w0 : World) (v0 : Value) (w : World) (v : Value) (l : List UInt8) : Prop where
  own : BytesAt e w B v l
  grown : w0.grownBy w v0.ownBlock
  lies : v.ownBlock = v0.ownBlock ∨ ∃ k, v.ownBlock = some k ∧ w0.heap.size ≤ k

theorem buf_refl {e : TypeId} {B : Nat} {w : World} {v : Value} {l : List UInt8} (h : BytesAt e w B v l) : Buf e B w v w v l :=
  ⟨h, ⟨rfl, rfl, rfl, Nat.le_refl _, fun _ _ _ => rfl⟩, .inl rfl⟩
theorem buf_trans {e : TypeId} {B : Nat} {w0 w1 w2 : World} {v0 v1 v2 : Value} {l1 l2 : List UInt8} (h : Buf e B w0 v0 w1 v1 l1) (k : Buf e B w1 v1 w2 v2 l2) : Buf e B w0 v0 w2 v2 l2 := by
  refine ⟨k.own, ⟨k.grown.os.trans h.grown.os, k.grown.tape.trans h.grown.tape, k.grown.output.trans h.grown.output, Nat.le_trans h.grown.size k.grown.size, fun i hi hne => ?_⟩, ?_⟩
  · refine (k.grown.block i (Nat.lt_of_lt_of_le hi h.grown.size) ?_).trans (h.grown.block i hi hne)
    rcases h.lies with e | ⟨j, e, hj⟩
    · rw [e]; exact hne
    · rw [e]; intro ee; cases ee; omega
  · rcases k.lies with e | ⟨j, e, hj⟩
    · rw [e]; exact h.lies
    · exact .inr ⟨j, e, Nat.le_trans h.grown.size hj⟩
theorem buf_alloc {e : TypeId} {B : Nat} {w0 w : World} {v0 v : Value} {l : List UInt8} (h : Buf e B w0 v0 w v l) (o : Obj) : Buf e B w0 v0 (w.alloc o) v l :=
  ⟨h.own.alloc o, ⟨h.grown.os, h.grown.tape, h.grown.output, by have := h.grown.size; simp; omega, fun i hi hne => (Below.heap_alloc w o i (Nat.lt_of_lt_of_le hi h.grown.size)).trans (h.grown.block i hi hne)⟩, h.lies⟩
/-- All memory below B stands. -/
theorem buf_below {e : TypeId} {B : Nat} {w0 w : World} {v0 v : Value} {l0 l : List UInt8} (h0 : BytesAt e w0 B v0 l0) (hB : B ≤ w0.heap.size) (h : Buf e B w0 v0 w v l) : Below B w0 w :=
  (Below.refl B w0).grown h.grown hB (fun k hk => (h0.lt k hk).1)
/-- A cell of another block stands. -/
theorem buf_cell {e : TypeId} {B : Nat} {w0 w : World} {v0 v : Value} {l : List UInt8} (h : Buf e B w0 v0 w v l) {p : Addr} {u : Value} (hc : w0.cell? p = some u) (hne : some p.block ≠ v0.ownBlock) : w.cell? p = some u :=
  h.grown.cell hc hne
theorem bytes_one (l : List UInt8) : ∀ u ∈ l.map byteV, u.oneCell' = true := by
  intro u hu
  obtain ⟨b, _, rfl⟩ := List.mem_map.1 hu
  rfl
theorem cells_new (w : World) (cs : List Value) (t : TypeId) : ∀ j u, cs[j]? = some u → (w.alloc (.cells cs.toArray t)).cell? ((⟨w.heap.size, 0, none⟩ : Addr).add j) = some u := by
  intro j u hj
  have e : (⟨w.heap.size, 0, none⟩ : Addr).add j = ⟨w.heap.size, j, none⟩ := by unfold Addr.add; split <;> simp_all
  rw [e]
  rw [World.cell?_alloc_mark]
  simpa using hj

/-- 'append(s, b0, b1, ..)': the new bytes lie in a block of their own, laid just ahead. -/
theorem wpList_append_bytes {P : Program} {t e : TypeId} {i : TypeInfo} (ht : P.underlying t = some (.slice e)) (hi : P.info? e = some i) (hz : i.zero = some (.int .u8 0)) (hsize : i.size = 1) (hby : i.bytes = 1)
    {ops : Array Oper} {rest : List Oper} {o : Oper} {a : Act} {Q : Exit → Act → World → Prop} {w : World} {cs : List Value} (hgd : o.guard = none) (s x : Operand) (ho : o.op = .call { callee := .builtin .append, args := #[s, x], argTypes := #[t, t] })
    {B : Nat} {v : Value} {l news : List UInt8} (hs : a.eval s = v) (hx : a.eval x = .slice (some ⟨w.heap.size, 0, none⟩) news.length news.length) (hcs : cs = news.map byteV)
    (hown : BytesAt e w B v l) (hlen : l.length + news.length ≤ 1000000) (hB : B ≤ w.heap.size)
    (h : ∀ v' w', Buf e B w v w' v' (l ++ news) → wpList P ops Q rest (a.put o.dst v') w') : wpList P ops Q (o :: rest) a (w.alloc (.cells cs.toArray e)) := by
  subst hcs
  refine wpList_append_own_at _ hgd s x t ho B e i (.int .u8 0) 1 1 ht hi hz hsize hby rfl (by decide) v l.length (l.map byteV) hs (hown.alloc _) ⟨w.heap.size, 0, none⟩ news.length news.length (news.map byteV) hx (by simp) (cells_new w _ e) (bytes_one news)
    (by unfold maxLen; omega) (by omega) (by simp; omega) ?_
  intro v' w1 hown' hgrow _ hat
  refine h v' w1 ⟨?_, ⟨hgrow.os, hgrow.tape, hgrow.output, by have := hgrow.size; simp at this; omega, fun k hk hne => ?_⟩, ?_⟩
  · unfold BytesAt
    rw [List.length_append, List.map_append]
    exact hown'
  · exact (hgrow.block k (by simp; omega) hne).trans (Below.heap_alloc w _ k hk)
  · rcases hat with h1 | h1
    · exact .inl h1
    · exact .inr ⟨_, h1, by simp⟩

/-- 'string(b)' of such a slice. -/
theorem conv_bytes {P : Program} {e : TypeId} {w : World} {B : Nat} {v : Value} {l : List UInt8} (src dst : TypeId) (hs : P.underlying src = some (.slice e)) (he : P.underlying e = some (.int .u8)) (hd : P.underlying dst = some .string)
    (h : BytesAt e w B v l) (hl : l ≠ []) : (convert src dst v).run P w = .ok (.string ⟨l.toArray⟩) w := by
  obtain ⟨g, cap, rfl⟩ := ownsRow_form h (List.length_pos_iff.2 hl)
  refine run_convert_bytes_back w src dst e ⟨g, 0, none⟩ cap l hs he hd fun j hj => ?_
  refine h.cells (g := g) rfl j _ ?_
  rw [List.getElem?_map, List.getElem?_eq_getElem hj]
  rfl

/-- Such a slice stands where all memory stands. -/
theorem owns_below {w w' : World} {B size n : Nat} {e : TypeId} {v : Value} {xs : List Value} (h : w.ownsRow B e size v n xs) (hb : Below w.heap.size w w') : w'.ownsRow B e size v n xs :=
  h.kept (row := none) ⟨hb.os, hb.tape, hb.output, hb.size, fun k hk _ => hb.block k hk⟩ (by cases hv : v.ownBlock <;> simp)
theorem buf_later {e : TypeId} {B : Nat} {w0 w w' : World} {v0 v : Value} {l : List UInt8} (h : Buf e B w0 v0 w v l) (hb : Below w.heap.size w w') : Buf e B w0 v0 w' v l :=
  ⟨owns_below h.own hb, ⟨hb.os.trans h.grown.os, hb.tape.trans h.grown.tape, hb.output.trans h.grown.output, Nat.le_trans h.grown.size hb.size, fun i hi hne => (hb.block i (Nat.lt_of_lt_of_le hi h.grown.size)).trans (h.grown.block i hi hne)⟩, h.lies⟩
theorem bytes_nil (e : TypeId) (w : World) (B : Nat) : BytesAt e w B (.slice none 0 0) [] := World.ownsRow_nil w B e 1

/-- 'append(b, s...)', s a string. -/
theorem run_append_str {P : Program} {w : World} {t u e : TypeId} {i : TypeInfo} (ht : P.underlying t = some (.slice e)) (hu : P.underlying u = some .string) (hi : P.info? e = some i) (hz : i.zero = some (.int .u8 0)) (hsize : i.size = 1) (hby : i.bytes = 1) (ty : TypeId)
    {B : Nat} {v : Value} {l : List UInt8} {s : ByteArray} (hown : BytesAt e w B v l) (hlen : l.length + s.size ≤ 1000000) (hB : B ≤ w.heap.size) :
    ∃ v' w', (Builtin.append_ #[t, u] ty #[v, .string s]).run P w = .ok v' w' ∧ Buf e B w v w' v' (l ++ s.data.toList) := by
  obtain ⟨v', w', hr, ho, hg, hnil⟩ := Lib.run_append_own_string (P := P) w B t u ty e i ht hu hi hz hsize hby v l.length _ hown s (by unfold maxLen; omega) (by omega) hB
  have hsl : s.data.toList.length = s.size := by simp
  refine ⟨v', w', hr, ⟨?_, hg, ?_⟩⟩
  · unfold BytesAt
    rw [List.length_append, List.map_append, hsl]
    exact ho
  · rcases hown.2 with ⟨rfl, h0⟩ | ⟨g, cap, cur, rfl, hbg, hg', hnc, hcm, hcs, htake⟩
    · by_cases hm : s.size = 0
      · left
        rw [hnil.2 ⟨rfl, hm⟩]
      · right
        have h1 := run_append_nil_string (P := P) w t u ty e i (.int .u8 0) ht hu hi hz s (by omega) (by omega) (by rw [hby]; omega)
        rw [h1] at hr
        cases hr
        exact ⟨_, rfl, Nat.le_refl _⟩
    · have hcs' : cur.size = cap := by simpa using hcs
      by_cases hroom : l.length + s.size ≤ cap
      · left
        have h1 := Lib.run_append_room_string (P := P) w t u ty e i ht hu hi hsize g l.length cap cur hg' s hroom (by omega)
        rw [h1] at hr
        cases hr
        rfl
      · right
        have holds : ∀ j u, (l.map byteV)[j]? = some u → w.cell? ((⟨g, 0, none⟩ : Addr).add j) = some u := hown.cells (g := g) rfl
        have h1 := Lib.run_append_grow_string (P := P) w t u ty e i (.int .u8 0) ht hu hi hz ⟨g, 0, none⟩ l.length cap (l.map byteV) (by rw [hsize]; simp) holds s (by omega) (by omega) (by rw [hby]; exact growslice_fits (by omega) (by omega))
        rw [h1] at hr
        cases hr
        exact ⟨_, rfl, Nat.le_refl _⟩
theorem wpList_append_str {P : Program} {t u e : TypeId} {i : TypeInfo} (ht : P.underlying t = some (.slice e)) (hu : P.underlying u = some .string) (hi : P.info? e = some i) (hz : i.zero = some (.int .u8 0)) (hsize : i.size = 1) (hby : i.bytes = 1)
    {ops : Array Oper} {rest : List Oper} {o : Oper} {a : Act} {Q : Exit → Act → World → Prop} {w : World} (hgd : o.guard = none) (sl x : Operand) (ho : o.op = .call { callee := .builtin .append, args := #[sl, x], argTypes := #[t, u] })
    {B : Nat} {v : Value} {l : List UInt8} {s : ByteArray} (hs : a.eval sl = v) (hx : a.eval x = .string s) (hown : BytesAt e w B v l) (hlen : l.length + s.size ≤ 1000000) (hB : B ≤ w.heap.size)
    (h : ∀ v' w', Buf e B w v w' v' (l ++ s.data.toList) → wpList P ops Q rest (a.put o.dst v') w') : wpList P ops Q (o :: rest) a w := by
  refine wpList_plain hgd fun K hK => ?_
  obtain ⟨v', w', hr, h2⟩ := run_append_str (P := P) ht hu hi hz hsize hby o.type hown hlen hB (s := s)
  unfold Oper.wp execOp
  simp only [ho, resolve, invoke, builtin, Sem.run_bind, Sem.run_pure, Result.andThen_ok, List.map_toArray, List.map_cons, List.map_nil, hs, hx, hr]
  exact hK _ _ (h v' w' h2)
end Go.Proofs.YtmbejeibcncmmaaGreat
namespace Go.Proofs.YtmbejeibcncmmaaGreat
open Go.RowKit

theorem ret_bool {a b : Bool} (h : a = b) : Ending.returned (.bool a) = .returned (.bool b) := by rw [h]
theorem ret_i64 {a b : Int} (h : a = b) : Ending.returned (.int .i64 a) = .returned (.int .i64 b) := by rw [h]
theorem kept_trans {a b c : World} (h : Below a.heap.size a b) (k : Below b.heap.size b c) : Below a.heap.size a c := h.trans (k.mono h.size)
theorem kept_alloc {a b : World} (h : Below a.heap.size a b) (o : Obj) : Below a.heap.size a (b.alloc o) := h.alloc h.size o
theorem kept_new (a : World) (o : Obj) : Below a.heap.size a (a.alloc o) := kept_alloc (Below.refl _ _) o
theorem kept_cell {a b : World} (h : Below a.heap.size a b) {p : Addr} {v : Value} (hc : a.cell? p = some v) : b.cell? p = some v := cell_later h hc
/-- The two cells of a boxed pair, in whatever later world. -/
theorem box_pair {w wr : World} {u v : Value} {t : TypeId} (h : Below (w.alloc (.cells #[u, v] t)).heap.size (w.alloc (.cells #[u, v] t)) wr) :
    wr.cell? ⟨w.heap.size, 0, none⟩ = some u ∧ wr.cell? ⟨w.heap.size, 1, none⟩ = some v ∧ w.heap.size < wr.heap.size :=
  ⟨kept_cell h (by simp [go_sem]), kept_cell h (by simp [go_sem]), by have := h.size; simp at this; omega⟩
theorem wf_u64_of (u : UInt64) : (Lit.int .u64 u.toNat).wf = true := by
  have := u.toNat_lt
  simp only [Lit.wf, Bool.and_eq_true, decide_eq_true_eq]
  exact ⟨by show (0 : Int) ≤ _; omega, by show _ ≤ (18446744073709551615 : Int); omega⟩
theorem laid : laidOutB Tryz.prog = true := by kernel_rfl
theorem zero_bool (w : World) : (zeroValue 4).run Tryz.prog w = .ok (.bool false) w := by kernel_rfl
/-- The four cells of a boxed deed, in whatever later world. -/
theorem box_four {w wr : World} {u v x y : Value} {t : TypeId} (h : Below (w.alloc (.cells #[u, v, x, y] t)).heap.size (w.alloc (.cells #[u, v, x, y] t)) wr) :
    wr.cell? ⟨w.heap.size, 0, none⟩ = some u ∧ wr.cell? ⟨w.heap.size, 1, none⟩ = some v ∧ wr.cell? ⟨w.heap.size, 2, none⟩ = some x ∧ wr.cell? ⟨w.heap.size, 3, none⟩ = some y ∧ w.heap.size < wr.heap.size :=
  ⟨kept_cell h (by simp [go_sem]), kept_cell h (by simp [go_sem]), kept_cell h (by simp [go_sem]), kept_cell h (by simp [go_sem]), by have := h.size; simp at this; omega⟩
theorem info_u8 : (Tryz.prog.info? 5).map (fun i => (i.zero, i.size, i.bytes)) = some (some (.int .u8 0), 1, 1) := by kernel_rfl
abbrev Bytes (w : World) (B : Nat) (v : Value) (l : List UInt8) : Prop := BytesAt 5 w B v l
/-- The answer of a function that appends: the slice now holds l. -/
def Put (B : Nat) (w : World) (v : Value) (l : List UInt8) (e : Ending) (w' : World) : Prop := ∃ v', e = .returned v' ∧ Buf 5 B w v w' v' l
theorem shr_byte (x : Nat) (j : Nat) : ((x : Int) / 2 ^ (8 * j) % 256) = ((UInt8.ofNat (x / 256 ^ j)).toNat : Int) := by
  have e : (2 : Int) ^ (8 * j) = ((256 ^ j : Nat) : Int) := by rw [Int.pow_mul]; simp
  rw [e]
  simp [UInt8.toNat_ofNat']
theorem grown_below {w w' : World} (hg : w.grownBy w' none) : Below w.heap.size w w' := (Below.refl _ _).grown hg (Nat.le_refl _) (fun _ h => by cases h)
theorem one_byte (n : Int) (h0 : 0 ≤ n) (h : n ≤ 255) : [Value.int .u8 n] = [UInt8.ofNat n.toNat].map byteV := by
  have : ((UInt8.ofNat n.toNat).toNat : Int) = n := by rw [UInt8.toNat_ofNat']; omega
  show _ = [Value.int .u8 ((UInt8.ofNat n.toNat).toNat : Int)]
  rw [this]
theorem own_ne {e : TypeId} {w : World} {B : Nat} {v : Value} {l : List UInt8} (h : BytesAt e w B v l) : some w.heap.size ≠ v.ownBlock := fun hh => by
  have := (h.lt _ hh.symm).2
  omega
theorem ret_u64 {a b : Int} (h : a = b) : Ending.returned (.int .u64 a) = .returned (.int .u64 b) := by rw [h]
theorem bytesWorld_below (w : World) (e : TypeId) (s : ByteArray) : Below w.heap.size w (Lib.bytesWorld w e s) :=
  ⟨rfl, rfl, rfl, by rw [Lib.bytesWorld_size]; omega, fun k hk => Lib.bytesWorld_at_old w e s k hk⟩
theorem getD_at (s : ByteArray) (k : Nat) (h : k < s.size) : s.data.toList.getD k 0 = s[k] := by
  rw [List.getD_eq_getElem?_getD, List.getElem?_eq_getElem (by simpa using h)]
  rfl
theorem empty_yes {s : ByteArray} (h : s.size = 0) : s.toList.isEmpty = true := by
  have hl : s.data.toList.length = s.size := by simp
  rw [ByteArray.toList_eq]
  cases hx : s.data.toList with
  | nil => rfl
  | cons a r => rw [hx] at hl; simp at hl; omega
theorem empty_no {s : ByteArray} (h : s.size ≠ 0) : s.toList.isEmpty = false := by
  have hl : s.data.toList.length = s.size := by simp
  rw [ByteArray.toList_eq]
  cases hx : s.data.toList with
  | nil => rw [hx] at hl; simp at hl; omega
  | cons a r => rfl
theorem extract_end (s : ByteArray) (a b : Nat) (h : b = s.size) : (s.extract a b).data.toList = s.data.toList.drop a := by
  rw [h, ByteArray.data_extract]
  simp only [Array.toList_extract, List.extract_eq_take_drop]
  exact List.take_of_length_le (by simp)
theorem extract_take (s : ByteArray) (b : Nat) : (s.extract 0 b).data.toList = s.data.toList.take b := by
  rw [ByteArray.data_extract]
  simp
theorem extract_mid (s : ByteArray) (a b : Nat) : (s.extract a b).data.toList = (s.data.toList.drop a).take (b - a) := by
  rw [ByteArray.data_extract]
  simp only [Array.toList_extract, List.extract_eq_take_drop]
/-- An address lies in block n or behind it. -/
def Fresh (n : Nat) (a : Option Addr) : Prop := ∀ b o sp, a = some ⟨b, o, sp⟩ → n ≤ b
/-- Bytes as a string. -/
def str (l : List UInt8) : ByteArray := ⟨l.toArray⟩
theorem str_size (l : List UInt8) : (str l).size = l.length := by show l.toArray.size = _; simp
theorem str_append (a b : List UInt8) : str (a ++ b) = str a ++ str b := by
  apply ByteArray.ext
  simp [str]
theorem str_list (l : List UInt8) : (str l).data.toList = l := by simp [str]
theorem cell_spot {w : World} {a : Addr} {v : Value} (h : w.cell? a = some v) : a.spot = none ∧ a.block < w.heap.size := by
  unfold World.cell? at h
  split at h
  · rename_i c t fr hb
    refine ⟨?_, (Array.getElem?_eq_some_iff.1 hb).1⟩
    split at h
    · cases h
    · rename_i hs; simpa using hs
  · cases h
theorem take_eq_step {α : Type} {a b : List α} {k : Nat} (ha : k < a.length) (hb : k < b.length) (h : a.take k = b.take k) (e : a[k] = b[k]) : a.take (k + 1) = b.take (k + 1) := by
  rw [List.take_succ_eq_append_getElem ha, List.take_succ_eq_append_getElem hb, h, e]
theorem ne_of_at {α : Type} {a b : List α} {k : Nat} (ha : k < a.length) (hb : k < b.length) (e : a[k] ≠ b[k]) : a ≠ b := fun h => by
  subst h
  exact e rfl
end Go.Proofs.YtmbejeibcncmmaaGreat
namespace Go.Proofs.YtmbejeibcncmmaaGreat
open Go.RowKit

/-- From w to w' only blocks of F may have turned; what is owned behind it (F') was owned ahead of it or is new. -/
structure Turn (F F' : Nat → Prop) (w w' : World) : Prop where
  os : w'.os = w.os
  tape : w'.tape = w.tape
  output : w'.output = w.output
  size : w.heap.size ≤ w'.heap.size
  block : ∀ k, k < w.heap.size → ¬ F k → w'.heap[k]? = w.heap[k]?
  own : ∀ k, F' k → F k ∨ w.heap.size ≤ k
/-- Two things that own no block in common. -/
def Apart (F G : Nat → Prop) : Prop := ∀ k, F k → ¬ G k
/-- All that is owned is there. -/
def There (w : World) (F : Nat → Prop) : Prop := ∀ k, F k → k < w.heap.size

theorem Apart.symm {F G : Nat → Prop} (h : Apart F G) : Apart G F := fun k hg hf => h k hf hg
theorem Turn.refl (F : Nat → Prop) (w : World) : Turn F F w w := ⟨rfl, rfl, rfl, Nat.le_refl _, fun _ _ _ => rfl, fun _ h => .inl h⟩
theorem Turn.trans {F F' F'' : Nat → Prop} {a b c : World} (h : Turn F F' a b) (k : Turn F' F'' b c) : Turn F F'' a c where
  os := k.os.trans h.os
  tape := k.tape.trans h.tape
  output := k.output.trans h.output
  size := Nat.le_trans h.size k.size
  block := fun i hi hn => (k.block i (Nat.lt_of_lt_of_le hi h.size) (fun hf => (h.own i hf).elim hn (fun hle => by omega))).trans (h.block i hi hn)
  own := fun i hi => (k.own i hi).elim (fun hf => h.own i hf) (fun hle => .inr (Nat.le_trans h.size hle))
theorem Turn.below {F F' : Nat → Prop} {w w' : World} {n : Nat} (h : Turn F F' w w') (hF : ∀ k, F k → n ≤ k) (hn : n ≤ w.heap.size) : Below n w w' :=
  ⟨h.os, h.tape, h.output, h.size, fun k hk => h.block k (Nat.lt_of_lt_of_le hk hn) (fun hf => by have := hF k hf; omega)⟩
theorem Turn.above {F F' : Nat → Prop} {w w' : World} {n : Nat} (h : Turn F F' w w') (hF : ∀ k, F k → n ≤ k) (hn : n ≤ w.heap.size) : ∀ k, F' k → n ≤ k :=
  fun k hk => (h.own k hk).elim (hF k) (fun hle => Nat.le_trans hn hle)
theorem Turn.of_below {F : Nat → Prop} {w w' : World} (h : Below w.heap.size w w') : Turn F F w w' := ⟨h.os, h.tape, h.output, h.size, fun k hk _ => h.block k hk, fun _ hf => .inl hf⟩
theorem Turn.of_grown {F : Nat → Prop} {w w' : World} {row : Option Nat} (h : w.grownBy w' row) (hr : ∀ k, row = some k → F k) : Turn F F w w' :=
  ⟨h.os, h.tape, h.output, h.size, fun k hk hn => h.block k hk (fun e => hn (hr k e.symm)), fun _ hf => .inl hf⟩
theorem Turn.set {F : Nat → Prop} (w : World) (p : Addr) (u : Value) (hp : F p.block) : Turn F F w (w.setCell p u) :=
  ⟨rfl, rfl, rfl, by simp, fun k _ hn => Below.heap_setCell w p u k (fun e => hn (e ▸ hp)), fun _ hf => .inl hf⟩
theorem Turn.drewN (F : Nat → Prop) (w : World) (n : Nat) : Turn F F w (w.drewN n) := ⟨rfl, rfl, rfl, Nat.le_refl _, fun _ _ _ => rfl, fun _ h => .inl h⟩
/-- A block that is not the turned thing's is as it was. -/
theorem Turn.same {F F' : Nat → Prop} {w w' : World} (h : Turn F F' w w') {k : Nat} (hk : k < w.heap.size) (hn : ¬ F k) : w'.heap[k]? = w.heap[k]? := h.block k hk hn
/-- More may be owned behind it than was said. -/
theorem Turn.more {F F' : Nat → Prop} {w w' : World} (h : Turn F F' w w') {F'' : Nat → Prop} (hf : ∀ k, F'' k → F' k ∨ w.heap.size ≤ k) : Turn F F'' w w' :=
  ⟨h.os, h.tape, h.output, h.size, h.block, fun k hk => (hf k hk).elim (h.own k) .inr⟩
/-- Two things stay apart while one of them turns. -/
theorem Turn.apart {F F' G : Nat → Prop} {w w' : World} (h : Turn F F' w w') (ha : Apart F G) (hG : There w G) : Apart F' G := fun k hf hg =>
  (h.own k hf).elim (fun hf' => ha k hf' hg) (fun hle => by have := hG k hg; omega)
theorem There.later {F : Nat → Prop} {w w' : World} (h : There w F) (hs : w.heap.size ≤ w'.heap.size) : There w' F := fun k hk => Nat.lt_of_lt_of_le (h k hk) hs
end Go.Proofs.YtmbejeibcncmmaaGreat
namespace Go.Proofs.YtmbejeibcncmmaaGreat.Tr
open Go.RowKit

/-- An entry as plain data. -/
structure TEnt where
  peer : Nat
  id : UInt64
  pref : Bool
  st : Nat
  till : Int
deriving DecidableEq
instance : Inhabited TEnt := ⟨⟨0, 0, false, 0, 0⟩⟩
/-- An entry as a value. -/
def entV (e : TEnt) : Value := .agg #[.int .i64 e.peer, .int .u64 e.id.toNat, .bool e.pref, .int .i64 e.st, .int .i64 e.till]
/-- The five cells of an entry. -/
def entC (e : TEnt) : List Value := [.int .i64 e.peer, .int .u64 e.id.toNat, .bool e.pref, .int .i64 e.st, .int .i64 e.till]
def EntAt (w : World) (b o : Nat) (e : TEnt) : Prop :=
  w.cell? ⟨b, o, none⟩ = some (.int .i64 e.peer) ∧ w.cell? ⟨b, o + 1, none⟩ = some (.int .u64 e.id.toNat) ∧ w.cell? ⟨b, o + 2, none⟩ = some (.bool e.pref) ∧ w.cell? ⟨b, o + 3, none⟩ = some (.int .i64 e.st) ∧ w.cell? ⟨b, o + 4, none⟩ = some (.int .i64 e.till)
/-- The memory behind a slice's address holds these entries. -/
def EntsAt (w : World) (a : Option Addr) (l : List TEnt) : Prop := ∀ i (h : i < l.length), ∃ b o, a = some ⟨b, o, none⟩ ∧ b < w.heap.size ∧ EntAt w b (o + i * 5) l[i]
theorem entAt_kept {w w' : World} {b o : Nat} {e : TEnt} (hb : Below w.heap.size w w') (h : EntAt w b o e) : EntAt w' b o e := by
  obtain ⟨c0, c1, c2, c3, c4⟩ := h
  exact ⟨kept_cell hb c0, kept_cell hb c1, kept_cell hb c2, kept_cell hb c3, kept_cell hb c4⟩
theorem entsAt_kept {w w' : World} {a : Option Addr} {l : List TEnt} (hb : Below w.heap.size w w') (h : EntsAt w a l) : EntsAt w' a l := fun i hi => by
  obtain ⟨b, o, e, hlt, c⟩ := h i hi
  exact ⟨b, o, e, Nat.lt_of_lt_of_le hlt hb.size, entAt_kept hb c⟩
theorem entsAt_nil (w : World) (a : Option Addr) : EntsAt w a [] := fun i hi => absurd hi (by simp)

/-- A function value that says of an entry whether it is chosen, in every world that keeps K. -/
def Picks (K : World → Prop) (f : FuncId) (cap : Array Value) (q : TEnt → Bool) : Prop :=
  (∀ (args : Array Value) (w : World), (callFunc f args).run Tryz.prog w = .ok (.enter f args) w) ∧
  ∀ (e : TEnt) (w : World), K w → Calls Tryz.prog f (#[entV e] ++ cap) w fun x w' => x = .returned (.bool (q e)) ∧ Below w.heap.size w w'

/-- Where the first one is that is chosen, or -1. -/
def firstAt {α : Type} (q : α → Bool) (l : List α) : Int := match l.findIdx? q with | some k => (k : Int) | none => -1

theorem firstAt_hit {α : Type} {q : α → Bool} {l : List α} {k : Nat} (h : k < l.length) (n : (l.take k).findIdx? q = none) (e : q l[k] = true) : firstAt q l = (k : Int) := by
  unfold firstAt
  have : l.findIdx? q = some k := by
    rw [List.findIdx?_eq_some_iff_getElem]
    refine ⟨h, e, fun j hj => ?_⟩
    have h2 := List.findIdx?_eq_none_iff.1 n l[j] (List.mem_take_iff_getElem.2 ⟨j, by omega, rfl⟩)
    simpa using h2
  rw [this]
theorem firstAt_miss {α : Type} {q : α → Bool} {l : List α} {k : Nat} (h : k < l.length) (n : (l.take k).findIdx? q = none) (e : q l[k] = false) : (l.take (k + 1)).findIdx? q = none := by
  rw [List.findIdx?_eq_none_iff] at n ⊢
  rw [List.take_succ_eq_append_getElem h]
  intro x hx
  rcases List.mem_append.1 hx with hx | hx
  · exact n x hx
  · rw [List.mem_singleton.1 hx]; exact e

set_option maxRecDepth 20000 in
theorem indexFunc_any (K : World → Prop) (hK : ∀ a b, K a → Below a.heap.size a b → K b) (f : FuncId) (cap : Array Value) (q : TEnt → Bool) (hp : Picks K f cap q) (l : List TEnt) (a : Option Addr) (cp : Nat) (w : World) (hw : K w) (hl : l.length ≤ 8) (hi : EntsAt w a l) :
    Calls Tryz.prog 136 #[.slice a l.length cp, .func (.func f) #[] cap] w fun e w' => e = .returned (.int .i64 (firstAt q l)) ∧ Below w.heap.size w w' := by
  have hcf := hp.1
  have HP := Lib.hid hp.2
  have HK := Lib.hid hK
  have HW := Lib.hid hw
  clear hp hK hw
  go_enter Tryz.func136, Tryz.ntmps136
  go_wp2
  go_loopw [8] (fun i wr => ∃ k : Nat, k ≤ l.length ∧ i = .int .i64 k ∧ Hid ((l.take k).findIdx? q = none) ∧ Below w.heap.size w wr) (fun i _ => l.length - (intOf i).toNat)
  case atStart => exact ⟨0, Nat.zero_le _, rfl, Lib.hid rfl, Below.refl _ _⟩
  case round =>
    obtain ⟨k, hk, rfl, NO, hbel⟩ := hrel
    by_cases hlt : k < l.length
    · obtain ⟨b, o, rfl, hb, c0, c1, c2, c3, c4⟩ := entsAt_kept hbel hi k hlt
      go_wp2_with fail
      refine (HP.out l[k] _ (HK.out _ _ HW.out hbel)).mono ?_
      rintro e w1 ⟨rfl, hb1⟩
      cases hq : q l[k] with
      | true =>
        have HQ := Lib.hid hq
        clear hq
        go_wp2
        go_ret
        refine ⟨ret_i64 ?_, kept_trans hbel hb1⟩
        exact (firstAt_hit hlt NO.out HQ.out).symm
      | false =>
        have HQ := Lib.hid hq
        clear hq
        go_wp2
        go_roundw
        case rel => exact ⟨k + 1, by omega, by go_num, Lib.hid (firstAt_miss hlt NO.out HQ.out), kept_trans hbel hb1⟩
        case measure => simp [intOf]; omega
    · go_wp2
      go_ret
      refine ⟨ret_i64 ?_, hbel⟩
      have := NO.out
      rw [List.take_of_length_le (by omega)] at this
      unfold firstAt
      rw [this]
end Go.Proofs.YtmbejeibcncmmaaGreat.Tr
namespace Go.Proofs.YtmbejeibcncmmaaGreat
open Go.RowKit

theorem setCells_row (g : Nat) (e : TypeId) : ∀ (vs : List Value) (o : Nat) (w : World) (cur : Array Value), w.heap[g]? = some (.cells cur e (0, 0)) →
    ∃ cur', (w.setCells g o vs).heap[g]? = some (.cells cur' e (0, 0)) ∧ cur'.size = cur.size ∧ cur'.toList.take o = cur.toList.take o
  | [], o, w, cur, h => ⟨cur, h, rfl, rfl⟩
  | v :: r, o, w, cur, h => by
    obtain ⟨cur', h1, h2, h3⟩ := setCells_row g e r (o + 1) (w.setCell ⟨g, o, none⟩ v) (cur.setIfInBounds o v) (heap_setCell_same w g o cur e v h)
    refine ⟨cur', h1, by simpa using h2, ?_⟩
    have h4 := congrArg (List.take o) h3
    rw [List.take_take, List.take_take, Nat.min_eq_left (by omega), Array.toList_setIfInBounds, List.take_set_of_le (Nat.le_refl o)] at h4
    exact h4
theorem setCells_turn (g : Nat) {F : Nat → Prop} (hg : F g) : ∀ (vs : List Value) (o : Nat) (w : World), Turn F F w (w.setCells g o vs)
  | [], _, _ => Turn.refl _ _
  | v :: r, o, w => (Turn.set w ⟨g, o, none⟩ v hg).trans (setCells_turn g hg r (o + 1) (w.setCell ⟨g, o, none⟩ v))
theorem row_cell {w : World} {e : TypeId} {size : Nat} {g cap n : Nat} {xs : List Value} (h : w.ownsRow 0 e size (.slice (some ⟨g, 0, none⟩) n cap) n xs) (j : Nat) (hj : j < n * size) : (w.cell? ⟨g, j, none⟩).isSome = true := by
  rw [h.cellAt j hj, List.getElem?_eq_getElem (by rw [h.1]; exact hj)]
  rfl
theorem row_cut {w : World} {e : TypeId} {size : Nat} {g cap n : Nat} {xs : List Value} (h : w.ownsRow 0 e size (.slice (some ⟨g, 0, none⟩) n cap) n xs) (i : Nat) (hi : i ≤ n) : w.ownsRow 0 e size (.slice (some ⟨g, 0, none⟩) i cap) i (xs.take (i * size)) := by
  have hle : i * size ≤ n * size := Nat.mul_le_mul_right _ hi
  rcases h.2 with ⟨h', _⟩ | ⟨g', cap', cur, h', hb, hg, hnc, hcm, hcs, htake⟩
  · simp at h'
  · simp only [Value.slice.injEq, Option.some.injEq, Addr.mk.injEq, and_true, true_and] at h'
    obtain ⟨rfl, rfl⟩ := h'
    refine ⟨by rw [List.length_take, h.1]; omega, .inr ⟨g, cap, cur, rfl, hb, hg, by omega, hcm, hcs, ?_⟩⟩
    rw [← htake, List.take_take, Nat.min_eq_left hle]
theorem clear_row {t e : TypeId} {size : Nat} (z : Value) (ht : Tryz.prog.underlying t = some (.slice e)) (hv : ∀ w, (zeroValue e).run Tryz.prog w = .ok z w) (hzs : z.cells.size = size) (hsz : 0 < size) (h1 : ∀ v ∈ z.cells.toList, v.oneCell' = true) {w : World} {g cap i n : Nat} {xs : List Value} (hi : i < n)
    (ho : w.ownsRow 0 e size (.slice (some ⟨g, 0, none⟩) n cap) n xs) : ∃ w', (∀ ty, (Builtin.clear_ #[t] ty #[.slice (some ⟨g, i * size, none⟩) (n - i) (cap - i)]).run Tryz.prog w = .ok (.tuple #[]) w') ∧
      w'.ownsRow 0 e size (.slice (some ⟨g, 0, none⟩) i cap) i (xs.take (i * size)) ∧ Turn (fun k => k = g) (fun k => k = g) w w' := by
  have hzl : (Builtin.zeroCells z.cells (n - i)).toList.length = (n - i) * size := by simp [Builtin.zeroCells, hzs]
  have hz1 : ∀ v ∈ (Builtin.zeroCells z.cells (n - i)).toList, v.oneCell' = true := by
    intro v hv
    simp only [Builtin.zeroCells, Array.toList_map, List.mem_map] at hv
    obtain ⟨j, _, rfl⟩ := hv
    have hj : j % z.cells.size < z.cells.size := Nat.mod_lt _ (by omega)
    rw [getElem!_pos z.cells _ hj]
    exact h1 _ (by simp)
  have hmul : i * size + (n - i) * size = n * size := by rw [← Nat.add_mul, Nat.add_sub_cancel' (Nat.le_of_lt hi)]
  have hst := run_storeCells_cells (P := Tryz.prog) g (i * size) (Builtin.zeroCells z.cells (n - i)).toList 0 w (fun j hj => row_cell ho _ (by omega)) (fun j hj => ho.frozenAt _) hz1
  simp only [Nat.add_zero] at hst
  refine ⟨w.setCells g (i * size) (Builtin.zeroCells z.cells (n - i)).toList, fun ty => ?_, ?_, setCells_turn g (F := fun k => k = g) rfl _ _ _⟩
  · obtain ⟨m, hm⟩ : ∃ m, n - i = m + 1 := ⟨n - i - 1, by omega⟩
    rw [hm] at hst ⊢
    simp [Builtin.clear_, run_underlying ht, hv, hst]
  · have hc := row_cut ho i (by omega)
    rcases hc.2 with ⟨h', _⟩ | ⟨g', cap', cur, h', hb, hg, hnc, hcm, hcs, htake⟩
    · simp at h'
    · simp only [Value.slice.injEq, Option.some.injEq, Addr.mk.injEq, and_true, true_and] at h'
      obtain ⟨rfl, rfl⟩ := h'
      obtain ⟨cur', q1, q2, q3⟩ := setCells_row g e (Builtin.zeroCells z.cells (n - i)).toList (i * size) w cur hg
      exact ⟨hc.1, .inr ⟨g, cap, cur', rfl, hb, q1, hnc, hcm, by rw [q2]; exact hcs, by rw [q3]; exact htake⟩⟩
/-- How a list is filtered in place: one step. -/
theorem drop_at {α : Type} {m l : List α} {j : Nat} (h : m.drop j = l.drop j) (hm : j < m.length) (hl : j < l.length) : m[j] = l[j] ∧ m.drop (j + 1) = l.drop (j + 1) := by
  rw [List.drop_eq_getElem_cons hm, List.drop_eq_getElem_cons hl] at h
  exact List.cons.inj h
theorem take_filter_out {α : Type} {q : α → Bool} {m l : List α} {i j : Nat} (hl : j < l.length) (h : m.take i = (l.take j).filter q) (hq : q l[j] = false) : m.take i = (l.take (j + 1)).filter q := by
  rw [List.take_succ_eq_append_getElem hl, List.filter_append, List.filter_cons_of_neg (by rw [hq]; simp), List.filter_nil, List.append_nil]
  exact h
theorem take_filter_in {α : Type} {q : α → Bool} {m l : List α} {i j : Nat} (hi : i < m.length) (hl : j < l.length) (h : m.take i = (l.take j).filter q) (hq : q l[j] = true) : (m.set i l[j]).take (i + 1) = (l.take (j + 1)).filter q := by
  rw [List.take_succ_eq_append_getElem hl, List.filter_append, List.filter_cons_of_pos hq, List.filter_nil, List.take_succ_eq_append_getElem (by simpa using hi), List.take_set_of_le (Nat.le_refl i), h]
  simp
theorem drop_set {α : Type} {m : List α} {i j : Nat} (x : α) (h : i < j) : (m.set i x).drop j = m.drop j := by rw [List.drop_set_of_lt h]
theorem take_filter_start {α : Type} {q : α → Bool} {l : List α} {i : Nat} (h : l.findIdx? q = some i) : l.take i = (l.take (i + 1)).filter (fun e => !q e) := by
  obtain ⟨hi, h1, h2⟩ := List.findIdx?_eq_some_iff_getElem.1 h
  refine take_filter_out hi ?_ (by rw [h1]; rfl)
  rw [List.filter_eq_self.2]
  intro x hx
  obtain ⟨j, hj, rfl⟩ := List.mem_take_iff_getElem.1 hx
  have := h2 j (by omega)
  simpa using this
theorem filter_none {α : Type} {q : α → Bool} {l : List α} (h : l.findIdx? q = none) : l.filter (fun e => !q e) = l := by
  rw [List.filter_eq_self]
  intro x hx
  rw [List.findIdx?_eq_none_iff.1 h x hx]
  rfl
end Go.Proofs.YtmbejeibcncmmaaGreat
namespace Go.Proofs.YtmbejeibcncmmaaGreat.Tr
open Go.RowKit

/-- The cells of entries, one after the other. -/
def entsC (l : List TEnt) : List Value := l.flatMap entC
theorem entC_length (e : TEnt) : (entC e).length = 5 := rfl
theorem entsC_length (l : List TEnt) : (entsC l).length = l.length * 5 := by
  induction l with
  | nil => rfl
  | cons a r ih => simp only [entsC, List.flatMap_cons, List.length_append, entC_length, List.length_cons] at ih ⊢; omega
theorem entsC_append (a b : List TEnt) : entsC (a ++ b) = entsC a ++ entsC b := by simp [entsC]
theorem entsC_at : ∀ (l : List TEnt) (i : Nat) (h : i < l.length) (j : Nat), j < 5 → (entsC l)[i * 5 + j]? = (entC l[i])[j]?
  | [], i, h, _, _ => absurd h (by simp)
  | a :: r, 0, _, j, hj => by
    show (entC a ++ entsC r)[0 * 5 + j]? = _
    rw [List.getElem?_append_left (by rw [entC_length]; omega)]
    simp
  | a :: r, i + 1, h, j, hj => by
    show (entC a ++ entsC r)[(i + 1) * 5 + j]? = _
    rw [List.getElem?_append_right (by rw [entC_length]; omega), entC_length, show (i + 1) * 5 + j - 5 = i * 5 + j by omega, entsC_at r i (by simpa using h) j hj]
    rfl
theorem entsC_take : ∀ (l : List TEnt) (i : Nat), entsC (l.take i) = (entsC l).take (i * 5)
  | [], i => by simp [entsC]
  | a :: r, 0 => by simp [entsC]
  | a :: r, i + 1 => by
    show entC a ++ entsC (r.take i) = (entC a ++ entsC r).take ((i + 1) * 5)
    rw [entsC_take r i, List.take_append, entC_length, show (i + 1) * 5 - 5 = i * 5 by omega, List.take_of_length_le (l := entC a) (by rw [entC_length]; omega)]
theorem entsC_set : ∀ (l : List TEnt) (i : Nat) (e : TEnt), entsC (l.set i e) = (((((entsC l).set (i * 5) (.int .i64 e.peer)).set (i * 5 + 1) (.int .u64 e.id.toNat)).set (i * 5 + 2) (.bool e.pref)).set (i * 5 + 3) (.int .i64 e.st)).set (i * 5 + 4) (.int .i64 e.till)
  | [], i, e => by simp [entsC]
  | a :: r, 0, e => by simp [entsC, entC]
  | a :: r, i + 1, e => by
    have h := entsC_set r i e
    have hs : ∀ (x : List Value) (n : Nat) (v : Value), (entC a ++ x).set ((i + 1) * 5 + n) v = entC a ++ x.set (i * 5 + n) v := fun x n v => by
      rw [List.set_append_right _ _ (by rw [entC_length]; omega), entC_length, show (i + 1) * 5 + n - 5 = i * 5 + n by omega]
    have hs0 := fun x v => hs x 0 v
    simp only [Nat.add_zero] at hs0
    show entC a ++ entsC (r.set i e) = _
    rw [h]
    show _ = (((((entC a ++ entsC r).set ((i + 1) * 5) (.int .i64 e.peer)).set ((i + 1) * 5 + 1) (.int .u64 e.id.toNat)).set ((i + 1) * 5 + 2) (.bool e.pref)).set ((i + 1) * 5 + 3) (.int .i64 e.st)).set ((i + 1) * 5 + 4) (.int .i64 e.till)
    rw [hs0, hs, hs, hs, hs]

/-- The slice v holds these entries, in a block of its own. -/
abbrev OwnEnts (w : World) (v : Value) (l : List TEnt) : Prop := w.ownsRow 0 145 5 v l.length (entsC l)
theorem ownEnts_form {w : World} {v : Value} {l : List TEnt} (h : OwnEnts w v l) : ∃ a cap, v = .slice a l.length cap ∧ l.length ≤ cap ∧ EntsAt w a l := by
  rcases h.2 with ⟨hv, hn⟩ | ⟨g, cap, cur, hv, hB, hg, hc, _, _, _⟩
  · exact ⟨none, 0, by rw [hn]; exact hv, by omega, fun i hi => absurd hi (by omega)⟩
  · refine ⟨some ⟨g, 0, none⟩, cap, hv, hc, fun i hi => ⟨g, 0, rfl, (Array.getElem?_eq_some_iff.1 hg).1, ?_⟩⟩
    have hh := h
    rw [hv] at hh
    have hat : ∀ j, j < 5 → w.cell? ⟨g, 0 + i * 5 + j, none⟩ = (entC l[i])[j]? := fun j hj => by
      rw [Nat.zero_add, hh.cellAt (i * 5 + j) (by omega)]
      exact entsC_at l i hi j hj
    exact ⟨hat 0 (by omega), hat 1 (by omega), hat 2 (by omega), hat 3 (by omega), hat 4 (by omega)⟩
/-- The owned slice in the case that it is not nil. -/
theorem ownEnts_some {w : World} {g cap n : Nat} {l : List TEnt} (h : OwnEnts w (.slice (some ⟨g, 0, none⟩) n cap) l) (i : Nat) (hi : i < l.length) : EntAt w g (i * 5) l[i] ∧ (∀ j, w.frozen? ⟨g, j, none⟩ = false) ∧ g < w.heap.size := by
  obtain ⟨a, c, e, _, hat⟩ := ownEnts_form h
  simp only [Value.slice.injEq] at e
  obtain ⟨rfl, rfl, rfl⟩ := e
  obtain ⟨b, o, e, hb, hc⟩ := hat i hi
  simp only [Option.some.injEq, Addr.mk.injEq, and_true] at e
  obtain ⟨rfl, rfl⟩ := e
  rw [Nat.zero_add] at hc
  exact ⟨hc, fun j => h.frozenAt j, hb⟩

theorem zero_ent (w : World) : (zeroValue 145).run Tryz.prog w = .ok (.agg #[.int .i64 0, .int .u64 0, .bool false, .int .i64 0, .int .i64 0]) w := by kernel_rfl
theorem ents_clear {w : World} {g cap i n : Nat} {m : List TEnt} (hi : i < n) (hn : m.length = n) (ho : OwnEnts w (.slice (some ⟨g, 0, none⟩) n cap) m) :
    ∃ w', (∀ ty, (Builtin.clear_ #[155] ty #[.slice (some ⟨g, i * 5, none⟩) (n - i) (cap - i)]).run Tryz.prog w = .ok (.tuple #[]) w') ∧ OwnEnts w' (.slice (some ⟨g, 0, none⟩) i cap) (m.take i) ∧ Turn (fun k => k = g) (fun k => k = g) w w' := by
  subst hn
  obtain ⟨w', h1, h2, h3⟩ := clear_row (t := 155) _ Tryz.underlying155 zero_ent rfl (by decide) (by decide) hi ho
  refine ⟨w', h1, ?_, h3⟩
  unfold OwnEnts
  rw [entsC_take, List.length_take, Nat.min_eq_left (Nat.le_of_lt hi)]
  exact h2
/-- An entry is stored in its place. -/
def set5 (w : World) (g i : Nat) (e : TEnt) : World :=
  ((((w.setCell ⟨g, i * 5, none⟩ (.int .i64 e.peer)).setCell ⟨g, i * 5 + 1, none⟩ (.int .u64 e.id.toNat)).setCell ⟨g, i * 5 + 2, none⟩ (.bool e.pref)).setCell ⟨g, i * 5 + 3, none⟩ (.int .i64 e.st)).setCell ⟨g, i * 5 + 4, none⟩ (.int .i64 e.till)
theorem set5_own {w : World} {g cap n : Nat} {m : List TEnt} (ho : OwnEnts w (.slice (some ⟨g, 0, none⟩) n cap) m) (hn : m.length = n) (i : Nat) (e : TEnt) : OwnEnts (set5 w g i e) (.slice (some ⟨g, 0, none⟩) n cap) (m.set i e) ∧ Turn (fun k => k = g) (fun k => k = g) w (set5 w g i e) := by
  subst hn
  refine ⟨?_, ((((Turn.set (F := fun k => k = g) w ⟨g, i * 5, none⟩ _ rfl).trans (Turn.set _ ⟨g, i * 5 + 1, none⟩ _ rfl)).trans (Turn.set _ ⟨g, i * 5 + 2, none⟩ _ rfl)).trans (Turn.set _ ⟨g, i * 5 + 3, none⟩ _ rfl)).trans (Turn.set _ ⟨g, i * 5 + 4, none⟩ _ rfl)⟩
  unfold OwnEnts
  rw [entsC_set, List.length_set]
  exact ((((((((ho.stored _ _).1).stored _ _).1).stored _ _).1).stored _ _).1.stored _ _).1
theorem set5_K {K : World → Prop} {g : Nat} (h : ∀ a j u, K a → K (a.setCell ⟨g, j, none⟩ u)) {w : World} (hw : K w) (i : Nat) (e : TEnt) : K (set5 w g i e) := h _ _ _ (h _ _ _ (h _ _ _ (h _ _ _ (h _ _ _ hw))))

theorem deleteFunc_any (K : World → Prop) (hK : ∀ a b, K a → Below a.heap.size a b → K b) (f : FuncId) (fc : Array Value) (q : TEnt → Bool) (hp : Picks K f fc q) (l : List TEnt) (g cap : Nat) (w : World) (hw : K w) (hKs : ∀ a j u, K a → K (a.setCell ⟨g, j, none⟩ u)) (hl : l.length ≤ 8)
    (ho : OwnEnts w (.slice (some ⟨g, 0, none⟩) l.length cap) l) :
    Calls Tryz.prog 99 #[.slice (some ⟨g, 0, none⟩) l.length cap, .func (.func f) #[] fc] w fun e w' => ∃ n c, e = .returned (.slice (some ⟨g, 0, none⟩) n c) ∧ OwnEnts w' (.slice (some ⟨g, 0, none⟩) n c) (l.filter fun e => !q e) ∧ Turn (fun k => k = g) (fun k => k = g) w w' := by
  have hcf := hp.1
  have HPP := Lib.hid hp
  have HP := Lib.hid hp.2
  have HK := Lib.hid hK
  have HKs := Lib.hid hKs
  have HW := Lib.hid hw
  clear hp hK hw hKs
  obtain ⟨a0, c0, e0, hc0, hat⟩ := ownEnts_form ho
  simp only [Value.slice.injEq, true_and] at e0
  obtain ⟨rfl, rfl⟩ := e0
  have HO := Lib.hid ho
  clear ho
  go_enter Tryz.func99, Tryz.ntmps99
  go_wp2_with fail
  refine (indexFunc_any K HK.out f fc q HPP.out l _ _ w HW.out hl hat).mono ?_
  rintro e w1 ⟨rfl, hb1⟩
  cases hx : l.findIdx? q with
  | none =>
    have e1 : firstAt q l = -1 := by unfold firstAt; rw [hx]
    have HX := Lib.hid hx
    rw [e1]
    clear hx e1
    go_wp2
    go_ret
    exact ⟨_, _, rfl, by rw [filter_none HX.out]; exact owns_below HO.out hb1, Turn.of_below hb1⟩
  | some i0 =>
    have e1 : firstAt q l = (i0 : Int) := by unfold firstAt; rw [hx]
    have hi0 : i0 < l.length := by have := List.findIdx?_eq_some_iff_getElem.1 hx; exact this.1
    have HX := Lib.hid hx
    have hne : ((i0 : Int) == -1) = false := by rw [beq_eq_false_iff_ne]; omega
    rw [e1]
    clear hx e1
    go_wp2
    go_loopw [5, 6] (fun vi vj wr => ∃ (i j : Nat) (m : List TEnt), vi = .int .i64 i ∧ vj = .int .i64 j ∧ i < j ∧ j ≤ l.length ∧ m.length = l.length ∧ Hid (OwnEnts wr (.slice (some ⟨g, 0, none⟩) l.length cap) m) ∧
      Hid (m.take i = (l.take j).filter (fun e => !q e)) ∧ Hid (m.drop j = l.drop j) ∧ Hid (Turn (fun k => k = g) (fun k => k = g) w wr) ∧ Hid (K wr)) (fun _ j _ => l.length - (intOf j).toNat)
    case atStart => exact ⟨i0, i0 + 1, l, rfl, by go_num, by omega, by omega, rfl, Lib.hid (owns_below HO.out hb1), Lib.hid (take_filter_start HX.out), Lib.hid rfl, Lib.hid (Turn.of_below hb1), Lib.hid (HK.out _ _ HW.out hb1)⟩
    case round =>
      obtain ⟨i, j, m, rfl, rfl, hij, hj, hml, HO, HT, HD, HU, HKw⟩ := hrel
      by_cases hlt : j < l.length
      · obtain ⟨⟨c0, c1, c2, c3, c4⟩, _, hgl⟩ := ownEnts_some HO.out j (by omega)
        go_wp2_with fail
        refine (HP.out m[j] _ (HK.out _ _ HKw.out (kept_new _ _))).mono ?_
        rintro e w2 ⟨rfl, hb2⟩
        have hb3 := kept_trans (kept_new _ _) hb2
        cases hq : q m[j] with
        | true =>
          have HQ := Lib.hid hq
          clear hq
          go_wp2
          go_roundw
          case rel =>
            obtain ⟨hm1, hm2⟩ := drop_at HD.out (by omega) hlt
            exact ⟨i, j + 1, m, rfl, by go_num, by omega, by omega, hml, Lib.hid (owns_below HO.out hb3), Lib.hid (take_filter_out hlt HT.out (by rw [← hm1, HQ.out]; rfl)), Lib.hid hm2, Lib.hid (HU.out.trans (Turn.of_below hb3)), Lib.hid (HK.out _ _ HKw.out hb3)⟩
          case measure => simp [intOf]; omega
        | false =>
          have HQ := Lib.hid hq
          clear hq
          obtain ⟨d0, d1, d2, d3, d4⟩ : EntAt w2 wr.heap.size 0 m[j] := entAt_kept hb2 ⟨by simp [go_sem], by simp [go_sem], by simp [go_sem], by simp [go_sem], by simp [go_sem]⟩
          obtain ⟨⟨k0, k1, k2, k3, k4⟩, kf, hgl2⟩ := ownEnts_some (owns_below HO.out hb3) i (by omega)
          have f0 := kf (i * 5)
          have f1 := kf (i * 5 + 1)
          have f2 := kf (i * 5 + 2)
          have f3 := kf (i * 5 + 3)
          have f4 := kf (i * 5 + 4)
          clear kf
          go_wp2
          go_roundw
          case rel =>
            obtain ⟨hm1, hm2⟩ := drop_at HD.out (by omega) hlt
            obtain ⟨r1, r2⟩ := set5_own (owns_below HO.out hb3) hml i m[j]
            exact ⟨i + 1, j + 1, m.set i m[j], by go_num, by go_num, by omega, by omega, by simpa using hml, Lib.hid r1, Lib.hid (by rw [hm1]; exact take_filter_in (by omega) hlt HT.out (by rw [← hm1, HQ.out]; rfl)), Lib.hid (by rw [drop_set _ (by omega)]; exact hm2), Lib.hid ((HU.out.trans (Turn.of_below hb3)).trans r2), Lib.hid (set5_K HKs.out (HK.out _ _ HKw.out hb3) i m[j])⟩
          case measure => simp [intOf]; omega
      · obtain ⟨w3, hcl, ho3, ht3⟩ := ents_clear (i := i) (by omega) hml HO.out
        have HO3 := Lib.hid ho3
        have HT3 := Lib.hid ht3
        clear ho3 ht3
        go_wp2_with fail
        go_ret
        have hj' : j = l.length := by omega
        have h4 := HT.out
        rw [hj', List.take_of_length_le (Nat.le_refl _)] at h4
        exact ⟨_, _, rfl, by rw [← h4]; exact HO3.out, HU.out.trans HT3.out⟩
end Go.Proofs.YtmbejeibcncmmaaGreat.Tr
namespace Go.Proofs.YtmbejeibcncmmaaGreat
open Go.RowKit

/-- The memory behind a slice's address holds these IDs. -/
def IdsAt (w : World) (a : Option Addr) (l : List UInt64) : Prop :=
  ∀ i (h : i < l.length), ∃ b o, a = some ⟨b, o, none⟩ ∧ b < w.heap.size ∧ w.cell? ⟨b, o + i, none⟩ = some (.int .u64 l[i].toNat)
theorem idsAt_kept {a b : World} {x : Option Addr} {l : List UInt64} (h : Below a.heap.size a b) (hi : IdsAt a x l) : IdsAt b x l := fun i hl => by
  obtain ⟨bb, o, e, hb, c0⟩ := hi i hl
  exact ⟨bb, o, e, Nat.lt_of_lt_of_le hb h.size, kept_cell h c0⟩
theorem idsAt_nil (w : World) (a : Option Addr) : IdsAt w a [] := fun i hi => absurd hi (by simp)
theorem idsAt_take {w : World} {a : Option Addr} {l : List UInt64} (k : Nat) (h : IdsAt w a l) : IdsAt w a (l.take k) := fun i hi => by
  have h1 : i < l.length := by rw [List.length_take] at hi; omega
  rw [List.getElem_take]
  exact h i h1
theorem idsAt_set {w : World} {a : Option Addr} {l : List UInt64} {n : Nat} {p : Addr} (h : IdsAt w a l) (hf : Fresh n a) (hp : p.block < n) (v : Value) : IdsAt (w.setCell p v) a l := fun i hi => by
  obtain ⟨b, o, e, hb, c0⟩ := h i hi
  have hn : b ≠ p.block := by have := hf b o none e; omega
  have hs : ∀ oo, (w.setCell p v).cell? ⟨b, oo, none⟩ = w.cell? ⟨b, oo, none⟩ := fun oo => World.cell?_of_block (w := w) (a := ⟨b, oo, none⟩) (Below.heap_setCell w p v b hn)
  exact ⟨b, o, e, by simpa using hb, by rw [hs]; exact c0⟩

theorem contains_id {l : List UInt64} {x : UInt64} {k : Nat} (h : k < l.length) (e : x = l[k]) : l.contains x = true := by
  rw [List.contains_iff_mem]; rw [e]; exact List.getElem_mem h
theorem take_contains_id {l : List UInt64} {x : UInt64} {k : Nat} (h : k < l.length) (n : (l.take k).contains x = false) (e : x ≠ l[k]) : (l.take (k + 1)).contains x = false := by
  rw [List.take_succ_eq_append_getElem h, ← Bool.not_eq_true, List.contains_iff_mem, List.mem_append, not_or]
  refine ⟨by rw [← List.contains_iff_mem, n]; simp, by simpa using e⟩

theorem hasID_any (l : List UInt64) (x : UInt64) (r : Bool) (HR : Hid (l.contains x = r)) (a : Option Addr) (cap : Nat) (w : World) (hl : l.length ≤ maxLen) (hi : IdsAt w a l) :
    Calls Tryz.prog 28 #[.slice a l.length cap, .int .u64 x.toNat] w fun e w' => e = .returned (.bool r) ∧ w = w' := by
  unfold maxLen at hl
  go_enter Tryz.func28, Tryz.ntmps28
  go_wp2
  go_loop [9] (fun i => ∃ k : Nat, k ≤ l.length ∧ i = .int .i64 k ∧ Hid ((l.take k).contains x = false)) (fun i => l.length - (intOf i).toNat)
  case atStart => exact ⟨0, Nat.zero_le _, rfl, Lib.hid rfl⟩
  case round =>
    obtain ⟨k, hk, rfl, NO⟩ := hrel
    by_cases hlt : k < l.length
    · obtain ⟨b, o, rfl, hb, hd⟩ := hi k hlt
      by_cases hx : x = l[k]
      · have hxb : ((x.toNat : Int) == (l[k].toNat : Int)) = true := by rw [u64_beq]; exact beq_iff_eq.2 hx
        have HX := Lib.hid hx
        clear hx
        go_wp2
        go_ret
        exact ⟨ret_bool ((contains_id hlt HX.out).symm.trans HR.out), rfl⟩
      · have hxb : ((x.toNat : Int) == (l[k].toNat : Int)) = false := by rw [u64_beq]; exact beq_eq_false_iff_ne.2 hx
        have HX := Lib.hid hx
        clear hx
        go_wp2
        go_round
        case rel => exact ⟨k + 1, by omega, by go_num, Lib.hid (take_contains_id hlt NO.out HX.out)⟩
        case measure => simp [intOf]; omega
    · go_wp2
      go_ret
      refine ⟨ret_bool ?_, rfl⟩
      have := NO.out
      rw [List.take_of_length_le (by omega)] at this
      exact this.symm.trans HR.out
theorem hasID_take (l : List UInt64) (k : Nat) (r : Bool) (x : UInt64) (a : Option Addr) (cap : Nat) (w : World) (hk : k ≤ l.length) (hl : l.length ≤ maxLen) (hi : IdsAt w a l) (h : (l.take k).contains x = r) :
    Calls Tryz.prog 28 #[.slice a k cap, .int .u64 x.toNat] w fun e w' => e = .returned (.bool r) ∧ w = w' := by
  have := hasID_any (l.take k) x r (Lib.hid h) a cap w (by rw [List.length_take]; omega) (idsAt_take k hi)
  rw [List.length_take, Nat.min_eq_left hk] at this
  exact this

end Go.Proofs.YtmbejeibcncmmaaGreat
