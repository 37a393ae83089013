/-
  The IDs of a parent and of a child that pays for it differ, for each weight and each fee of the law's: by computing them.
-/
import Derived.Test.YtaaaplbjeknbkaaGreatNLaws12
set_option maxRecDepth 20000
namespace Go.Proofs.YtaaaplbjeknbkaaGreat
open Go.RowKit

def hst (x c : Nat) : Nat := Nat.mod (Nat.mul (Nat.xor x c) 1099511628211) 18446744073709551616
def force (n : Nat) (k : Nat → Bool) : Bool := match n with
  | 0 => k 0
  | m + 1 => k (m + 1)
theorem force_eq (n : Nat) (k : Nat → Bool) : force n k = k n := by cases n <;> rfl
def pHf (h5 f : Nat) : Nat := hst (hst h5 (Nat.mod (Nat.div f 256) 256)) (Nat.mod f 256)
def btN (x k : Nat) : Nat := Nat.mod (Nat.div x k) 256
def c8 (a x : Nat) : Nat := hst (hst (hst (hst (hst (hst (hst (hst a (btN x 72057594037927936)) (btN x 281474976710656)) (btN x 1099511627776)) (btN x 4294967296)) (btN x 16777216)) (btN x 65536)) (btN x 256)) (btN x 1)
def c6 (a F : Nat) : Nat := hst (hst (hst (hst (hst (hst a 1) 1) 0) 10) (Nat.mod (Nat.div F 256) 256)) (Nat.mod F 256)
def goF (a0 h5 F : Nat) : Nat → Bool
  | 0 => true
  | f + 1 => force (pHf h5 f) fun x => force (c8 a0 x) fun a => force (c6 a F) fun c => (!(Nat.beq c x)) && goF a0 h5 F f
def h3N : Nat := hst (hst (hst 14695981039346656037 68) 0) 2
def a0N : Nat := hst (hst 14695981039346656037 68) 1
def h5N (W : Nat) : Nat := hst (hst h3N (Nat.mod (Nat.div W 256) 256)) (Nat.mod W 256)
def goW (base : Nat) : Nat → Bool
  | 0 => true
  | k + 1 => force (base + k) fun W => force (h5N W) fun h5 => force a0N fun a => goF a h5 (Nat.add (Nat.div W 10) 2) (Nat.div W 10) && goW base k
theorem goF_all {a0 h5 F : Nat} : ∀ {n : Nat}, goF a0 h5 F n = true → ∀ f, f < n → c6 (c8 a0 (pHf h5 f)) F ≠ pHf h5 f
  | 0, _, f, hf => absurd hf (by omega)
  | n + 1, h, f, hf => by
    unfold goF at h
    simp only [force_eq, Bool.and_eq_true] at h
    by_cases e : f = n
    · rw [e]
      intro e2
      rw [e2] at h
      simp at h
    · exact goF_all h.2 f (by omega)
theorem goW_all {base : Nat} : ∀ {n : Nat}, goW base n = true → ∀ W, base ≤ W → W < base + n → ∀ f, f < W / 10 → c6 (c8 a0N (pHf (h5N W) f)) (W / 10 + 2) ≠ pHf (h5N W) f
  | 0, _, W, h1, h2, _, _ => absurd h2 (by omega)
  | n + 1, h, W, h1, h2, f, hf => by
    unfold goW at h
    simp only [force_eq, Bool.and_eq_true] at h
    by_cases e : W = base + n
    · subst e
      exact goF_all h.1 f hf
    · exact goW_all h.2 W h1 (by omega) f hf
theorem w0 : goW 20 300 = true := by decide +kernel
theorem w1 : goW 320 300 = true := by decide +kernel
theorem w2 : goW 620 300 = true := by decide +kernel
theorem paid_nat {W f : Nat} (h : 20 ≤ W ∧ W < 920) (hf : f < W / 10) : c6 (c8 a0N (pHf (h5N W) f)) (W / 10 + 2) ≠ pHf (h5N W) f := by
  by_cases h1 : W < 320
  · exact goW_all w0 W h.1 (by omega) f hf
  · by_cases h2 : W < 620
    · exact goW_all w1 W (by omega) (by omega) f hf
    · exact goW_all w2 W (by omega) (by omega) f hf
theorem step_nat (x : UInt64) (c : UInt8) : (ofStep x c).toNat = hst x.toNat c.toNat := by
  unfold ofStep hst
  rw [UInt64.toNat_mul, UInt64.toNat_xor]
  have : c.toUInt64.toNat = c.toNat := UInt8.toNat_toUInt64 c
  rw [this]
  rfl
theorem fold_nat : ∀ (l : List UInt8) (s : UInt64), (l.foldl ofStep s).toNat = (l.map fun c => c.toNat).foldl hst s.toNat
  | [], _ => rfl
  | c :: r, s => by rw [List.foldl_cons, fold_nat r, step_nat, List.map_cons, List.foldl_cons]
theorem byte_nat (n : Nat) : (UInt8.ofNat n).toNat = n % 256 := by simp
theorem id_nat (d : DeedD) : (Ju.idD d).toNat = ((encB d).map fun c => c.toNat).foldl hst 14695981039346656037 := by
  unfold Ju.idD ofU
  rw [fold_nat]
  rfl
/-- The law's two deeds. -/
def parD (W f : Nat) : DeedD := ⟨[], 2, W, f⟩
def kidD (x : UInt64) (W : Nat) : DeedD := ⟨[(x, 1)], 1, 10, ((W / 10 + 2 : Nat) : Int)⟩
theorem div_two (a b : Nat) : Nat.div a b = a / b := rfl
theorem mod_two (a : Nat) : Nat.mod a 256 = a % 256 := rfl
theorem par_list (W f : Nat) : ((encB (parD W f)).map fun c => c.toNat) = [68, 0, 2, W / 256 % 256, W % 256, f / 256 % 256, f % 256] := by
  simp [parD, encB, encL, be]
theorem kid_list (x : UInt64) (W : Nat) : ((encB (kidD x W)).map fun c => c.toNat) = [68, 1, x.toNat / 72057594037927936 % 256, x.toNat / 281474976710656 % 256, x.toNat / 1099511627776 % 256, x.toNat / 4294967296 % 256, x.toNat / 16777216 % 256, x.toNat / 65536 % 256, x.toNat / 256 % 256, x.toNat / 1 % 256, 1, 1, 0, 10, (W / 10 + 2) / 256 % 256, (W / 10 + 2) % 256] := by
  have e : (((W / 10 + 2 : Nat) : Int)).toNat = W / 10 + 2 := Int.toNat_natCast _
  unfold kidD encB encL inB
  simp only [e]
  simp [be, Nat.div_div_eq_div_mul]
theorem fold_seven (h : Nat → Nat → Nat) (o a b c d e f g : Nat) : [a, b, c, d, e, f, g].foldl h o = h (h (h (h (h (h (h o a) b) c) d) e) f) g := rfl
theorem fold_more (h : Nat → Nat → Nat) (o a b c d e f g a1 b1 c1 d1 e1 f1 g1 h1 i1 : Nat) : [a, b, c, d, e, f, g, a1, b1, c1, d1, e1, f1, g1, h1, i1].foldl h o = h (h (h (h (h (h (h (h (h (h (h (h (h (h (h (h o a) b) c) d) e) f) g) a1) b1) c1) d1) e1) f1) g1) h1) i1 := rfl
theorem par_list2 (W f : Nat) : ((encB (parD W f)).map fun c => c.toNat) = [68, 0, 2, Nat.mod (Nat.div W 256) 256, Nat.mod W 256, Nat.mod (Nat.div f 256) 256, Nat.mod f 256] := par_list W f
theorem kid_list2 (x : UInt64) (W : Nat) : ((encB (kidD x W)).map fun c => c.toNat) = [68, 1, btN x.toNat 72057594037927936, btN x.toNat 281474976710656, btN x.toNat 1099511627776, btN x.toNat 4294967296, btN x.toNat 16777216, btN x.toNat 65536, btN x.toNat 256, btN x.toNat 1, 1, 1, 0, 10, Nat.mod (Nat.div (W / 10 + 2) 256) 256, Nat.mod (W / 10 + 2) 256] := kid_list x W
theorem pHf_is (a f : Nat) : pHf a f = hst (hst a (Nat.mod (Nat.div f 256) 256)) (Nat.mod f 256) := by unfold pHf; with_reducible rfl
theorem h5N_is (W : Nat) : h5N W = hst (hst (hst (hst (hst 14695981039346656037 68) 0) 2) (Nat.mod (Nat.div W 256) 256)) (Nat.mod W 256) := by unfold h5N h3N; with_reducible rfl
theorem c8_is (a x : Nat) : c8 a x = hst (hst (hst (hst (hst (hst (hst (hst a (btN x 72057594037927936)) (btN x 281474976710656)) (btN x 1099511627776)) (btN x 4294967296)) (btN x 16777216)) (btN x 65536)) (btN x 256)) (btN x 1) := by unfold c8; with_reducible rfl
theorem c6_is (a F : Nat) : c6 a F = hst (hst (hst (hst (hst (hst a 1) 1) 0) 10) (Nat.mod (Nat.div F 256) 256)) (Nat.mod F 256) := by unfold c6; with_reducible rfl
theorem a0_is : a0N = hst (hst 14695981039346656037 68) 1 := by unfold a0N; with_reducible rfl
theorem par_nat (W f : Nat) : (Ju.idD (parD W f)).toNat = pHf (h5N W) f := by
  rw [id_nat, par_list2, fold_seven, pHf_is, h5N_is]
theorem kid_nat (x : UInt64) (W : Nat) : (Ju.idD (kidD x W)).toNat = c6 (c8 a0N x.toNat) (W / 10 + 2) := by
  rw [id_nat, kid_list2, fold_more, c6_is, c8_is, a0_is]
theorem paid_ids {W f : Nat} (h : 20 ≤ W ∧ W < 920) (hf : f < W / 10) : Ju.idD (kidD (Ju.idD (parD W f)) W) ≠ Ju.idD (parD W f) := fun e => by
  have h1 := congrArg UInt64.toNat e
  rw [kid_nat, par_nat] at h1
  exact paid_nat h hf h1
end Go.Proofs.YtaaaplbjeknbkaaGreat
