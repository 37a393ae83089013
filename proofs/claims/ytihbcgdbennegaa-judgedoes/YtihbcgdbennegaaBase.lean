/-
  What the walks of every seat share: worlds that only grew, boxes, byte slices, strings. No function of a program is named here.
-/
import Derived.Test.YtihbcgdbennegaaChecked
import Derived.WalkKit
import Derived.Outline
import Derived.WalkLawsBesides
import Derived.WalkSpells
import Derived.Lib.Hide
import Derived.Lib.ConvBytes
import Derived.Lib.Strings
import Derived.DeepKeys4
import Derived.Maps.Keyed
import Derived.IntWalk
import Derived.Test.YtihbcgdbennegaaSets
import Derived.Test.YtihbcgdbennegaaDeedMath
import Derived.Test.YtihbcgdbennegaaBytes
namespace Go.Proofs.Ytihbcgdbennegaa
open Go.RowKit

theorem ret_bool {a b : Bool} (h : a = b) : Ending.returned (.bool a) = .returned (.bool b) := by rw [h]
theorem ret_i64 {a b : Int} (h : a = b) : Ending.returned (.int .i64 a) = .returned (.int .i64 b) := by rw [h]
theorem kept_trans {a b c : World} (h : Below a.heap.size a b) (k : Below b.heap.size b c) : Below a.heap.size a c := h.trans (k.mono h.size)
theorem kept_alloc {a b : World} (h : Below a.heap.size a b) (o : Obj) : Below a.heap.size a (b.alloc o) := h.alloc h.size o
theorem kept_new (a : World) (o : Obj) : Below a.heap.size a (a.alloc o) := kept_alloc (Below.refl _ _) o
theorem kept_cell {a b : World} (h : Below a.heap.size a b) {p : Addr} {v : Value} (hc : a.cell? p = some v) : b.cell? p = some v := cell_later h hc
/-- The two cells of a boxed pair, in whatever later world. -/
theorem box_pair {w wr : World} {u v : Value} {t : TypeId} (h : Below (w.alloc (.cells #[u, v] t)).heap.size (w.alloc (.cells #[u, v] t)) wr) :
    wr.cell? ⟨w.heap.size, 0, none⟩ = some u ∧ wr.cell? ⟨w.heap.size, 1, none⟩ = some v ∧ w.heap.size < wr.heap.size :=
  ⟨kept_cell h (by simp [go_sem]), kept_cell h (by simp [go_sem]), by have := h.size; simp at this; omega⟩
theorem wf_u64_of (u : UInt64) : (Lit.int .u64 u.toNat).wf = true := by
  have := u.toNat_lt
  simp only [Lit.wf, Bool.and_eq_true, decide_eq_true_eq]
  exact ⟨by show (0 : Int) ≤ _; omega, by show _ ≤ (18446744073709551615 : Int); omega⟩
theorem laid : laidOutB Try.prog = true := by kernel_rfl
theorem zero_bool (w : World) : (zeroValue 4).run Try.prog w = .ok (.bool false) w := by kernel_rfl
/-- The four cells of a boxed deed, in whatever later world. -/
theorem box_four {w wr : World} {u v x y : Value} {t : TypeId} (h : Below (w.alloc (.cells #[u, v, x, y] t)).heap.size (w.alloc (.cells #[u, v, x, y] t)) wr) :
    wr.cell? ⟨w.heap.size, 0, none⟩ = some u ∧ wr.cell? ⟨w.heap.size, 1, none⟩ = some v ∧ wr.cell? ⟨w.heap.size, 2, none⟩ = some x ∧ wr.cell? ⟨w.heap.size, 3, none⟩ = some y ∧ w.heap.size < wr.heap.size :=
  ⟨kept_cell h (by simp [go_sem]), kept_cell h (by simp [go_sem]), kept_cell h (by simp [go_sem]), kept_cell h (by simp [go_sem]), by have := h.size; simp at this; omega⟩
theorem info_u8 : (Try.prog.info? 5).map (fun i => (i.zero, i.size, i.bytes)) = some (some (.int .u8 0), 1, 1) := by kernel_rfl
abbrev Bytes (w : World) (B : Nat) (v : Value) (l : List UInt8) : Prop := BytesAt 5 w B v l
/-- The answer of a function that appends: the slice now holds l. -/
def Put (B : Nat) (w : World) (v : Value) (l : List UInt8) (e : Ending) (w' : World) : Prop := ∃ v', e = .returned v' ∧ Buf 5 B w v w' v' l
theorem shr_byte (x : Nat) (j : Nat) : ((x : Int) / 2 ^ (8 * j) % 256) = ((UInt8.ofNat (x / 256 ^ j)).toNat : Int) := by
  have e : (2 : Int) ^ (8 * j) = ((256 ^ j : Nat) : Int) := by rw [Int.pow_mul]; simp
  rw [e]
  simp [UInt8.toNat_ofNat']
theorem grown_below {w w' : World} (hg : w.grownBy w' none) : Below w.heap.size w w' := (Below.refl _ _).grown hg (Nat.le_refl _) (fun _ h => by cases h)
theorem one_byte (n : Int) (h0 : 0 ≤ n) (h : n ≤ 255) : [Value.int .u8 n] = [UInt8.ofNat n.toNat].map byteV := by
  have : ((UInt8.ofNat n.toNat).toNat : Int) = n := by rw [UInt8.toNat_ofNat']; omega
  show _ = [Value.int .u8 ((UInt8.ofNat n.toNat).toNat : Int)]
  rw [this]
theorem own_ne {e : TypeId} {w : World} {B : Nat} {v : Value} {l : List UInt8} (h : BytesAt e w B v l) : some w.heap.size ≠ v.ownBlock := fun hh => by
  have := (h.lt _ hh.symm).2
  omega
theorem ret_u64 {a b : Int} (h : a = b) : Ending.returned (.int .u64 a) = .returned (.int .u64 b) := by rw [h]
theorem bytesWorld_below (w : World) (e : TypeId) (s : ByteArray) : Below w.heap.size w (Lib.bytesWorld w e s) :=
  ⟨rfl, rfl, rfl, by rw [Lib.bytesWorld_size]; omega, fun k hk => Lib.bytesWorld_at_old w e s k hk⟩
theorem getD_at (s : ByteArray) (k : Nat) (h : k < s.size) : s.data.toList.getD k 0 = s[k] := by
  rw [List.getD_eq_getElem?_getD, List.getElem?_eq_getElem (by simpa using h)]
  rfl
theorem empty_yes {s : ByteArray} (h : s.size = 0) : s.toList.isEmpty = true := by
  have hl : s.data.toList.length = s.size := by simp
  rw [ByteArray.toList_eq]
  cases hx : s.data.toList with
  | nil => rfl
  | cons a r => rw [hx] at hl; simp at hl; omega
theorem empty_no {s : ByteArray} (h : s.size ≠ 0) : s.toList.isEmpty = false := by
  have hl : s.data.toList.length = s.size := by simp
  rw [ByteArray.toList_eq]
  cases hx : s.data.toList with
  | nil => rw [hx] at hl; simp at hl; omega
  | cons a r => rfl
theorem extract_end (s : ByteArray) (a b : Nat) (h : b = s.size) : (s.extract a b).data.toList = s.data.toList.drop a := by
  rw [h, ByteArray.data_extract]
  simp only [Array.toList_extract, List.extract_eq_take_drop]
  exact List.take_of_length_le (by simp)
theorem extract_take (s : ByteArray) (b : Nat) : (s.extract 0 b).data.toList = s.data.toList.take b := by
  rw [ByteArray.data_extract]
  simp
theorem extract_mid (s : ByteArray) (a b : Nat) : (s.extract a b).data.toList = (s.data.toList.drop a).take (b - a) := by
  rw [ByteArray.data_extract]
  simp only [Array.toList_extract, List.extract_eq_take_drop]
/-- An address lies in block n or behind it. -/
def Fresh (n : Nat) (a : Option Addr) : Prop := ∀ b o sp, a = some ⟨b, o, sp⟩ → n ≤ b
/-- Bytes as a string. -/
def str (l : List UInt8) : ByteArray := ⟨l.toArray⟩
theorem str_size (l : List UInt8) : (str l).size = l.length := by show l.toArray.size = _; simp
theorem str_append (a b : List UInt8) : str (a ++ b) = str a ++ str b := by
  apply ByteArray.ext
  simp [str]
theorem str_list (l : List UInt8) : (str l).data.toList = l := by simp [str]
theorem cell_spot {w : World} {a : Addr} {v : Value} (h : w.cell? a = some v) : a.spot = none ∧ a.block < w.heap.size := by
  unfold World.cell? at h
  split at h
  · rename_i c t fr hb
    refine ⟨?_, (Array.getElem?_eq_some_iff.1 hb).1⟩
    split at h
    · cases h
    · rename_i hs; simpa using hs
  · cases h
theorem take_eq_step {α : Type} {a b : List α} {k : Nat} (ha : k < a.length) (hb : k < b.length) (h : a.take k = b.take k) (e : a[k] = b[k]) : a.take (k + 1) = b.take (k + 1) := by
  rw [List.take_succ_eq_append_getElem ha, List.take_succ_eq_append_getElem hb, h, e]
theorem ne_of_at {α : Type} {a b : List α} {k : Nat} (ha : k < a.length) (hb : k < b.length) (e : a[k] ≠ b[k]) : a ≠ b := fun h => by
  subst h
  exact e rfl
end Go.Proofs.Ytihbcgdbennegaa
