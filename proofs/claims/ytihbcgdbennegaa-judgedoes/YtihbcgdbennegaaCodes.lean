/-
  Contracts of the small functions that deeds and messages share: numbers and IDs as bytes, of the program and of the reference.
-/
import Derived.Test.YtihbcgdbennegaaBase
import Derived.Test.YtihbcgdbennegaaRest
import Derived.Test.YtihbcgdbennegaaOutside
import Derived.Deep.RegionHeld3
import Derived.RegionTactic
import Derived.BigRegion
import Derived.Deep.RegionWith
import Derived.Laws.Bits64b
import Derived.Lib.AppendStr
namespace Go.Proofs.Ytihbcgdbennegaa
open Go.RowKit

theorem appendNumber_any (x : UInt64) (n B : Nat) (v : Value) (l : List UInt8) (w : World) (hn : n ≤ 8) (hl : l.length ≤ 1000) (hB : B ≤ w.heap.size) (hown : Bytes w B v l) :
    Calls Try.prog 64 #[v, .int .u64 x.toNat, .int .i64 n] w (Put B w v (l ++ be n x.toNat)) := by
  obtain ⟨i0, hi0, hz0, hz1, hz2⟩ := info_parts info_u8
  have hx := u64_bd x
  go_enter Try.func64, Try.ntmps64
  go_wp2
  go_loopw [0, 7] (fun u i wr => ∃ k : Nat, k ≤ n ∧ i = .int .i64 ((k : Int) - 1) ∧ Hid (Buf 5 B w v wr u (l ++ be (n - k) (x.toNat / 256 ^ k)))) (fun _ i _ => ((intOf i) + 1).toNat)
  case atStart => exact ⟨n, Nat.le_refl _, rfl, Lib.hid (by simpa [be] using buf_refl hown)⟩
  case round =>
    obtain ⟨k, hk, rfl, HB⟩ := hrel
    by_cases hlt : 0 < k
    · obtain ⟨j, rfl⟩ : ∃ j, k = j + 1 := ⟨k - 1, by omega⟩
      have hbd := buf_below hown hB HB.out
      have hBr : B ≤ wr.heap.size := Nat.le_trans hB hbd.size
      have hlen : (l ++ be (n - (j + 1)) (x.toNat / 256 ^ (j + 1))).length + 1 ≤ 1000000 := by simp [be_length]; omega
      clear hbd
      go_wp2_with (at_builtin; refine wpList_append_bytes Try.underlying86 hi0 hz0 hz1 hz2 rfl _ _ rfl (B := B) (l := l ++ be (n - (j + 1)) (x.toNat / 256 ^ (j + 1))) (news := [UInt8.ofNat (x.toNat / 256 ^ j)]) rfl rfl (by rw [shr_byte]; rfl) HB.out.own hlen hBr ?_; intro v1 w1 hb1)
      go_roundw
      case rel =>
        refine ⟨j, by omega, by go_num, Lib.hid ?_⟩
        have := buf_trans HB.out hb1
        rw [List.append_assoc, be_step n j _ (by omega)] at this
        exact this
      case measure => simp [intOf]
    · obtain rfl : k = 0 := by omega
      go_wp2
      go_ret
      exact ⟨_, rfl, by simpa using HB.out⟩
theorem appendNumber_int (x : Int) (n B : Nat) (v : Value) (l : List UInt8) (w : World) (h0 : 0 ≤ x) (h1 : x ≤ 18446744073709551615) (hn : n ≤ 8) (hl : l.length ≤ 1000) (hB : B ≤ w.heap.size) (hown : Bytes w B v l) :
    Calls Try.prog 64 #[v, .int .u64 x, .int .i64 n] w (Put B w v (l ++ be n x.toNat)) := by
  obtain ⟨u, rfl⟩ := u64_of x h0 (by omega)
  have := appendNumber_any u n B v l w hn hl hB hown
  simpa using this
theorem appendNumber8 (x : UInt64) (B : Nat) (v : Value) (l : List UInt8) (w : World) (hl : l.length ≤ 1000) (hB : B ≤ w.heap.size) (hown : Bytes w B v l) :
    Calls Try.prog 64 #[v, .int .u64 x.toNat, .int .i64 8] w (Put B w v (l ++ be 8 x.toNat)) := appendNumber_any x 8 B v l w (by omega) hl hB hown
theorem appendNumber2 (x : Int) (B : Nat) (v : Value) (l : List UInt8) (w : World) (h0 : 0 ≤ x) (h1 : x ≤ 18446744073709551615) (hl : l.length ≤ 1000) (hB : B ≤ w.heap.size) (hown : Bytes w B v l) :
    Calls Try.prog 64 #[v, .int .u64 x, .int .i64 2] w (Put B w v (l ++ be 2 x.toNat)) := appendNumber_int x 2 B v l w h0 h1 (by omega) hl hB hown
theorem numU_take (s : ByteArray) (k : Nat) (h : k < s.size) : numU (s.data.toList.take (k + 1)) = 256 * numU (s.data.toList.take k) + s[k].toUInt64 := by
  rw [List.take_succ_eq_append_getElem (by simpa using h), numU_snoc]; rfl
theorem num_step (x : UInt64) (c : UInt8) : bits .or .u64 (IntKind.u64.wrap ((x.toNat : Int) * 256)) (IntKind.u64.wrap (c.toNat : Int)) = ((256 * x + c.toUInt64).toNat : Int) := by
  have h1 : IntKind.u64.wrap ((x.toNat : Int) * 256) = ((x * 256).toNat : Int) := wrap_mul_u64 x 256
  have hc : c.toUInt64.toNat = c.toNat := UInt8.toNat_toUInt64 c
  have hcl := c.toNat_lt
  rw [h1, wrap_byte_u64, bits_or_u64_nat _ _ (u64_lt _) (u64_lt _)]
  have e : (x * 256).toNat = (x.toNat % 72057594037927936) <<< 8 := by
    rw [UInt64.toNat_mul, Nat.shiftLeft_eq]
    show x.toNat * 256 % 18446744073709551616 = _
    omega
  rw [e, ← Nat.shiftLeft_add_eq_or_of_lt (by rw [hc]; omega), ← e, UInt64.toNat_add, UInt64.toNat_mul, UInt64.toNat_mul, hc]
  show ((x.toNat * 256 % 18446744073709551616 + c.toNat : Nat) : Int) = ((256 * x.toNat % 18446744073709551616 + c.toNat) % 18446744073709551616 : Nat)
  omega
theorem conv_one (b : UInt8) (g : Nat) (w : World) (h : w.cell? ⟨g, 0, none⟩ = some (.int .u8 b.toNat)) : (convert 86 9 (.slice (some ⟨g, 0, none⟩) 1 1)).run Try.prog w = .ok (.string ⟨#[b]⟩) w :=
  run_convert_bytes_back w 86 9 5 ⟨g, 0, none⟩ 1 [b] Try.underlying86 Try.underlying5 Try.underlying9 fun j hj => by
    have e : j = 0 := by simp at hj; exact hj
    subst e
    exact h
theorem one_kept {w w1 : World} {v : Value} {t : TypeId} (h : Below (w.alloc (.cells #[v] t)).drew.heap.size (w.alloc (.cells #[v] t)).drew w1) : w1.cell? ⟨w.heap.size, 0, none⟩ = some v :=
  kept_cell h (by simp [go_sem])
theorem one_kept' {w w1 : World} {v : Value} {t : TypeId} (h : Below (w.alloc (.cells #[v] t)).heap.size (w.alloc (.cells #[v] t)) w1) : w1.cell? ⟨w.heap.size, 0, none⟩ = some v :=
  kept_cell h (by simp [go_sem])
theorem digits_zero (x : UInt64) (w : World) : Calls Try.prog 61 #[.int .u64 x.toNat, .int .i64 0] w fun e w' => e = .returned (.string ⟨#[]⟩) ∧ Below w.heap.size w w' := by
  go_enter Try.func61, Try.ntmps61
  go_wp2_with fail
  go_ret
  exact ⟨rfl, Below.refl _ _⟩
theorem digits_any : ∀ (n : Nat) (x : UInt64) (w : World), n ≤ 8 → Calls Try.prog 61 #[.int .u64 x.toNat, .int .i64 n] w fun e w' => e = .returned (.string ⟨(be n x.toNat).toArray⟩) ∧ Below w.heap.size w w'
  | 0, x, w, _ => digits_zero x w
  | n + 1, x, w, hn => by
    have hx := u64_bd x
    have hn0 : (((n : Int) + 1) == 0) = false := by rw [beq_eq_false_iff_ne]; omega
    obtain ⟨y, hy⟩ : ∃ y : UInt64, y = x / 256 := ⟨_, rfl⟩
    have hyn : y.toNat = x.toNat / 256 := by rw [hy, UInt64.toNat_div]; rfl
    obtain ⟨b, hb⟩ : ∃ b : UInt8, b = UInt8.ofNat x.toNat := ⟨_, rfl⟩
    have h1 : IntKind.u64.wrap ((x.toNat : Int) / 256) = (y.toNat : Int) := by
      rw [show ((x.toNat : Int) / 256) = (y.toNat : Int) by rw [hyn]; omega]; exact wrap_self_u64 y
    have h2 : IntKind.i64.wrap (n : Int) = (n : Int) := IntWalk.i64_in _ (by omega)
    have h3 : IntKind.u8.wrap ((x.toNat : Int).tmod 256) = (b.toNat : Int) := by
      rw [hb, UInt8.toNat_ofNat', Int.tmod_eq_emod_of_nonneg (by omega), show IntKind.u8.wrap ((x.toNat : Int) % 256) = ((x.toNat : Int) % 256) % 256 from by rw [IntKind.wrap_u8]]
      omega
    obtain ⟨t, ht⟩ : ∃ t : ByteArray, t = ⟨#[b]⟩ := ⟨_, rfl⟩
    obtain ⟨s, hs⟩ : ∃ s : ByteArray, s = ⟨(be n y.toNat).toArray⟩ := ⟨_, rfl⟩
    have hst : ¬ 9223372036854775807 < s.size + t.size := by
      have e1 : s.size = n := by rw [hs]; show ((be n y.toNat).toArray).size = n; simp [be_length]
      have e2 : t.size = 1 := by rw [ht]; rfl
      omega
    have hcv : ∀ (wx : World) (g : Nat), wx.cell? ⟨g, 0, none⟩ = some (.int .u8 b.toNat) → (convert 86 9 (.slice (some ⟨g, 0, none⟩) 1 1)).run Try.prog wx = .ok (.string t) wx := fun wx g h => by
      rw [ht]; exact conv_one b g wx h
    have HE : Hid ((⟨(be (n + 1) x.toNat).toArray⟩ : ByteArray) = s ++ t) := Lib.hid (by
      rw [be, ← hyn, ← hb, hs, ht]
      apply ByteArray.ext
      simp)
    have IH := fun wx => digits_any n y wx (by omega)
    rw [← hs] at IH
    clear hy hyn hb hs ht
    go_enter Try.func61, Try.ntmps61
    go_wp2_with fail
    go_region_with ((go_at_call 61; (with_reducible refine (IH _).mono ?_); rintro e w1 ⟨rfl, hb1⟩; (first | have hcc := one_kept hb1 | have hcc := one_kept' hb1 | skip)))
    all_goals (go_wp2_with fail; go_ret)
    all_goals (refine ⟨by rw [HE.out]; rfl, ?_⟩; first | exact kept_alloc (kept_trans (Below.refl _ _).drew hb1) _ | exact kept_trans ((kept_new _ _).drew) hb1)
theorem digits8 (x : UInt64) (s : ByteArray) (w : World) (hs : s = str (be 8 x.toNat)) : Calls Try.prog 61 #[.int .u64 x.toNat, .int .i64 8] w fun e w' => e = .returned (.string s) ∧ Below w.heap.size w w' :=
  hs ▸ digits_any 8 x w (by omega)
theorem digits_int (n : Nat) (x : Int) (s : ByteArray) (w : World) (hn : n ≤ 8) (h0 : 0 ≤ x) (h1 : x ≤ 18446744073709551615) (hs : s = str (be n x.toNat)) :
    Calls Try.prog 61 #[.int .u64 x, .int .i64 n] w fun e w' => e = .returned (.string s) ∧ Below w.heap.size w w' := by
  obtain ⟨u, rfl⟩ := u64_of x h0 (by omega)
  have := digits_any n u w hn
  rw [hs]
  simpa [str] using this
theorem digits1 (x : Int) (s : ByteArray) (w : World) (h0 : 0 ≤ x) (h1 : x ≤ 255) (hs : s = str [UInt8.ofNat x.toNat]) :
    Calls Try.prog 61 #[.int .u64 x, .int .i64 1] w fun e w' => e = .returned (.string s) ∧ Below w.heap.size w w' := digits_int 1 x s w (by omega) h0 (by omega) hs
theorem digits2 (x : Int) (s : ByteArray) (w : World) (h0 : 0 ≤ x) (h1 : x ≤ 18446744073709551615) (hs : s = str (be 2 x.toNat)) :
    Calls Try.prog 61 #[.int .u64 x, .int .i64 2] w fun e w' => e = .returned (.string s) ∧ Below w.heap.size w w' := digits_int 2 x s w (by omega) h0 h1 hs
theorem num_ref (x : UInt64) (c : UInt8) : IntKind.u64.wrap (IntKind.u64.wrap (256 * (x.toNat : Int)) + IntKind.u64.wrap (c.toNat : Int)) = ((256 * x + c.toUInt64).toNat : Int) := by
  have h1 : IntKind.u64.wrap (256 * (x.toNat : Int)) = ((256 * x).toNat : Int) := wrap_mul_u64 256 x
  rw [h1, wrap_byte_u64, wrap_add_u64]
theorem encodeID_any (x : UInt64) (w : World) : Calls Try.prog 63 #[.int .u64 x.toNat] w fun e w' => e = .returned (.string (str (be 8 x.toNat))) ∧ Below w.heap.size w w' := by
  have hnil := bytes_nil 5 w w.heap.size
  go_enter Try.func63, Try.ntmps63
  go_wp2_with fail
  with_reducible refine (appendNumber8 x w.heap.size _ [] _ (by simp) (Nat.le_refl _) hnil).mono ?_
  rintro e w1 ⟨v1, rfl, hb1⟩
  have hbel := buf_below hnil (Nat.le_refl _) hb1
  have hown := hb1.own
  rw [List.nil_append] at hown
  have hconv : (convert 86 9 v1).run Try.prog w1 = .ok (.string (str (be 8 x.toNat))) w1 :=
    conv_bytes 86 9 Try.underlying86 Try.underlying5 Try.underlying9 hown (fun h => by have := be_length 8 x.toNat; rw [h] at this; simp at this)
  clear hown hb1
  go_wp2_with fail
  go_ret
  exact ⟨rfl, hbel⟩
theorem encodeID_is (x : UInt64) (E : ByteArray) (w : World) (h : str (be 8 x.toNat) = E) : Calls Try.prog 63 #[.int .u64 x.toNat] w fun e w' => e = .returned (.string E) ∧ Below w.heap.size w w' := h ▸ encodeID_any x w
end Go.Proofs.Ytihbcgdbennegaa
