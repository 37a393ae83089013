/-
  The contract of the reference's digits.
-/
import Derived.Test.YtlhnjhkimmhbkaaEncode
import Derived.Deep.RegionHeld3
import Derived.RegionTactic
import Derived.BigRegion
import Derived.Deep.RegionWith
namespace Go.Proofs.Ytlhnjhkimmhbkaa
open Go.RowKit

theorem conv_one (b : UInt8) (g : Nat) (w : World) (h : w.cell? ⟨g, 0, none⟩ = some (.int .u8 b.toNat)) : (convert 47 9 (.slice (some ⟨g, 0, none⟩) 1 1)).run Try.prog w = .ok (.string ⟨#[b]⟩) w :=
  run_convert_bytes_back w 47 9 5 ⟨g, 0, none⟩ 1 [b] Try.underlying47 Try.underlying5 Try.underlying9 fun j hj => by
    have e : j = 0 := by simp at hj; exact hj
    subst e
    exact h

theorem one_kept {w w1 : World} {v : Value} {t : TypeId} (h : Below (w.alloc (.cells #[v] t)).drew.heap.size (w.alloc (.cells #[v] t)).drew w1) : w1.cell? ⟨w.heap.size, 0, none⟩ = some v :=
  kept_cell h (by simp [go_sem])
theorem one_kept' {w w1 : World} {v : Value} {t : TypeId} (h : Below (w.alloc (.cells #[v] t)).heap.size (w.alloc (.cells #[v] t)) w1) : w1.cell? ⟨w.heap.size, 0, none⟩ = some v :=
  kept_cell h (by simp [go_sem])
theorem digits_zero (x : UInt64) (w : World) : Calls Try.prog 37 #[.int .u64 x.toNat, .int .i64 0] w fun e w' => e = .returned (.string ⟨#[]⟩) ∧ Below w.heap.size w w' := by
  go_enter Try.func37, Try.ntmps37
  go_wp2_with fail
  go_ret
  exact ⟨rfl, Below.refl _ _⟩

theorem digits_any : ∀ (n : Nat) (x : UInt64) (w : World), n ≤ 8 → Calls Try.prog 37 #[.int .u64 x.toNat, .int .i64 n] w fun e w' => e = .returned (.string ⟨(be n x.toNat).toArray⟩) ∧ Below w.heap.size w w'
  | 0, x, w, _ => digits_zero x w
  | n + 1, x, w, hn => by
    have hx := u64_bd x
    have hn0 : (((n : Int) + 1) == 0) = false := by rw [beq_eq_false_iff_ne]; omega
    obtain ⟨y, hy⟩ : ∃ y : UInt64, y = x / 256 := ⟨_, rfl⟩
    have hyn : y.toNat = x.toNat / 256 := by rw [hy, UInt64.toNat_div]; rfl
    obtain ⟨b, hb⟩ : ∃ b : UInt8, b = UInt8.ofNat x.toNat := ⟨_, rfl⟩
    have h1 : IntKind.u64.wrap ((x.toNat : Int) / 256) = (y.toNat : Int) := by
      rw [show ((x.toNat : Int) / 256) = (y.toNat : Int) by rw [hyn]; omega]; exact wrap_self_u64 y
    have h2 : IntKind.i64.wrap (n : Int) = (n : Int) := IntWalk.i64_in _ (by omega)
    have h3 : IntKind.u8.wrap ((x.toNat : Int).tmod 256) = (b.toNat : Int) := by
      rw [hb, UInt8.toNat_ofNat', Int.tmod_eq_emod_of_nonneg (by omega), show IntKind.u8.wrap ((x.toNat : Int) % 256) = ((x.toNat : Int) % 256) % 256 from by rw [IntKind.wrap_u8]]
      omega
    obtain ⟨t, ht⟩ : ∃ t : ByteArray, t = ⟨#[b]⟩ := ⟨_, rfl⟩
    obtain ⟨s, hs⟩ : ∃ s : ByteArray, s = ⟨(be n y.toNat).toArray⟩ := ⟨_, rfl⟩
    have hst : ¬ 9223372036854775807 < s.size + t.size := by
      have e1 : s.size = n := by rw [hs]; show ((be n y.toNat).toArray).size = n; simp [be_length]
      have e2 : t.size = 1 := by rw [ht]; rfl
      omega
    have hcv : ∀ (wx : World) (g : Nat), wx.cell? ⟨g, 0, none⟩ = some (.int .u8 b.toNat) → (convert 47 9 (.slice (some ⟨g, 0, none⟩) 1 1)).run Try.prog wx = .ok (.string t) wx := fun wx g h => by
      rw [ht]; exact conv_one b g wx h
    have HE : Hid ((⟨(be (n + 1) x.toNat).toArray⟩ : ByteArray) = s ++ t) := Lib.hid (by
      rw [be, ← hyn, ← hb, hs, ht]
      apply ByteArray.ext
      simp)
    have IH := fun wx => digits_any n y wx (by omega)
    rw [← hs] at IH
    clear hy hyn hb hs ht
    go_enter Try.func37, Try.ntmps37
    go_wp2_with fail
    go_region_with ((go_at_call 37; (with_reducible refine (IH _).mono ?_); rintro e w1 ⟨rfl, hb1⟩; (first | have hcc := one_kept hb1 | have hcc := one_kept' hb1 | skip)))
    all_goals (go_wp2_with fail; go_ret)
    all_goals (refine ⟨by rw [HE.out]; rfl, ?_⟩; first | exact kept_alloc (kept_trans (Below.refl _ _).drew hb1) _ | exact kept_trans ((kept_new _ _).drew) hb1)

/-- Bytes as a string. -/
def str (l : List UInt8) : ByteArray := ⟨l.toArray⟩
theorem str_size (l : List UInt8) : (str l).size = l.length := by show l.toArray.size = _; simp
theorem str_append (a b : List UInt8) : str (a ++ b) = str a ++ str b := by
  apply ByteArray.ext
  simp [str]
theorem digits8 (x : UInt64) (s : ByteArray) (w : World) (hs : s = str (be 8 x.toNat)) : Calls Try.prog 37 #[.int .u64 x.toNat, .int .i64 8] w fun e w' => e = .returned (.string s) ∧ Below w.heap.size w w' :=
  hs ▸ digits_any 8 x w (by omega)
theorem digits_int (n : Nat) (x : Int) (s : ByteArray) (w : World) (hn : n ≤ 8) (h0 : 0 ≤ x) (h1 : x ≤ 18446744073709551615) (hs : s = str (be n x.toNat)) :
    Calls Try.prog 37 #[.int .u64 x, .int .i64 n] w fun e w' => e = .returned (.string s) ∧ Below w.heap.size w w' := by
  obtain ⟨u, rfl⟩ := u64_of x h0 (by omega)
  have := digits_any n u w hn
  rw [hs]
  simpa [str] using this
theorem digits1 (x : Int) (s : ByteArray) (w : World) (h0 : 0 ≤ x) (h1 : x ≤ 255) (hs : s = str [UInt8.ofNat x.toNat]) :
    Calls Try.prog 37 #[.int .u64 x, .int .i64 1] w fun e w' => e = .returned (.string s) ∧ Below w.heap.size w w' := digits_int 1 x s w (by omega) h0 (by omega) hs
theorem digits2 (x : Int) (s : ByteArray) (w : World) (h0 : 0 ≤ x) (h1 : x ≤ 18446744073709551615) (hs : s = str (be 2 x.toNat)) :
    Calls Try.prog 37 #[.int .u64 x, .int .i64 2] w fun e w' => e = .returned (.string s) ∧ Below w.heap.size w w' := digits_int 2 x s w (by omega) h0 h1 hs

end Go.Proofs.Ytlhnjhkimmhbkaa
