/-
  Contracts of sum.Of and of the reference's Sum, over one translation.
-/
import Derived.Test.YtihbcgdbennegaaBase
namespace Go.Proofs.Ytihbcgdbennegaa
open Go.RowKit

theorem k4_u64 (a : UInt64) : IntKind.u64.wrap ((a.toNat : Int) * 1099511628211) = ((a * 1099511628211).toNat : Int) := wrap_mul_u64 a 1099511628211

theorem of_take (s : ByteArray) (k : Nat) (h : k < s.size) : ofU (s.data.toList.take (k + 1)) = ofStep (ofU (s.data.toList.take k)) s[k] := by
  rw [List.take_succ_eq_append_getElem (by simpa using h), of_snoc]; rfl

theorem of_any (s : ByteArray) (w : World) (hs : s.size ≤ maxLen) :
    Calls Try.prog 48 #[.string s] w fun e w' => e = .returned (.int .u64 (ofU s.data.toList).toNat) ∧ w = w' := by
  unfold maxLen at hs
  go_enter Try.func48, Try.ntmps48
  go_wp2
  go_loop [3, 7] (fun x i => ∃ k : Nat, k ≤ s.size ∧ i = .int .i64 k ∧ x = .int .u64 (ofU (s.data.toList.take k)).toNat) (fun _ i => s.size - (intOf i).toNat)
  case atStart => exact ⟨0, Nat.zero_le _, rfl, rfl⟩
  case round =>
    obtain ⟨k, hk, rfl, rfl⟩ := hrel
    by_cases hlt : k < s.size
    · have HS := Lib.hid (of_take s k hlt)
      go_wp2
      go_round
      case rel =>
        refine ⟨k + 1, by omega, by go_num, ?_⟩
        rw [HS.out, wrap_byte_u64, xor_u64, k4_u64]
        rfl
      case measure => simp [intOf]; omega
    · go_wp2
      go_ret
      exact ⟨ret_u64 (by rw [List.take_of_length_le (by simp; omega)]), rfl⟩

theorem refSum_any (s : ByteArray) (w : World) (hs : s.size ≤ maxLen) :
    Calls Try.prog 44 #[.string s] w fun e w' => e = .returned (.int .u64 (ofU s.data.toList).toNat) ∧ Below w.heap.size w w' := by
  unfold maxLen at hs
  have hcv := fun w => Lib.run_convert_string_bytes (P := Try.prog) w 9 86 5 s Try.underlying9 Try.underlying86 Try.underlying5
  go_enter Try.func44, Try.ntmps44
  go_wp2
  have hcell := Lib.bytesWorld_cell w 5 s
  go_loop [3, 9] (fun x i => ∃ k : Nat, k ≤ s.size ∧ i = .int .i64 k ∧ x = .int .u64 (ofU (s.data.toList.take k)).toNat) (fun _ i => s.size - (intOf i).toNat)
  case atStart => exact ⟨0, Nat.zero_le _, rfl, rfl⟩
  case round =>
    obtain ⟨k, hk, rfl, rfl⟩ := hrel
    by_cases hlt : k < s.size
    · have HS := Lib.hid (of_take s k hlt)
      have hc := hcell k hlt
      go_wp2
      go_round
      case rel =>
        refine ⟨k + 1, by omega, by go_num, ?_⟩
        rw [HS.out, wrap_byte_u64, xor_u64, k4_u64]
        rfl
      case measure => simp [intOf]; omega
    · go_wp2
      go_ret
      exact ⟨ret_u64 (by rw [List.take_of_length_le (by simp; omega)]), bytesWorld_below w _ s⟩

theorem of_a_int : ((ofU [97]).toNat : Int) = 12638187200555641996 := by rw [of_a]; rfl
theorem of_empty_int : ((ofU []).toNat : Int) = 14695981039346656037 := by rw [of_empty]; rfl
/-- At the text of one letter, in the walk's own spelling. -/
theorem of_one (w : World) : Calls Try.prog 48 #[.string ⟨#[97]⟩] w fun e w' => e = .returned (.int .u64 12638187200555641996) ∧ w = w' :=
  (of_any ⟨#[97]⟩ w (by decide)).mono fun e w' h => by
    refine ⟨h.1.trans (ret_u64 ?_), h.2⟩
    exact of_a_int
theorem of_none (w : World) : Calls Try.prog 48 #[.string ⟨#[]⟩] w fun e w' => e = .returned (.int .u64 14695981039346656037) ∧ w = w' :=
  (of_any ⟨#[]⟩ w (by decide)).mono fun e w' h => by
    refine ⟨h.1.trans (ret_u64 ?_), h.2⟩
    exact of_empty_int
theorem of_is (s : ByteArray) (p : UInt64) (w : World) (h : ofU s.data.toList = p) (hs : s.size ≤ maxLen) :
    Calls Try.prog 48 #[.string s] w fun e w' => e = .returned (.int .u64 p.toNat) ∧ w = w' := h ▸ of_any s w hs
theorem refSum_is (s : ByteArray) (p : UInt64) (w : World) (h : ofU s.data.toList = p) (hs : s.size ≤ maxLen) :
    Calls Try.prog 44 #[.string s] w fun e w' => e = .returned (.int .u64 p.toNat) ∧ Below w.heap.size w w' := h ▸ refSum_any s w hs
end Go.Proofs.Ytihbcgdbennegaa
