/-
  The contract of the reference's MsgEncode; both Encodes in one word.
-/
import Derived.Test.YtnigjhfdeinlhabMsgEncode
import Derived.Test.YtnigjhfdeinlhabMsgRefCheck
namespace Go.Proofs.Ytnigjhfdeinlhab
open Go.RowKit

theorem rencode_err (m : MsgD) (a : Option Addr) (cap : Nat) (w : World) (r : Int) (hc : m.ids.length ≤ cap) (hi : IdsAt w a m.ids) (h : checkM m = r) (hr : r ≠ 0) :
    Calls Try.prog 13 #[.agg #[.int .i64 m.kind, .slice a m.ids.length cap, .string m.body]] w fun e w' => e = .returned (.tuple #[.string ⟨#[]⟩, .int .i64 r]) ∧ Below w.heap.size w w' := by
  have HR := Lib.hid h
  clear h
  have hrb : (r != 0) = true := by simpa using hr
  have hk := kept_new w (msgBox a cap m)
  have hi0 := idsAt_kept hk hi
  go_enter Try.func13, Try.ntmps13
  go_wp2_with fail
  with_reducible refine (rcheck_is m _ _ _ r hc hi0 HR.out).mono ?_
  rintro e w1 ⟨rfl, hb1⟩
  go_wp2_with fail
  go_ret2
  exact ⟨rfl, kept_trans hk hb1⟩

theorem rencode_bring (m : MsgD) (a : Option Addr) (cap : Nat) (w : World) (E : ByteArray) (hc : m.ids.length ≤ cap) (hi : IdsAt w a m.ids) (h : checkM m = 0) (h3 : m.kind = 3) (hE : str (encM m) = E) :
    Calls Try.prog 13 #[.agg #[.int .i64 m.kind, .slice a m.ids.length cap, .string m.body]] w fun e w' => e = .returned (.tuple #[.string E, .int .i64 0]) ∧ Below w.heap.size w w' := by
  have hs : m.body.size ≤ 100 := by
    rcases (checkM_ok h).2 with ⟨_, _, _, h4⟩ | ⟨h4, _⟩
    · exact h4
    · exact absurd h3 h4
  obtain ⟨s1, hs1⟩ : ∃ s, s = str [UInt8.ofNat m.kind.toNat] := ⟨_, rfl⟩
  have hz1 : s1.size = 1 := by rw [hs1, str_size]; rfl
  have hq1 : ¬ 9223372036854775807 < s1.size + m.body.size := by omega
  have HE : Hid (s1 ++ m.body = E) := Lib.hid (by
    rw [← hE, hs1, encM_bring h3, str_append]
    congr 1)
  have hwr : IntKind.u64.wrap m.kind = m.kind := by rw [h3]; rfl
  have H1 := Lib.hid hs1
  have HR := Lib.hid h
  have h3b : (m.kind == 3) = true := beq_iff_eq.2 h3
  have hk0 : 0 ≤ m.kind := by omega
  have hk4 : m.kind ≤ 4 := by omega
  have hk := kept_new w (msgBox a cap m)
  have hia := idsAt_kept hk hi
  clear h hE h3 hi hs1 hz1
  go_enter Try.func13, Try.ntmps13
  go_wp2_with fail
  with_reducible refine (rcheck_is m _ _ _ 0 hc hia HR.out).mono ?_
  rintro e w1 ⟨rfl, hb1⟩
  obtain ⟨c0, c1, c2, hws⟩ := box_three hb1
  have hk1 := kept_trans hk hb1
  go_wp2_with fail
  with_reducible refine (digits1 _ s1 _ hk0 (by omega) H1.out).mono ?_
  rintro e w2 ⟨rfl, hb2⟩
  have d0 := kept_cell hb2 c0
  have d2 := kept_cell hb2 c2
  have hws2 : w.heap.size < w2.heap.size := Nat.lt_of_lt_of_le hws hb2.size
  go_wp2_with fail
  go_ret2
  exact ⟨by rw [HE.out]; rfl, kept_trans hk1 hb2⟩

set_option maxHeartbeats 1000000 in
theorem rencode_ids (m : MsgD) (a : Option Addr) (cap : Nat) (w : World) (E : ByteArray) (hc : m.ids.length ≤ cap) (hi : IdsAt w a m.ids) (h : checkM m = 0) (h3 : m.kind ≠ 3) (hE : str (encM m) = E) :
    Calls Try.prog 13 #[.agg #[.int .i64 m.kind, .slice a m.ids.length cap, .string m.body]] w fun e w' => e = .returned (.tuple #[.string E, .int .i64 0]) ∧ Below w.heap.size w w' := by
  obtain ⟨hwk, hl0, hl20⟩ : within m.kind 1 4 = true ∧ 0 < m.ids.length ∧ m.ids.length ≤ 20 := by
    rcases (checkM_ok h) with ⟨hw, ⟨h4, _⟩ | ⟨_, _, h5, h6, _⟩⟩
    · exact absurd h4 h3
    · exact ⟨hw, h5, h6⟩
  have hkb := within_known hwk
  obtain ⟨s1, hs1⟩ : ∃ s, s = str [UInt8.ofNat m.kind.toNat] := ⟨_, rfl⟩
  obtain ⟨s2, hs2⟩ : ∃ s, s = str [UInt8.ofNat (m.ids.length : Int).toNat] := ⟨_, rfl⟩
  have hz1 : s1.size = 1 := by rw [hs1, str_size]; rfl
  have hz2 : s2.size = 1 := by rw [hs2, str_size]; rfl
  have hq1 : ¬ 9223372036854775807 < s1.size + s2.size := by omega
  have HP : Hid (s1 ++ s2 = str ([UInt8.ofNat m.kind.toNat] ++ [UInt8.ofNat m.ids.length])) := Lib.hid (by
    rw [hs1, hs2, str_append, Int.toNat_natCast])
  have HE : Hid (str ([UInt8.ofNat m.kind.toNat] ++ [UInt8.ofNat m.ids.length] ++ encI m.ids) = E) := Lib.hid (by rw [← hE, encM_ids h3])
  have hwr : IntKind.u64.wrap m.kind = m.kind := by rw [IntKind.wrap_u64]; omega
  have H1 := Lib.hid hs1
  have H2 := Lib.hid hs2
  have HR := Lib.hid h
  have h3b : (m.kind == 3) = false := beq_eq_false_iff_ne.2 h3
  have hk0 : 0 ≤ m.kind := by omega
  have hk4 : m.kind ≤ 4 := by omega
  have hk := kept_new w (msgBox a cap m)
  have hia := idsAt_kept hk hi
  clear h hE h3 hi hs1 hs2 hz1 hz2 hkb hwk
  go_enter Try.func13, Try.ntmps13
  go_wp2_with fail
  with_reducible refine (rcheck_is m _ _ _ 0 hc hia HR.out).mono ?_
  rintro e w1 ⟨rfl, hb1⟩
  obtain ⟨c0, c1, c2, hws⟩ := box_three hb1
  have hk1 := kept_trans hk hb1
  have hi1 := idsAt_kept hb1 hia
  clear hk hb1 hia
  go_wp2_with fail
  with_reducible refine (digits1 _ s1 _ hk0 (by omega) H1.out).mono ?_
  rintro e w2 ⟨rfl, hb2⟩
  have d0 := kept_cell hb2 c0
  have d1 := kept_cell hb2 c1
  have hws2 : w.heap.size < w2.heap.size := Nat.lt_of_lt_of_le hws hb2.size
  clear c0 c1 c2
  go_wp2_with fail
  with_reducible refine (digits1 _ s2 _ (by omega) (by omega) H2.out).mono ?_
  rintro e w3 ⟨rfl, hb3⟩
  have f1 := kept_cell hb3 d1
  have hws3 : w.heap.size < w3.heap.size := Nat.lt_of_lt_of_le hws2 hb3.size
  have hi3 := idsAt_kept (kept_trans hb2 hb3) hi1
  have hk3 := kept_trans (kept_trans hk1 hb2) hb3
  clear d0 d1 hi1 hb2 hb3
  go_wp2_with fail
  go_loopw [5, 34] (fun u i wr => ∃ (k : Nat) (S : ByteArray), k ≤ m.ids.length ∧ i = .int .i64 k ∧ u = .string S ∧ Hid (S = str ([UInt8.ofNat m.kind.toNat] ++ [UInt8.ofNat m.ids.length] ++ encI (m.ids.take k))) ∧ Below w3.heap.size w3 wr) (fun _ i _ => m.ids.length - (intOf i).toNat)
  case atStart => exact ⟨0, _, Nat.zero_le _, rfl, rfl, Lib.hid (by rw [HP.out]; simp [encI]), Below.refl _ _⟩
  case round =>
    obtain ⟨k, S, hk, rfl, rfl, HS, hbr⟩ := hrel
    have hSz : S.size ≤ 200 := by rw [HS.out, str_size, List.length_append, encI_length, List.length_take]; simp; omega
    by_cases hlt : k < m.ids.length
    · obtain ⟨b, oo, rfl, hb, hd⟩ := idsAt_kept hbr hi3 k hlt
      obtain ⟨s8, hs8⟩ : ∃ s, s = str (be 8 m.ids[k].toNat) := ⟨_, rfl⟩
      have hz8 : s8.size = 8 := by rw [hs8, str_size, be_length]
      have hq8 : ¬ 9223372036854775807 < S.size + s8.size := by omega
      have HN : Hid (S ++ s8 = str ([UInt8.ofNat m.kind.toNat] ++ [UInt8.ofNat m.ids.length] ++ encI (m.ids.take (k + 1)))) := Lib.hid (by
        rw [encI_take hlt, HS.out, hs8, ← str_append]
        simp)
      have H8 := Lib.hid hs8
      clear hs8 hz8 hSz
      go_wp2_with fail
      with_reducible refine (digits8 _ s8 _ H8.out).mono ?_
      rintro e w4 ⟨rfl, hb4⟩
      go_wp2_with fail
      go_roundw
      case rel => exact ⟨k + 1, _, by omega, by go_num, rfl, Lib.hid HN.out, kept_trans hbr hb4⟩
      case measure => simp [intOf]; omega
    · have hS : S = E := by rw [HS.out, List.take_of_length_le (by omega), HE.out]
      have HSE := Lib.hid hS
      clear hS
      go_wp2_with fail
      go_ret2
      exact ⟨by rw [HSE.out]; rfl, kept_trans hk3 hbr⟩

/-- What both Encodes answer. -/
def ansE (m : MsgD) : ByteArray := if checkM m = 0 then str (encM m) else ⟨#[]⟩
theorem ansE_ok {m : MsgD} (h : checkM m = 0) : ansE m = str (encM m) := if_pos h
theorem mencode_all (m : MsgD) (a : Option Addr) (cap : Nat) (w : World) (r : Int) (E : ByteArray) (hi : IdsAt w a m.ids) (h : checkM m = r) (hE : ansE m = E) :
    Calls Try.prog 12 #[.agg #[.int .i64 m.kind, .slice a m.ids.length cap, .string m.body]] w fun e w' => e = .returned (.tuple #[.string E, .int .i64 r]) ∧ Below w.heap.size w w' := by
  unfold ansE at hE
  by_cases h0 : checkM m = 0
  · rw [if_pos h0] at hE
    rw [h0] at h
    subst h
    by_cases h3 : m.kind = 3
    · exact mencode_bring m a cap w E hi h0 h3 hE
    · exact mencode_ids m a cap w E hi h0 h3 hE
  · rw [if_neg h0] at hE
    subst hE
    exact mencode_err m a cap w r hi h (by rw [← h]; exact h0)
theorem rencode_all (m : MsgD) (a : Option Addr) (cap : Nat) (w : World) (r : Int) (E : ByteArray) (hc : m.ids.length ≤ cap) (hi : IdsAt w a m.ids) (h : checkM m = r) (hE : ansE m = E) :
    Calls Try.prog 13 #[.agg #[.int .i64 m.kind, .slice a m.ids.length cap, .string m.body]] w fun e w' => e = .returned (.tuple #[.string E, .int .i64 r]) ∧ Below w.heap.size w w' := by
  unfold ansE at hE
  by_cases h0 : checkM m = 0
  · rw [if_pos h0] at hE
    rw [h0] at h
    subst h
    by_cases h3 : m.kind = 3
    · exact rencode_bring m a cap w E hc hi h0 h3 hE
    · exact rencode_ids m a cap w E hc hi h0 h3 hE
  · rw [if_neg h0] at hE
    subst hE
    exact rencode_err m a cap w r hc hi h (by rw [← h]; exact h0)
end Go.Proofs.Ytnigjhfdeinlhab
