/-
  The contract of the program's msg.Encode.
-/
import Derived.Test.YtnigjhfdeinlhabMsgCheck
namespace Go.Proofs.Ytnigjhfdeinlhab
open Go.RowKit

theorem mencode_err (m : MsgD) (a : Option Addr) (cap : Nat) (w : World) (r : Int) (hi : IdsAt w a m.ids) (h : checkM m = r) (hr : r ≠ 0) :
    Calls Try.prog 12 #[.agg #[.int .i64 m.kind, .slice a m.ids.length cap, .string m.body]] w fun e w' => e = .returned (.tuple #[.string ⟨#[]⟩, .int .i64 r]) ∧ Below w.heap.size w w' := by
  have HR := Lib.hid h
  clear h
  have hrb : (r != 0) = true := by simpa using hr
  have hk := kept_new w (msgBox a cap m)
  have hi0 := idsAt_kept hk hi
  go_enter Try.func12, Try.ntmps12
  go_wp2_with fail
  with_reducible refine (mcheck_is m _ _ _ r hi0 HR.out).mono ?_
  rintro e w1 ⟨rfl, hb1⟩
  go_wp2_with fail
  go_ret2
  exact ⟨rfl, kept_trans hk hb1⟩

theorem one_cell (n : Int) (h0 : 0 ≤ n) (h : n ≤ 255) : #[Value.int .u8 n] = ([UInt8.ofNat n.toNat].map byteV).toArray := by
  rw [← one_byte n h0 h]

theorem mencode_bring (m : MsgD) (a : Option Addr) (cap : Nat) (w : World) (E : ByteArray) (hi : IdsAt w a m.ids) (h : checkM m = 0) (h3 : m.kind = 3) (hE : str (encM m) = E) :
    Calls Try.prog 12 #[.agg #[.int .i64 m.kind, .slice a m.ids.length cap, .string m.body]] w fun e w' => e = .returned (.tuple #[.string E, .int .i64 0]) ∧ Below w.heap.size w w' := by
  obtain ⟨i0, hi0, hz0, hz1, hz2⟩ := info_parts info_u8
  have hs : m.body.size ≤ 100 := by
    rcases (checkM_ok h).2 with ⟨_, _, _, h4⟩ | ⟨h4, _⟩
    · exact h4
    · exact absurd h3 h4
  have hEl : E.data.toList = [UInt8.ofNat m.kind.toNat] ++ m.body.data.toList := by rw [← hE, str_list, encM_bring h3]
  have HR := Lib.hid h
  have HE := Lib.hid hEl
  have h3b : (m.kind == 3) = true := beq_iff_eq.2 h3
  have hk0 : 0 ≤ m.kind := by omega
  have hk4 : m.kind ≤ 4 := by omega
  have hk := kept_new w (msgBox a cap m)
  have hia := idsAt_kept hk hi
  clear h hE hEl h3 hi
  go_enter Try.func12, Try.ntmps12
  go_wp2_with fail
  with_reducible refine (mcheck_is m _ _ _ 0 hia HR.out).mono ?_
  rintro e w1 ⟨rfl, hb1⟩
  obtain ⟨c0, c1, c2, hws⟩ := box_three hb1
  have hk1 := kept_trans hk hb1
  have hown0 := bytes_built 5 w1 #[.int .u8 m.kind] _ 1 (one_cell m.kind hk0 (by omega)) rfl (by omega)
  have hB0 : w1.heap.size ≤ (w1.alloc (.cells #[.int .u8 m.kind] 5)).heap.size := by simp
  clear hk hb1 hia
  go_wp2_with (at_builtin; refine Hid.out ?_)
  refine Lib.hid ?_
  refine wpList_append_str Try.underlying43 Try.underlying9 hi0 hz0 hz1 hz2 rfl _ _ rfl (B := w1.heap.size) (l := [UInt8.ofNat m.kind.toNat]) (s := m.body) rfl rfl hown0 (by simp; omega) hB0 ?_
  intro v3 w3 hb3
  have hconv : (convert 43 9 v3).run Try.prog w3 = .ok (.string E) w3 := by
    have := conv_bytes 43 9 Try.underlying43 Try.underlying5 Try.underlying9 hb3.own (by simp)
    rw [← HE.out] at this
    exact this
  have hend := kept_trans hk1 ((kept_new w1 (.cells #[.int .u8 m.kind] 5)).trans (buf_below hown0 hB0 hb3))
  clear hb3 hown0
  go_wp2_with fail
  go_ret2
  exact ⟨rfl, hend⟩

set_option maxHeartbeats 1000000 in
theorem mencode_ids (m : MsgD) (a : Option Addr) (cap : Nat) (w : World) (E : ByteArray) (hi : IdsAt w a m.ids) (h : checkM m = 0) (h3 : m.kind ≠ 3) (hE : str (encM m) = E) :
    Calls Try.prog 12 #[.agg #[.int .i64 m.kind, .slice a m.ids.length cap, .string m.body]] w fun e w' => e = .returned (.tuple #[.string E, .int .i64 0]) ∧ Below w.heap.size w w' := by
  obtain ⟨i0, hi0, hz0, hz1, hz2⟩ := info_parts info_u8
  obtain ⟨hwk, hl0, hl20⟩ : within m.kind 1 4 = true ∧ 0 < m.ids.length ∧ m.ids.length ≤ 20 := by
    rcases (checkM_ok h) with ⟨hw, ⟨h4, _⟩ | ⟨_, _, h5, h6, _⟩⟩
    · exact absurd h4 h3
    · exact ⟨hw, h5, h6⟩
  have hEl : E.data.toList = [UInt8.ofNat m.kind.toNat] ++ [UInt8.ofNat m.ids.length] ++ encI m.ids := by rw [← hE, str_list, encM_ids h3]
  have HR := Lib.hid h
  have HE := Lib.hid hEl
  have h3b : (m.kind == 3) = false := beq_eq_false_iff_ne.2 h3
  have hkb := within_known hwk
  have hk0 : 0 ≤ m.kind := by omega
  have hk4 : m.kind ≤ 4 := by omega
  have hk := kept_new w (msgBox a cap m)
  have hia := idsAt_kept hk hi
  clear h hE hEl h3 hi hkb hwk
  go_enter Try.func12, Try.ntmps12
  go_wp2_with fail
  with_reducible refine (mcheck_is m _ _ _ 0 hia HR.out).mono ?_
  rintro e w1 ⟨rfl, hb1⟩
  obtain ⟨c0, c1, c2, hws⟩ := box_three hb1
  have hk1 := kept_trans hk hb1
  have hi1 := idsAt_kept hb1 hia
  have hown0 := bytes_built 5 w1 #[.int .u8 m.kind] _ 1 (one_cell m.kind hk0 (by omega)) rfl (by omega)
  have hB0 : w1.heap.size ≤ (w1.alloc (.cells #[.int .u8 m.kind] 5)).heap.size := by simp
  clear hk hb1 hia
  have hone := one_byte (m.ids.length : Int) (by omega) (by omega)
  rw [Int.toNat_natCast] at hone
  have HONE := Lib.hid hone
  clear hone
  go_wp2_with (at_builtin; refine Hid.out ?_)
  refine Lib.hid ?_
  refine wpList_append_bytes Try.underlying43 hi0 hz0 hz1 hz2 rfl _ _ rfl (B := w1.heap.size) (l := [UInt8.ofNat m.kind.toNat]) (news := [UInt8.ofNat m.ids.length]) rfl (Eq.trans (b := .slice (some ⟨w1.heap.size + 1, 0, none⟩) 1 1) rfl (by simp)) HONE.out hown0 (by simp) hB0 ?_
  intro v3 w3 hb3
  have hbd3 := buf_below hown0 hB0 hb3
  have f1 := (hbd3.cell (p := ⟨w.heap.size, 1, none⟩) hws).trans (kept_cell (kept_new _ _) c1)
  have hb13 := (kept_new w1 (.cells #[.int .u8 m.kind] 5)).trans hbd3
  have hi3 := idsAt_kept hb13 hi1
  have hs3 : w1.heap.size ≤ w3.heap.size := hb13.size
  have HV := Lib.hid hb3
  clear hb3 hbd3 hown0 hB0 c0 c1 c2
  go_wp2_with fail
  go_loopw [5, 36] (fun u i wr => ∃ k : Nat, k ≤ m.ids.length ∧ i = .int .i64 k ∧ Hid (Buf 5 w1.heap.size w3 v3 wr u ([UInt8.ofNat m.kind.toNat] ++ [UInt8.ofNat m.ids.length] ++ encI (m.ids.take k)))) (fun _ i _ => m.ids.length - (intOf i).toNat)
  case atStart => exact ⟨0, Nat.zero_le _, rfl, Lib.hid (by simpa [encI] using buf_refl HV.out.own)⟩
  case round =>
    obtain ⟨k, hk, rfl, HB⟩ := hrel
    have hbr := buf_below HV.out.own hs3 HB.out
    have hlen : ([UInt8.ofNat m.kind.toNat] ++ [UInt8.ofNat m.ids.length] ++ encI (m.ids.take k)).length ≤ 200 := by
      rw [List.length_append, encI_length, List.length_take]; simp; omega
    have hsr : w1.heap.size ≤ wr.heap.size := Nat.le_trans hs3 hbr.size
    by_cases hlt : k < m.ids.length
    · obtain ⟨b, oo, rfl, hb, hd⟩ := idsAt_kept (hb13.trans hbr) hi1 k hlt
      obtain ⟨E8, hE8⟩ : ∃ E, str (be 8 m.ids[k].toNat) = E := ⟨_, rfl⟩
      have hE8l : E8.data.toList = be 8 m.ids[k].toNat := by rw [← hE8, str_list]
      have hE8s : E8.size = 8 := by rw [← hE8, str_size, be_length]
      have HE8 := Lib.hid hE8
      have HL8 := Lib.hid hE8l
      clear hE8 hE8l
      go_wp2_with fail
      with_reducible refine (encodeID_is _ E8 _ HE8.out).mono ?_
      rintro e w4 ⟨rfl, hb4⟩
      have hB4 := buf_later HB.out hb4
      have hs4 : w1.heap.size ≤ w4.heap.size := Nat.le_trans hsr hb4.size
      have hl4 : ([UInt8.ofNat m.kind.toNat] ++ [UInt8.ofNat m.ids.length] ++ encI (m.ids.take k)).length + E8.size ≤ 1000000 := by omega
      go_wp2_with (at_builtin; refine wpList_append_str Try.underlying43 Try.underlying9 hi0 hz0 hz1 hz2 rfl _ _ rfl (B := w1.heap.size) (l := [UInt8.ofNat m.kind.toNat] ++ [UInt8.ofNat m.ids.length] ++ encI (m.ids.take k)) (s := E8) rfl rfl hB4.own hl4 hs4 ?_; intro v5 w5 hb5)
      go_roundw
      case rel =>
        refine ⟨k + 1, by omega, by go_num, Lib.hid ?_⟩
        have := buf_trans hB4 hb5
        rw [encI_take hlt, ← HL8.out]
        simpa using this
      case measure => simp [intOf]; omega
    · have HB' := HB.out
      rw [List.take_of_length_le (by omega), ← HE.out] at HB'
      have hconv : (convert 43 9 u5).run Try.prog wr = .ok (.string E) wr :=
        conv_bytes 43 9 Try.underlying43 Try.underlying5 Try.underlying9 HB'.own (by rw [HE.out]; simp)
      have hend := kept_trans hk1 (hb13.trans hbr)
      clear HB HB'
      go_wp2_with fail
      go_ret2
      exact ⟨rfl, hend⟩
end Go.Proofs.Ytnigjhfdeinlhab
