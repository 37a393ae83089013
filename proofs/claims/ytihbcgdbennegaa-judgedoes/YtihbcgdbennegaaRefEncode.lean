/-
  The contracts of the reference's bytesOf and DeedEncode.
-/
import Derived.Test.YtihbcgdbennegaaEncode
namespace Go.Proofs.Ytihbcgdbennegaa
open Go.RowKit

set_option maxHeartbeats 2000000 in
theorem bytesOf_ok (d : DeedD) (a : Option Addr) (cap : Nat) (w : World) (hi : InsAt w a d.ins) (h : checkD d = 0) :
    Calls Try.prog 45 #[.agg #[.slice a d.ins.length cap, .int .i64 d.outs, .int .i64 d.weight, .int .i64 d.fee]] w fun e w' => e = .returned (.string (str (encB d))) ∧ Below w.heap.size w w' := by
  obtain ⟨hl8, hat, _, ho, hg, hf⟩ := check_ok h
  obtain ⟨ho1, ho2⟩ := ho
  obtain ⟨hg1, hg2⟩ := hg
  obtain ⟨hf1, hf2⟩ := hf
  have HAT := Lib.hid hat
  clear h hat
  obtain ⟨s1, hs1⟩ : ∃ s1, s1 = str [UInt8.ofNat (d.ins.length : Int).toNat] := ⟨_, rfl⟩
  have hz1 : s1.size = 1 := by rw [hs1, str_size]; rfl
  have hq1 : ¬ 9223372036854775807 < 1 + s1.size := by omega
  have H1 := Lib.hid hs1
  clear hs1 hz1
  have hk := kept_new w (.cells #[.slice a d.ins.length cap, .int .i64 d.outs, .int .i64 d.weight, .int .i64 d.fee] 30)
  have hia := insAt_kept hk hi
  go_enter Try.func45, Try.ntmps45
  go_wp2_with fail
  with_reducible refine (digits1 _ s1 _ (by omega) (by omega) H1.out).mono ?_
  rintro e w1 ⟨rfl, hb1⟩
  obtain ⟨c0, c1, c2, c3, hws⟩ := box_four hb1
  have hi1 := insAt_kept hb1 hia
  have hk1 := kept_trans hk hb1
  clear hk hb1 hia hi
  go_wp2_with fail
  go_loopw [3, 15] (fun u i wr => ∃ (k : Nat) (S : ByteArray), k ≤ d.ins.length ∧ i = .int .i64 k ∧ u = .string S ∧ Hid (S = str ([68, UInt8.ofNat d.ins.length] ++ encL (d.ins.take k))) ∧ Below w1.heap.size w1 wr) (fun _ i _ => d.ins.length - (intOf i).toNat)
  case atStart => exact ⟨0, _, Nat.zero_le _, rfl, rfl, Lib.hid (by rw [H1.out]; rfl), Below.refl _ _⟩
  case round =>
    obtain ⟨k, S, hk, rfl, rfl, HS, hbr⟩ := hrel
    have hSz : S.size ≤ 100 := by rw [HS.out, str_size, List.length_append, encL_length, List.length_take]; simp; omega
    by_cases hlt : k < d.ins.length
    · obtain ⟨hat1, hat2⟩ := HAT.out k hlt
      obtain ⟨b, oo, rfl, hb, hd0, hd1, hok⟩ := insAt_kept hbr hi1 k hlt
      obtain ⟨s8, hs8⟩ : ∃ s, s = str (be 8 d.ins[k].1.toNat) := ⟨_, rfl⟩
      obtain ⟨sa, hsa⟩ : ∃ s, s = str [UInt8.ofNat d.ins[k].2.toNat] := ⟨_, rfl⟩
      have hz8 : s8.size = 8 := by rw [hs8, str_size, be_length]
      have hza : sa.size = 1 := by rw [hsa, str_size]; rfl
      have hq8 : ¬ 9223372036854775807 < s8.size + sa.size := by omega
      have hqS : ¬ 9223372036854775807 < S.size + (s8.size + sa.size) := by omega
      have hwr : IntKind.u64.wrap d.ins[k].2 = d.ins[k].2 := by rw [IntKind.wrap_u64]; omega
      have H8 := Lib.hid hs8
      have HA := Lib.hid hsa
      have HN : Hid (S ++ (s8 ++ sa) = str ([68, UInt8.ofNat d.ins.length] ++ encL (d.ins.take (k + 1)))) := Lib.hid (by
        rw [encL_take hlt, HS.out, hs8, hsa, ← str_append, ← str_append]
        simp)
      clear hs8 hsa hz8 hza hSz
      obtain ⟨x0, x1, hsx⟩ := box_pair (Below.refl _ (wr.alloc (.cells #[.int .u64 d.ins[k].1.toNat, .int .i64 d.ins[k].2] 52)))
      have hbx := kept_alloc hbr (.cells #[.int .u64 d.ins[k].1.toNat, .int .i64 d.ins[k].2] 52)
      generalize hwx : wr.alloc (.cells #[.int .u64 d.ins[k].1.toNat, .int .i64 d.ins[k].2] 52) = wx at *
      have HW := Lib.hid hwx
      clear hwx
      go_wp2_with fail
      rw [HW.out]
      go_region_held3 (fun w' => w'.cell? ⟨wr.heap.size, 0, none⟩ = some (.int .u64 d.ins[k].1.toNat) ∧ w'.cell? ⟨wr.heap.size, 1, none⟩ = some (.int .i64 d.ins[k].2) ∧ Below w1.heap.size w1 w')
        (first | exact ⟨x0, x1, hbx.drew⟩ | (go_split_ands; exact ⟨kept_cell hb2 (by assumption), kept_cell hb2 (by assumption), kept_trans (by assumption) hb2⟩))
        (first | (go_at_call 61; ((with_reducible refine (digits8 _ s8 _ H8.out).mono ?_); rintro e w2 ⟨rfl, hb2⟩)) | (go_at_call 61; ((with_reducible refine (digits1 _ sa _ hat1 (by omega) HA.out).mono ?_); rintro e w2 ⟨rfl, hb2⟩)))
      go_wp2_with fail
      go_split_ands
      go_roundw
      case rel => exact ⟨k + 1, _, by omega, by go_num, rfl, Lib.hid HN.out, by assumption⟩
      case measure => simp [intOf]; omega
    · have HS' := HS.out
      rw [List.take_of_length_le (by omega)] at HS'
      obtain ⟨g0, g1, g2, g3⟩ := four_below hbr hws c0 c1 c2 c3
      obtain ⟨so, hso⟩ : ∃ s, s = str [UInt8.ofNat d.outs.toNat] := ⟨_, rfl⟩
      obtain ⟨sw, hsw⟩ : ∃ s, s = str (be 2 d.weight.toNat) := ⟨_, rfl⟩
      obtain ⟨sf, hsf⟩ : ∃ s, s = str (be 2 d.fee.toNat) := ⟨_, rfl⟩
      have hzo : so.size = 1 := by rw [hso, str_size]; rfl
      have hzw : sw.size = 2 := by rw [hsw, str_size, be_length]
      have hzf : sf.size = 2 := by rw [hsf, str_size, be_length]
      have hr1 : ¬ 9223372036854775807 < S.size + so.size := by omega
      have hr2 : ¬ 9223372036854775807 < S.size + so.size + sw.size := by omega
      have hr3 : ¬ 9223372036854775807 < S.size + so.size + sw.size + sf.size := by omega
      have hw1 : IntKind.u64.wrap d.outs = d.outs := by rw [IntKind.wrap_u64]; omega
      have hw2 : IntKind.u64.wrap d.weight = d.weight := by rw [IntKind.wrap_u64]; omega
      have hw3 : IntKind.u64.wrap d.fee = d.fee := by rw [IntKind.wrap_u64]; omega
      have HN : Hid (str (encB d) = S ++ so ++ sw ++ sf) := Lib.hid (by
        rw [HS', hso, hsw, hsf, ← str_append, ← str_append, ← str_append]
        rfl)
      have HO := Lib.hid hso
      have HWT := Lib.hid hsw
      have HF := Lib.hid hsf
      clear hso hsw hsf hzo hzw hzf HS' HS hSz
      go_wp2_with fail
      go_region_held3 (fun w' => w'.cell? ⟨w.heap.size, 0, none⟩ = some (.slice a d.ins.length cap) ∧ w'.cell? ⟨w.heap.size, 1, none⟩ = some (.int .i64 d.outs) ∧ w'.cell? ⟨w.heap.size, 2, none⟩ = some (.int .i64 d.weight) ∧ w'.cell? ⟨w.heap.size, 3, none⟩ = some (.int .i64 d.fee) ∧ Below w1.heap.size w1 w')
        (first | exact ⟨g0, g1, g2, g3, hbr.drew⟩ | (go_split_ands; exact ⟨kept_cell hb2 (by assumption), kept_cell hb2 (by assumption), kept_cell hb2 (by assumption), kept_cell hb2 (by assumption), kept_trans (by assumption) hb2⟩))
        (first | (go_at_call 61; ((with_reducible refine (digits1 _ so _ (by omega) (by omega) HO.out).mono ?_); rintro e w2 ⟨rfl, hb2⟩)) | (go_at_call 61; ((with_reducible refine (digits2 _ sw _ ?_ ?_ HWT.out).mono ?_); (omega); (omega); rintro e w2 ⟨rfl, hb2⟩)) | (go_at_call 61; ((with_reducible refine (digits2 _ sf _ ?_ ?_ HF.out).mono ?_); (omega); (omega); rintro e w2 ⟨rfl, hb2⟩)))
      go_wp2_with fail
      go_split_ands
      go_ret
      exact ⟨by rw [HN.out]; rfl, kept_trans hk1 (by assumption)⟩

end Go.Proofs.Ytihbcgdbennegaa
