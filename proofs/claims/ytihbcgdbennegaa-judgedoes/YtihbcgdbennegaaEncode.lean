/-
  The contract of the program's Encode.
-/
import Derived.Test.YtihbcgdbennegaaDeedFacts
import Derived.Test.YtihbcgdbennegaaCodes
namespace Go.Proofs.Ytihbcgdbennegaa
open Go.RowKit

theorem size_any (n : Nat) (w : World) (hn : n ≤ 255) : Calls Try.prog 62 #[.int .i64 n] w fun e w' => e = .returned (.int .i64 ((7 + 9 * n : Nat) : Int)) ∧ w = w' := by
  go_enter Try.func62, Try.ntmps62
  go_wp2
  go_ret
  exact ⟨ret_i64 (by omega), rfl⟩

theorem four_below {w w' : World} {B : Nat} (hg : Below B w w') {b : Nat} (hb : b < B) {u0 u1 u2 u3 : Value} (h0 : w.cell? ⟨b, 0, none⟩ = some u0) (h1 : w.cell? ⟨b, 1, none⟩ = some u1) (h2 : w.cell? ⟨b, 2, none⟩ = some u2) (h3 : w.cell? ⟨b, 3, none⟩ = some u3) :
    w'.cell? ⟨b, 0, none⟩ = some u0 ∧ w'.cell? ⟨b, 1, none⟩ = some u1 ∧ w'.cell? ⟨b, 2, none⟩ = some u2 ∧ w'.cell? ⟨b, 3, none⟩ = some u3 :=
  ⟨(hg.cell (p := ⟨b, 0, none⟩) hb).trans h0, (hg.cell (p := ⟨b, 1, none⟩) hb).trans h1, (hg.cell (p := ⟨b, 2, none⟩) hb).trans h2, (hg.cell (p := ⟨b, 3, none⟩) hb).trans h3⟩
theorem two_bytes (n : Nat) (h : n ≤ 255) : [Value.int .u8 68, .int .u8 n] = [68, UInt8.ofNat n].map byteV := by
  have : (UInt8.ofNat n).toNat = n := by rw [UInt8.toNat_ofNat']; omega
  simp [byteV, this]
theorem enc_ne (d : DeedD) : encB d ≠ [] := fun h => by
  have := encB_length d
  rw [h] at this
  simp at this
  omega
theorem encode_err (d : DeedD) (a : Option Addr) (cap : Nat) (w : World) (r : Int) (hi : InsAt w a d.ins) (h : checkD d = r) (hr : r ≠ 0) :
    Calls Try.prog 47 #[.agg #[.slice a d.ins.length cap, .int .i64 d.outs, .int .i64 d.weight, .int .i64 d.fee]] w fun e w' => e = .returned (.tuple #[.string ⟨#[]⟩, .int .i64 r]) ∧ Below w.heap.size w w' := by
  have HR := Lib.hid h
  clear h
  have hrb : (r != 0) = true := by simpa using hr
  have hi0 := insAt_kept (kept_new w (.cells #[.slice a d.ins.length cap, .int .i64 d.outs, .int .i64 d.weight, .int .i64 d.fee] 30)) hi
  have hk := kept_new w (.cells #[.slice a d.ins.length cap, .int .i64 d.outs, .int .i64 d.weight, .int .i64 d.fee] 30)
  go_enter Try.func47, Try.ntmps47
  go_wp2_with fail
  with_reducible refine (check_is d _ _ _ r hi0 HR.out).mono ?_
  rintro e w1 ⟨rfl, hb1⟩
  go_wp2_with fail
  go_ret2
  exact ⟨rfl, kept_trans hk hb1⟩

set_option maxHeartbeats 2000000 in
theorem encode_ok (d : DeedD) (a : Option Addr) (cap : Nat) (w : World) (hi : InsAt w a d.ins) (h : checkD d = 0) :
    Calls Try.prog 47 #[.agg #[.slice a d.ins.length cap, .int .i64 d.outs, .int .i64 d.weight, .int .i64 d.fee]] w fun e w' => e = .returned (.tuple #[.string ⟨(encB d).toArray⟩, .int .i64 0]) ∧ Below w.heap.size w w' := by
  obtain ⟨i0, hi0, hz0, hz1, hz2⟩ := info_parts info_u8
  obtain ⟨hl8, hat, _, ho, hg, hf⟩ := check_ok h
  obtain ⟨ho1, ho2⟩ := ho
  obtain ⟨hg1, hg2⟩ := hg
  obtain ⟨hf1, hf2⟩ := hf
  have HAT := Lib.hid hat
  have HR := Lib.hid h
  clear h hat
  have hia := insAt_kept (kept_new w (.cells #[.slice a d.ins.length cap, .int .i64 d.outs, .int .i64 d.weight, .int .i64 d.fee] 30)) hi
  have hk := kept_new w (.cells #[.slice a d.ins.length cap, .int .i64 d.outs, .int .i64 d.weight, .int .i64 d.fee] 30)
  go_enter Try.func47, Try.ntmps47
  go_wp2_with fail
  with_reducible refine (check_is d _ _ _ 0 hia HR.out).mono ?_
  rintro e w1 ⟨rfl, hb1⟩
  obtain ⟨c0, c1, c2, c3, hws⟩ := box_four hb1
  have hi1 := insAt_kept hb1 hia
  have hk1 := kept_trans hk hb1
  clear hk hb1 hia hi
  go_wp2_with fail
  with_reducible refine (size_any _ _ (by omega)).mono ?_
  rintro e w' ⟨rfl, rfl⟩
  go_wp2_with (first
    | (at_make; refine wpList_make_own _ rfl _ _ 86 rfl w1.heap.size 5 i0 (.int .u8 0) 1 Try.underlying86 hi0 hz0 hz1 _ _ _ (7 + 9 * d.ins.length) rfl rfl rfl (by rw [hz2]; omega) (by unfold maxLen; omega) (Nat.le_refl _) ?_; intro w2 hown2 hgrow2; obtain ⟨e0, e1, e2, e3⟩ := four_kept hgrow2 c0 c1 c2 c3)
    | (at_builtin; refine wpList_append_bytes Try.underlying86 hi0 hz0 hz1 hz2 rfl _ _ rfl (B := w1.heap.size) (l := []) (news := [68, UInt8.ofNat d.ins.length]) rfl rfl (two_bytes _ (by omega)) hown2 (by simp) hgrow2.size ?_; intro v3 w3 hb3; obtain ⟨f0, f1, f2, f3⟩ := four_below (buf_below (l0 := []) hown2 hgrow2.size hb3) hws e0 e1 e2 e3))
  have hbd3 := (grown_below hgrow2).trans (buf_below (l0 := []) hown2 hgrow2.size hb3)
  have hi3 := insAt_kept hbd3 hi1
  have HV := Lib.hid hb3
  have hs3 : w1.heap.size ≤ w3.heap.size := hbd3.size
  clear hb3 hown2 hgrow2 c0 c1 c2 c3 e0 e1 e2 e3
  go_loopw [5, 28] (fun u i wr => ∃ k : Nat, k ≤ d.ins.length ∧ i = .int .i64 k ∧ Hid (Buf 5 w1.heap.size w3 v3 wr u ([68, UInt8.ofNat d.ins.length] ++ encL (d.ins.take k)))) (fun _ i _ => d.ins.length - (intOf i).toNat)
  case atStart => exact ⟨0, Nat.zero_le _, rfl, Lib.hid (by simpa [encL] using buf_refl HV.out.own)⟩
  case round =>
    obtain ⟨k, hk, rfl, HB⟩ := hrel
    have hbr := buf_below HV.out.own hs3 HB.out
    have hlen : ([68, UInt8.ofNat d.ins.length] ++ encL (d.ins.take k)).length ≤ 100 := by
      rw [List.length_append, encL_length, List.length_take]; simp; omega
    have hsr : w1.heap.size ≤ wr.heap.size := Nat.le_trans hs3 hbr.size
    by_cases hlt : k < d.ins.length
    · obtain ⟨hat1, hat2⟩ := HAT.out k hlt
      obtain ⟨b, oo, rfl, hb, hd0, hd1, hok⟩ := insAt_kept (hbd3.trans hbr) hi1 k hlt
      have hown := (buf_alloc HB.out (.cells #[.int .u64 d.ins[k].1.toNat, .int .i64 d.ins[k].2] 52)).own
      have hne := own_ne HB.out.own
      have hbx := box_pair (Below.refl _ (wr.alloc (.cells #[.int .u64 d.ins[k].1.toNat, .int .i64 d.ins[k].2] 52)))
      obtain ⟨x0, x1, _⟩ := hbx
      obtain ⟨E8, hE8⟩ : ∃ E, str (be 8 d.ins[k].1.toNat) = E := ⟨_, rfl⟩
      have hE8l : E8.data.toList = be 8 d.ins[k].1.toNat := by rw [← hE8, str_list]
      have hE8s : E8.size = 8 := by rw [← hE8, str_size, be_length]
      have HE8 := Lib.hid hE8
      clear hE8
      have hsa : w1.heap.size ≤ (wr.alloc (.cells #[.int .u64 d.ins[k].1.toNat, .int .i64 d.ins[k].2] 52)).heap.size := by simp; omega
      have hba := buf_alloc HB.out (.cells #[.int .u64 d.ins[k].1.toNat, .int .i64 d.ins[k].2] 52)
      go_wp2_with fail
      with_reducible refine (encodeID_is _ E8 _ HE8.out).mono ?_
      rintro e w4 ⟨rfl, hb4⟩
      have y1 := kept_cell hb4 x1
      have hB4 := buf_later hba hb4
      have hs4 : w1.heap.size ≤ w4.heap.size := Nat.le_trans hsa hb4.size
      have hl4 : ([68, UInt8.ofNat d.ins.length] ++ encL (d.ins.take k)).length + E8.size ≤ 1000000 := by omega
      have hl5 : ([68, UInt8.ofNat d.ins.length] ++ encL (d.ins.take k) ++ E8.data.toList).length + [UInt8.ofNat d.ins[k].2.toNat].length ≤ 1000000 := by rw [List.length_append, hE8l, be_length]; simp at hlen ⊢; omega
      clear hba hown hb4
      go_wp2_with (first
        | (at_builtin; refine wpList_append_str Try.underlying86 Try.underlying9 hi0 hz0 hz1 hz2 rfl _ _ rfl (B := w1.heap.size) (l := [68, UInt8.ofNat d.ins.length] ++ encL (d.ins.take k)) (s := E8) rfl rfl hB4.own hl4 hs4 ?_; intro v5 w5 hb5; have z1 := buf_cell hb5 y1 hne; have hs5 : w1.heap.size ≤ w5.heap.size := Nat.le_trans hs4 hb5.grown.size)
        | (at_builtin; refine wpList_append_bytes Try.underlying86 hi0 hz0 hz1 hz2 rfl _ _ rfl (B := w1.heap.size) (news := [UInt8.ofNat d.ins[k].2.toNat]) rfl rfl (one_byte _ hat1 (by omega)) hb5.own hl5 hs5 ?_; intro v6 w6 hb6))
      go_roundw
      case rel =>
        refine ⟨k + 1, by omega, by go_num, Lib.hid ?_⟩
        have := buf_trans (buf_trans hB4 hb5) hb6
        rw [encL_take hlt, ← hE8l]
        simpa using this
      case measure => simp [intOf]; omega
    · have HB' := HB.out
      rw [List.take_of_length_le (by omega)] at HB'
      have HE := Lib.hid HB'
      have hle : (encL d.ins).length ≤ 72 := by rw [encL_length]; omega
      obtain ⟨g0, g1, g2, g3⟩ := four_below hbr hws f0 f1 f2 f3
      clear HB HB' hlen f0 f1 f2 f3
      go_wp2_with (at_builtin; refine wpList_append_bytes Try.underlying86 hi0 hz0 hz1 hz2 rfl _ _ rfl (B := w1.heap.size) (news := [UInt8.ofNat d.outs.toNat]) rfl rfl (one_byte _ (by omega) (by omega)) HE.out.own (by simp; omega) hsr ?_; intro v4 w4 hb4; obtain ⟨q0, q1, q2, q3⟩ := four_below (buf_below HE.out.own hsr hb4) hws g0 g1 g2 g3)
      have hs4 : w1.heap.size ≤ w4.heap.size := Nat.le_trans hsr hb4.grown.size
      with_reducible refine (appendNumber2 _ w1.heap.size v4 _ _ (by omega) (by omega) ?_ hs4 hb4.own).mono ?_
      · simp; omega
      rintro e w5 ⟨v5, rfl, hb5⟩
      obtain ⟨r0, r1, r2, r3⟩ := four_below (buf_below hb4.own hs4 hb5) hws q0 q1 q2 q3
      have hs5 : w1.heap.size ≤ w5.heap.size := Nat.le_trans hs4 hb5.grown.size
      have H4 := Lib.hid hb4
      have H5 := Lib.hid hb5
      clear q0 q1 q2 q3 g0 g1 g2 g3 hb4 hb5
      go_wp2_with fail
      with_reducible refine (appendNumber2 _ w1.heap.size v5 _ _ (by omega) (by omega) ?_ hs5 H5.out.own).mono ?_
      · simp [be_length]; omega
      rintro e w6 ⟨v6, rfl, hb6⟩
      obtain ⟨E, hE⟩ : ∃ E : ByteArray, ⟨(encB d).toArray⟩ = E := ⟨_, rfl⟩
      have hconv : (convert 86 9 v6).run Try.prog w6 = .ok (.string E) w6 := by
        rw [← hE]
        exact conv_bytes 86 9 Try.underlying86 Try.underlying5 Try.underlying9 hb6.own (enc_ne d)
      have HEE := Lib.hid hE
      have hfin := buf_trans (buf_trans H4.out H5.out) hb6
      have hend := (hbd3.trans hbr).trans (buf_below HE.out.own hsr hfin)
      clear hb6 hfin r0 r1 r2 r3 hE
      go_wp2_with fail
      go_ret2
      exact ⟨by rw [HEE.out]; rfl, kept_trans hk1 hend⟩
end Go.Proofs.Ytihbcgdbennegaa
