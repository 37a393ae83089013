/-
  IDs of deeds: the contracts of deed.ID, of the reference's DeedID and idOf.
-/
import Derived.Test.YtihbcgdbennegaaRefEncode
import Derived.Test.YtihbcgdbennegaaOfWalks
namespace Go.Proofs.Ytihbcgdbennegaa
open Go.RowKit

theorem encode_is (d : DeedD) (a : Option Addr) (cap : Nat) (w : World) (E : ByteArray) (hi : InsAt w a d.ins) (h : checkD d = 0) (hE : str (encB d) = E) :
    Calls Try.prog 47 #[.agg #[.slice a d.ins.length cap, .int .i64 d.outs, .int .i64 d.weight, .int .i64 d.fee]] w fun e w' => e = .returned (.tuple #[.string E, .int .i64 0]) ∧ Below w.heap.size w w' := hE ▸ encode_ok d a cap w hi h
theorem id_err (d : DeedD) (a : Option Addr) (cap : Nat) (w : World) (r : Int) (hi : InsAt w a d.ins) (h : checkD d = r) (hr : r ≠ 0) :
    Calls Try.prog 25 #[.agg #[.slice a d.ins.length cap, .int .i64 d.outs, .int .i64 d.weight, .int .i64 d.fee]] w fun e w' => e = .returned (.tuple #[.int .u64 0, .int .i64 r]) ∧ Below w.heap.size w w' := by
  have HR := Lib.hid h
  clear h
  have hrb : (r != 0) = true := by simpa using hr
  have hk := kept_new w (.cells #[.slice a d.ins.length cap, .int .i64 d.outs, .int .i64 d.weight, .int .i64 d.fee] 30)
  have hi0 := insAt_kept hk hi
  go_enter Try.func25, Try.ntmps25
  go_wp2_with fail
  with_reducible refine (encode_err d _ _ _ r hi0 HR.out hr).mono ?_
  rintro e w1 ⟨rfl, hb1⟩
  go_wp2_with fail
  go_ret2
  exact ⟨rfl, kept_trans hk hb1⟩
theorem enc_small (d : DeedD) (E : ByteArray) (h : checkD d = 0) (hE : str (encB d) = E) : E.size = 7 + 9 * d.ins.length ∧ d.ins.length ≤ 8 := by
  rw [← hE, str_size, encB_length]
  exact ⟨rfl, (check_ok h).1⟩
theorem id_is (d : DeedD) (a : Option Addr) (cap : Nat) (w : World) (E : ByteArray) (p : UInt64) (hi : InsAt w a d.ins) (h : checkD d = 0) (hE : str (encB d) = E) (hp : ofU E.data.toList = p) :
    Calls Try.prog 25 #[.agg #[.slice a d.ins.length cap, .int .i64 d.outs, .int .i64 d.weight, .int .i64 d.fee]] w fun e w' => e = .returned (.tuple #[.int .u64 p.toNat, .int .i64 0]) ∧ Below w.heap.size w w' := by
  have hs : E.size ≤ maxLen := by have := enc_small d E h hE; unfold maxLen; omega
  have HR := Lib.hid h
  have HE := Lib.hid hE
  have HP := Lib.hid hp
  clear h hE hp
  have hk := kept_new w (.cells #[.slice a d.ins.length cap, .int .i64 d.outs, .int .i64 d.weight, .int .i64 d.fee] 30)
  have hi0 := insAt_kept hk hi
  go_enter Try.func25, Try.ntmps25
  go_wp2_with fail
  with_reducible refine (encode_is d _ _ _ E hi0 HR.out HE.out).mono ?_
  rintro e w1 ⟨rfl, hb1⟩
  go_wp2_with fail
  with_reducible refine (of_is E p _ HP.out hs).mono ?_
  rintro e w2 ⟨rfl, rfl⟩
  go_wp2_with fail
  go_ret2
  exact ⟨rfl, kept_trans hk hb1⟩
theorem refID_err (d : DeedD) (a : Option Addr) (cap : Nat) (w : World) (r : Int) (hc : d.ins.length ≤ cap) (hi : InsAt w a d.ins) (h : checkD d = r) (hr : r ≠ 0) :
    Calls Try.prog 23 #[.agg #[.slice a d.ins.length cap, .int .i64 d.outs, .int .i64 d.weight, .int .i64 d.fee]] w fun e w' => e = .returned (.tuple #[.int .u64 0, .int .i64 r]) ∧ Below w.heap.size w w' := by
  have HR := Lib.hid h
  clear h
  have hrb : (r != 0) = true := by simpa using hr
  have hk := kept_new w (.cells #[.slice a d.ins.length cap, .int .i64 d.outs, .int .i64 d.weight, .int .i64 d.fee] 30)
  have hi0 := insAt_kept hk hi
  go_enter Try.func23, Try.ntmps23
  go_wp2_with fail
  with_reducible refine (refCheck_is d _ _ _ r hc hi0 HR.out).mono ?_
  rintro e w1 ⟨rfl, hb1⟩
  go_wp2_with fail
  go_ret2
  exact ⟨rfl, kept_trans hk hb1⟩
theorem refID_is (d : DeedD) (a : Option Addr) (cap : Nat) (w : World) (E : ByteArray) (p : UInt64) (hc : d.ins.length ≤ cap) (hi : InsAt w a d.ins) (h : checkD d = 0) (hE : str (encB d) = E) (hp : ofU E.data.toList = p) :
    Calls Try.prog 23 #[.agg #[.slice a d.ins.length cap, .int .i64 d.outs, .int .i64 d.weight, .int .i64 d.fee]] w fun e w' => e = .returned (.tuple #[.int .u64 p.toNat, .int .i64 0]) ∧ Below w.heap.size w w' := by
  have hs : E.size ≤ maxLen := by have := enc_small d E h hE; unfold maxLen; omega
  have HR := Lib.hid h
  have HP := Lib.hid hp
  have hby := fun (wx : World) (hx : InsAt wx a d.ins) => bytesOf_ok d a cap wx hx HR.out
  rw [hE] at hby
  clear h hE hp
  have hk := kept_new w (.cells #[.slice a d.ins.length cap, .int .i64 d.outs, .int .i64 d.weight, .int .i64 d.fee] 30)
  have hi0 := insAt_kept hk hi
  go_enter Try.func23, Try.ntmps23
  go_wp2_with fail
  with_reducible refine (refCheck_is d _ _ _ 0 hc hi0 HR.out).mono ?_
  rintro e w1 ⟨rfl, hb1⟩
  obtain ⟨c0, c1, c2, c3, hws⟩ := box_four hb1
  go_wp2_with fail
  with_reducible refine (hby _ (insAt_kept hb1 hi0)).mono ?_
  rintro e w2 ⟨rfl, hb2⟩
  go_wp2_with fail
  with_reducible refine (refSum_is E p _ HP.out hs).mono ?_
  rintro e w3 ⟨rfl, hb3⟩
  go_wp2_with fail
  go_ret2
  exact ⟨rfl, kept_trans (kept_trans (kept_trans hk hb1) hb2) hb3⟩
theorem simple_any (fee : Int) (w : World) : Calls Try.prog 46 #[.int .i64 fee] w fun e w' => e = .returned (.agg #[.slice none 0 0, .int .i64 1, .int .i64 10, .int .i64 fee]) ∧ Below w.heap.size w w' := by
  go_enter Try.func46, Try.ntmps46
  go_wp2
  exact bodyPost_ret (v := .agg #[.slice none 0 0, .int .i64 1, .int .i64 10, .int .i64 fee]) (by simp [results, Try.results46, go_sem]) rfl ⟨rfl, kept_new _ _⟩
/-- The ID of a deed. -/
def idD (d : DeedD) : UInt64 := ofU (encB d)
theorem idD_str (d : DeedD) : ofU (str (encB d)).data.toList = idD d := by rw [str_list]; rfl
theorem id_ok (d : DeedD) (a : Option Addr) (cap : Nat) (w : World) (hi : InsAt w a d.ins) (h : checkD d = 0) :
    Calls Try.prog 25 #[.agg #[.slice a d.ins.length cap, .int .i64 d.outs, .int .i64 d.weight, .int .i64 d.fee]] w fun e w' => e = .returned (.tuple #[.int .u64 (idD d).toNat, .int .i64 0]) ∧ Below w.heap.size w w' := id_is d a cap w _ _ hi h rfl (idD_str d)
theorem refID_ok (d : DeedD) (a : Option Addr) (cap : Nat) (w : World) (hc : d.ins.length ≤ cap) (hi : InsAt w a d.ins) (h : checkD d = 0) :
    Calls Try.prog 23 #[.agg #[.slice a d.ins.length cap, .int .i64 d.outs, .int .i64 d.weight, .int .i64 d.fee]] w fun e w' => e = .returned (.tuple #[.int .u64 (idD d).toNat, .int .i64 0]) ∧ Below w.heap.size w w' := refID_is d a cap w _ _ hc hi h rfl (idD_str d)
theorem idOf_any (d : DeedD) (a : Option Addr) (cap : Nat) (w : World) (hi : InsAt w a d.ins) (h : checkD d = 0) (p : UInt64) (hp : idD d = p) :
    Calls Try.prog 37 #[.agg #[.slice a d.ins.length cap, .int .i64 d.outs, .int .i64 d.weight, .int .i64 d.fee]] w fun e w' => e = .returned (.int .u64 p.toNat) ∧ Below w.heap.size w w' := by
  obtain ⟨E, hE⟩ : ∃ E, str (encB d) = E := ⟨_, rfl⟩
  have hs : E.size ≤ maxLen := by have := enc_small d E h hE; unfold maxLen; omega
  have hp : ofU E.data.toList = p := by rw [← hp, ← hE, idD_str]
  have HR := Lib.hid h
  have HP := Lib.hid hp
  have hby := fun (wx : World) (hx : InsAt wx a d.ins) => bytesOf_ok d a cap wx hx HR.out
  rw [hE] at hby
  clear h hE hp
  have hk := kept_new w (.cells #[.slice a d.ins.length cap, .int .i64 d.outs, .int .i64 d.weight, .int .i64 d.fee] 30)
  have hi0 := insAt_kept hk hi
  go_enter Try.func37, Try.ntmps37
  go_wp2_with fail
  with_reducible refine (hby _ hi0).mono ?_
  rintro e w2 ⟨rfl, hb2⟩
  go_wp2_with fail
  with_reducible refine (refSum_is E p _ HP.out hs).mono ?_
  rintro e w3 ⟨rfl, hb3⟩
  go_wp2_with fail
  go_ret
  exact ⟨rfl, kept_trans (kept_trans hk hb2) hb3⟩
end Go.Proofs.Ytihbcgdbennegaa
