/-
  The walks of the laws on Encode alone: MsgEncodes, MsgSize; the closed fact 'told'.
-/
import Derived.Test.YtnigjhfdeinlhabMsgRefEncode
import Derived.Test.YtnigjhfdeinlhabMsgLaws1
namespace Go.Proofs.Ytnigjhfdeinlhab
open Go.RowKit

theorem msgEncodes_walk (m : MsgD) (a : Option Addr) (cap : Nat) (hc : m.ids.length ≤ cap) (w : World) (hi : IdsAt w a m.ids) :
    Calls Try.prog 4 #[msgV a cap m] w fun e w' => e = .returned (.bool true) ∧ Below w.heap.size w w' := by
  unfold msgV
  have hk := kept_new w (msgBox a cap m)
  have hi0 := idsAt_kept hk hi
  obtain ⟨E, hE⟩ : ∃ E, ansE m = E := ⟨_, rfl⟩
  obtain ⟨r, hr⟩ : ∃ r, checkM m = r := ⟨_, rfl⟩
  have HR := Lib.hid hr
  have HE := Lib.hid hE
  clear hr hE
  go_enter Try.func4, Try.ntmps4
  go_wp2_with fail
  with_reducible refine (mencode_all m _ _ _ r E hi0 HR.out HE.out).mono ?_
  rintro e w1 ⟨rfl, hb1⟩
  obtain ⟨c0, c1, c2, hws⟩ := box_three hb1
  have hi1 := idsAt_kept hb1 hi0
  go_wp2_with fail
  with_reducible refine (rencode_all m _ _ _ r E hc hi1 HR.out HE.out).mono ?_
  rintro e w2 ⟨rfl, hb2⟩
  go_wp2_with fail
  with_reducible refine (mcheck_zero _).mono ?_
  rintro e w3 ⟨rfl, hb3⟩
  go_wp2_with fail
  go_ret
  exact ⟨rfl, kept_trans (kept_trans (kept_trans hk hb1) hb2) hb3⟩

/-- The message of the closed fact. -/
def toldM : MsgD := ⟨2, [258], ⟨#[]⟩⟩
theorem told_check : checkM toldM = 0 := by decide
theorem told_enc : ansE toldM = ⟨#[2, 1, 0, 0, 0, 0, 0, 0, 1, 2]⟩ := by rw [ansE_ok told_check]; decide
theorem told_at (w : World) : IdsAt (w.alloc (.cells #[.int .u64 258] 41)) (some ⟨w.heap.size, 0, none⟩) toldM.ids := fun i hi => by
  have hi' : i = 0 := by have : i < 1 := hi; omega
  subst hi'
  exact ⟨w.heap.size, 0, rfl, by simp, by simp [go_sem, toldM]⟩
theorem told_encode (w : World) : Calls Try.prog 12 #[.agg #[.int .i64 2, .slice (some ⟨w.heap.size, 0, none⟩) 1 1, .string ⟨#[]⟩]] (w.alloc (.cells #[.int .u64 258] 41)) fun e w' => e = .returned (.tuple #[.string ⟨#[2, 1, 0, 0, 0, 0, 0, 0, 1, 2]⟩, .int .i64 0]) ∧ Below (w.alloc (.cells #[.int .u64 258] 41)).heap.size (w.alloc (.cells #[.int .u64 258] 41)) w' :=
  mencode_all toldM (some ⟨w.heap.size, 0, none⟩) 1 _ 0 _ (told_at w) told_check told_enc
theorem told_any (w : World) : Calls Try.prog 17 #[] w fun e w' => e = .returned (.bool true) ∧ Below w.heap.size w w' := by
  go_enter Try.func17, Try.ntmps17
  go_wp2_with fail
  with_reducible refine (told_encode w).mono ?_
  rintro e w1 ⟨rfl, hb1⟩
  go_wp2_with fail
  go_ret
  exact ⟨rfl, kept_trans (kept_new _ _) hb1⟩

theorem size_bring {m : MsgD} {E : ByteArray} (h0 : checkM m = 0) (h3 : m.kind = 3) (hE : ansE m = E) : E.size = 1 + m.body.size ∧ m.body.size ≤ 100 := by
  rw [← hE, ansE_ok h0, str_size, encM_bring h3]
  refine ⟨by simp; omega, ?_⟩
  rcases (checkM_ok h0).2 with ⟨_, _, _, h4⟩ | ⟨h4, _⟩
  · exact h4
  · exact absurd h3 h4
theorem size_ids {m : MsgD} {E : ByteArray} (h0 : checkM m = 0) (h3 : m.kind ≠ 3) (hE : ansE m = E) : E.size = 2 + 8 * m.ids.length ∧ 0 < m.ids.length ∧ m.ids.length ≤ 20 := by
  rw [← hE, ansE_ok h0, str_size, encM_ids h3]
  refine ⟨by simp [encI_length]; omega, ?_⟩
  rcases (checkM_ok h0).2 with ⟨h4, _⟩ | ⟨_, _, h5, h6, _⟩
  · exact absurd h4 h3
  · exact ⟨h5, h6⟩
theorem first_byte {m : MsgD} {E : ByteArray} (h0 : checkM m = 0) (hE : ansE m = E) (hp : 0 < E.size) : (E[0].toNat : Int) = m.kind := by
  have hk := within_known (checkM_ok h0).1
  have : E.data.toList = encM m := by rw [← hE, ansE_ok h0, str_list]
  rw [← getD_at E 0 hp, this]
  have e : (encM m).getD 0 0 = UInt8.ofNat m.kind.toNat := by unfold encM; split <;> rfl
  rw [e, UInt8.toNat_ofNat']
  omega

theorem msgSize_err (m : MsgD) (a : Option Addr) (cap : Nat) (w : World) (hi : IdsAt w a m.ids) (h0 : checkM m ≠ 0) :
    Calls Try.prog 9 #[.agg #[.int .i64 m.kind, .slice a m.ids.length cap, .string m.body]] w fun e w' => e = .returned (.bool true) ∧ Below w.heap.size w w' := by
  obtain ⟨r, hr⟩ : ∃ r, checkM m = r := ⟨_, rfl⟩
  rw [hr] at h0
  have hrb : (r != 0) = true := by simpa using h0
  have HR := Lib.hid hr
  clear hr
  have hk := kept_new w (msgBox a cap m)
  have hi0 := idsAt_kept hk hi
  go_enter Try.func9, Try.ntmps9
  go_wp2_with fail
  with_reducible refine (mencode_err m _ _ _ r hi0 HR.out h0).mono ?_
  rintro e w1 ⟨rfl, hb1⟩
  go_wp2_with fail
  with_reducible refine (told_any _).mono ?_
  rintro e w2 ⟨rfl, hb2⟩
  go_wp2_with fail
  go_ret
  exact ⟨rfl, kept_trans (kept_trans hk hb1) hb2⟩
theorem msgSize_bring (m : MsgD) (a : Option Addr) (cap : Nat) (w : World) (hi : IdsAt w a m.ids) (h0 : checkM m = 0) (h3 : m.kind = 3) :
    Calls Try.prog 9 #[.agg #[.int .i64 m.kind, .slice a m.ids.length cap, .string m.body]] w fun e w' => e = .returned (.bool true) ∧ Below w.heap.size w w' := by
  obtain ⟨E, hE⟩ : ∃ E, ansE m = E := ⟨_, rfl⟩
  obtain ⟨hsz, hs⟩ := size_bring h0 h3 hE
  have hq : ((E.size : Int) == 1 + (m.body.size : Int)) = true := beq_iff_eq.2 (by omega)
  have h3b : (m.kind == 3) = true := beq_iff_eq.2 h3
  have HR := Lib.hid h0
  have HE := Lib.hid hE
  have hk := kept_new w (msgBox a cap m)
  have hi0 := idsAt_kept hk hi
  clear h0 hE h3 hsz
  go_enter Try.func9, Try.ntmps9
  go_wp2_with fail
  with_reducible refine (mencode_all m _ _ _ 0 E hi0 HR.out HE.out).mono ?_
  rintro e w1 ⟨rfl, hb1⟩
  obtain ⟨c0, c1, c2, hws⟩ := box_three hb1
  go_wp2_with fail
  with_reducible refine (told_any _).mono ?_
  rintro e w2 ⟨rfl, hb2⟩
  have d2 := kept_cell hb2 c2
  have hws2 : w.heap.size < w2.heap.size := Nat.lt_of_lt_of_le hws hb2.size
  go_wp2_with fail
  go_ret
  exact ⟨rfl, kept_trans (kept_trans hk hb1) hb2⟩
theorem msgSize_ids (m : MsgD) (a : Option Addr) (cap : Nat) (w : World) (hi : IdsAt w a m.ids) (h0 : checkM m = 0) (h3 : m.kind ≠ 3) :
    Calls Try.prog 9 #[.agg #[.int .i64 m.kind, .slice a m.ids.length cap, .string m.body]] w fun e w' => e = .returned (.bool true) ∧ Below w.heap.size w w' := by
  obtain ⟨E, hE⟩ : ∃ E, ansE m = E := ⟨_, rfl⟩
  obtain ⟨hsz, hl0, hl⟩ := size_ids h0 h3 hE
  have hp : 0 < E.size := by omega
  have hfb := first_byte h0 hE hp
  have hfk : ((E[0].toNat : Int) == m.kind) = true := beq_iff_eq.2 hfb
  have hq : ((E.size : Int) == 2 + 8 * (m.ids.length : Int)) = true := beq_iff_eq.2 (by omega)
  have hw8 : IntKind.i64.wrap (8 * (m.ids.length : Int)) = 8 * (m.ids.length : Int) := IntWalk.i64_in _ (by omega)
  have hw2 : IntKind.i64.wrap (2 + 8 * (m.ids.length : Int)) = 2 + 8 * (m.ids.length : Int) := IntWalk.i64_in _ (by omega)
  have hwb : IntKind.i64.wrap (E[0].toNat : Int) = (E[0].toNat : Int) := IntWalk.i64_in _ (by have := E[0].toNat_lt; omega)
  have hpi : (0 : Int) < (E.size : Int) := by omega
  have h3b : (m.kind == 3) = false := beq_eq_false_iff_ne.2 h3
  have HR := Lib.hid h0
  have HE := Lib.hid hE
  have hk := kept_new w (msgBox a cap m)
  have hi0 := idsAt_kept hk hi
  clear h0 hE h3 hsz hfb
  go_enter Try.func9, Try.ntmps9
  go_wp2_with fail
  with_reducible refine (mencode_all m _ _ _ 0 E hi0 HR.out HE.out).mono ?_
  rintro e w1 ⟨rfl, hb1⟩
  obtain ⟨c0, c1, c2, hws⟩ := box_three hb1
  go_wp2_with fail
  go_region_held3 (fun w' => w'.cell? ⟨w.heap.size, 0, none⟩ = some (.int .i64 m.kind) ∧ w'.cell? ⟨w.heap.size, 1, none⟩ = some (.slice a m.ids.length cap) ∧ Below w1.heap.size w1 w')
    (first | exact ⟨c0, c1, (Below.refl _ _).drew⟩ | (go_split_ands; exact ⟨by assumption, by assumption, by assumption⟩) | exact ⟨kept_cell hb2 c0, kept_cell hb2 c1, kept_trans (Below.refl _ _).drew hb2⟩ | (go_split_ands; exact ⟨kept_cell hb2 (by assumption), kept_cell hb2 (by assumption), kept_trans (by assumption) hb2⟩))
    (first | (go_at_call 17; ((with_reducible refine (told_any _).mono ?_); rintro e w2 ⟨rfl, hb2⟩)))
  go_wp2_with fail
  go_split_ands
  go_ret
  exact ⟨rfl, kept_trans (kept_trans hk hb1) (by assumption)⟩
theorem msgSize_walk (m : MsgD) (a : Option Addr) (cap : Nat) (_hc : m.ids.length ≤ cap) (w : World) (hi : IdsAt w a m.ids) :
    Calls Try.prog 9 #[msgV a cap m] w fun e w' => e = .returned (.bool true) ∧ Below w.heap.size w w' := by
  by_cases h0 : checkM m = 0
  · by_cases h3 : m.kind = 3
    · exact msgSize_bring m a cap w hi h0 h3
    · exact msgSize_ids m a cap w hi h0 h3
  · exact msgSize_err m a cap w hi h0
end Go.Proofs.Ytnigjhfdeinlhab
