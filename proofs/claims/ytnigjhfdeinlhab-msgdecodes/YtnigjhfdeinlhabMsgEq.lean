/-
  The contract of the reference's MsgEq; the walk of MsgOne.
-/
import Derived.Test.YtnigjhfdeinlhabMsgLaws2
import Derived.Test.YtnigjhfdeinlhabMsgDecMath
namespace Go.Proofs.Ytnigjhfdeinlhab
open Go.RowKit

/-- Two messages have the same fields. -/
def eqM (m n : MsgD) : Bool := m.kind == n.kind && decide (m.body = n.body) && m.ids == n.ids
theorem eqM_iff (m n : MsgD) : eqM m n = true ↔ m = n := by
  obtain ⟨k, i, b⟩ := m
  obtain ⟨k', i', b'⟩ := n
  simp only [eqM, Bool.and_eq_true, beq_iff_eq, decide_eq_true_eq, MsgD.mk.injEq]
  exact ⟨fun ⟨⟨h1, h2⟩, h3⟩ => ⟨h1, h3, h2⟩, fun ⟨h1, h3, h2⟩ => ⟨⟨h1, h2⟩, h3⟩⟩
theorem eqM_refl (m : MsgD) : eqM m m = true := (eqM_iff m m).2 rfl
theorem toList_inj {s t : ByteArray} : s.toList = t.toList ↔ s = t := by
  constructor
  · intro h
    rw [ByteArray.toList_eq, ByteArray.toList_eq] at h
    apply ByteArray.ext
    exact Array.toList_inj.1 h
  · rintro rfl; rfl
theorem box_six {w wr : World} {u0 u1 u2 v0 v1 v2 : Value} {t : TypeId} (h : Below ((w.alloc (.cells #[u0, u1, u2] t)).alloc (.cells #[v0, v1, v2] t)).heap.size ((w.alloc (.cells #[u0, u1, u2] t)).alloc (.cells #[v0, v1, v2] t)) wr) :
    wr.cell? ⟨w.heap.size, 0, none⟩ = some u0 ∧ wr.cell? ⟨w.heap.size, 1, none⟩ = some u1 ∧ wr.cell? ⟨w.heap.size, 2, none⟩ = some u2 ∧
    wr.cell? ⟨w.heap.size + 1, 0, none⟩ = some v0 ∧ wr.cell? ⟨w.heap.size + 1, 1, none⟩ = some v1 ∧ wr.cell? ⟨w.heap.size + 1, 2, none⟩ = some v2 := by
  obtain ⟨a0, a1, a2, _⟩ := box_three (kept_trans (kept_new _ _) h)
  obtain ⟨b0, b1, b2, _⟩ := box_three h
  have e : (w.alloc (.cells #[u0, u1, u2] t)).heap.size = w.heap.size + 1 := by simp
  rw [e] at b0 b1 b2
  exact ⟨a0, a1, a2, b0, b1, b2⟩

theorem msgEq_any (m n : MsgD) (a b : Option Addr) (ca cb : Nat) (w : World) (r : Bool) (HR : Hid (eqM m n = r)) (hl : m.ids.length ≤ maxLen) (ha : IdsAt w a m.ids) (hb : IdsAt w b n.ids) :
    Calls Try.prog 16 #[.agg #[.int .i64 m.kind, .slice a m.ids.length ca, .string m.body], .agg #[.int .i64 n.kind, .slice b n.ids.length cb, .string n.body]] w fun e w' => e = .returned (.bool r) ∧ Below w.heap.size w w' := by
  have hk := kept_alloc (kept_new w (msgBox a ca m)) (msgBox b cb n)
  by_cases h1 : (m.kind == n.kind) = true
  · by_cases h2 : m.body = n.body
    · have HE : Hid ((m.ids == n.ids) = r) := Lib.hid (by have := HR.out; unfold eqM at this; rw [h1, decide_eq_true h2] at this; simpa using this)
      have hq := toList_inj.2 h2
      clear h2
      go_enter Try.func16, Try.ntmps16
      go_wp2_with fail
      with_reducible refine (eqID_is _ _ _ _ _ _ _ r hl (idsAt_kept hk ha) (idsAt_kept hk hb) HE.out).mono ?_
      rintro e w1 ⟨rfl, rfl⟩
      go_wp2_with fail
      go_ret
      exact ⟨rfl, hk⟩
    · have hr : r = false := by rw [← HR.out]; unfold eqM; rw [decide_eq_false h2]; simp
      subst hr
      have hq : ¬ m.body.toList = n.body.toList := fun e => h2 (toList_inj.1 e)
      clear h2 HR
      go_enter Try.func16, Try.ntmps16
      go_wp2_with fail
      go_ret
      exact ⟨rfl, hk⟩
  · rw [Bool.not_eq_true] at h1
    have hr : r = false := by rw [← HR.out]; unfold eqM; rw [h1]; simp
    subst hr
    clear HR
    go_enter Try.func16, Try.ntmps16
    go_wp2_with fail
    go_ret
    exact ⟨rfl, hk⟩

/-- Encodings of two messages without an error are the same just if the messages are. -/
theorem one_iff {m n : MsgD} {E F : ByteArray} (hm : checkM m = 0) (hn : checkM n = 0) (hE : ansE m = E) (hF : ansE n = F) : decide (E = F) = eqM m n := by
  rw [Bool.eq_iff_iff, decide_eq_true_eq, eqM_iff]
  constructor
  · intro h
    refine enc_inj hm hn ?_
    have e1 : E.data.toList = encM m := by rw [← hE, ansE_ok hm, str_list]
    have e2 : F.data.toList = encM n := by rw [← hF, ansE_ok hn, str_list]
    rw [← e1, ← e2, h]
  · rintro rfl
    rw [← hE, ← hF]
set_option maxHeartbeats 1000000 in
theorem msgOne_walk (m : MsgD) (a : Option Addr) (ca : Nat) (_hc : m.ids.length ≤ ca) (n : MsgD) (b : Option Addr) (cb : Nat) (_hd : n.ids.length ≤ cb) (w : World) (hi : IdsAt w a m.ids) (hj : IdsAt w b n.ids) :
    Calls Try.prog 7 #[msgV a ca m, msgV b cb n] w fun e w' => e = .returned (.bool true) ∧ Below w.heap.size w w' := by
  unfold msgV
  obtain ⟨E, hE⟩ : ∃ E, ansE m = E := ⟨_, rfl⟩
  obtain ⟨r, hr⟩ : ∃ r, checkM m = r := ⟨_, rfl⟩
  obtain ⟨F, hF⟩ : ∃ E, ansE n = E := ⟨_, rfl⟩
  obtain ⟨q, hq⟩ : ∃ r, checkM n = r := ⟨_, rfl⟩
  have hk := kept_alloc (kept_new w (msgBox a ca m)) (msgBox b cb n)
  have hi0 := idsAt_kept hk hi
  have hj0 := idsAt_kept hk hj
  have HR := Lib.hid hr
  have HE := Lib.hid hE
  have HQ := Lib.hid hq
  have HF := Lib.hid hF
  by_cases h0 : r = 0
  · by_cases h1 : q = 0
    · subst h0 h1
      obtain ⟨x, hx⟩ : ∃ x, eqM m n = x := ⟨_, rfl⟩
      have hx2 := (one_iff hr hq hE hF).trans hx
      have hl : m.ids.length ≤ maxLen := by
        rcases (checkM_ok hr).2 with ⟨_, h4, _⟩ | ⟨_, _, _, h4, _⟩
        · rw [h4]; exact Nat.zero_le _
        · unfold maxLen; omega
      have HX := Lib.hid hx
      have hes : (E.toList == F.toList) = x := by
        rw [← hx2, Bool.eq_iff_iff, beq_iff_eq, decide_eq_true_eq]
        exact toList_inj
      clear hr hE hq hF hx hx2
      go_enter Try.func7, Try.ntmps7
      go_wp2_with fail
      with_reducible refine (told_any _).mono ?_
      rintro e w1 ⟨rfl, hb1⟩
      obtain ⟨c0, c1, c2, d0, d1, d2⟩ := box_six hb1
      go_wp2_with fail
      with_reducible refine (mencode_all m _ _ _ 0 E (idsAt_kept hb1 hi0) HR.out HE.out).mono ?_
      rintro e w2 ⟨rfl, hb2⟩
      have hb12 := kept_trans hb1 hb2
      clear c0 c1 c2 d0 d1 d2
      obtain ⟨c0, c1, c2, d0, d1, d2⟩ := box_six hb12
      go_wp2_with fail
      with_reducible refine (mencode_all n _ _ _ 0 F (idsAt_kept hb12 hj0) HQ.out HF.out).mono ?_
      rintro e w3 ⟨rfl, hb3⟩
      have hb13 := kept_trans hb12 hb3
      clear c0 c1 c2 d0 d1 d2
      obtain ⟨c0, c1, c2, d0, d1, d2⟩ := box_six hb13
      go_wp2_with fail
      with_reducible refine (msgEq_any m n _ _ _ _ _ x HX hl (idsAt_kept hb13 hi0) (idsAt_kept hb13 hj0)).mono ?_
      rintro e w4 ⟨rfl, hb4⟩
      go_wp2_with fail
      go_ret
      exact ⟨by simp, kept_trans (kept_trans hk hb13) hb4⟩
    · subst h0
      have hqb : (q != 0) = true := by simpa using h1
      clear hr hE hq hF
      go_enter Try.func7, Try.ntmps7
      go_wp2_with fail
      with_reducible refine (told_any _).mono ?_
      rintro e w1 ⟨rfl, hb1⟩
      obtain ⟨c0, c1, c2, d0, d1, d2⟩ := box_six hb1
      go_wp2_with fail
      with_reducible refine (mencode_all m _ _ _ 0 E (idsAt_kept hb1 hi0) HR.out HE.out).mono ?_
      rintro e w2 ⟨rfl, hb2⟩
      have hb12 := kept_trans hb1 hb2
      clear c0 c1 c2 d0 d1 d2
      obtain ⟨c0, c1, c2, d0, d1, d2⟩ := box_six hb12
      go_wp2_with fail
      with_reducible refine (mencode_all n _ _ _ q F (idsAt_kept hb12 hj0) HQ.out HF.out).mono ?_
      rintro e w3 ⟨rfl, hb3⟩
      go_wp2_with fail
      go_ret
      exact ⟨rfl, kept_trans hk (kept_trans hb12 hb3)⟩
  · have hrb : (r != 0) = true := by simpa using h0
    clear hr hE hq hF
    go_enter Try.func7, Try.ntmps7
    go_wp2_with fail
    with_reducible refine (told_any _).mono ?_
    rintro e w1 ⟨rfl, hb1⟩
    obtain ⟨c0, c1, c2, d0, d1, d2⟩ := box_six hb1
    go_wp2_with fail
    with_reducible refine (mencode_all m _ _ _ r E (idsAt_kept hb1 hi0) HR.out HE.out).mono ?_
    rintro e w2 ⟨rfl, hb2⟩
    have hb12 := kept_trans hb1 hb2
    clear c0 c1 c2 d0 d1 d2
    obtain ⟨c0, c1, c2, d0, d1, d2⟩ := box_six hb12
    go_wp2_with fail
    with_reducible refine (mencode_all n _ _ _ q F (idsAt_kept hb12 hj0) HQ.out HF.out).mono ?_
    rintro e w3 ⟨rfl, hb3⟩
    go_wp2_with fail
    go_ret
    exact ⟨rfl, kept_trans hk (kept_trans hb12 hb3)⟩
end Go.Proofs.Ytnigjhfdeinlhab
