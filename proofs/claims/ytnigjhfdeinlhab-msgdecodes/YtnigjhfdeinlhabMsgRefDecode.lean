/-
  The contract of the reference's MsgDecode.
-/
import Derived.Test.YtnigjhfdeinlhabMsgDecodeAll
import Derived.Test.YtnigjhfdeinlhabMsgRefCheck
import Derived.Deep.AppendLies
import Derived.Deep.RegionLaw
namespace Go.Proofs.Ytnigjhfdeinlhab
open Go.RowKit

/-- Two boxes, one behind the other, in whatever later world: their cells and marks. -/
theorem two_boxes {w wr : World} {u0 u1 u2 v0 v1 v2 : Value} {t : TypeId} (h : Below ((w.alloc (.cells #[u0, u1, u2] t)).alloc (.cells #[v0, v1, v2] t)).heap.size ((w.alloc (.cells #[u0, u1, u2] t)).alloc (.cells #[v0, v1, v2] t)) wr) :
    (wr.cell? ⟨w.heap.size, 0, none⟩ = some u0 ∧ wr.cell? ⟨w.heap.size, 1, none⟩ = some u1 ∧ wr.cell? ⟨w.heap.size, 2, none⟩ = some u2) ∧
    (wr.frozen? ⟨w.heap.size, 0, none⟩ = false ∧ wr.frozen? ⟨w.heap.size, 1, none⟩ = false ∧ wr.frozen? ⟨w.heap.size, 2, none⟩ = false) ∧
    wr.cell? ⟨w.heap.size + 1, 0, none⟩ = some v0 ∧ wr.cell? ⟨w.heap.size + 1, 1, none⟩ = some v1 ∧ wr.cell? ⟨w.heap.size + 1, 2, none⟩ = some v2 := by
  have hl := kept_trans (kept_new _ _) h
  obtain ⟨a0, a1, a2, _⟩ := box_three hl
  obtain ⟨m0, m1, m2⟩ := box_marks3 hl
  obtain ⟨b0, b1, b2, _⟩ := box_three h
  have e : (w.alloc (.cells #[u0, u1, u2] t)).heap.size = w.heap.size + 1 := by simp
  rw [e] at b0 b1 b2
  exact ⟨⟨a0, a1, a2⟩, ⟨m0, m1, m2⟩, b0, b1, b2⟩

theorem rdecode_none (s : ByteArray) (w : World) (hs : s.size = 0) : Calls Try.prog 15 #[.string s] w (GaveM w zeroM 3) := by
  have hb : ((s.size : Int) == 0) = true := beq_iff_eq.2 (by omega)
  go_enter Try.func15, Try.ntmps15
  go_wp2_with fail
  exact bodyPost_ret (v := .tuple #[.agg #[.int .i64 0, .slice none 0 0, .string ⟨#[]⟩], .int .i64 3]) (by simp [results, Try.results15, go_sem]) rfl (gaveM_zero rfl (kept_new _ _))
theorem rdecode_kind (s : ByteArray) (w : World) (hp : 0 < s.size) (hk : within (s[0].toNat : Int) 1 4 = false) : Calls Try.prog 15 #[.string s] w (GaveM w zeroM 1) := by
  have hb : ((s.size : Int) == 0) = false := beq_eq_false_iff_ne.2 (by omega)
  have hlt := s[0].toNat_lt
  have HK := Lib.hid hk
  clear hk
  go_enter Try.func15, Try.ntmps15
  go_wp2_with fail
  with_reducible refine (outside_yes _ _ _ _ HK.out).mono ?_
  rintro e w' ⟨rfl, rfl⟩
  go_wp2_with fail
  exact bodyPost_ret (v := .tuple #[.agg #[.int .i64 0, .slice none 0 0, .string ⟨#[]⟩], .int .i64 1]) (by simp [results, Try.results15, go_sem]) rfl (gaveM_zero rfl (kept_alloc (kept_new _ _) _))
theorem rdecode_bring (s : ByteArray) (r : Int) (M X : MsgD) (w : World) (hp : 0 < s.size) (hk : (s[0].toNat : Int) = 3) (hM : M = ⟨3, [], s.extract 1 s.size⟩) (hc : checkM M = r) (hX : X = if r = 0 then M else zeroM) :
    Calls Try.prog 15 #[.string s] w (GaveM w X r) := by
  have hb : ((s.size : Int) == 0) = false := beq_eq_false_iff_ne.2 (by omega)
  have z1 : (1 : Int) ≤ (s.size : Int) := by omega
  obtain ⟨R, hR⟩ : ∃ R, s.extract 1 s.size = R := ⟨_, rfl⟩
  rw [hR] at hM
  subst hM
  have hchk := fun wx => rcheck_is ⟨3, [], R⟩ none 0 wx r (Nat.le_refl _) (idsAt_nil _ _) hc
  have hchk' : ∀ wx, Calls Try.prog 11 #[.agg #[.int .i64 3, .slice none 0 0, .string R]] wx fun e w' => e = .returned (.int .i64 r) ∧ Below wx.heap.size wx w' := hchk
  clear hchk hc
  by_cases hr : r = 0
  · have hX' : X = ⟨3, [], R⟩ := by rw [hX, if_pos hr]
    clear hX
    subst hX' hr
    go_enter Try.func15, Try.ntmps15
    go_wp2_with fail
    with_reducible refine (outside_no _ _ _ _ (by decide)).mono ?_
    rintro e w' ⟨rfl, rfl⟩
    go_wp2_with fail
    with_reducible refine (hchk' _).mono ?_
    rintro e w1 ⟨rfl, hb1⟩
    obtain ⟨⟨c0, c1, c2⟩, ⟨m0, m1, m2⟩, d0, d1, d2⟩ := two_boxes hb1
    have hk := kept_trans (kept_alloc (kept_new _ _) _) hb1
    go_wp2_with fail
    refine bodyPost_ret (v := .tuple #[.agg #[.int .i64 3, .slice none 0 0, .string R], .int .i64 0]) (by simp [results, Try.results15, go_sem, c0, c1, c2]) rfl ?_
    exact ⟨none, 0, rfl, Nat.le_refl _, idsAt_nil _ _, (fun _ _ _ e => by cases e), below_three hk _ _ _⟩
  · have hX' : X = zeroM := by rw [hX, if_neg hr]
    clear hX
    subst hX'
    have hrb : (r != 0) = true := by simpa using hr
    go_enter Try.func15, Try.ntmps15
    go_wp2_with fail
    with_reducible refine (outside_no _ _ _ _ (by decide)).mono ?_
    rintro e w' ⟨rfl, rfl⟩
    go_wp2_with fail
    with_reducible refine (hchk' _).mono ?_
    rintro e w1 ⟨rfl, hb1⟩
    obtain ⟨⟨c0, c1, c2⟩, ⟨m0, m1, m2⟩, d0, d1, d2⟩ := two_boxes hb1
    have hk := kept_trans (kept_alloc (kept_new _ _) _) hb1
    go_wp2_with fail
    refine bodyPost_ret (v := .tuple #[.agg #[.int .i64 0, .slice none 0 0, .string ⟨#[]⟩], .int .i64 r]) (by simp [results, Try.results15, go_sem, c0, c1, c2]) rfl ?_
    exact gaveM_zero rfl (below_three hk _ _ _)
theorem rdecode_one (s : ByteArray) (w : World) (hp : 0 < s.size) (hs : s.size = 1) (hw : within (s[0].toNat : Int) 1 4 = true) (hk : (s[0].toNat : Int) ≠ 3) : Calls Try.prog 15 #[.string s] w (GaveM w zeroM 3) := by
  have hb : ((s.size : Int) == 0) = false := beq_eq_false_iff_ne.2 (by omega)
  have hb1 : ((s.size : Int) == 1) = true := beq_iff_eq.2 (by omega)
  have hlt := s[0].toNat_lt
  have hk3 : ((s[0].toNat : Int) == 3) = false := beq_eq_false_iff_ne.2 hk
  have HK := Lib.hid hw
  clear hk hw hs
  go_enter Try.func15, Try.ntmps15
  go_wp2_with fail
  with_reducible refine (outside_no _ _ _ _ HK.out).mono ?_
  rintro e w' ⟨rfl, rfl⟩
  go_wp2_with fail
  exact bodyPost_ret (v := .tuple #[.agg #[.int .i64 0, .slice none 0 0, .string ⟨#[]⟩], .int .i64 3]) (by simp [results, Try.results15, go_sem]) rfl (gaveM_zero rfl (kept_alloc (kept_new _ _) _))
theorem quo8 (n k : Nat) (hn : 2 ≤ n) : (((n : Int) - 2).tdiv 8 < (k : Int)) ↔ n < 2 + 8 * k := by
  rw [Int.tdiv_eq_ediv_of_nonneg (by omega)]
  omega
theorem rdecode_short (s : ByteArray) (w : World) (hm : s.size ≤ maxLen) (hp : 1 < s.size) (hw : within (s[0].toNat : Int) 1 4 = true) (hk : (s[0].toNat : Int) ≠ 3) (hl : s.size < 2 + 8 * s[1].toNat) : Calls Try.prog 15 #[.string s] w (GaveM w zeroM 3) := by
  unfold maxLen at hm
  have hp0 : 0 < s.size := by omega
  have hb : ((s.size : Int) == 0) = false := beq_eq_false_iff_ne.2 (by omega)
  have hb1 : ((s.size : Int) == 1) = false := beq_eq_false_iff_ne.2 (by omega)
  have hlt := s[0].toNat_lt
  have hlt1 := s[1].toNat_lt
  have hk3 : ((s[0].toNat : Int) == 3) = false := beq_eq_false_iff_ne.2 hk
  have hq := (quo8 s.size s[1].toNat (by omega)).2 hl
  have HK := Lib.hid hw
  clear hk hw
  go_enter Try.func15, Try.ntmps15
  go_wp2_with fail
  with_reducible refine (outside_no _ _ _ _ HK.out).mono ?_
  rintro e w' ⟨rfl, rfl⟩
  go_wp2_with fail
  exact bodyPost_ret (v := .tuple #[.agg #[.int .i64 0, .slice none 0 0, .string ⟨#[]⟩], .int .i64 3]) (by simp [results, Try.results15, go_sem]) rfl (gaveM_zero rfl (kept_alloc (kept_new _ _) _))
theorem rdecode_long (s : ByteArray) (w : World) (hm : s.size ≤ maxLen) (hp : 1 < s.size) (hw : within (s[0].toNat : Int) 1 4 = true) (hk : (s[0].toNat : Int) ≠ 3) (hl : 2 + 8 * s[1].toNat < s.size) : Calls Try.prog 15 #[.string s] w (GaveM w zeroM 4) := by
  unfold maxLen at hm
  have hp0 : 0 < s.size := by omega
  have hb : ((s.size : Int) == 0) = false := beq_eq_false_iff_ne.2 (by omega)
  have hb1 : ((s.size : Int) == 1) = false := beq_eq_false_iff_ne.2 (by omega)
  have hlt := s[0].toNat_lt
  have hlt1 := s[1].toNat_lt
  have hk3 : ((s[0].toNat : Int) == 3) = false := beq_eq_false_iff_ne.2 hk
  have hq : ¬ ((s.size : Int) - 2).tdiv 8 < (s[1].toNat : Int) := fun h => by have := (quo8 s.size s[1].toNat (by omega)).1 h; omega
  have hne : ((s.size : Int) - 2 != 8 * (s[1].toNat : Int)) = true := by rw [bne_iff_ne]; omega
  have HK := Lib.hid hw
  clear hk hw
  go_enter Try.func15, Try.ntmps15
  go_wp2_with fail
  with_reducible refine (outside_no _ _ _ _ HK.out).mono ?_
  rintro e w' ⟨rfl, rfl⟩
  go_wp2_with fail
  exact bodyPost_ret (v := .tuple #[.agg #[.int .i64 0, .slice none 0 0, .string ⟨#[]⟩], .int .i64 4]) (by simp [results, Try.results15, go_sem]) rfl (gaveM_zero rfl (kept_alloc (kept_new _ _) _))
end Go.Proofs.Ytnigjhfdeinlhab
