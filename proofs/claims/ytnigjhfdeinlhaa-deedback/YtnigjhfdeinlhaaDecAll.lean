/-
  The contract of the program's Decode.
-/
import Derived.Test.YtnigjhfdeinlhaaDecRead
namespace Go.Proofs.Ytnigjhfdeinlhaa
open Go.RowKit

/-- A deed and an error in a function's answer. -/
def GaveBoth (w : World) (d : DeedD) (r : Int) (e : Ending) (w' : World) : Prop :=
  ∃ (a : Option Addr) (cap : Nat), e = .returned (.tuple #[.agg #[.slice a d.ins.length cap, .int .i64 d.outs, .int .i64 d.weight, .int .i64 d.fee], .int .i64 r]) ∧ d.ins.length ≤ cap ∧ InsAt w' a d.ins ∧ Fresh w.heap.size a ∧ Below w.heap.size w w'
def zeroD : DeedD := ⟨[], 0, 0, 0⟩
theorem insAt_none (w : World) (a : Option Addr) : InsAt w a [] := fun i hi => absurd hi (by simp)
theorem gave_zero {w w' : World} {r : Int} {e : Ending} (he : e = .returned (.tuple #[.agg #[.slice none 0 0, .int .i64 0, .int .i64 0, .int .i64 0], .int .i64 r])) (h : Below w.heap.size w w') : GaveBoth w zeroD r e w' :=
  ⟨none, 0, he, Nat.le_refl _, insAt_none _ _, (fun _ _ _ e => by cases e), h⟩
theorem checkSize_is (s : ByteArray) (r : Int) (w : World) (hs : s.size ≤ maxLen) (h : formD s.data.toList = r) :
    Calls Try.prog 32 #[.string s] w fun e w' => e = .returned (.int .i64 r) ∧ w = w' := h ▸ checkSize_any s w hs
/-- The four cells of a block and their marks, in whatever later world. -/
theorem box_marks {w wr : World} {u v x y : Value} {t : TypeId} (h : Below (w.alloc (.cells #[u, v, x, y] t)).heap.size (w.alloc (.cells #[u, v, x, y] t)) wr) :
    wr.frozen? ⟨w.heap.size, 0, none⟩ = false ∧ wr.frozen? ⟨w.heap.size, 1, none⟩ = false ∧ wr.frozen? ⟨w.heap.size, 2, none⟩ = false ∧ wr.frozen? ⟨w.heap.size, 3, none⟩ = false := by
  refine ⟨?_, ?_, ?_, ?_⟩ <;> (rw [h.frozen (by simp)]; simp [go_sem])

theorem decode_form (s : ByteArray) (r : Int) (w : World) (hs : s.size ≤ maxLen) (h : formD s.data.toList = r) (hr : r ≠ 0) : Calls Try.prog 15 #[.string s] w (GaveBoth w zeroD r) := by
  have HR := Lib.hid h
  have hrb : (r != 0) = true := by simpa using hr
  clear h
  go_enter Try.func15, Try.ntmps15
  go_wp2_with fail
  with_reducible refine (checkSize_is s r _ hs HR.out).mono ?_
  rintro e w' ⟨rfl, rfl⟩
  go_wp2_with fail
  exact bodyPost_ret (v := .tuple #[.agg #[.slice none 0 0, .int .i64 0, .int .i64 0, .int .i64 0], .int .i64 r]) (by simp [results, Try.results15, go_sem]) rfl (gave_zero rfl (kept_new _ _))

theorem decode_check (s : ByteArray) (r : Int) (w : World) (hs : s.size ≤ maxLen) (h : formD s.data.toList = 0) (hc : checkD (readD s.data.toList) = r) (hr : r ≠ 0) : Calls Try.prog 15 #[.string s] w (GaveBoth w zeroD r) := by
  obtain ⟨_, hsz⟩ := form_zero h
  have hln : s.data.toList.length = s.size := by simp
  have hp : 1 < s.size := by omega
  rw [getD_at s 1 hp, hln] at hsz
  obtain ⟨n, hn⟩ : ∃ n, s[1].toNat = n := ⟨_, rfl⟩
  rw [hn] at hsz
  obtain ⟨D, hD⟩ : ∃ D, readD s.data.toList = D := ⟨_, rfl⟩
  have hrd := fun wx => read_any s n wx hp hn hsz
  rw [hD] at hrd hc
  have hrb : (r != 0) = true := by simpa using hr
  have HR := Lib.hid h
  have HC := Lib.hid hc
  clear h hc hD hn hsz hln
  go_enter Try.func15, Try.ntmps15
  go_wp2_with fail
  with_reducible refine (checkSize_is s 0 _ hs HR.out).mono ?_
  rintro e w' ⟨rfl, rfl⟩
  go_wp2_with fail
  with_reducible refine (hrd _).mono ?_
  rintro e w1 ⟨a, cap, rfl, hcap, hi1, hfr, hb1⟩
  have hk1 := kept_new w1 (.cells #[.slice a D.ins.length cap, .int .i64 D.outs, .int .i64 D.weight, .int .i64 D.fee] 24)
  go_wp2_with fail
  with_reducible refine (check_is D _ _ _ r (insAt_kept hk1 hi1) HC.out).mono ?_
  rintro e w2 ⟨rfl, hb2⟩
  have hb12 := kept_trans hb1 (kept_trans hk1 hb2)
  obtain ⟨c0, c1, c2, c3, hws⟩ := box_four hb12
  obtain ⟨m0, m1, m2, m3⟩ := box_marks hb12
  go_wp2_with fail
  refine bodyPost_ret (v := .tuple #[.agg #[.slice none 0 0, .int .i64 0, .int .i64 0, .int .i64 0], .int .i64 r]) (by simp [results, Try.results15, go_sem, c0, c1, c2, c3]) rfl (gave_zero rfl ?_)
  have hk := kept_trans (kept_new _ _) hb12
  exact (((hk.setCell (by simp) _).setCell (by simp) _).setCell (by simp) _).setCell (by simp) _

theorem decode_ok (s : ByteArray) (w : World) (hs : s.size ≤ maxLen) (h : formD s.data.toList = 0) (hc : checkD (readD s.data.toList) = 0) : Calls Try.prog 15 #[.string s] w (GaveBoth w (readD s.data.toList) 0) := by
  obtain ⟨_, hsz⟩ := form_zero h
  have hln : s.data.toList.length = s.size := by simp
  have hp : 1 < s.size := by omega
  rw [getD_at s 1 hp, hln] at hsz
  obtain ⟨n, hn⟩ : ∃ n, s[1].toNat = n := ⟨_, rfl⟩
  rw [hn] at hsz
  obtain ⟨D, hD⟩ : ∃ D, readD s.data.toList = D := ⟨_, rfl⟩
  have hrd := fun wx => read_any s n wx hp hn hsz
  rw [hD] at hrd hc ⊢
  have HR := Lib.hid h
  have HC := Lib.hid hc
  clear h hc hD hn hsz hln
  go_enter Try.func15, Try.ntmps15
  go_wp2_with fail
  with_reducible refine (checkSize_is s 0 _ hs HR.out).mono ?_
  rintro e w' ⟨rfl, rfl⟩
  go_wp2_with fail
  with_reducible refine (hrd _).mono ?_
  rintro e w1 ⟨a, cap, rfl, hcap, hi1, hfr, hb1⟩
  have hk1 := kept_new w1 (.cells #[.slice a D.ins.length cap, .int .i64 D.outs, .int .i64 D.weight, .int .i64 D.fee] 24)
  go_wp2_with fail
  with_reducible refine (check_is D _ _ _ 0 (insAt_kept hk1 hi1) HC.out).mono ?_
  rintro e w2 ⟨rfl, hb2⟩
  have hb12 := kept_trans hb1 (kept_trans hk1 hb2)
  obtain ⟨c0, c1, c2, c3, hws⟩ := box_four hb12
  obtain ⟨m0, m1, m2, m3⟩ := box_marks hb12
  obtain ⟨d0, d1, d2, d3, hws1⟩ := box_four hb2
  have hi2 := insAt_kept (kept_trans hk1 hb2) hi1
  have hfr' : Fresh (w.heap.size + 1) a := by simpa using hfr
  go_wp2_with fail
  refine bodyPost_ret (v := .tuple #[.agg #[.slice a D.ins.length cap, .int .i64 D.outs, .int .i64 D.weight, .int .i64 D.fee], .int .i64 0]) (by simp [results, Try.results15, go_sem, c0, c1, c2, c3]) rfl ?_
  refine ⟨a, cap, rfl, hcap, ?_, fun b o sp e => by have := hfr' b o sp e; omega, ?_⟩
  · exact insAt_set (insAt_set (insAt_set (insAt_set hi2 hfr' (by simp) _) hfr' (by simp) _) hfr' (by simp) _) hfr' (by simp) _
  · have hk := kept_trans (kept_new _ _) hb12
    exact (((hk.setCell (by simp) _).setCell (by simp) _).setCell (by simp) _).setCell (by simp) _
end Go.Proofs.Ytnigjhfdeinlhaa
