/-
  The contract of the program's msg.Decode.
-/
import Derived.Test.YtnigjhfdeinlhabMsgDecode
namespace Go.Proofs.Ytnigjhfdeinlhab
open Go.RowKit

/-- IDs stand where a cell of a younger block is written. -/
theorem idsAt_young {w0 w : World} {a : Option Addr} {l : List UInt64} {p : Addr} (h0 : IdsAt w0 a l) (h : IdsAt w a l) (hp : w0.heap.size ≤ p.block) (v : Value) : IdsAt (w.setCell p v) a l := fun i hi => by
  obtain ⟨b, o, e, hb, c0⟩ := h i hi
  obtain ⟨b', o', e', hb', _⟩ := h0 i hi
  have hbb : b = b' := by rw [e] at e'; cases e'; rfl
  have hn : b ≠ p.block := by omega
  have hs : ∀ oo, (w.setCell p v).cell? ⟨b, oo, none⟩ = w.cell? ⟨b, oo, none⟩ := fun oo => World.cell?_of_block (w := w) (a := ⟨b, oo, none⟩) (Below.heap_setCell w p v b hn)
  exact ⟨b, o, e, by simpa using hb, by rw [hs]; exact c0⟩

theorem mdecode_form (s : ByteArray) (r : Int) (w : World) (hs : s.size ≤ maxLen) (h : formM s.data.toList = r) (hr : r ≠ 0) : Calls Try.prog 14 #[.string s] w (GaveM w zeroM r) := by
  have HR := Lib.hid h
  have hrb : (r == 0) = false := by simpa using hr
  have hrn : (r != 0) = true := by simpa using hr
  clear h
  go_enter Try.func14, Try.ntmps14
  go_wp2_with fail
  with_reducible refine (mread_bad s r _ hs HR.out hr).mono ?_
  rintro e w1 ⟨M, a, cap, rfl, hcap, hi1, hfr, hb1⟩
  obtain ⟨c0, c1, c2, hws⟩ := box_three hb1
  obtain ⟨m0, m1, m2⟩ := box_marks3 hb1
  go_wp2_with fail
  refine bodyPost_ret (v := .tuple #[.agg #[.int .i64 0, .slice none 0 0, .string ⟨#[]⟩], .int .i64 r]) (by simp [results, Try.results14, go_sem, c0, c1, c2, hws]) rfl ?_
  exact gaveM_zero rfl (kept_alloc (below_three (kept_trans (kept_new _ _) hb1) _ _ _) _)
theorem mdecode_check (s : ByteArray) (r : Int) (w : World) (h : formM s.data.toList = 0) (hc : checkM (readM s.data.toList) = r) (hr : r ≠ 0) : Calls Try.prog 14 #[.string s] w (GaveM w zeroM r) := by
  obtain ⟨M, hM⟩ : ∃ M, readM s.data.toList = M := ⟨_, rfl⟩
  have hrd := fun wx => mread_good s wx h
  rw [hM] at hrd hc
  have HC := Lib.hid hc
  have hrn : (r != 0) = true := by simpa using hr
  clear h hc hM
  go_enter Try.func14, Try.ntmps14
  go_wp2_with fail
  with_reducible refine (hrd _).mono ?_
  rintro e w1 ⟨a, cap, rfl, hcap, hi1, hfr, hb1⟩
  have hk1 := kept_new w1 (msgBox a cap M)
  go_wp2_with fail
  with_reducible refine (mcheck_is M _ _ _ r (idsAt_kept hk1 hi1) HC.out).mono ?_
  rintro e w2 ⟨rfl, hb2⟩
  have hb12 := kept_trans hb1 (kept_trans hk1 hb2)
  obtain ⟨c0, c1, c2, hws⟩ := box_three hb12
  obtain ⟨m0, m1, m2⟩ := box_marks3 hb12
  go_wp2_with fail
  refine bodyPost_ret (v := .tuple #[.agg #[.int .i64 0, .slice none 0 0, .string ⟨#[]⟩], .int .i64 r]) (by simp [results, Try.results14, go_sem, c0, c1, c2]) rfl ?_
  exact gaveM_zero rfl (below_three (kept_trans (kept_new _ _) hb12) _ _ _)

theorem check_body {m : MsgD} (h : checkM m = 0) : m.body.size ≤ 100 := by
  rcases (checkM_ok h).2 with ⟨_, _, _, h4⟩ | ⟨_, h5, _⟩ <;> omega
theorem mdecode_ok (s : ByteArray) (w : World) (h : formM s.data.toList = 0) (hc : checkM (readM s.data.toList) = 0) : Calls Try.prog 14 #[.string s] w (GaveM w (readM s.data.toList) 0) := by
  obtain ⟨M, hM⟩ : ∃ M, readM s.data.toList = M := ⟨_, rfl⟩
  have hrd := fun wx => mread_good s wx h
  rw [hM] at hrd hc ⊢
  have hbody := check_body hc
  have HC := Lib.hid hc
  clear h hc hM
  go_enter Try.func14, Try.ntmps14
  go_wp2_with fail
  with_reducible refine (hrd _).mono ?_
  rintro e w1 ⟨a, cap, rfl, hcap, hi1, hfr, hb1⟩
  have hk1 := kept_new w1 (msgBox a cap M)
  go_wp2_with fail
  with_reducible refine (mcheck_is M _ _ _ 0 (idsAt_kept hk1 hi1) HC.out).mono ?_
  rintro e w2 ⟨rfl, hb2⟩
  obtain ⟨d0, d1, d2, hws1⟩ := box_three hb2
  go_wp2_with fail
  with_reducible refine (clone_any M.body _ (by omega)).mono ?_
  rintro e w3 ⟨rfl, hb3⟩
  have hb13 := kept_trans (kept_trans hk1 hb2) hb3
  have hb03 := kept_trans hb1 hb13
  clear d0 d1 d2 hws1
  obtain ⟨d0, d1, d2, hws1⟩ := box_three (kept_trans hb2 hb3)
  obtain ⟨n0, n1, n2⟩ := box_marks3 (kept_trans hb2 hb3)
  obtain ⟨c0, c1, c2, hws⟩ := box_three hb03
  obtain ⟨m0, m1, m2⟩ := box_marks3 hb03
  have hi3 := idsAt_kept hb13 hi1
  have hw01 : w.heap.size < w1.heap.size := by have := hb1.size; simp at this; omega
  have hfr' : Fresh (w.heap.size + 1) a := by simpa using hfr
  go_wp2_with fail
  refine bodyPost_ret (v := .tuple #[.agg #[.int .i64 M.kind, .slice a M.ids.length cap, .string M.body], .int .i64 0]) (by simp [results, Try.results14, go_sem, c0, c1, c2]) rfl ?_
  refine ⟨a, cap, rfl, hcap, ?_, fun b o sp e => by have := hfr' b o sp e; omega, below_three ((kept_trans (kept_new _ _) hb03).setCell (by simp; omega) _) _ _ _⟩
  exact idsAt_set (idsAt_set (idsAt_set (idsAt_young hi1 hi3 (Nat.le_refl _) _) hfr' (by simp) _) hfr' (by simp) _) hfr' (by simp) _

/-- msg.Decode, whatever the bytes. -/
theorem mdecode_all (s : ByteArray) (r : Int) (X : MsgD) (w : World) (hs : s.size ≤ maxLen) (h : errM s.data.toList = r) (hX : ansM s.data.toList = X) : Calls Try.prog 14 #[.string s] w (GaveM w X r) := by
  unfold ansM at hX
  by_cases h0 : errM s.data.toList = 0
  · rw [if_pos h0] at hX
    rw [h0] at h
    subst h hX
    obtain ⟨h1, h2⟩ := errM_zero h0
    exact mdecode_ok s w h1 h2
  · rw [if_neg h0] at hX
    subst hX
    have hr : r ≠ 0 := by rw [← h]; exact h0
    unfold errM at h
    split at h
    · exact mdecode_form s r w hs h hr
    · rename_i h1
      exact mdecode_check s r w (by simpa using h1) h hr
theorem ansM_len (l : List UInt8) : (ansM l).ids.length ≤ maxLen := by
  unfold ansM
  split
  · rename_i h
    rcases (checkM_ok (errM_zero h).2).2 with ⟨_, h5, _⟩ | ⟨_, _, _, h7, _⟩
    · rw [h5]; exact Nat.zero_le _
    · unfold maxLen; omega
  · decide
end Go.Proofs.Ytnigjhfdeinlhab
