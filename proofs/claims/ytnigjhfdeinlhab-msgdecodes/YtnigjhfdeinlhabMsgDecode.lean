/-
  The contracts of the program's read and Decode of messages.
-/
import Derived.Test.YtnigjhfdeinlhabMsgRead
import Derived.Test.YtnigjhfdeinlhabMsgClone
namespace Go.Proofs.Ytnigjhfdeinlhab
open Go.RowKit

theorem kind_at (s : ByteArray) (hp : 0 < s.size) : kindOf s.data.toList = (s[0].toNat : Int) := by unfold kindOf; rw [getD_at s 0 hp]
theorem len_eq (s : ByteArray) : s.data.toList.length = s.size := by simp
theorem kind3_bytes (k n : Int) : (k == n) = decide (k = n) := by
  by_cases h : k = n <;> simp [h]

theorem mread_none (s : ByteArray) (w : World) (hs : s.size = 0) : Calls Try.prog 25 #[.string s] w (GaveM w zeroM 3) := by
  have he := empty_yes hs
  go_enter Try.func25, Try.ntmps25
  go_wp2_with fail
  exact bodyPost_ret (v := .tuple #[.agg #[.int .i64 0, .slice none 0 0, .string ⟨#[]⟩], .int .i64 3]) (by simp [results, Try.results25, go_sem]) rfl (gaveM_zero rfl (kept_new _ _))
/-- The world behind a region that only reads: the box of the result stands. -/
theorem box_drewN {w w2 : World} {n : Nat} {u v x : Value} {t : TypeId} (h : (w.alloc (.cells #[u, v, x] t)).drewN n = w2) : Below (w.alloc (.cells #[u, v, x] t)).heap.size (w.alloc (.cells #[u, v, x] t)) w2 := h ▸ below_drewN (Below.refl _ _) _
theorem below_three {w w2 : World} (h : Below w.heap.size w w2) (u v x : Value) : Below w.heap.size w (((w2.setCell ⟨w.heap.size, 0, none⟩ u).setCell ⟨w.heap.size, 1, none⟩ v).setCell ⟨w.heap.size, 2, none⟩ x) :=
  ((h.setCell (by simp) _).setCell (by simp) _).setCell (by simp) _
theorem mread_kind (s : ByteArray) (w : World) (hp : 0 < s.size) (hk : within (s[0].toNat : Int) 1 4 = false) : Calls Try.prog 25 #[.string s] w (GaveM w zeroM 1) := by
  have he := empty_no (s := s) (by omega)
  have hb := s[0].toNat_lt
  have HK := Lib.hid hk
  have z0 : (0 : Int) < (s.size : Int) := by omega
  have z1 : (1 : Int) ≤ (s.size : Int) := by omega
  clear hk
  go_enter Try.func25, Try.ntmps25
  go_wp2_with fail
  go_quiet (fail)
  generalize hw2 : World.drewN (w.alloc (.cells #[.int .i64 0, .slice none 0 0, .string ⟨#[]⟩] 24)) nq = w2
  have hb2 := box_drewN hw2
  obtain ⟨c0, c1, c2, hws⟩ := box_three hb2
  obtain ⟨m0, m1, m2⟩ := box_marks3 hb2
  clear hw2
  go_wp2_with fail
  with_reducible refine (known_no _ _ HK.out).mono ?_
  rintro e w' ⟨rfl, rfl⟩
  go_wp2_with fail
  exact bodyPost_ret (v := .tuple #[.agg #[.int .i64 0, .slice none 0 0, .string ⟨#[]⟩], .int .i64 1]) (by simp [results, Try.results25, go_sem, c0, c1, c2]) rfl (gaveM_zero rfl (below_three (kept_trans (kept_new _ _) hb2) _ _ _))
theorem mread_bring (s : ByteArray) (w : World) (hp : 0 < s.size) (hk : (s[0].toNat : Int) = 3) : Calls Try.prog 25 #[.string s] w (GaveM w ⟨3, [], s.extract 1 s.size⟩ 0) := by
  have he := empty_no (s := s) (by omega)
  have z0 : (0 : Int) < (s.size : Int) := by omega
  have z1 : (1 : Int) ≤ (s.size : Int) := by omega
  obtain ⟨R, hR⟩ : ∃ R, s.extract 1 s.size = R := ⟨_, rfl⟩
  rw [hR]
  go_enter Try.func25, Try.ntmps25
  go_wp2_with fail
  go_quiet (fail)
  generalize hw2 : World.drewN (w.alloc (.cells #[.int .i64 0, .slice none 0 0, .string ⟨#[]⟩] 24)) nq = w2
  have hb2 := box_drewN hw2
  obtain ⟨c0, c1, c2, hws⟩ := box_three hb2
  obtain ⟨m0, m1, m2⟩ := box_marks3 hb2
  clear hw2
  go_wp2_with fail
  with_reducible refine (known_yes _ _ (by decide)).mono ?_
  rintro e w' ⟨rfl, rfl⟩
  go_wp2_with fail
  refine bodyPost_ret (v := .tuple #[.agg #[.int .i64 3, .slice none 0 0, .string R], .int .i64 0]) (by simp [results, Try.results25, go_sem, c0, c1, c2]) rfl ?_
  exact ⟨none, 0, rfl, Nat.le_refl _, idsAt_nil _ _, (fun _ _ _ e => by cases e), below_three (kept_trans (kept_new _ _) hb2) _ _ _⟩
/-- Another kind: whatever readIDs answers. -/
theorem mread_ids (s R : ByteArray) (l : List UInt64) (r : Int) (w : World) (hp : 0 < s.size) (hw : within (s[0].toNat : Int) 1 4 = true) (hk : (s[0].toNat : Int) ≠ 3) (hR : s.extract 1 s.size = R)
    (hids : ∀ wx, Calls Try.prog 30 #[.string R] wx (GaveI wx l r)) : Calls Try.prog 25 #[.string s] w (GaveM w ⟨(s[0].toNat : Int), l, ⟨#[]⟩⟩ r) := by
  have he := empty_no (s := s) (by omega)
  have hb := s[0].toNat_lt
  have z0 : (0 : Int) < (s.size : Int) := by omega
  have z1 : (1 : Int) ≤ (s.size : Int) := by omega
  have hk3 : ((s[0].toNat : Int) == 3) = false := beq_eq_false_iff_ne.2 hk
  have HW := Lib.hid hw
  clear hw hk
  go_enter Try.func25, Try.ntmps25
  go_wp2_with fail
  go_quiet (fail)
  generalize hw2 : World.drewN (w.alloc (.cells #[.int .i64 0, .slice none 0 0, .string ⟨#[]⟩] 24)) nq = w2
  have hb2 := box_drewN hw2
  clear hw2
  go_wp2_with fail
  with_reducible refine (known_yes _ _ HW.out).mono ?_
  rintro e w' ⟨rfl, rfl⟩
  go_wp2_with fail
  with_reducible refine (hids _).mono ?_
  rintro e w3 ⟨a, cap, rfl, hcap, hia, hfr, hb3⟩
  have hb23 := kept_trans hb2 hb3
  obtain ⟨c0, c1, c2, hws⟩ := box_three hb23
  obtain ⟨m0, m1, m2⟩ := box_marks3 hb23
  have hfr' : Fresh (w.heap.size + 1) a := fun b o sp e => Nat.le_trans (by have := hb2.size; simpa using this) (hfr b o sp e)
  go_wp2_with fail
  refine bodyPost_ret (v := .tuple #[.agg #[.int .i64 (s[0].toNat : Int), .slice a l.length cap, .string ⟨#[]⟩], .int .i64 r]) (by simp [results, Try.results25, go_sem, c0, c1, c2]) rfl ?_
  exact ⟨a, cap, rfl, hcap, idsAt_set (idsAt_set (idsAt_set hia hfr' (by simp) _) hfr' (by simp) _) hfr' (by simp) _, fun b o sp e => by have := hfr' b o sp e; omega, below_three (kept_trans (kept_new _ _) hb23) _ _ _⟩

/-- read where the bytes are not well formed: its error, with whatever message. -/
theorem mread_bad (s : ByteArray) (r : Int) (w : World) (hs : s.size ≤ maxLen) (h : formM s.data.toList = r) (hr : r ≠ 0) : Calls Try.prog 25 #[.string s] w fun e w' => ∃ m, GaveM w m r e w' := by
  have hlen := len_eq s
  by_cases h0 : s.size = 0
  · have : r = 3 := by rw [← h]; unfold formM; rw [hlen, if_pos h0]
    subst this
    exact (mread_none s w h0).mono fun _ _ h => ⟨_, h⟩
  · have hp : 0 < s.size := by omega
    have hk := kind_at s hp
    unfold formM at h
    rw [hlen, if_neg h0, hk] at h
    by_cases hw : within (s[0].toNat : Int) 1 4 = false
    · rw [if_pos hw] at h
      subst h
      exact (mread_kind s w hp hw).mono fun _ _ h => ⟨_, h⟩
    · rw [if_neg hw] at h
      rw [Bool.not_eq_false] at hw
      by_cases h3 : (s[0].toNat : Int) = 3
      · rw [if_pos h3] at h
        exact absurd h.symm hr
      · rw [if_neg h3] at h
        obtain ⟨R, hR⟩ : ∃ R, s.extract 1 s.size = R := ⟨_, rfl⟩
        have hRs : R.size = s.size - 1 := by rw [← hR, ByteArray.size_extract]; omega
        have hRm : R.size ≤ maxLen := by omega
        by_cases h2 : s.size < 2
        · rw [if_pos h2] at h
          subst h
          exact (mread_ids s R [] 3 w hp hw h3 hR (fun wx => readIDs_none R wx (by omega))).mono fun _ _ h => ⟨_, h⟩
        · rw [if_neg h2] at h
          have hRp : 0 < R.size := by omega
          have hR0 : R[0] = s[1] := by subst hR; simp [ByteArray.getElem_extract]
          rw [getD_at s 1 (by omega)] at h
          by_cases h4 : s.size < 2 + 8 * s[1].toNat
          · rw [if_pos h4] at h
            subst h
            exact (mread_ids s R [] 3 w hp hw h3 hR (fun wx => readIDs_short R wx hRp (by rw [hR0]; omega))).mono fun _ _ h => ⟨_, h⟩
          · rw [if_neg h4] at h
            by_cases h5 : 2 + 8 * s[1].toNat < s.size
            · rw [if_pos h5] at h
              subst h
              exact (mread_ids s R [] 4 w hp hw h3 hR (fun wx => readIDs_long R wx hRm hRp (by rw [hR0]; omega))).mono fun _ _ h => ⟨_, h⟩
            · rw [if_neg h5] at h
              exact absurd h.symm hr
theorem mread_good (s : ByteArray) (w : World) (h : formM s.data.toList = 0) : Calls Try.prog 25 #[.string s] w (GaveM w (readM s.data.toList) 0) := by
  obtain ⟨h0, h1, h2⟩ := formM_zero h
  have hlen := len_eq s
  have hp : 0 < s.size := by omega
  have hk := kind_at s hp
  rw [hk] at h1 h2
  by_cases h3 : (s[0].toNat : Int) = 3
  · have e : readM s.data.toList = ⟨3, [], s.extract 1 s.size⟩ := by
      unfold readM
      rw [hk, if_pos h3]
      congr 1
      apply ByteArray.ext
      apply Array.toList_inj.1
      rw [extract_end _ _ _ rfl]
    rw [e]
    exact mread_bring s w hp h3
  · have hl := h2 h3
    rw [hlen] at hl
    have hp1 : 1 < s.size := by omega
    rw [getD_at s 1 hp1] at hl
    obtain ⟨R, hR⟩ : ∃ R, s.extract 1 s.size = R := ⟨_, rfl⟩
    have hRs : R.size = s.size - 1 := by rw [← hR, ByteArray.size_extract]; omega
    have hRp : 0 < R.size := by omega
    have hR0 : R[0] = s[1] := by subst hR; simp [ByteArray.getElem_extract]
    have e : readM s.data.toList = ⟨(s[0].toNat : Int), idsOf s[1].toNat (R.data.toList.drop 1), ⟨#[]⟩⟩ := by
      unfold readM
      rw [hk, if_neg h3, getD_at s 1 hp1, ← hR, extract_end _ _ _ rfl, List.drop_drop]
    rw [e]
    exact mread_ids s R _ 0 w hp h1 h3 hR (fun wx => readIDs_ok R s[1].toNat wx hRp (by rw [hR0]) (by omega))
end Go.Proofs.Ytnigjhfdeinlhab
