/-
  The walks of the five laws on package sum, out of the contracts.
-/
import Derived.Test.YtedkacjlhpbonaaSumWalks
import Derived.Laws.IdiomStrings
import Derived.RegionTactic
import Derived.BigRegion
import Derived.Lib.Strings
namespace Go.Proofs.Ytedkacjlhpbonaa
open Go.RowKit

theorem summed_any (w : World) : Calls Try.prog 12 #[] w fun e w' => e = .returned (.bool true) ∧ w = w' := by
  go_enter Try.func12, Try.ntmps12
  go_wp2_with fail
  with_reducible refine (of_none _).mono ?_
  rintro e w' ⟨rfl, rfl⟩
  go_wp2_with fail
  with_reducible refine (of_one _).mono ?_
  rintro e w' ⟨rfl, rfl⟩
  go_wp2_with fail
  go_ret
  exact ⟨rfl, rfl⟩

theorem sumNames_walk (s : ByteArray) (hs : s.size ≤ maxLen) (w : World) :
    Calls Try.prog 3 #[.string s] w fun e w' => e = .returned (.bool true) ∧ Below w.heap.size w w' := by
  go_enter Try.func3, Try.ntmps3
  go_wp2_with fail
  with_reducible refine (of_any s _ hs).mono ?_
  rintro e w' ⟨rfl, rfl⟩
  go_wp2_with fail
  with_reducible refine (refSum_any s _ hs).mono ?_
  rintro e w1 ⟨rfl, hb⟩
  go_wp2_with fail
  with_reducible refine (of_one _).mono ?_
  rintro e w' ⟨rfl, rfl⟩
  go_wp2_with fail
  go_ret
  exact ⟨rfl, hb⟩

theorem sumMixes_walk (a b c : UInt64) (w : World) :
    Calls Try.prog 4 #[.int .u64 a.toNat, .int .u64 b.toNat, .int .u64 c.toNat] w fun e w' => e = .returned (.bool true) ∧ Below w.heap.size w w' := by
  go_enter Try.func4, Try.ntmps4
  go_wp2_with fail
  with_reducible refine (mix_any a b c _).mono ?_
  rintro e w' ⟨rfl, rfl⟩
  go_wp2_with fail
  with_reducible refine (refMix_any a b c _).mono ?_
  rintro e w1 ⟨rfl, rfl⟩
  go_wp2_with fail
  with_reducible refine (of_one _).mono ?_
  rintro e w' ⟨rfl, rfl⟩
  go_wp2_with fail
  go_ret
  exact ⟨rfl, Below.refl _ _⟩

/-- The contract with the result behind a name. -/
theorem mix_is (a b c p : UInt64) (w : World) (h : mixU a b c = p) :
    Calls Try.prog 10 #[.int .u64 a.toNat, .int .u64 b.toNat, .int .u64 c.toNat] w fun e w' => e = .returned (.int .u64 p.toNat) ∧ w = w' := h ▸ mix_any a b c w
theorem of_is (s : ByteArray) (p : UInt64) (w : World) (h : ofU s.data.toList = p) (hs : s.size ≤ maxLen) :
    Calls Try.prog 8 #[.string s] w fun e w' => e = .returned (.int .u64 p.toNat) ∧ w = w' := h ▸ of_any s w hs

theorem mixOne_core (a b c x p q r s : UInt64) (w : World) (hp : Hid (mixU a b c = p)) (hq : Hid (mixU x b c = q)) (hr : Hid (mixU a x c = r)) (hs : Hid (mixU a b x = s))
    (e1 : ((p.toNat : Int) == (q.toNat : Int)) = ((a.toNat : Int) == (x.toNat : Int))) (e2 : ((p.toNat : Int) == (r.toNat : Int)) = ((b.toNat : Int) == (x.toNat : Int)))
    (e3 : ((p.toNat : Int) == (s.toNat : Int)) = ((c.toNat : Int) == (x.toNat : Int))) :
    Calls Try.prog 7 #[.int .u64 a.toNat, .int .u64 b.toNat, .int .u64 c.toNat, .int .u64 x.toNat] w fun e w' => e = .returned (.bool true) ∧ Below w.heap.size w w' := by
  go_enter Try.func7, Try.ntmps7
  go_wp2_with fail
  with_reducible refine (summed_any _).mono ?_
  rintro e w' ⟨rfl, rfl⟩
  go_wp2_with fail
  with_reducible refine (mix_is a b c p _ hp.out).mono ?_
  rintro e w' ⟨rfl, rfl⟩
  go_wp2_with fail
  with_reducible refine (mix_is x b c q _ hq.out).mono ?_
  rintro e w1 ⟨rfl, rfl⟩
  go_wp2_with fail
  with_reducible refine (mix_is a b c p _ hp.out).mono ?_
  rintro e w' ⟨rfl, rfl⟩
  go_wp2_with fail
  with_reducible refine (mix_is a x c r _ hr.out).mono ?_
  rintro e w1 ⟨rfl, rfl⟩
  go_wp2_with fail
  with_reducible refine (mix_is a b c p _ hp.out).mono ?_
  rintro e w' ⟨rfl, rfl⟩
  go_wp2_with fail
  with_reducible refine (mix_is a b x s _ hs.out).mono ?_
  rintro e w1 ⟨rfl, rfl⟩
  go_wp2_with fail
  go_ret
  exact ⟨rfl, Below.refl _ _⟩
theorem mixOne_walk (a b c x : UInt64) (w : World) :
    Calls Try.prog 7 #[.int .u64 a.toNat, .int .u64 b.toNat, .int .u64 c.toNat, .int .u64 x.toNat] w fun e w' => e = .returned (.bool true) ∧ Below w.heap.size w w' :=
  mixOne_core a b c x _ _ _ _ w (Lib.hid rfl) (Lib.hid rfl) (Lib.hid rfl) (Lib.hid rfl)
    (by rw [u64_beq, u64_beq]; exact mix_inj1 a x b c) (by rw [u64_beq, u64_beq]; exact mix_inj2 a b x c) (by rw [u64_beq, u64_beq]; exact mix_inj3 a b c x)

theorem sumGoesOn_core (a b m : ByteArray) (p q r s : UInt64) (w : World) (ha : a.size ≤ maxLen) (hb : b.size ≤ maxLen) (h1 : a.size + m.size ≤ 9223372036854775807) (h2 : b.size + m.size ≤ 9223372036854775807)
    (hp : Hid (ofU a.data.toList = p)) (hq : Hid (ofU b.data.toList = q)) (hr : Hid (ofU (a ++ m).data.toList = r)) (hs : Hid (ofU (b ++ m).data.toList = s))
    (e1 : ((p.toNat : Int) == (q.toNat : Int)) = ((r.toNat : Int) == (s.toNat : Int))) :
    Calls Try.prog 6 #[.string a, .string b, .string m] w fun e w' => e = .returned (.bool true) ∧ Below w.heap.size w w' := by
  go_enter Try.func6, Try.ntmps6
  go_wp2_with fail
  with_reducible refine (summed_any _).mono ?_
  rintro e w' ⟨rfl, rfl⟩
  go_wp2_with fail
  with_reducible refine (of_is a p _ hp.out ha).mono ?_
  rintro e w' ⟨rfl, rfl⟩
  go_wp2_with fail
  with_reducible refine (of_is b q _ hq.out hb).mono ?_
  rintro e w1 ⟨rfl, rfl⟩
  go_wp2_with fail
  with_reducible refine (of_is (a ++ m) r _ hr.out (by rw [ByteArray.size_append]; unfold maxLen; omega)).mono ?_
  rintro e w1 ⟨rfl, rfl⟩
  go_wp2_with fail
  with_reducible refine (of_is (b ++ m) s _ hs.out (by rw [ByteArray.size_append]; unfold maxLen; omega)).mono ?_
  rintro e w1 ⟨rfl, rfl⟩
  go_wp2_with fail
  go_ret
  exact ⟨rfl, Below.refl _ _⟩
theorem sumGoesOn_walk (a b m : ByteArray) (ha : a.size ≤ maxLen) (hb : b.size ≤ maxLen) (_hm : m.size ≤ maxLen) (hroom : a.size + m.size ≤ 9223372036854775807 ∧ b.size + m.size ≤ 9223372036854775807) (w : World) :
    Calls Try.prog 6 #[.string a, .string b, .string m] w fun e w' => e = .returned (.bool true) ∧ Below w.heap.size w w' :=
  sumGoesOn_core a b m _ _ _ _ w ha hb hroom.1 hroom.2 (Lib.hid rfl) (Lib.hid rfl) (Lib.hid rfl) (Lib.hid rfl)
    (by
      rw [u64_beq, u64_beq]
      have ea : (a ++ m).data.toList = a.data.toList ++ m.data.toList := by simp
      have eb : (b ++ m).data.toList = b.data.toList ++ m.data.toList := by simp
      rw [ea, eb]
      exact of_goesOn _ _ _)

theorem ret_i64 {a b : Int} (h : a = b) : Ending.returned (.int .i64 a) = .returned (.int .i64 b) := by rw [h]
theorem rest_any (n m : Int) (w : World) (hm : 0 < m) (hm2 : m ≤ 9223372036854775807) :
    Calls Try.prog 13 #[.int .i64 n, .int .i64 m] w fun e w' => e = .returned (.int .i64 (n % m)) ∧ w = w' := by
  obtain ⟨hlo, hhi, hneg, hpos⟩ := tmod_cases n m hm
  by_cases h0 : n.tmod m < 0
  · have H := Lib.hid (hneg h0)
    clear hneg hpos
    have h1 : (0 : Int) ≤ n.tmod m + m := by omega
    go_enter Try.func13, Try.ntmps13
    go_wp2
    go_ret
    exact ⟨ret_i64 H.out, rfl⟩
  · have H := Lib.hid (hpos (by omega))
    clear hneg hpos
    go_enter Try.func13, Try.ntmps13
    go_wp2
    go_ret
    exact ⟨ret_i64 H.out, rfl⟩

theorem ret_bool {a b : Bool} (h : a = b) : Ending.returned (.bool a) = .returned (.bool b) := by rw [h]
theorem rest_is (n m k : Int) (w : World) (hm : 0 < m) (hm2 : m ≤ 9223372036854775807) (h : n % m = k) :
    Calls Try.prog 13 #[.int .i64 n, .int .i64 m] w fun e w' => e = .returned (.int .i64 k) ∧ w = w' := h ▸ rest_any n m w hm hm2

theorem sumChanged_core (s : ByteArray) (at_ : Int) (c : UInt8) (k : Nat) (hs : s.size ≤ maxLen) (w : World) (hne : s.toList.isEmpty = false) (hk : k < s.size) (hat : Hid (at_ % (s.size : Int) = k))
    (t : ByteArray) (p q : UInt64) (ht : Hid (s.extract 0 k ++ { data := #[c] } ++ s.extract (k + 1) s.size = t)) (hts : t.size ≤ maxLen) (hp : Hid (ofU t.data.toList = p)) (hq : Hid (ofU s.data.toList = q))
    (hbool : Hid (((p.toNat : Int) == (q.toNat : Int)) = (t.toList == s.toList))) :
    Calls Try.prog 5 #[.string s, .int .i64 at_, .int .u8 c.toNat] w fun e w' => e = .returned (.bool true) ∧ Below w.heap.size w w' := by
  have hs' := hs
  unfold maxLen at hs'
  have hcv : ∀ cap, (convert 29 9 (.slice (some ⟨w.heap.size, 0, none⟩) 1 cap)).run Try.prog ((w.alloc (.cells #[.int .u8 c.toNat] 5)).drew) = .ok (.string ⟨#[c]⟩) ((w.alloc (.cells #[.int .u8 c.toNat] 5)).drew) :=
    fun cap => run_convert_bytes_back _ 29 9 5 ⟨w.heap.size, 0, none⟩ cap [c] Try.underlying29 Try.underlying5 Try.underlying9 (fun j hj => by
      have : j = 0 := by simpa using hj
      subst this
      simp [Addr.add])
  go_enter Try.func5, Try.ntmps5
  go_wp2_with fail
  with_reducible refine (summed_any _).mono ?_
  rintro e w' ⟨rfl, rfl⟩
  go_wp2_with fail
  with_reducible refine (rest_is _ _ _ _ (by omega) (by omega) hat.out).mono ?_
  rintro e w' ⟨rfl, rfl⟩
  go_wp2_with fail
  go_region
  rw [show s.extract 0 k ++ { data := #[c] } ++ s.extract (k + 1) s.size = t from ht.out]
  go_wp2_with fail
  with_reducible refine (of_is t p _ hp.out hts).mono ?_
  rintro e w' ⟨rfl, rfl⟩
  go_wp2_with fail
  with_reducible refine (of_is s q _ hq.out hs).mono ?_
  rintro e w' ⟨rfl, rfl⟩
  go_wp2_with fail
  go_ret
  refine ⟨ret_bool ?_, ((Below.refl _ _).alloc (Nat.le_refl _) _).drew⟩
  rw [hbool.out]; exact beq_self_eq_true _
/-- The changed text. -/
theorem changed_eq (s : ByteArray) (c : UInt8) (k : Nat) (hk : k < s.size) :
    s.data.toList = s.data.toList.take k ++ s[k] :: s.data.toList.drop (k + 1) ∧ (s.extract 0 k ++ { data := #[c] } ++ s.extract (k + 1) s.size).data.toList = s.data.toList.take k ++ c :: s.data.toList.drop (k + 1) := by
  have hl : s.data.toList.length = s.size := by simp
  constructor
  · rw [show s[k] = s.data.toList[k]'(by omega) from rfl, ← List.drop_eq_getElem_cons, List.take_append_drop]
  · have e1 : (s.extract 0 k ++ { data := #[c] } ++ s.extract (k + 1) s.size).data.toList = (s.extract 0 k).data.toList ++ [c] ++ (s.extract (k + 1) s.size).data.toList := by simp [-ByteArray.data_extract]
    rw [e1, Lib.extract_data, Lib.extract_data]
    have e2 : (s.data.toList.drop (k + 1)).take (s.size - (k + 1)) = s.data.toList.drop (k + 1) := List.take_of_length_le (by simp)
    rw [e2]
    simp

theorem sumChanged_empty (s : ByteArray) (at_ : Int) (c : UInt8) (w : World) (hne : s.toList.isEmpty = true) :
    Calls Try.prog 5 #[.string s, .int .i64 at_, .int .u8 c.toNat] w fun e w' => e = .returned (.bool true) ∧ Below w.heap.size w w' := by
  go_enter Try.func5, Try.ntmps5
  go_wp2_with fail
  with_reducible refine (summed_any _).mono ?_
  rintro e w' ⟨rfl, rfl⟩
  go_wp2_with fail
  go_ret
  exact ⟨rfl, Below.refl _ _⟩

theorem sumChanged_walk (s : ByteArray) (at_ : Int) (c : UInt8) (hs : s.size ≤ maxLen) (_ha : -9223372036854775808 ≤ at_ ∧ at_ ≤ 9223372036854775807) (w : World) :
    Calls Try.prog 5 #[.string s, .int .i64 at_, .int .u8 c.toNat] w fun e w' => e = .returned (.bool true) ∧ Below w.heap.size w w' := by
  cases hne : s.toList.isEmpty with
  | true => exact sumChanged_empty s at_ c w hne
  | false =>
    have hl : s.data.toList.length = s.size := by simp
    have hpos : 0 < s.size := by
      rw [ByteArray.toList_eq, List.isEmpty_eq_false_iff] at hne
      have := List.length_pos_iff.2 hne
      omega
    have hk0 := Int.emod_nonneg at_ (show (s.size : Int) ≠ 0 by omega)
    have hk1 := Int.emod_lt_of_pos at_ (show (0 : Int) < (s.size : Int) by omega)
    obtain ⟨k, hk⟩ : ∃ k : Nat, at_ % (s.size : Int) = k := ⟨(at_ % (s.size : Int)).toNat, by omega⟩
    obtain ⟨ea, eb⟩ := changed_eq s c k (by omega)
    refine sumChanged_core s at_ c k hs w hne (by omega) (Lib.hid hk) _ _ _ (Lib.hid rfl) ?_ (Lib.hid rfl) (Lib.hid rfl) (Lib.hid ?_)
    · have hsz : (s.extract 0 k ++ { data := #[c] } ++ s.extract (k + 1) s.size).size = (s.extract 0 k ++ { data := #[c] } ++ s.extract (k + 1) s.size).data.toList.length := (Array.length_toList).symm
      rw [hsz, eb, List.length_append, List.length_cons, List.length_take, List.length_drop]
      unfold maxLen at hs ⊢
      omega
    · have h := of_changed (s.data.toList.take k) (s.data.toList.drop (k + 1)) c s[k]
      rw [← ea] at h
      rw [u64_beq, ByteArray.toList_eq, ByteArray.toList_eq, eb]
      exact h
end Go.Proofs.Ytedkacjlhpbonaa
