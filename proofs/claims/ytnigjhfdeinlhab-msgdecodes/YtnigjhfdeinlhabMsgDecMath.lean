/-
  Decoding of messages as plain data: the errors of the form, the fields; the two ways back; what is cut off or added. No program is named here.
-/
import Derived.Test.YtnigjhfdeinlhabMsgMath
namespace Go.Proofs.Ytnigjhfdeinlhab

/-- The first byte as a kind. -/
def kindOf (l : List UInt8) : Int := ((l.getD 0 0).toNat : Int)
/-- P7: the errors that do not depend on the fields. -/
def formM (l : List UInt8) : Int :=
  if l.length = 0 then 3 else if within (kindOf l) 1 4 = false then 1 else if kindOf l = 3 then 0 else if l.length < 2 then 3
  else if l.length < 2 + 8 * (l.getD 1 0).toNat then 3 else if 2 + 8 * (l.getD 1 0).toNat < l.length then 4 else 0
def idsOf (n : Nat) (r : List UInt8) : List UInt64 := (List.range n).map fun i => numU ((r.drop (8 * i)).take 8)
/-- The fields of bytes that are well formed. -/
def readM (l : List UInt8) : MsgD := if kindOf l = 3 then ⟨3, [], ⟨(l.drop 1).toArray⟩⟩ else ⟨kindOf l, idsOf (l.getD 1 0).toNat (l.drop 2), ⟨#[]⟩⟩
/-- P7: the error of Decode. -/
def errM (l : List UInt8) : Int := if formM l ≠ 0 then formM l else checkM (readM l)
/-- What Decode answers. -/
def ansM (l : List UInt8) : MsgD := if errM l = 0 then readM l else zeroM

theorem idsOf_length (n : Nat) (r : List UInt8) : (idsOf n r).length = n := by simp [idsOf]
theorem idsOf_at (n : Nat) (r : List UInt8) (k : Nat) (h : k < (idsOf n r).length) : (idsOf n r)[k] = numU ((r.drop (8 * k)).take 8) := by simp [idsOf]
theorem body_nil {s : ByteArray} (h : s.size = 0) : s = ⟨#[]⟩ := by
  apply ByteArray.ext
  exact Array.eq_empty_of_size_eq_zero h
theorem encI_cons (x : UInt64) (r : List UInt64) : encI (x :: r) = be 8 x.toNat ++ encI r := by simp [encI]
theorem drop_encI : ∀ (l : List UInt64) (k : Nat), (encI l).drop (8 * k) = encI (l.drop k)
  | [], k => by simp [encI]
  | x :: r, 0 => rfl
  | x :: r, k + 1 => by
    have hl : (be 8 x.toNat).length = 8 := be_length _ _
    rw [encI_cons, List.drop_append, hl, List.drop_of_length_le (by rw [hl]; omega), List.nil_append, show 8 * (k + 1) - 8 = 8 * k by omega, drop_encI r k]
    rfl
theorem idsOf_encI (l : List UInt64) : idsOf l.length (encI l) = l := by
  apply List.ext_getElem (idsOf_length _ _)
  intro k h1 h2
  rw [idsOf_at, drop_encI, List.drop_eq_getElem_cons h2, encI_cons, List.take_left' (be_length _ _), numU_be]
theorem encI_idsOf : ∀ (n : Nat) (r : List UInt8), 8 * n ≤ r.length → encI (idsOf n r) = r.take (8 * n)
  | 0, r, _ => by simp [encI, idsOf]
  | n + 1, r, h => by
    have e : idsOf (n + 1) r = idsOf n r ++ [numU ((r.drop (8 * n)).take 8)] := by simp [idsOf, List.range_succ]
    have e2 : ∀ x, encI (idsOf n r ++ [x]) = encI (idsOf n r) ++ be 8 x.toNat := fun x => by simp [encI]
    have hl : ((r.drop (8 * n)).take 8).length = 8 := by rw [List.length_take, List.length_drop]; omega
    have e3 : be 8 (numU ((r.drop (8 * n)).take 8)).toNat = (r.drop (8 * n)).take 8 := by
      rw [numU_short _ (by omega)]
      have := be_numN ((r.drop (8 * n)).take 8)
      rw [hl] at this
      exact this
    rw [e, e2, encI_idsOf n r (by omega), e3, show 8 * (n + 1) = 8 * n + 8 by omega, List.take_add]

/-! ### A message without an error -/
theorem kind_enc {m : MsgD} (h : checkM m = 0) (r : List UInt8) : kindOf (encM m ++ r) = m.kind := by
  have hk := within_known (checkM_ok h).1
  have e : (encM m ++ r).getD 0 0 = UInt8.ofNat m.kind.toNat := by unfold encM; split <;> rfl
  unfold kindOf
  rw [e, UInt8.toNat_ofNat']
  omega
theorem ids_enc {m : MsgD} (h : checkM m = 0) (h3 : m.kind ≠ 3) : m.ids.length ≤ 20 ∧ m.body = ⟨#[]⟩ ∧ (encM m).length = 2 + 8 * m.ids.length ∧ 0 < m.ids.length := by
  rcases (checkM_ok h).2 with ⟨h4, _⟩ | ⟨_, h5, h6, h7, _⟩
  · exact absurd h4 h3
  · exact ⟨h7, body_nil h5, by rw [encM_ids h3]; simp [encI_length]; omega, h6⟩
theorem second_enc {m : MsgD} (h : checkM m = 0) (h3 : m.kind ≠ 3) (r : List UInt8) : ((encM m ++ r).getD 1 0).toNat = m.ids.length := by
  have e : (encM m ++ r).getD 1 0 = UInt8.ofNat m.ids.length := by rw [encM_ids h3]; rfl
  rw [e, UInt8.toNat_ofNat']
  have := (ids_enc h h3).1
  omega
theorem enc_pos (m : MsgD) : (encM m).length ≠ 0 := fun h => encM_ne m (List.eq_nil_of_length_eq_zero h)
theorem formM_enc {m : MsgD} (h : checkM m = 0) : formM (encM m) = 0 := by
  have hk := kind_enc h []
  rw [List.append_nil] at hk
  unfold formM
  rw [if_neg (enc_pos m), hk, if_neg (by rw [(checkM_ok h).1]; decide)]
  by_cases h3 : m.kind = 3
  · rw [if_pos h3]
  · have h2 := second_enc h h3 []
    rw [List.append_nil] at h2
    obtain ⟨_, _, hl, hp⟩ := ids_enc h h3
    rw [if_neg h3, h2, if_neg (by omega), if_neg (by omega), if_neg (by omega)]
theorem readM_enc {m : MsgD} (h : checkM m = 0) : readM (encM m) = m := by
  have hk := kind_enc h []
  rw [List.append_nil] at hk
  unfold readM
  rw [hk]
  by_cases h3 : m.kind = 3
  · rw [if_pos h3]
    have hi : m.ids = [] := by
      rcases (checkM_ok h).2 with ⟨_, h5, _⟩ | ⟨h4, _⟩
      · exact h5
      · exact absurd h3 h4
    obtain ⟨k, i, b⟩ := m
    simp only at h3 hi
    subst h3 hi
    congr 1
  · have h2 := second_enc h h3 []
    rw [List.append_nil] at h2
    obtain ⟨_, hb, _, _⟩ := ids_enc h h3
    have hd : (encM m).drop 2 = encI m.ids := by rw [encM_ids h3]; rfl
    rw [if_neg h3, h2, hd, idsOf_encI]
    obtain ⟨k, i, b⟩ := m
    simp only at hb
    subst hb
    rfl
theorem enc_inj {m n : MsgD} (hm : checkM m = 0) (hn : checkM n = 0) (h : encM m = encM n) : m = n := by rw [← readM_enc hm, h, readM_enc hn]
theorem errM_enc {m : MsgD} (h : checkM m = 0) : errM (encM m) = 0 := by unfold errM; rw [if_neg (by rw [formM_enc h]; decide), readM_enc h]; exact h
theorem errM_zero {l : List UInt8} (h : errM l = 0) : formM l = 0 ∧ checkM (readM l) = 0 := by
  unfold errM at h
  split at h
  · rename_i hh; exact absurd h hh
  · rename_i hh; exact ⟨by simpa using hh, h⟩
theorem ansM_enc {m : MsgD} (h : checkM m = 0) : ansM (encM m) = m := by unfold ansM; rw [if_pos (errM_enc h), readM_enc h]
theorem zeroM_check : checkM zeroM = 1 := by decide

/-! ### Bytes that are well formed -/
theorem formM_zero {l : List UInt8} (h : formM l = 0) : l.length ≠ 0 ∧ within (kindOf l) 1 4 = true ∧ (kindOf l ≠ 3 → l.length = 2 + 8 * (l.getD 1 0).toNat) := by
  unfold formM at h
  split at h
  · cases h
  · rename_i h0
    split at h
    · cases h
    · rename_i h1
      refine ⟨h0, by simpa using h1, fun h3 => ?_⟩
      rw [if_neg h3] at h
      split at h
      · cases h
      · split at h
        · cases h
        · split at h
          · cases h
          · omega
theorem enc_readM {l : List UInt8} (h : formM l = 0) : encM (readM l) = l := by
  obtain ⟨h0, h1, h2⟩ := formM_zero h
  obtain ⟨a, r, rfl⟩ : ∃ a r, l = a :: r := by
    cases l with
    | nil => exact absurd rfl h0
    | cons a r => exact ⟨a, r, rfl⟩
  have hk : kindOf (a :: r) = (a.toNat : Int) := rfl
  have ha : UInt8.ofNat ((a.toNat : Int)).toNat = a := by simp
  unfold readM
  rw [hk] at h1 h2 ⊢
  by_cases h3 : (a.toNat : Int) = 3
  · rw [if_pos h3, encM_bring rfl]
    have h3' : a = 3 := UInt8.toNat_inj.1 (by simp; omega)
    subst h3'
    simp
  · rw [if_neg h3, encM_ids h3]
    obtain ⟨b, q, rfl⟩ : ∃ b q, r = b :: q := by
      cases r with
      | nil => have := h2 h3; simp at this
      | cons b q => exact ⟨b, q, rfl⟩
    have hl := h2 h3
    have hb : (a :: b :: q).getD 1 0 = b := rfl
    have hd : (a :: b :: q).drop 2 = q := rfl
    rw [hb] at hl ⊢
    rw [hd]
    have hq : q.length = 8 * b.toNat := by simp at hl; omega
    show [UInt8.ofNat ((a.toNat : Int)).toNat] ++ [UInt8.ofNat (idsOf b.toNat q).length] ++ encI (idsOf b.toNat q) = _
    rw [ha, idsOf_length, encI_idsOf _ _ (by omega), List.take_of_length_le (by omega)]
    simp

/-! ### What is cut off or added -/
theorem take_getD (l : List UInt8) (k i : Nat) (h : i < k) : (l.take k).getD i 0 = l.getD i 0 := by
  rw [List.getD_eq_getElem?_getD, List.getElem?_take, if_pos h, List.getD_eq_getElem?_getD]
theorem formM_cut {m : MsgD} (h : checkM m = 0) (h3 : m.kind ≠ 3) (k : Nat) (hk : k < (encM m).length) : formM ((encM m).take k) = 3 := by
  obtain ⟨_, _, hl, _⟩ := ids_enc h h3
  have hlen : ((encM m).take k).length = k := by rw [List.length_take]; omega
  unfold formM
  rw [hlen]
  by_cases k0 : k = 0
  · rw [if_pos k0]
  · have hkk : kindOf ((encM m).take k) = m.kind := by
      have := kind_enc h []
      rw [List.append_nil] at this
      unfold kindOf at *
      rw [take_getD _ _ _ (by omega)]
      exact this
    rw [if_neg k0, hkk, if_neg (by rw [(checkM_ok h).1]; decide), if_neg h3]
    by_cases k1 : k < 2
    · rw [if_pos k1]
    · have h2 := second_enc h h3 []
      rw [List.append_nil] at h2
      rw [if_neg k1, take_getD _ _ _ (by omega), h2, if_pos (by omega)]
theorem formM_more {m : MsgD} (h : checkM m = 0) (h3 : m.kind ≠ 3) (x : List UInt8) (hx : 0 < x.length) : formM (encM m ++ x) = 4 := by
  obtain ⟨_, _, hl, _⟩ := ids_enc h h3
  have hlen : (encM m ++ x).length = 2 + 8 * m.ids.length + x.length := by rw [List.length_append]; omega
  unfold formM
  rw [hlen, if_neg (by omega), kind_enc h x, if_neg (by rw [(checkM_ok h).1]; decide), if_neg h3, if_neg (by omega), second_enc h h3 x, if_neg (by omega), if_pos (by omega)]
theorem errM_form {l : List UInt8} {r : Int} (h : formM l = r) (hr : r ≠ 0) : errM l = r := by unfold errM; rw [if_pos (by rw [h]; exact hr)]; exact h
end Go.Proofs.Ytnigjhfdeinlhab
