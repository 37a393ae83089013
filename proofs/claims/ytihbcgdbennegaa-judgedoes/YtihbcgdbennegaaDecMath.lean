/-
  Decoding as plain data: numbers, the errors of the form, the fields; the two ways back. No program is named here.
-/
import Derived.Test.YtihbcgdbennegaaDeedMath
namespace Go.Proofs.Ytihbcgdbennegaa

/-- A number's bytes read, the most significant one first. -/
def numN (l : List UInt8) : Nat := l.foldl (fun n c => n * 256 + c.toNat) 0
def numU (l : List UInt8) : UInt64 := l.foldl (fun x c => 256 * x + c.toUInt64) 0
theorem numN_snoc (l : List UInt8) (c : UInt8) : numN (l ++ [c]) = numN l * 256 + c.toNat := by simp [numN]
theorem numU_snoc (l : List UInt8) (c : UInt8) : numU (l ++ [c]) = 256 * numU l + c.toUInt64 := by simp [numU]
theorem snocInduction {α : Type} {p : List α → Prop} (h0 : p []) (h1 : ∀ l a, p l → p (l ++ [a])) : ∀ l, p l := by
  intro l
  have h : ∀ n (l : List α), l.length = n → p l := by
    intro n
    induction n with
    | zero => intro l hl; rw [List.eq_nil_of_length_eq_zero hl]; exact h0
    | succ n ih =>
      intro l hl
      have hne : l ≠ [] := fun e => by rw [e] at hl; cases hl
      rw [← List.dropLast_concat_getLast hne]
      exact h1 _ _ (ih _ (by simp [hl]))
  exact h _ l rfl
theorem numN_lt : ∀ l : List UInt8, numN l < 256 ^ l.length := by
  refine snocInduction (by decide) fun l c ih => ?_
  have := c.toNat_lt
  rw [numN_snoc, List.length_append, List.length_singleton, Nat.pow_succ]
  omega
theorem numU_toNat : ∀ l : List UInt8, (numU l).toNat = numN l % 18446744073709551616 := by
  refine snocInduction (by decide) fun l c ih => ?_
  have := c.toNat_lt
  rw [numU_snoc, numN_snoc, UInt64.toNat_add, UInt64.toNat_mul, ih]
  simp
  omega
theorem numU_short (l : List UInt8) (h : l.length ≤ 8) : (numU l).toNat = numN l := by
  rw [numU_toNat, Nat.mod_eq_of_lt]
  have h1 := numN_lt l
  have h2 : 256 ^ l.length ≤ 256 ^ 8 := Nat.pow_le_pow_right (by decide) h
  have h3 : 256 ^ 8 = 18446744073709551616 := by decide
  omega
theorem numN_be : ∀ n x, numN (be n x) = x % 256 ^ n
  | 0, x => by simp [be, numN, Nat.mod_one]
  | n + 1, x => by
    rw [be, numN_snoc, numN_be n, Nat.pow_succ, UInt8.toNat_ofNat', Nat.mul_comm (256 ^ n), Nat.mod_mul]
    omega
theorem be_numN : ∀ l : List UInt8, be l.length (numN l) = l := by
  refine snocInduction rfl fun l c ih => ?_
  have := c.toNat_lt
  rw [List.length_append, List.length_singleton, be, numN_snoc, show (numN l * 256 + c.toNat) / 256 = numN l by omega, ih]
  congr 1
  have e : UInt8.ofNat (numN l * 256 + c.toNat) = c := by
    apply UInt8.toNat_inj.1
    rw [UInt8.toNat_ofNat']
    omega
  rw [e]
theorem numU_be (x : UInt64) : numU (be 8 x.toNat) = x := by
  apply UInt64.toNat_inj.1
  rw [numU_short _ (by rw [be_length]; omega), numN_be, Nat.mod_eq_of_lt (by have := x.toNat_lt; simpa using this)]

/-- P5: the errors that do not depend on the fields. -/
def formD (l : List UInt8) : Int :=
  if l.length = 0 then 3 else if l.getD 0 0 ≠ 68 then 4 else if l.length < 2 then 3 else if l.length < 7 + 9 * (l.getD 1 0).toNat then 3 else if 7 + 9 * (l.getD 1 0).toNat < l.length then 4 else 0
/-- An In out of the bytes that begin with it. -/
def inOf (r : List UInt8) : InD := (numU (r.take 8), ((r.getD 8 0).toNat : Int))
def insOf (n : Nat) (r : List UInt8) : List InD := (List.range n).map fun i => inOf (r.drop (9 * i))
/-- The fields of bytes that are well formed. -/
def readD (l : List UInt8) : DeedD :=
  let n := (l.getD 1 0).toNat
  let r := l.drop (2 + 9 * n)
  ⟨insOf n (l.drop 2), ((r.getD 0 0).toNat : Int), ((numU ((r.drop 1).take 2)).toNat : Int), ((numU ((r.drop 3).take 2)).toNat : Int)⟩
/-- P5: the error of Decode. -/
def errD (l : List UInt8) : Int := if formD l ≠ 0 then formD l else checkD (readD l)
theorem insOf_length (n : Nat) (r : List UInt8) : (insOf n r).length = n := by simp [insOf]
theorem insOf_at (n : Nat) (r : List UInt8) (k : Nat) (h : k < (insOf n r).length) : (insOf n r)[k] = inOf (r.drop (9 * k)) := by simp [insOf]

theorem encL_cons (x : InD) (r : List InD) : encL (x :: r) = inB x ++ encL r := by simp [encL]
theorem drop_encL : ∀ (l : List InD) (k : Nat), (encL l).drop (9 * k) = encL (l.drop k)
  | [], k => by simp [encL]
  | x :: r, 0 => rfl
  | x :: r, k + 1 => by
    have e : encL (x :: r) = inB x ++ encL r := by simp [encL]
    have hl : (inB x).length = 9 := by simp [inB, be_length]
    rw [e, List.drop_append, hl, List.drop_of_length_le (by rw [hl]; omega), List.nil_append, show 9 * (k + 1) - 9 = 9 * k by omega, drop_encL r k]
    rfl
theorem inOf_inB (x : InD) (r : List UInt8) (h0 : 0 ≤ x.2) (h1 : x.2 ≤ 255) : inOf (inB x ++ r) = x := by
  have hb : (be 8 x.1.toNat).length = 8 := be_length _ _
  have e1 : (inB x ++ r).take 8 = be 8 x.1.toNat := by
    unfold inB
    rw [List.append_assoc, List.take_left' hb]
  have e2 : (inB x ++ r).getD 8 0 = UInt8.ofNat x.2.toNat := by
    unfold inB
    rw [List.append_assoc, List.getD_eq_getElem?_getD, List.getElem?_append_right (by omega), hb]
    rfl
  unfold inOf
  rw [e1, e2, numU_be]
  refine Prod.ext rfl ?_
  show ((UInt8.ofNat x.2.toNat).toNat : Int) = x.2
  rw [UInt8.toNat_ofNat']
  omega

theorem enc_shape (d : DeedD) : encB d = 68 :: UInt8.ofNat d.ins.length :: (encL d.ins ++ (UInt8.ofNat d.outs.toNat :: (be 2 d.weight.toNat ++ be 2 d.fee.toNat))) := by simp [encB]
theorem enc_second (d : DeedD) (h : d.ins.length ≤ 8) : ((encB d).getD 1 0).toNat = d.ins.length := by
  rw [enc_shape]
  show (UInt8.ofNat d.ins.length).toNat = _
  rw [UInt8.toNat_ofNat']
  omega
theorem form_enc (d : DeedD) (h : d.ins.length ≤ 8) : formD (encB d) = 0 := by
  have h1 := encB_length d
  have h2 := enc_second d h
  have h3 : (encB d).getD 0 0 = 68 := by rw [enc_shape]; rfl
  unfold formD
  rw [h1, h2, h3, if_neg (by omega), if_neg (by simp), if_neg (by omega), if_neg (by omega), if_neg (by omega)]
theorem read_enc (d : DeedD) (h : d.ins.length ≤ 8) (hat : ∀ k (hk : k < d.ins.length), 0 ≤ (d.ins[k]).2 ∧ (d.ins[k]).2 ≤ 15) (ho : 1 ≤ d.outs ∧ d.outs ≤ 16) (hw : 1 ≤ d.weight ∧ d.weight ≤ 1000) (hf : 0 ≤ d.fee ∧ d.fee ≤ 1000) :
    readD (encB d) = d := by
  have h2 := enc_second d h
  have e2 : (encB d).drop 2 = encL d.ins ++ (UInt8.ofNat d.outs.toNat :: (be 2 d.weight.toNat ++ be 2 d.fee.toNat)) := by rw [enc_shape]; rfl
  have e3 : (encB d).drop (2 + 9 * d.ins.length) = UInt8.ofNat d.outs.toNat :: (be 2 d.weight.toNat ++ be 2 d.fee.toNat) := by
    rw [← List.drop_drop, e2, List.drop_append, encL_length, List.drop_of_length_le (by rw [encL_length]; omega)]
    simp
  have hins : insOf d.ins.length ((encB d).drop 2) = d.ins := by
    apply List.ext_getElem (insOf_length _ _)
    intro k h1 h2
    rw [insOf_at, e2, List.drop_append, drop_encL, List.drop_eq_getElem_cons h2]
    rw [encL_cons, List.append_assoc]
    exact inOf_inB _ _ (hat k h2).1 (by have := (hat k h2).2; omega)
  have hb2 : ∀ x : Int, 0 ≤ x → x ≤ 1000 → ((numU (be 2 x.toNat)).toNat : Int) = x := fun x h0 h1 => by
    rw [numU_short _ (by rw [be_length]; omega), numN_be]
    omega
  unfold readD
  simp only []
  rw [h2, hins, e3]
  have t1 : ((UInt8.ofNat d.outs.toNat :: (be 2 d.weight.toNat ++ be 2 d.fee.toNat)).drop 1).take 2 = be 2 d.weight.toNat := by
    show (be 2 d.weight.toNat ++ be 2 d.fee.toNat).take 2 = _
    exact List.take_left' (be_length _ _)
  have t2 : ((UInt8.ofNat d.outs.toNat :: (be 2 d.weight.toNat ++ be 2 d.fee.toNat)).drop 3).take 2 = be 2 d.fee.toNat := by
    show ((be 2 d.weight.toNat ++ be 2 d.fee.toNat).drop 2).take 2 = _
    rw [List.drop_left' (be_length _ _), List.take_of_length_le (by rw [be_length]; omega)]
  rw [t1, t2, hb2 _ (by omega) hw.2, hb2 _ hf.1 hf.2]
  have t3 : (((UInt8.ofNat d.outs.toNat :: (be 2 d.weight.toNat ++ be 2 d.fee.toNat)).getD 0 0).toNat : Int) = d.outs := by
    show ((UInt8.ofNat d.outs.toNat).toNat : Int) = _
    rw [UInt8.toNat_ofNat']
    omega
  rw [t3]
theorem form_zero {l : List UInt8} (h : formD l = 0) : l.getD 0 0 = 68 ∧ l.length = 7 + 9 * (l.getD 1 0).toNat := by
  unfold formD at h
  split at h
  · cases h
  · split at h
    · cases h
    · split at h
      · cases h
      · split at h
        · cases h
        · split at h
          · cases h
          · rename_i h2 _ _ _
            exact ⟨by simpa using h2, by omega⟩
theorem inB_inOf (r : List UInt8) (h : 9 ≤ r.length) : inB (inOf r) = r.take 9 := by
  have hl : (r.take 8).length = 8 := by rw [List.length_take]; omega
  unfold inB inOf
  show be 8 (numU (r.take 8)).toNat ++ [UInt8.ofNat ((r.getD 8 0).toNat : Int).toNat] = _
  rw [numU_short _ (by omega)]
  have := be_numN (r.take 8)
  rw [hl] at this
  rw [this, Int.toNat_natCast, UInt8.ofNat_toNat, List.take_succ_eq_append_getElem (i := 8) (by omega), List.getD_eq_getElem?_getD, List.getElem?_eq_getElem (by omega)]
  rfl
theorem encL_insOf : ∀ (n : Nat) (r : List UInt8), 9 * n ≤ r.length → encL (insOf n r) = r.take (9 * n)
  | 0, r, _ => by simp [encL, insOf]
  | n + 1, r, h => by
    have e : insOf (n + 1) r = insOf n r ++ [inOf (r.drop (9 * n))] := by simp [insOf, List.range_succ]
    have e2 : encL (insOf n r ++ [inOf (r.drop (9 * n))]) = encL (insOf n r) ++ inB (inOf (r.drop (9 * n))) := by simp [encL]
    rw [e, e2, encL_insOf n r (by omega), inB_inOf _ (by rw [List.length_drop]; omega), show 9 * (n + 1) = 9 * n + 9 by omega, List.take_add]
theorem enc_read {l : List UInt8} (h : formD l = 0) : encB (readD l) = l := by
  obtain ⟨h0, hl⟩ := form_zero h
  obtain ⟨a, b, r, rfl⟩ : ∃ a b r, l = a :: b :: r := by
    match l, hl with
    | [], hl => simp at hl
    | [a], hl => simp at hl
    | a :: b :: r, _ => exact ⟨a, b, r, rfl⟩
  have h0 : a = 68 := h0
  have hb : (a :: b :: r).getD 1 0 = b := rfl
  rw [hb] at hl
  subst h0
  have hr : r.length = 5 + 9 * b.toNat := by simp at hl; omega
  have hn : UInt8.ofNat b.toNat = b := by simp
  have hd : (68 :: b :: r).drop (2 + 9 * b.toNat) = r.drop (9 * b.toNat) := by rw [← List.drop_drop]; rfl
  have hm : (r.drop (9 * b.toNat)).length = 5 := by rw [List.length_drop]; omega
  obtain ⟨c0, c1, c2, c3, c4, hc⟩ : ∃ c0 c1 c2 c3 c4, r.drop (9 * b.toNat) = [c0, c1, c2, c3, c4] := by
    generalize r.drop (9 * b.toNat) = q at hm
    match q, hm with
    | [c0, c1, c2, c3, c4], _ => exact ⟨c0, c1, c2, c3, c4, rfl⟩
  have hw : ∀ x y : UInt8, be 2 (numU [x, y]).toNat = [x, y] := fun x y => by
    rw [numU_short _ (by simp)]
    exact be_numN [x, y]
  unfold encB readD
  simp only [hb, hd, hc, insOf_length]
  rw [hn]
  have e1 : encL (insOf b.toNat ((68 :: b :: r).drop 2)) = r.take (9 * b.toNat) := encL_insOf b.toNat r (by omega)
  rw [e1]
  have w1 := hw c1 c2
  have w2 := hw c3 c4
  have t1 : (([c0, c1, c2, c3, c4].drop 1).take 2) = [c1, c2] := rfl
  have t2 : (([c0, c1, c2, c3, c4].drop 3).take 2) = [c3, c4] := rfl
  rw [t1, t2, Int.toNat_natCast, Int.toNat_natCast, Int.toNat_natCast, w1, w2]
  have t3 : UInt8.ofNat (([c0, c1, c2, c3, c4].getD 0 0)).toNat = c0 := by simp
  rw [t3]
  have := List.take_append_drop (9 * b.toNat) r
  rw [hc] at this
  simp only [List.append_assoc, List.cons_append, List.nil_append]
  rw [this]
theorem form_cut (d : DeedD) (h : d.ins.length ≤ 8) (k : Nat) (hk : k < (encB d).length) : formD ((encB d).take k) = 3 := by
  have h1 := encB_length d
  have h2 := enc_second d h
  have hl : ((encB d).take k).length = k := by rw [List.length_take]; omega
  unfold formD
  rw [hl]
  by_cases k0 : k = 0
  · rw [if_pos k0]
  · have g0 : ((encB d).take k).getD 0 0 = 68 := by
      rw [List.getD_eq_getElem?_getD, List.getElem?_take, if_pos (by omega), enc_shape]
      rfl
    rw [if_neg k0, g0, if_neg (by simp)]
    by_cases k1 : k < 2
    · rw [if_pos k1]
    · have g1 : ((encB d).take k).getD 1 0 = (encB d).getD 1 0 := by
        rw [List.getD_eq_getElem?_getD, List.getElem?_take, if_pos (by omega), List.getD_eq_getElem?_getD]
      rw [if_neg k1, g1, h2, if_pos (by omega)]
theorem form_more (d : DeedD) (h : d.ins.length ≤ 8) (m : List UInt8) (hm : 0 < m.length) : formD (encB d ++ m) = 4 := by
  have h1 := encB_length d
  have h2 := enc_second d h
  have hl : (encB d ++ m).length = 7 + 9 * d.ins.length + m.length := by rw [List.length_append]; omega
  have g0 : (encB d ++ m).getD 0 0 = 68 := by rw [enc_shape]; rfl
  have g1 : (encB d ++ m).getD 1 0 = (encB d).getD 1 0 := by rw [enc_shape]; rfl
  unfold formD
  rw [hl, g0, g1, h2, if_neg (by omega), if_neg (by simp), if_neg (by omega), if_neg (by omega), if_pos (by omega)]
end Go.Proofs.Ytihbcgdbennegaa
