/-
  Deeds as plain data: what Check answers, what Encode and Decode answer. No program is named here.
-/
namespace Go.Proofs.Ytihbcgdbennegaa

/-- An In: its ID and its index. -/
abbrev InD := UInt64 × Int
/-- A deed. -/
structure DeedD where
  ins : List InD
  outs : Int
  weight : Int
  fee : Int

def within (n lo hi : Int) : Bool := decide (lo ≤ n ∧ n ≤ hi)
/-- Two are equal. -/
def dupB (l : List InD) : Bool := decide (¬ l.Nodup)
def atsB (l : List InD) : Bool := l.all fun x => within x.2 0 15
def restB (o w f : Int) : Bool := within o 1 16 && within w 1 1000 && within f 0 1000
/-- P4: the first error. -/
def checkD (d : DeedD) : Int :=
  if 8 < d.ins.length then 2 else if atsB d.ins = false then 1 else if dupB d.ins = true then 6 else if restB d.outs d.weight d.fee = false then 1 else 0

theorem atsB_take {l : List InD} {k : Nat} (h : k < l.length) (h0 : atsB (l.take k) = true) (h1 : within l[k].2 0 15 = true) : atsB (l.take (k + 1)) = true := by
  unfold atsB at *
  rw [List.take_succ_eq_append_getElem h, List.all_append, h0]
  simpa using h1
theorem atsB_bad {l : List InD} {k : Nat} (h : k < l.length) (h1 : within l[k].2 0 15 = false) : atsB l = false := by
  unfold atsB
  rw [List.all_eq_false]
  exact ⟨l[k], List.getElem_mem h, by simp [h1]⟩
theorem dup_at {l : List InD} {k : Nat} (h : k < l.length) (h1 : (l.take k).contains l[k] = true) : dupB l = true := by
  unfold dupB
  refine decide_eq_true fun hn => ?_
  have h2 := List.contains_iff_mem.1 h1
  obtain ⟨j, hj, e⟩ := List.getElem_of_mem h2
  rw [List.length_take] at hj
  rw [List.getElem_take] at e
  have := (List.getElem_inj hn).1 e
  omega
theorem nodup_take {l : List InD} {k : Nat} (h : k < l.length) (h0 : (l.take k).Nodup) (h1 : (l.take k).contains l[k] = false) : (l.take (k + 1)).Nodup := by
  rw [List.take_succ_eq_append_getElem h, List.nodup_append]
  refine ⟨h0, by simp, fun a ha b hb => ?_⟩
  simp only [List.mem_singleton] at hb
  subst hb
  intro e
  subst e
  rw [List.contains_iff_mem.2 ha] at h1
  cases h1
theorem dup_none {l : List InD} {k : Nat} (h : l.length ≤ k) (h0 : (l.take k).Nodup) : dupB l = false := by
  rw [List.take_of_length_le h] at h0
  unfold dupB
  exact decide_eq_false (fun hn => hn h0)
theorem take_snoc {α : Type} {l : List α} {k : Nat} (h : k < l.length) : l.take k ++ [l[k]] = l.take (k + 1) := (List.take_succ_eq_append_getElem h).symm

/-- The lowest n bytes of a number, the most significant one first. -/
def be : Nat → Nat → List UInt8
  | 0, _ => []
  | n + 1, x => be n (x / 256) ++ [UInt8.ofNat x]
theorem be_length : ∀ n x, (be n x).length = n
  | 0, _ => rfl
  | n + 1, x => by simp [be, be_length n]
theorem be_step (n k x : Nat) (hk : k < n) : be (n - (k + 1)) (x / 256 ^ (k + 1)) ++ [UInt8.ofNat (x / 256 ^ k)] = be (n - k) (x / 256 ^ k) := by
  obtain ⟨m, hm⟩ : ∃ m, n - k = m + 1 := ⟨n - k - 1, by omega⟩
  rw [hm, show n - (k + 1) = m by omega, be, Nat.div_div_eq_div_mul, ← Nat.pow_succ]
/-- An In's bytes. -/
def inB (x : InD) : List UInt8 := be 8 x.1.toNat ++ [UInt8.ofNat x.2.toNat]
/-- P4: the encoding of a deed that has no error. -/
def encL (l : List InD) : List UInt8 := l.flatMap inB
def encB (d : DeedD) : List UInt8 := [68, UInt8.ofNat d.ins.length] ++ encL d.ins ++ [UInt8.ofNat d.outs.toNat] ++ be 2 d.weight.toNat ++ be 2 d.fee.toNat
theorem encL_length : ∀ l, (encL l).length = 9 * l.length
  | [] => rfl
  | x :: r => by
    have := encL_length r
    unfold encL at *
    simp [inB, be_length, this]
    omega
theorem encB_length (d : DeedD) : (encB d).length = 7 + 9 * d.ins.length := by
  simp [encB, encL_length, be_length]
  omega
theorem encL_take {l : List InD} {k : Nat} (h : k < l.length) : encL (l.take (k + 1)) = encL (l.take k) ++ be 8 l[k].1.toNat ++ [UInt8.ofNat l[k].2.toNat] := by
  unfold encL
  rw [List.take_succ_eq_append_getElem h, List.flatMap_append]
  simp [inB]
end Go.Proofs.Ytihbcgdbennegaa
