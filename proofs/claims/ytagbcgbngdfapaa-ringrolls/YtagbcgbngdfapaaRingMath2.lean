/-
  The search for new IDs behind an ID: which ones are found, and that the search ends. No program is named here.
-/
import Derived.Test.YtagbcgbngdfapaaRingMath
namespace Go.Proofs.Ytagbcgbngdfapaa

/-- The j IDs behind x. -/
def behind (x : UInt64) (j : Nat) : List UInt64 := (List.range j).map fun i => x + 1 + UInt64.ofNat i
/-- Those of them that are not there. -/
def news (s : RingS) (x : UInt64) (j : Nat) : List UInt64 := (behind x j).filter fun y => !s.has y
theorem behind_succ (x : UInt64) (j : Nat) : behind x (j + 1) = behind x j ++ [x + 1 + UInt64.ofNat j] := by
  unfold behind
  rw [List.range_succ, List.map_append]
  rfl
theorem news_yes {s : RingS} {x : UInt64} {j : Nat} (h : s.has (x + 1 + UInt64.ofNat j) = true) : news s x (j + 1) = news s x j := by
  unfold news
  rw [behind_succ, List.filter_append]
  simp [h]
theorem news_no {s : RingS} {x : UInt64} {j : Nat} (h : s.has (x + 1 + UInt64.ofNat j) = false) : news s x (j + 1) = news s x j ++ [x + 1 + UInt64.ofNat j] := by
  unfold news
  rw [behind_succ, List.filter_append]
  simp [h]
theorem behind_at (x : UInt64) (i : Nat) (hi : i ≤ 1000) : ((x + 1 + UInt64.ofNat i).toNat - (x.toNat + 1) : Int) % 18446744073709551616 = i := by
  rw [UInt64.toNat_add, UInt64.toNat_add, UInt64.toNat_ofNat']
  have e : (1 : UInt64).toNat = 1 := rfl
  rw [e]
  omega
theorem behind_inj (x : UInt64) {i j : Nat} (hi : i ≤ 1000) (hj : j ≤ 1000) (h : x + 1 + UInt64.ofNat i = x + 1 + UInt64.ofNat j) : i = j := by
  have h1 := behind_at x i hi
  have h2 := behind_at x j hj
  rw [h] at h1
  omega
theorem behind_nodup (x : UInt64) : ∀ j, j ≤ 1000 → (behind x j).Nodup
  | 0, _ => List.nodup_nil
  | j + 1, h => by
    rw [behind_succ]
    refine nodup_snoc' (behind_nodup x j (by omega)) fun hm => ?_
    obtain ⟨i, hi, e⟩ := List.mem_map.1 hm
    have hi' := List.mem_range.1 hi
    have := behind_inj x (by omega) (by omega) e
    omega
theorem news_nodup (s : RingS) (x : UInt64) (j : Nat) (h : j ≤ 1000) : (news s x j).Nodup := (behind_nodup x j h).sublist List.filter_sublist
theorem news_new {s : RingS} {x : UInt64} {j : Nat} : ∀ y ∈ news s x j, s.has y = false := fun y hy => by
  have := (List.mem_filter.1 hy).2
  simpa using this
theorem filter_parts (p : UInt64 → Bool) : ∀ l : List UInt64, (l.filter p).length + (l.filter fun y => !p y).length = l.length
  | [] => rfl
  | a :: l => by
    have := filter_parts p l
    cases hp : p a <;> simp [hp] <;> omega
/-- Of more IDs than twice the size some are not there. -/
theorem news_many {s : RingS} (hg : s.Good) (x : UInt64) (j : Nat) (h : j ≤ 1000) : j ≤ (news s x j).length + 2 * s.size := by
  have h1 := filter_parts (fun y => s.has y) (behind x j)
  have h2 : ((behind x j).filter fun y => s.has y).length ≤ (s.cur ++ s.prev).length := nodup_len ((behind_nodup x j h).sublist List.filter_sublist) (fun y hy => by
    have := has_iff.1 (List.mem_filter.1 hy).2
    exact List.mem_append.2 this)
  have h3 : (behind x j).length = j := by simp [behind]
  obtain ⟨_, _, h4, h5, _⟩ := hg
  rw [List.length_append] at h2
  unfold news
  omega
theorem next_behind (x : UInt64) (j : Nat) : x + 1 + UInt64.ofNat j + 1 = x + 1 + UInt64.ofNat (j + 1) := by
  apply UInt64.toNat_inj.1
  rw [UInt64.toNat_add, UInt64.toNat_add, UInt64.toNat_add (x + 1), UInt64.toNat_ofNat', UInt64.toNat_ofNat']
  have e : (1 : UInt64).toNat = 1 := rfl
  rw [e]
  omega
end Go.Proofs.Ytagbcgbngdfapaa
