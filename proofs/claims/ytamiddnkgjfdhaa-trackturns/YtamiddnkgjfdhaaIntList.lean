/-
  Contracts of the reference's Has and Eq of ints.
-/
import Derived.Test.YtamiddnkgjfdhaaInts
namespace Go.Proofs.Ytamiddnkgjfdhaa
open Go.RowKit

theorem intsAt_take {w : World} {a : Option Addr} {l : List Int} (k : Nat) (h : IntsAt w a l) : IntsAt w a (l.take k) := fun i hi => by
  have h1 : i < l.length := by rw [List.length_take] at hi; omega
  rw [List.getElem_take]
  exact h i h1
theorem contains_int {l : List Int} {x : Int} {k : Nat} (h : k < l.length) (e : x = l[k]) : l.contains x = true := by
  rw [List.contains_iff_mem]; rw [e]; exact List.getElem_mem h
theorem take_contains_int {l : List Int} {x : Int} {k : Nat} (h : k < l.length) (n : (l.take k).contains x = false) (e : x ≠ l[k]) : (l.take (k + 1)).contains x = false := by
  rw [List.take_succ_eq_append_getElem h, ← Bool.not_eq_true, List.contains_iff_mem, List.mem_append, not_or]
  refine ⟨by rw [← List.contains_iff_mem, n]; simp, by simpa using e⟩

theorem hasInt_any (l : List Int) (x : Int) (r : Bool) (HR : Hid (l.contains x = r)) (a : Option Addr) (cap : Nat) (w : World) (hl : l.length ≤ maxLen) (hi : IntsAt w a l) :
    Calls Try.prog 25 #[.slice a l.length cap, .int .i64 x] w fun e w' => e = .returned (.bool r) ∧ w = w' := by
  unfold maxLen at hl
  go_enter Try.func25, Try.ntmps25
  go_wp2
  go_loop [9] (fun i => ∃ k : Nat, k ≤ l.length ∧ i = .int .i64 k ∧ Hid ((l.take k).contains x = false)) (fun i => l.length - (intOf i).toNat)
  case atStart => exact ⟨0, Nat.zero_le _, rfl, Lib.hid rfl⟩
  case round =>
    obtain ⟨k, hk, rfl, NO⟩ := hrel
    by_cases hlt : k < l.length
    · obtain ⟨b, o, rfl, hb, hd⟩ := hi k hlt
      by_cases hx : x = l[k]
      · have hxb : (x == l[k]) = true := beq_iff_eq.2 hx
        have HX := Lib.hid hx
        clear hx
        go_wp2
        go_ret
        exact ⟨ret_bool ((contains_int hlt HX.out).symm.trans HR.out), rfl⟩
      · have hxb : (x == l[k]) = false := beq_eq_false_iff_ne.2 hx
        have HX := Lib.hid hx
        clear hx
        go_wp2
        go_round
        case rel => exact ⟨k + 1, by omega, by go_num, Lib.hid (take_contains_int hlt NO.out HX.out)⟩
        case measure => simp [intOf]; omega
    · go_wp2
      go_ret
      refine ⟨ret_bool ?_, rfl⟩
      have := NO.out
      rw [List.take_of_length_le (by omega)] at this
      exact this.symm.trans HR.out
theorem hasInt_take (l : List Int) (k : Nat) (r : Bool) (x : Int) (a : Option Addr) (cap : Nat) (w : World) (hk : k ≤ l.length) (hl : l.length ≤ maxLen) (hi : IntsAt w a l) (h : (l.take k).contains x = r) :
    Calls Try.prog 25 #[.slice a k cap, .int .i64 x] w fun e w' => e = .returned (.bool r) ∧ w = w' := by
  have := hasInt_any (l.take k) x r (Lib.hid h) a cap w (by rw [List.length_take]; omega) (intsAt_take k hi)
  rw [List.length_take, Nat.min_eq_left hk] at this
  exact this

theorem eqInt_any (l m : List Int) (a b : Option Addr) (ca cb : Nat) (w : World) (hl : l.length ≤ maxLen) (ha : IntsAt w a l) (hb : IntsAt w b m) :
    Calls Try.prog 14 #[.slice a l.length ca, .slice b m.length cb] w fun e w' => e = .returned (.bool (l == m)) ∧ w = w' := by
  unfold maxLen at hl
  by_cases hlen : l.length = m.length
  · have hln : ((l.length : Int) != (m.length : Int)) = false := by simp [hlen]
    have HL := Lib.hid hlen
    clear hlen
    go_enter Try.func14, Try.ntmps14
    go_wp2
    go_loop [14] (fun i => ∃ k : Nat, k ≤ l.length ∧ i = .int .i64 k ∧ Hid (l.take k = m.take k)) (fun i => l.length - (intOf i).toNat)
    case atStart => exact ⟨0, Nat.zero_le _, rfl, Lib.hid (by simp)⟩
    case round =>
      obtain ⟨k, hk, rfl, NO⟩ := hrel
      by_cases hlt : k < l.length
      · have hlm : k < m.length := by have := HL.out; omega
        obtain ⟨b1, o1, rfl, hb1, hd0⟩ := ha k hlt
        obtain ⟨b2, o2, rfl, hb2, hf0⟩ := hb k hlm
        by_cases hx : l[k] = m[k]
        · have hxb : (l[k] != m[k]) = false := by rw [bne, beq_iff_eq.2 hx]; rfl
          have HX := Lib.hid hx
          clear hx
          go_wp2
          go_round
          case rel => exact ⟨k + 1, by omega, by go_num, Lib.hid (take_eq_step hlt hlm NO.out HX.out)⟩
          case measure => simp [intOf]; omega
        · have hxb : (l[k] != m[k]) = true := by rw [bne, beq_eq_false_iff_ne.2 hx]; rfl
          have HX := Lib.hid hx
          clear hx
          go_wp2
          go_ret
          exact ⟨ret_bool (beq_eq_false_iff_ne.2 (ne_of_at hlt hlm HX.out)).symm, rfl⟩
      · go_wp2
        go_ret
        refine ⟨ret_bool ?_, rfl⟩
        have h1 := NO.out
        rw [List.take_of_length_le (by omega), List.take_of_length_le (by have := HL.out; omega)] at h1
        exact (beq_iff_eq.2 h1).symm
  · have hln : ((l.length : Int) != (m.length : Int)) = true := by simp; omega
    have HL := Lib.hid hlen
    clear hlen
    go_enter Try.func14, Try.ntmps14
    go_wp2
    go_ret
    exact ⟨ret_bool (beq_eq_false_iff_ne.2 fun h => HL.out (by rw [h])).symm, rfl⟩
theorem eqInt_is (l m : List Int) (a b : Option Addr) (ca cb : Nat) (w : World) (r : Bool) (hl : l.length ≤ maxLen) (ha : IntsAt w a l) (hb : IntsAt w b m) (h : (l == m) = r) :
    Calls Try.prog 14 #[.slice a l.length ca, .slice b m.length cb] w fun e w' => e = .returned (.bool r) ∧ w = w' := h ▸ eqInt_any l m a b ca cb w hl ha hb

end Go.Proofs.Ytamiddnkgjfdhaa
