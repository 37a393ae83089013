/-
  The contracts of the reference's Eq (over Ins) and DeedEq.
-/
import Derived.Test.YtaaaplbjeknbkaaGreatJ3
import Derived.Deep.QuietTactic
import Derived.BigQuiet
set_option maxRecDepth 20000
namespace Go.Proofs.YtaaaplbjeknbkaaGreat
open Go.RowKit

theorem run_neq_in (x y : InD) (w : World) : (binOp .neq 62 (.agg #[.int .u64 x.1.toNat, .int .i64 x.2]) (.agg #[.int .u64 y.1.toNat, .int .i64 y.2])).run Tryz.prog w = .ok (.bool (!(x == y))) w := by
  by_cases h1 : (x.1.toNat : Int) = y.1.toNat
  · by_cases h2 : x.2 = y.2
    · have e := in_eq h1 h2
      subst e
      simp [go_sem]
    · have e : (x == y) = false := beq_eq_false_iff_ne.2 fun e => h2 (by rw [e])
      rw [e]
      simp [go_sem, h1, h2]
  · have e : (x == y) = false := beq_eq_false_iff_ne.2 fun e => h1 (by rw [e])
    rw [e]
    simp [go_sem, h1]

theorem eq_yes_no (l m : List InD) (a b : Option Addr) (ca cb : Nat) (w : World) (hl : l.length ≤ maxLen) (ha : InsAt w a l) (hb : InsAt w b m) :
    Calls Tryz.prog 34 #[.slice a l.length ca, .slice b m.length cb] w fun e w' => e = .returned (.bool (l == m)) ∧ Below w.heap.size w w' := by
  unfold maxLen at hl
  by_cases hlen : l.length = m.length
  · have hln : ((l.length : Int) != (m.length : Int)) = false := by simp [hlen]
    have HL := Lib.hid hlen
    clear hlen
    go_enter Tryz.func34, Tryz.ntmps34
    go_wp2
    go_loopw [14] (fun i wr => ∃ k : Nat, k ≤ l.length ∧ i = .int .i64 k ∧ Hid (l.take k = m.take k) ∧ Below w.heap.size w wr) (fun i _ => l.length - (intOf i).toNat)
    case atStart => exact ⟨0, Nat.zero_le _, rfl, Lib.hid (by simp), Below.refl _ _⟩
    case round =>
      obtain ⟨k, hk, rfl, NO, hbel⟩ := hrel
      by_cases hlt : k < l.length
      · have hlm : k < m.length := by have := HL.out; omega
        obtain ⟨b1, o1, rfl, hb1, hd0, hd1, _⟩ := insAt_kept hbel ha k hlt
        obtain ⟨b2, o2, rfl, hb2, hf0, hf1, _⟩ := insAt_kept hbel hb k hlm
        have hq := fun wx => run_neq_in l[k] m[k] wx
        by_cases hx : l[k] = m[k]
        · have hxb : (l[k] == m[k]) = true := beq_iff_eq.2 hx
          have HX := Lib.hid hx
          clear hx
          go_wp2_with fail
          go_quiet (fail)
          go_wp2
          go_roundw
          case rel => exact ⟨k + 1, by omega, by go_num, Lib.hid (take_eq_step hlt hlm NO.out HX.out), below_drewN (kept_alloc hbel _) _⟩
          case measure => simp [intOf]; omega
        · have hxb : (l[k] == m[k]) = false := beq_eq_false_iff_ne.2 hx
          have HX := Lib.hid hx
          clear hx
          go_wp2_with fail
          go_quiet (fail)
          go_wp2
          go_ret
          exact ⟨ret_bool (beq_eq_false_iff_ne.2 (ne_of_at hlt hlm HX.out)).symm, below_drewN (kept_alloc hbel _) _⟩
      · go_wp2
        go_ret
        refine ⟨ret_bool ?_, hbel⟩
        have h1 := NO.out
        rw [List.take_of_length_le (by omega), List.take_of_length_le (by have := HL.out; omega)] at h1
        exact (beq_iff_eq.2 h1).symm
  · have hln : ((l.length : Int) != (m.length : Int)) = true := by simp; omega
    have HL := Lib.hid hlen
    clear hlen
    go_enter Tryz.func34, Tryz.ntmps34
    go_wp2
    go_ret
    exact ⟨ret_bool (beq_eq_false_iff_ne.2 fun h => HL.out (by rw [h])).symm, Below.refl _ _⟩

theorem eq_is (l m : List InD) (a b : Option Addr) (ca cb : Nat) (w : World) (r : Bool) (hl : l.length ≤ maxLen) (ha : InsAt w a l) (hb : InsAt w b m) (h : (l == m) = r) :
    Calls Tryz.prog 34 #[.slice a l.length ca, .slice b m.length cb] w fun e w' => e = .returned (.bool r) ∧ Below w.heap.size w w' := h ▸ eq_yes_no l m a b ca cb w hl ha hb
/-- Two deeds have the same fields. -/
def eqD (d x : DeedD) : Bool := (d.ins == x.ins) && d.outs == x.outs && d.weight == x.weight && d.fee == x.fee
theorem eqD_1 {d x : DeedD} (h1 : (d.ins == x.ins) = true) (h2 : d.outs = x.outs) (h3 : d.weight = x.weight) : (d.fee == x.fee) = eqD d x := by
  unfold eqD
  rw [h1, h2, h3]
  simp
theorem eqD_2 {d x : DeedD} (h : ¬ d.outs = x.outs) : false = eqD d x := by
  unfold eqD
  rw [show (d.outs == x.outs) = false from beq_eq_false_iff_ne.2 h]
  simp
theorem eqD_3 {d x : DeedD} (h : ¬ d.weight = x.weight) : false = eqD d x := by
  unfold eqD
  rw [show (d.weight == x.weight) = false from beq_eq_false_iff_ne.2 h]
  simp
theorem box_eight {w wr : World} {u0 u1 u2 u3 v0 v1 v2 v3 : Value} {t : TypeId} (h : Below ((w.alloc (.cells #[u0, u1, u2, u3] t)).alloc (.cells #[v0, v1, v2, v3] t)).heap.size ((w.alloc (.cells #[u0, u1, u2, u3] t)).alloc (.cells #[v0, v1, v2, v3] t)) wr) :
    wr.cell? ⟨w.heap.size, 0, none⟩ = some u0 ∧ wr.cell? ⟨w.heap.size, 1, none⟩ = some u1 ∧ wr.cell? ⟨w.heap.size, 2, none⟩ = some u2 ∧ wr.cell? ⟨w.heap.size, 3, none⟩ = some u3 ∧
    wr.cell? ⟨w.heap.size + 1, 0, none⟩ = some v0 ∧ wr.cell? ⟨w.heap.size + 1, 1, none⟩ = some v1 ∧ wr.cell? ⟨w.heap.size + 1, 2, none⟩ = some v2 ∧ wr.cell? ⟨w.heap.size + 1, 3, none⟩ = some v3 := by
  obtain ⟨a0, a1, a2, a3, _⟩ := box_four (kept_trans (kept_new _ _) h)
  obtain ⟨b0, b1, b2, b3, _⟩ := box_four h
  have e : (w.alloc (.cells #[u0, u1, u2, u3] t)).heap.size = w.heap.size + 1 := by simp
  rw [e] at b0 b1 b2 b3
  exact ⟨a0, a1, a2, a3, b0, b1, b2, b3⟩
theorem deedEq_any (d x : DeedD) (a b : Option Addr) (ca cb : Nat) (w : World) (hl : d.ins.length ≤ maxLen) (ha : InsAt w a d.ins) (hb : InsAt w b x.ins) :
    Calls Tryz.prog 23 #[.agg #[.slice a d.ins.length ca, .int .i64 d.outs, .int .i64 d.weight, .int .i64 d.fee], .agg #[.slice b x.ins.length cb, .int .i64 x.outs, .int .i64 x.weight, .int .i64 x.fee]] w fun e w' => e = .returned (.bool (eqD d x)) ∧ Below w.heap.size w w' := by
  have hk := kept_alloc (kept_new w (.cells #[.slice a d.ins.length ca, .int .i64 d.outs, .int .i64 d.weight, .int .i64 d.fee] 50)) (.cells #[.slice b x.ins.length cb, .int .i64 x.outs, .int .i64 x.weight, .int .i64 x.fee] 50)
  by_cases h1 : (d.ins == x.ins) = true
  · have HA := Lib.hid h1
    clear h1
    go_enter Tryz.func23, Tryz.ntmps23
    go_wp2_with fail
    with_reducible refine (eq_is _ _ _ _ _ _ _ true hl (insAt_kept hk ha) (insAt_kept hk hb) HA.out).mono ?_
    rintro e w1 ⟨rfl, hb1⟩
    obtain ⟨p0, p1, p2, p3, q0, q1, q2, q3⟩ := box_eight hb1
    go_wp2_with fail
    all_goals (go_ret; refine ⟨ret_bool ?_, kept_trans hk hb1⟩; first | exact eqD_1 HA.out (by assumption) (by assumption) | exact eqD_2 (by assumption) | exact eqD_3 (by assumption))
  · rw [Bool.not_eq_true] at h1
    have HA := Lib.hid h1
    clear h1
    go_enter Tryz.func23, Tryz.ntmps23
    go_wp2_with fail
    with_reducible refine (eq_is _ _ _ _ _ _ _ false hl (insAt_kept hk ha) (insAt_kept hk hb) HA.out).mono ?_
    rintro e w1 ⟨rfl, hb1⟩
    obtain ⟨p0, p1, p2, p3, q0, q1, q2, q3⟩ := box_eight hb1
    go_wp2_with fail
    go_ret
    exact ⟨ret_bool (by unfold eqD; rw [HA.out]; rfl), kept_trans hk hb1⟩
end Go.Proofs.YtaaaplbjeknbkaaGreat
