/-
  Contracts of cmp.Compare, cmp.Or, and of rank and compare of a tracker.
-/
import Derived.Test.YtamiddnkgjfdhaaTrackW1
import Derived.Test.YtamiddnkgjfdhaaMix
import Derived.Deep.RegionHeld3
namespace Go.Proofs.Ytamiddnkgjfdhaa
open Go.RowKit Go.Maps

/-- Three-way comparison. -/
def cmp3 (a b : Int) : Int := if a < b then -1 else if b < a then 1 else 0
theorem compareU_any (x y : UInt64) (c : Int) (hc : cmp3 x.toNat y.toNat = c) (w : World) : Calls Try.prog 89 #[.int .u64 x.toNat, .int .u64 y.toNat] w fun e w' => e = .returned (.int .i64 c) ∧ w = w' := by
  have HC := Lib.hid hc
  clear hc
  by_cases h1 : (x.toNat : Int) < y.toNat
  · have HE : Hid ((-1 : Int) = c) := Lib.hid (by rw [← HC.out]; unfold cmp3; rw [if_pos h1])
    go_enter Try.func89, Try.ntmps89
    go_wp2
    go_ret
    exact ⟨ret_i64 HE.out, rfl⟩
  · by_cases h2 : (x.toNat : Int) > y.toNat
    · have HE : Hid ((1 : Int) = c) := Lib.hid (by rw [← HC.out]; unfold cmp3; rw [if_neg h1, if_pos h2])
      go_enter Try.func89, Try.ntmps89
      go_wp2
      go_ret
      exact ⟨ret_i64 HE.out, rfl⟩
    · have HE : Hid ((0 : Int) = c) := Lib.hid (by rw [← HC.out]; unfold cmp3; rw [if_neg h1, if_neg h2])
      go_enter Try.func89, Try.ntmps89
      go_wp2
      go_ret
      exact ⟨ret_i64 HE.out, rfl⟩
theorem compareI_any (x y : Int) (c : Int) (hc : cmp3 x y = c) (w : World) : Calls Try.prog 91 #[.int .i64 x, .int .i64 y] w fun e w' => e = .returned (.int .i64 c) ∧ w = w' := by
  have HC := Lib.hid hc
  clear hc
  by_cases h1 : x < y
  · have HE : Hid ((-1 : Int) = c) := Lib.hid (by rw [← HC.out]; unfold cmp3; rw [if_pos h1])
    go_enter Try.func91, Try.ntmps91
    go_wp2
    go_ret
    exact ⟨ret_i64 HE.out, rfl⟩
  · by_cases h2 : x > y
    · have HE : Hid ((1 : Int) = c) := Lib.hid (by rw [← HC.out]; unfold cmp3; rw [if_neg h1, if_pos h2])
      go_enter Try.func91, Try.ntmps91
      go_wp2
      go_ret
      exact ⟨ret_i64 HE.out, rfl⟩
    · have HE : Hid ((0 : Int) = c) := Lib.hid (by rw [← HC.out]; unfold cmp3; rw [if_neg h1, if_neg h2])
      go_enter Try.func91, Try.ntmps91
      go_wp2
      go_ret
      exact ⟨ret_i64 HE.out, rfl⟩
theorem or_any (x y r : Int) (hr : (if x = 0 then y else x) = r) (g : Nat) (w : World) (c0 : w.cell? ⟨g, 0, none⟩ = some (.int .i64 x)) (c1 : w.cell? ⟨g, 1, none⟩ = some (.int .i64 y)) : Calls Try.prog 88 #[.slice (some ⟨g, 0, none⟩) 2 2] w fun e w' => e = .returned (.int .i64 r) ∧ w = w' := by
  have hg := (cell_spot c0).2
  have HR := Lib.hid hr
  clear hr
  go_enter Try.func88, Try.ntmps88
  go_wp2
  go_loop [8] (fun i => ∃ k : Nat, k ≤ 2 ∧ i = .int .i64 k ∧ Hid (1 ≤ k → x = 0) ∧ Hid (2 ≤ k → y = 0)) (fun i => 2 - (intOf i).toNat)
  case atStart => exact ⟨0, by omega, rfl, Lib.hid (fun h => by omega), Lib.hid (fun h => by omega)⟩
  case round =>
    obtain ⟨k, hk, rfl, HX, HY⟩ := hrel
    match k, hk with
    | 0, _ =>
      by_cases hx : x = 0
      · have hxb : (x != 0) = false := by simpa using hx
        have HX0 := Lib.hid hx
        clear hx
        go_wp2
        go_round
        case rel => exact ⟨1, by omega, rfl, Lib.hid (fun _ => HX0.out), Lib.hid (fun h => by omega)⟩
        case measure => simp [intOf]
      · have hxb : (x != 0) = true := by simpa using hx
        have HX0 := Lib.hid hx
        clear hx
        go_wp2
        go_ret
        exact ⟨ret_i64 (by rw [← HR.out, if_neg HX0.out]), rfl⟩
    | 1, _ =>
      by_cases hy : y = 0
      · have hyb : (y != 0) = false := by simpa using hy
        have HY0 := Lib.hid hy
        clear hy
        go_wp2
        go_round
        case rel => exact ⟨2, by omega, rfl, Lib.hid (fun _ => HX.out (by omega)), Lib.hid (fun _ => HY0.out)⟩
        case measure => simp [intOf]
      · have hyb : (y != 0) = true := by simpa using hy
        have HY0 := Lib.hid hy
        clear hy
        go_wp2
        go_ret
        exact ⟨ret_i64 (by rw [← HR.out, if_pos (HX.out (by omega))]), rfl⟩
    | 2, _ =>
      go_wp2
      go_ret
      exact ⟨ret_i64 (by rw [← HR.out, if_pos (HX.out (by omega)), HY.out (by omega)]), rfl⟩
/-- The rank of an entry. -/
def rankU (salt : UInt64) (e : TEnt) : UInt64 := mixU salt (UInt64.ofNat e.peer) e.id
theorem conv_peer (p : Nat) (h : p < 8) : IntKind.u64.wrap (p : Int) = ((UInt64.ofNat p).toNat : Int) := by
  rw [UInt64.toNat_ofNat_of_lt' (by show p < 18446744073709551616; omega)]
  show (p : Int) % 18446744073709551616 = _
  omega
set_option maxRecDepth 20000 in
theorem rank_any (salt : UInt64) (R : Nat) (e : TEnt) (k : UInt64) (hk : rankU salt e = k) (hp : e.peer < 8) (w : World) (hs : w.cell? ⟨R, 0, none⟩ = some (.int .u64 salt.toNat)) : Calls Try.prog 90 #[.pointer (some ⟨R, 0, none⟩), .agg #[.int .i64 e.peer, .int .u64 e.id.toNat, .bool e.pref, .int .i64 e.st, .int .i64 e.till]] w fun x w' => x = .returned (.int .u64 k.toNat) ∧ Below w.heap.size w w' := by
  have hR := (cell_spot hs).2
  have hc := conv_peer e.peer hp
  have HK := Lib.hid hk
  clear hk
  go_enter Try.func90, Try.ntmps90
  obtain ⟨w2, hw2⟩ : ∃ w2, (w.alloc (.cells #[.int .i64 e.peer, .int .u64 e.id.toNat, .bool e.pref, .int .i64 e.st, .int .i64 e.till] 73)).drew = w2 := ⟨_, rfl⟩
  have hb2 : Below w.heap.size w w2 := hw2 ▸ (kept_new _ _).drew
  have d0 : w2.cell? ⟨w.heap.size, 0, none⟩ = some (.int .i64 e.peer) := hw2 ▸ (by show (w.alloc _).cell? _ = _; simp [go_sem])
  have d1 : w2.cell? ⟨w.heap.size, 1, none⟩ = some (.int .u64 e.id.toNat) := hw2 ▸ (by show (w.alloc _).cell? _ = _; simp [go_sem])
  have hs2 := kept_cell hb2 hs
  have hR2 := (cell_spot hs2).2
  have hl2 := (cell_spot d0).2
  have HW2 := Lib.hid hw2
  clear hw2
  go_wp2_with fail
  refine region_tail 9 (by kernel_rfl) (by kernel_rfl) HW2.out ?_
  simp only [List.take_succ_cons, List.take_zero, List.drop_succ_cons, List.drop_zero]
  repeat still_step
  refine wpStill_nil ?_
  go_wp2_with fail
  rw [show ((e.peer : Int) % 18446744073709551616) = ((UInt64.ofNat e.peer).toNat : Int) from hc]
  with_reducible refine (mix_any salt (UInt64.ofNat e.peer) e.id _).mono ?_
  rintro y w3 ⟨rfl, rfl⟩
  go_wp2_with fail
  go_ret
  exact ⟨ret_u64 (by rw [← HK.out]; rfl), hb2⟩
/-- One entry is asked rather than another one. -/
def beatsB (salt : UInt64) (a b : TEnt) : Bool := if a.pref = b.pref then (if rankU salt a = rankU salt b then decide (a.peer < b.peer) else decide ((rankU salt b).toNat < (rankU salt a).toNat)) else a.pref
theorem cmp3_neg (a b : Int) : cmp3 a b < 0 ↔ a < b := by unfold cmp3; split <;> (try split) <;> omega
theorem cmp3_zero (a b : Int) : cmp3 a b = 0 ↔ a = b := by unfold cmp3; split <;> (try split) <;> omega
theorem beats_or {salt : UInt64} {a b : TEnt} (h : a.pref = b.pref) : decide ((if cmp3 (rankU salt b).toNat (rankU salt a).toNat = 0 then cmp3 a.peer b.peer else cmp3 (rankU salt b).toNat (rankU salt a).toNat) < 0) = beatsB salt a b := by
  unfold beatsB
  rw [if_pos h]
  generalize rankU salt a = x
  generalize rankU salt b = y
  by_cases hr : x = y
  · rw [if_pos hr, hr, if_pos ((cmp3_zero _ _).2 rfl), decide_eq_decide, cmp3_neg]
    omega
  · have hne : x.toNat ≠ y.toNat := fun e => hr (UInt64.toNat_inj.1 e)
    rw [if_neg hr, if_neg (fun e => by have := (cmp3_zero _ _).1 e; omega), decide_eq_decide, cmp3_neg]
    omega
theorem two_kept {w w1 w2 : World} {A B : Nat} {a0 a1 a2 a3 a4 b0 b1 b2 b3 b4 : Value} (h0 : w.cell? ⟨A, 0, none⟩ = some a0) (h1 : w.cell? ⟨A, 1, none⟩ = some a1) (h2 : w.cell? ⟨A, 2, none⟩ = some a2) (h3 : w.cell? ⟨A, 3, none⟩ = some a3) (h4 : w.cell? ⟨A, 4, none⟩ = some a4)
    (k0 : w.cell? ⟨B, 0, none⟩ = some b0) (k1 : w.cell? ⟨B, 1, none⟩ = some b1) (k2 : w.cell? ⟨B, 2, none⟩ = some b2) (k3 : w.cell? ⟨B, 3, none⟩ = some b3) (k4 : w.cell? ⟨B, 4, none⟩ = some b4) (hb : Below w.heap.size w w1) (hb2 : Below w1.heap.size w1 w2) :
    ((w2.cell? ⟨A, 0, none⟩ = some a0 ∧ w2.cell? ⟨A, 1, none⟩ = some a1 ∧ w2.cell? ⟨A, 2, none⟩ = some a2 ∧ w2.cell? ⟨A, 3, none⟩ = some a3 ∧ w2.cell? ⟨A, 4, none⟩ = some a4) ∧
      (w2.cell? ⟨B, 0, none⟩ = some b0 ∧ w2.cell? ⟨B, 1, none⟩ = some b1 ∧ w2.cell? ⟨B, 2, none⟩ = some b2 ∧ w2.cell? ⟨B, 3, none⟩ = some b3 ∧ w2.cell? ⟨B, 4, none⟩ = some b4)) ∧ Below w.heap.size w w2 := by
  have h := kept_trans hb hb2
  exact ⟨⟨⟨kept_cell h h0, kept_cell h h1, kept_cell h h2, kept_cell h h3, kept_cell h h4⟩, ⟨kept_cell h k0, kept_cell h k1, kept_cell h k2, kept_cell h k3, kept_cell h k4⟩⟩, h⟩
set_option maxHeartbeats 1600000 in
theorem compare_any (salt : UInt64) (R : Nat) (a b : TEnt) (ha : a.peer < 8) (hb : b.peer < 8) (w : World) (hs : w.cell? ⟨R, 0, none⟩ = some (.int .u64 salt.toNat)) :
    Calls Try.prog 70 #[.pointer (some ⟨R, 0, none⟩), entV a, entV b] w fun e w' => ∃ c, e = .returned (.int .i64 c) ∧ decide (c < 0) = beatsB salt a b ∧ Below w.heap.size w w' := by
  have hR := (cell_spot hs).2
  by_cases hpr : a.pref = b.pref
  · have HB := Lib.hid (beats_or (salt := salt) hpr)
    obtain ⟨ka, hka⟩ : ∃ k, rankU salt a = k := ⟨_, rfl⟩
    obtain ⟨kb, hkb⟩ : ∃ k, rankU salt b = k := ⟨_, rfl⟩
    rw [hka, hkb] at HB
    obtain ⟨c1, hc1⟩ : ∃ c, cmp3 kb.toNat ka.toNat = c := ⟨_, rfl⟩
    obtain ⟨c2, hc2⟩ : ∃ c, cmp3 a.peer b.peer = c := ⟨_, rfl⟩
    rw [hc1, hc2] at HB
    obtain ⟨r, hr⟩ : ∃ r, (if c1 = 0 then c2 else c1) = r := ⟨_, rfl⟩
    rw [hr] at HB
    have HRR := Lib.hid hr
    have HKA := Lib.hid hka
    have HKB := Lib.hid hkb
    have HC1 := Lib.hid hc1
    have HC2 := Lib.hid hc2
    have HSA := Lib.hid ha
    have HSB := Lib.hid hb
    have hpb : (!(a.pref == b.pref)) = false := by simp [hpr]
    clear hka hkb hc1 hc2 ha hb hpr hr
    unfold entV
    go_enter Try.func70, Try.ntmps70
    go_wp2_with fail
    obtain ⟨wX, hwX⟩ : ∃ x, x = ((w.alloc (.cells #[.int .i64 a.peer, .int .u64 a.id.toNat, .bool a.pref, .int .i64 a.st, .int .i64 a.till] 73)).alloc (.cells #[.int .i64 b.peer, .int .u64 b.id.toNat, .bool b.pref, .int .i64 b.st, .int .i64 b.till] 73)) := ⟨_, rfl⟩
    have hbX : Below w.heap.size w wX := hwX ▸ kept_alloc (kept_new _ _) _
    have hbX' : w.heap.size ≤ wX.heap.size := hbX.size
    obtain ⟨a0, a1, a2, a3, a4⟩ : EntAt wX w.heap.size 0 a := hwX ▸ ⟨by simp [go_sem], by simp [go_sem], by simp [go_sem], by simp [go_sem], by simp [go_sem]⟩
    obtain ⟨b0, b1, b2, b3, b4⟩ : EntAt wX (w.heap.size + 1) 0 b := hwX ▸ ⟨by simp [go_sem], by simp [go_sem], by simp [go_sem], by simp [go_sem], by simp [go_sem]⟩
    have hsX := kept_cell hbX hs
    rw [← hwX]
    clear hwX hs
    go_region_held3 (fun w' => ((w'.cell? ⟨w.heap.size, 0, none⟩ = some (.int .i64 a.peer) ∧ w'.cell? ⟨w.heap.size, 1, none⟩ = some (.int .u64 a.id.toNat) ∧ w'.cell? ⟨w.heap.size, 2, none⟩ = some (.bool a.pref) ∧ w'.cell? ⟨w.heap.size, 3, none⟩ = some (.int .i64 a.st) ∧ w'.cell? ⟨w.heap.size, 4, none⟩ = some (.int .i64 a.till)) ∧
        (w'.cell? ⟨w.heap.size + 1, 0, none⟩ = some (.int .i64 b.peer) ∧ w'.cell? ⟨w.heap.size + 1, 1, none⟩ = some (.int .u64 b.id.toNat) ∧ w'.cell? ⟨w.heap.size + 1, 2, none⟩ = some (.bool b.pref) ∧ w'.cell? ⟨w.heap.size + 1, 3, none⟩ = some (.int .i64 b.st) ∧ w'.cell? ⟨w.heap.size + 1, 4, none⟩ = some (.int .i64 b.till))) ∧ Below wX.heap.size wX w')
      (first | exact ⟨⟨⟨a0, a1, a2, a3, a4⟩, ⟨b0, b1, b2, b3, b4⟩⟩, (Below.refl _ _).drew⟩ | exact two_kept a0 a1 a2 a3 a4 b0 b1 b2 b3 b4 ((Below.refl _ _).drew) hb2 | (go_split_ands; exact two_kept a0 a1 a2 a3 a4 b0 b1 b2 b3 b4 (by assumption) hb2) | (go_split_ands; exact two_kept a0 a1 a2 a3 a4 b0 b1 b2 b3 b4 (by assumption) (Below.refl _ _)) | (go_split_ands; exact two_kept a0 a1 a2 a3 a4 b0 b1 b2 b3 b4 (by assumption) (kept_new _ _)))
      (first
        | (go_at_call 90; (go_split_ands; (with_reducible refine (rank_any salt R b kb HKB.out HSB.out _ (kept_cell (by assumption) hsX)).mono ?_); rintro e w2 ⟨rfl, hb2⟩))
        | (go_at_call 90; (go_split_ands; (with_reducible refine (rank_any salt R a ka HKA.out HSA.out _ (kept_cell (by assumption) hsX)).mono ?_); rintro e w2 ⟨rfl, hb2⟩))
        | (go_at_call 89; (go_split_ands; (with_reducible refine (compareU_any kb ka c1 HC1.out _).mono ?_); rintro e w2 ⟨rfl, rfl⟩))
        | (go_at_call 91; (go_split_ands; (with_reducible refine (compareI_any a.peer b.peer c2 HC2.out _).mono ?_); rintro e w2 ⟨rfl, rfl⟩))
        | (go_at_call 88; (go_split_ands; (with_reducible refine (or_any c1 c2 r HRR.out _ _ (by simp [go_sem]) (by simp [go_sem])).mono ?_); rintro e w2 ⟨rfl, rfl⟩)))
    go_split_ands
    go_wp2_with fail
    go_ret
    exact ⟨r, rfl, HB.out, kept_trans hbX (by assumption)⟩
  · have HB : Hid (beatsB salt a b = a.pref) := Lib.hid (by unfold beatsB; rw [if_neg hpr])
    unfold entV
    cases hap : a.pref with
    | true =>
      have hbp : b.pref = false := by
        cases hq : b.pref with
        | true => exact absurd (hap.trans hq.symm) hpr
        | false => rfl
      rw [hap] at HB
      clear hpr ha hb
      go_enter Try.func70, Try.ntmps70
      go_wp2
      go_ret
      exact ⟨-1, rfl, by rw [HB.out]; rfl, kept_alloc (kept_new _ _) _⟩
    | false =>
      have hbp : b.pref = true := by
        cases hq : b.pref with
        | false => exact absurd (hap.trans hq.symm) hpr
        | true => rfl
      rw [hap] at HB
      clear hpr ha hb
      go_enter Try.func70, Try.ntmps70
      go_wp2
      go_ret
      exact ⟨1, rfl, by rw [HB.out]; rfl, kept_alloc (kept_new _ _) _⟩
end Go.Proofs.Ytamiddnkgjfdhaa
