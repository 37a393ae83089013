/-
  The laws' own helpers: housed, kept; what a list of operations makes of a pool.
-/
import Derived.Test.YtodhkphjlcjdoaaHomeC
import Derived.Test.YtodhkphjlcjdoaaOpsDeed
import Derived.Test.YtodhkphjlcjdoaaEqIds
namespace Go.Proofs.Ytodhkphjlcjdoaa
open Go.RowKit Go.Maps

/-- No blocks. -/
def noZ : Nat → Prop := fun _ => False
theorem there_no (w : World) : There w noZ := fun _ h => h.elim
/-- One operation. -/
def stepC (L : List LinkD) (q : OpH) : List LinkD := if q.kind = 0 then (addC L q.peer q.id q.d).2 else if q.kind = 1 then removeL L q.id else if q.kind = 2 then (dropC L q.peer).2 else L
def runC (l : List OpH) : List LinkD := l.foldl stepC []
theorem runC_step {l : List OpH} {k : Nat} (h : k < l.length) : runC (l.take (k + 1)) = stepC (runC (l.take k)) l[k] := by
  unfold runC
  rw [List.take_succ_eq_append_getElem h, List.foldl_append]
  rfl
theorem opsH_at {w0 w : World} {a : Option Addr} {l : List OpH} (h : OpsHAt w0 a l) (hb : Below w0.heap.size w0 w) (k : Nat) (hk : k < l.length) : ∃ b o, a = some ⟨b, o, none⟩ ∧ b < w.heap.size ∧ OpHCells w b (o + k * 9) l[k] := by
  obtain ⟨⟨b, o, e, hlt, hc⟩, _⟩ := h k hk
  exact ⟨b, o, e, Nat.lt_of_lt_of_le hlt hb.size, opHCells_kept hb hc⟩
set_option maxRecDepth 20000 in
theorem kept_any (w0 : World) (l : List OpH) (a : Option Addr) (cap : Nat) (hl : l.length ≤ maxLen) (hi : OpsHAt w0 a l) (w : World) (hb0 : Below w0.heap.size w0 w) :
    Calls Try.prog 27 #[.slice a l.length cap] w fun e w' => ∃ R, e = .returned (.pointer (some ⟨R, 0, none⟩)) ∧ Held w0 w' noZ R (runC l) := by
  have HI := Lib.hid hi
  have HB0 := Lib.hid hb0
  unfold maxLen at hl
  clear hi hb0
  go_enter Try.func27, Try.ntmps27
  go_wp2_with fail
  with_reducible refine (hd_new w0 w HB0.out noZ (there_no w)).mono ?_
  rintro e w1 ⟨R, rfl, h1, hb1⟩
  have H1 := Lib.hid h1
  clear h1 hb1
  go_wp2_with fail
  go_loopw [11] (fun i wr => ∃ k : Nat, k ≤ l.length ∧ i = .int .i64 k ∧ Hid (Held w0 wr noZ R (runC (l.take k)))) (fun i _ => l.length - (intOf i).toNat)
  case atStart => exact ⟨0, Nat.zero_le _, rfl, H1⟩
  case round =>
    clear H1
    obtain ⟨k, hk, rfl, H⟩ := hrel
    by_cases hkl : k < l.length
    · obtain ⟨g, o, rfl, hg, hc9⟩ := opsH_at HI.out H.out.below k hkl
      have hst := runC_step hkl
      have hfi := (HI.out k hkl).2.2.1
      obtain ⟨q, hq⟩ : ∃ q, l[k] = q := ⟨_, rfl⟩
      rw [hq] at hc9 hst hfi
      obtain ⟨qk, qp, qn, qi, qf, qa, qc, qd⟩ := q
      obtain ⟨c0, c1, c2, c3, c4, c5, c6, c7, c8⟩ := hc9
      simp only at c0 c1 c2 c3 c4 c5 c6 c7 c8 hfi
      have HST := Lib.hid hst
      have HFI := Lib.hid hfi
      have HX := Lib.hid (H.out.kept (kept_new wr (.cells #[.int .i64 qk, .int .i64 qp, .int .i64 qn, .int .u64 qi.toNat, .bool qf, .slice qa qd.ins.length qc, .int .i64 qd.outs, .int .i64 qd.weight, .int .i64 qd.fee] 34)))
      clear hq hst hfi
      by_cases k0 : qk = 0
      · subst k0
        have HE : Hid (runC (l.take (k + 1)) = (addC (runC (l.take k)) qp qi qd).2) := Lib.hid (by rw [HST.out]; unfold stepC; rw [if_pos rfl])
        go_wp2_with fail
        with_reducible refine (hd_add w0 _ R _ _ HX.out qp qi qd qa qc HFI.out).mono ?_
        rintro e w2 ⟨rfl, h2, _⟩
        have H2 := Lib.hid h2
        clear h2
        go_wp2_with fail
        go_roundw
        case rel => exact ⟨k + 1, by omega, by go_num, Lib.hid (by rw [HE.out]; exact H2.out)⟩
        case measure => simp [intOf]; omega
      · by_cases k1 : qk = 1
        · subst k1
          have HE : Hid (runC (l.take (k + 1)) = removeL (runC (l.take k)) qi) := Lib.hid (by rw [HST.out]; unfold stepC; rw [if_neg k0, if_pos rfl])
          go_wp2_with fail
          with_reducible refine (hd_remove w0 _ R _ _ HX.out qi _ rfl).mono ?_
          rintro e w2 ⟨rfl, h2, _⟩
          have H2 := Lib.hid h2
          clear h2
          go_wp2_with fail
          go_roundw
          case rel => exact ⟨k + 1, by omega, by go_num, Lib.hid (by rw [HE.out]; exact H2.out)⟩
          case measure => simp [intOf]; omega
        · by_cases k2 : qk = 2
          · subst k2
            have HE : Hid (runC (l.take (k + 1)) = (dropC (runC (l.take k)) qp).2) := Lib.hid (by rw [HST.out]; unfold stepC; rw [if_neg k0, if_neg k1, if_pos rfl])
            go_wp2_with fail
            with_reducible refine (hd_drop w0 _ R _ _ HX.out qp _ _ rfl).mono ?_
            rintro e w2 ⟨rfl, h2, _⟩
            have H2 := Lib.hid h2
            clear h2
            go_wp2_with fail
            go_roundw
            case rel => exact ⟨k + 1, by omega, by go_num, Lib.hid (by rw [HE.out]; exact H2.out)⟩
            case measure => simp [intOf]; omega
          · have HE : Hid (runC (l.take (k + 1)) = runC (l.take k)) := Lib.hid (by rw [HST.out]; unfold stepC; rw [if_neg k0, if_neg k1, if_neg k2])
            go_wp2_with fail
            go_roundw
            case rel => exact ⟨k + 1, by omega, by go_num, Lib.hid (by rw [HE.out]; exact HX.out)⟩
            case measure => simp [intOf]; omega
    · have he : l.take k = l := List.take_of_length_le (by omega)
      have HE := Lib.hid he
      clear he
      go_wp2_with fail
      go_ret
      exact ⟨R, rfl, by have := H.out; rw [HE.out] at this; exact this⟩
/-- The deed of the closed fact. -/
def d49 : DeedD := ⟨[(4, 0)], 1, 9, 0⟩
theorem add49 : addC [] 1 5 d49 = ((true, 0), [⟨1, 5, d49⟩]) := by rfl
theorem child49 : childL [⟨1, 5, d49⟩] 4 = [5] := by rfl
theorem insAt_one {w : World} {n : Nat} (h : w.heap[n]? = some (.cells #[.int .u64 4, .int .i64 0] 50 (0, 0))) : InsAt w (some ⟨n, 0, none⟩) d49.ins := fun i hi => by
  have hi : i < 1 := hi
  obtain rfl : i = 0 := by omega
  exact ⟨n, 0, rfl, (cell_spot (head_cell h 0)).2, head_cell h 0, head_cell h 1, rfl⟩
set_option maxRecDepth 20000 in
theorem housed_any (w : World) : Calls Try.prog 26 #[] w fun e w' => e = .returned (.bool true) ∧ Below w.heap.size w w' := by
  go_enter Try.func26, Try.ntmps26
  go_wp2_with fail
  with_reducible refine (hd_new w w (Below.refl _ _) noZ (there_no w)).mono ?_
  rintro e w1 ⟨R, rfl, h1, hb1⟩
  have H2 := Lib.hid (h1.new (.cells #[.int .u64 4, .int .i64 0] 50))
  have HIN : Hid (InsAt (w1.alloc (.cells #[.int .u64 4, .int .i64 0] 50)) (some ⟨w1.heap.size, 0, none⟩) d49.ins) := Lib.hid (insAt_one (heap_alloc_new _ _))
  clear h1 hb1
  go_wp2_with fail
  refine (show Calls Try.prog 28 #[.pointer (some ⟨R, 0, none⟩), .int .i64 1, .int .u64 5, .agg #[.slice (some ⟨w1.heap.size, 0, none⟩) 1 1, .int .i64 1, .int .i64 9, .int .i64 0]] (w1.alloc (.cells #[.int .u64 4, .int .i64 0] 50)) fun e w' => e = .returned (.tuple #[.bool true, .int .i64 0]) ∧ Held w w' (fun k => noZ k ∨ k = w1.heap.size) R [⟨1, 5, d49⟩] from by
    have := hd_addG w _ R [] _ H2.out 1 5 d49 (some ⟨w1.heap.size, 0, none⟩) 1 HIN.out (fun bb o _ e => .inr (.inr (by cases e; rfl)))
    rw [add49] at this
    exact this.mono fun e w' ⟨h1, h2, _⟩ => ⟨h1, h2⟩).mono ?_
  rintro e w3 ⟨rfl, h3⟩
  have H3 := Lib.hid h3
  clear h3
  go_wp2_with fail
  refine (show Calls Try.prog 24 #[.pointer (some ⟨R, 0, none⟩), .int .u64 4] w3 (GaveIds w3 [5]) from by
    have := hd_children w _ R _ w3 H3.out 4
    rw [child49] at this
    exact this).mono ?_
  rintro e w4 ⟨a4, c4, rfl, ho4, hb4⟩
  obtain ⟨a5, c5, e5, _, hids, _⟩ := owns_idsAt ho4
  have hk5 := kept_new w4 (.cells #[.int .u64 5] 29)
  have HI4 : Hid (IdsAt (w4.alloc (.cells #[.int .u64 5] 29)) a4 [5]) := Lib.hid (by
    simp only [Value.slice.injEq] at e5
    rw [e5.1]
    exact idsAt_kept hk5 hids)
  have HI5 : Hid (IdsAt (w4.alloc (.cells #[.int .u64 5] 29)) (some ⟨w4.heap.size, 0, none⟩) [5]) := Lib.hid (fun i hi => by
    have hi : i < 1 := hi
    obtain rfl : i = 0 := by omega
    exact ⟨w4.heap.size, 0, rfl, by simp, by simp [go_sem]⟩)
  have HB5 := Lib.hid (kept_trans (kept_trans H3.out.below hb4) hk5)
  clear ho4 hb4 e5 hids hk5
  go_wp2_with fail
  refine (eqID_is [5] [5] _ _ _ _ _ true (by decide) HI4.out HI5.out rfl).mono ?_
  rintro e w6 ⟨rfl, rfl⟩
  go_wp2_with fail
  go_ret
  exact ⟨rfl, HB5.out⟩
end Go.Proofs.Ytodhkphjlcjdoaa
