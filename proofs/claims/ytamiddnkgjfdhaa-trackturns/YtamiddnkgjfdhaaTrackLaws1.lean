/-
  The laws of trackers that need no reference: the closed fact; what was done with a tracker.
-/
import Derived.Test.YtamiddnkgjfdhaaTrackC
import Derived.Test.YtamiddnkgjfdhaaEqIds
import Derived.Test.YtamiddnkgjfdhaaRest
import Derived.Test.YtamiddnkgjfdhaaOpsOpen
namespace Go.Proofs.Ytamiddnkgjfdhaa
open Go.RowKit Go.Maps

theorem trk_announce_at (w0 : World) (R : Nat) (salt : UInt64) (L : List TEnt) (w : World) (h : Trk w0 w R salt L) (p : Int) (x : UInt64) (m : Int) (hm : (x.toNat : Int) = m) (t : Int) (f : Bool) (c : Int) (L' : List TEnt) (hc : annC L p x t f = (c, L')) : Calls Try.prog 19 #[.pointer (some ⟨R, 0, none⟩), .int .i64 p, .int .u64 m, .int .i64 t, .bool f] w fun e w' =>
    e = .returned (.int .i64 c) ∧ Trk w0 w' R salt L' := by
  subst hm
  exact trk_announce w0 R salt L w h p x t f c L' hc
theorem trk_new_at (w0 : World) (salt : UInt64) (m : Int) (hm : (salt.toNat : Int) = m) (w : World) (hb : Below w0.heap.size w0 w) : Calls Try.prog 12 #[.int .u64 m] w fun e w' => ∃ R, e = .returned (.pointer (some ⟨R, 0, none⟩)) ∧ Trk w0 w' R salt [] := by
  subst hm
  exact trk_new w0 salt w hb
theorem asked_any (w : World) : Calls Try.prog 23 #[] w fun e w' => e = .returned (.bool true) ∧ Below w.heap.size w w' := by
  go_enter Try.func23, Try.ntmps23
  go_wp2_with fail
  with_reducible refine (trk_new_at w 1 1 rfl _ (Below.refl _ _)).mono ?_
  rintro e w1 ⟨R, rfl, h1⟩
  have H1 := Lib.hid h1
  clear h1
  go_wp2_with fail
  with_reducible refine (trk_announce_at w R 1 _ _ H1.out 2 9 9 rfl 5 false 0 [⟨2, 9, false, 0, 5⟩] (by decide)).mono ?_
  rintro e w2 ⟨rfl, h2⟩
  have H2 := Lib.hid h2
  clear h2
  go_wp2_with fail
  with_reducible refine (trk_next w R 1 _ _ H2.out 2 2 rfl (by decide) [] (by decide)).mono ?_
  rintro e w3 ⟨a3, cap3, rfl, _, h3⟩
  have H3 := Lib.hid h3
  clear h3
  go_wp2_with fail
  with_reducible refine (trk_due w R 1 _ _ H3.out 5).mono ?_
  rintro e w4 ⟨rfl, h4⟩
  have e4 : dueL 5 [⟨2, 9, false, 0, 5⟩] = [⟨2, 9, false, 1, 5⟩] := by decide
  rw [e4] at h4
  have H4 := Lib.hid h4
  clear h4 e4
  go_wp2_with fail
  with_reducible refine (trk_next w R 1 _ _ H4.out 2 2 rfl (by decide) [9] (by decide)).mono ?_
  rintro e w5 ⟨a5, cap5, rfl, ⟨_, hi5, _⟩, h5⟩
  have H5 := Lib.hid h5
  have HI5 := Lib.hid hi5
  clear h5 hi5
  have HI6 : Hid (IdsAt (w5.alloc (.cells #[.int .u64 9] 22)) (some ⟨w5.heap.size, 0, none⟩) [9]) := Lib.hid (fun i hi => by
    have hi0 : i = 0 := by simpa using hi
    subst hi0
    exact ⟨w5.heap.size, 0, rfl, by simp, by simp [go_sem]⟩)
  go_wp2_with fail
  refine (eqID_is [9] [9] a5 _ _ _ _ true (by decide) (idsAt_kept (kept_new _ _) HI5.out) HI6.out (by decide)).mono ?_
  rintro e w6 ⟨rfl, rfl⟩
  go_wp2_with fail
  go_ret
  exact ⟨rfl, kept_alloc H5.out.below _⟩

/-- One operation of a law on the list of entries. -/
def stepL (L : List TEnt) (o : OpD) : List TEnt :=
  if o.kind = 0 then (annC L o.peer o.id o.n o.flag).2 else if o.kind = 1 then dueL o.n L else if o.kind = 2 then (askC L o.peer o.id o.n).2 else if o.kind = 3 then (answerC L o.peer o.id).2 else if o.kind = 4 then forgetL L o.id else if o.kind = 5 then (dropC L o.peer).2 else L
def stepsL (L : List TEnt) (l : List OpD) : List TEnt := l.foldl stepL L
theorem steps_take (L : List TEnt) {l : List OpD} {k : Nat} (h : k < l.length) : stepsL L (l.take (k + 1)) = stepL (stepsL L (l.take k)) l[k] := by
  unfold stepsL
  rw [List.take_succ_eq_append_getElem h, List.foldl_append]
  rfl
theorem op_box {w : World} {v0 v1 v2 v3 v4 v5 v6 v7 v8 : Value} {t : TypeId} : (w.alloc (.cells #[v0, v1, v2, v3, v4, v5, v6, v7, v8] t)).cell? ⟨w.heap.size, 0, none⟩ = some v0 ∧ (w.alloc (.cells #[v0, v1, v2, v3, v4, v5, v6, v7, v8] t)).cell? ⟨w.heap.size, 1, none⟩ = some v1 ∧ (w.alloc (.cells #[v0, v1, v2, v3, v4, v5, v6, v7, v8] t)).cell? ⟨w.heap.size, 2, none⟩ = some v2 ∧
    (w.alloc (.cells #[v0, v1, v2, v3, v4, v5, v6, v7, v8] t)).cell? ⟨w.heap.size, 3, none⟩ = some v3 ∧ (w.alloc (.cells #[v0, v1, v2, v3, v4, v5, v6, v7, v8] t)).cell? ⟨w.heap.size, 4, none⟩ = some v4 := by
  refine ⟨?_, ?_, ?_, ?_, ?_⟩ <;> simp [go_sem]
set_option maxHeartbeats 1600000 in
theorem done_any (w0 : World) (salt : UInt64) (l : List OpD) (a : Option Addr) (cap : Nat) (hl : l.length ≤ maxLen) (w : World) (hb0 : Below w0.heap.size w0 w) (hi : OpsAt w0 a l) :
    Calls Try.prog 24 #[.int .u64 salt.toNat, .slice a l.length cap] w fun e w' => ∃ R, e = .returned (.pointer (some ⟨R, 0, none⟩)) ∧ Trk w0 w' R salt (stepsL [] l) := by
  unfold maxLen at hl
  have HB0 := Lib.hid hb0
  have HI := Lib.hid hi
  clear hb0 hi
  go_enter Try.func24, Try.ntmps24
  go_wp2_with fail
  with_reducible refine (trk_new w0 salt _ HB0.out).mono ?_
  rintro e w1 ⟨R, rfl, h1⟩
  have H1 := Lib.hid h1
  clear h1
  go_wp2_with fail
  go_loopw [14] (fun i wr => ∃ k : Nat, k ≤ l.length ∧ i = .int .i64 k ∧ Hid (Trk w0 wr R salt (stepsL [] (l.take k)))) (fun i _ => l.length - (intOf i).toNat)
  case atStart => exact ⟨0, Nat.zero_le _, rfl, H1⟩
  case round =>
    obtain ⟨k, hk, rfl, HT⟩ := hrel
    by_cases hlt : k < l.length
    · obtain ⟨b, o, rfl, hb, c0, c1, c2, c3, c4, c5, c6, c7, c8⟩ := opsAt_kept HT.out.below HI.out k hlt
      have HST := Lib.hid (steps_take [] hlt)
      obtain ⟨d, hd⟩ : ∃ d, l[k] = d := ⟨_, rfl⟩
      obtain ⟨L, hL⟩ : ∃ L, stepsL [] (l.take k) = L := ⟨_, rfl⟩
      rw [hd] at c0 c1 c2 c3 c4 c5 c6 c7 c8 HST
      rw [hL] at HST HT
      clear hd hL
      have HT2 := Lib.hid (HT.out.kept (kept_new wr (.cells #[.int .i64 d.kind, .int .i64 d.peer, .int .i64 d.n, .int .u64 d.id.toNat, .bool d.flag, .slice d.ia d.il d.ic, .int .i64 d.outs, .int .i64 d.weight, .int .i64 d.fee] 34)))
      have same : ∀ n : Int, ¬ d.kind = n → (d.kind == n) = false := fun n h => beq_eq_false_iff_ne.2 h
      by_cases k0 : d.kind = 0
      · obtain ⟨c, L', hc⟩ : ∃ c L', annC L d.peer d.id d.n d.flag = (c, L') := ⟨_, _, rfl⟩
        have HE : Hid (stepL L d = L') := Lib.hid (by unfold stepL; rw [if_pos k0, hc])
        have q0 : (d.kind == 0) = true := beq_iff_eq.2 k0
        have HC := Lib.hid hc
        clear hc k0 same
        go_wp2_with fail
        with_reducible refine (trk_announce w0 R salt L _ HT2.out d.peer d.id d.n d.flag c L' HC.out).mono ?_
        rintro e w3 ⟨rfl, h3⟩
        have H3 := Lib.hid h3
        clear h3
        go_wp2_with fail
        go_roundw
        case rel => exact ⟨k + 1, by omega, by go_num, Lib.hid (by rw [HST.out, HE.out]; exact H3.out)⟩
        case measure => simp [intOf]; omega
      · have q0 := same 0 k0
        by_cases k1 : d.kind = 1
        · have HE : Hid (stepL L d = dueL d.n L) := Lib.hid (by unfold stepL; rw [if_neg k0, if_pos k1])
          have q1 : (d.kind == 1) = true := beq_iff_eq.2 k1
          clear k0 k1 same
          go_wp2_with fail
          with_reducible refine (trk_due w0 R salt L _ HT2.out d.n).mono ?_
          rintro e w3 ⟨rfl, h3⟩
          have H3 := Lib.hid h3
          clear h3
          go_wp2_with fail
          go_roundw
          case rel => exact ⟨k + 1, by omega, by go_num, Lib.hid (by rw [HST.out, HE.out]; exact H3.out)⟩
          case measure => simp [intOf]; omega
        · have q1 := same 1 k1
          by_cases k2 : d.kind = 2
          · obtain ⟨c, L', hc⟩ : ∃ c L', askC L d.peer d.id d.n = (c, L') := ⟨_, _, rfl⟩
            have HE : Hid (stepL L d = L') := Lib.hid (by unfold stepL; rw [if_neg k0, if_neg k1, if_pos k2, hc])
            have q2 : (d.kind == 2) = true := beq_iff_eq.2 k2
            have HC := Lib.hid hc
            clear hc k0 k1 k2 same
            go_wp2_with fail
            with_reducible refine (trk_ask w0 R salt L _ HT2.out d.peer d.id d.n c L' HC.out).mono ?_
            rintro e w3 ⟨rfl, h3⟩
            have H3 := Lib.hid h3
            clear h3
            go_wp2_with fail
            go_roundw
            case rel => exact ⟨k + 1, by omega, by go_num, Lib.hid (by rw [HST.out, HE.out]; exact H3.out)⟩
            case measure => simp [intOf]; omega
          · have q2 := same 2 k2
            by_cases k3 : d.kind = 3
            · obtain ⟨c, L', hc⟩ : ∃ c L', answerC L d.peer d.id = (c, L') := ⟨_, _, rfl⟩
              have HE : Hid (stepL L d = L') := Lib.hid (by unfold stepL; rw [if_neg k0, if_neg k1, if_neg k2, if_pos k3, hc])
              have q3 : (d.kind == 3) = true := beq_iff_eq.2 k3
              have HC := Lib.hid hc
              clear hc k0 k1 k2 k3 same
              go_wp2_with fail
              with_reducible refine (trk_answer w0 R salt L _ HT2.out d.peer d.id c L' HC.out).mono ?_
              rintro e w3 ⟨rfl, h3⟩
              have H3 := Lib.hid h3
              clear h3
              go_wp2_with fail
              go_roundw
              case rel => exact ⟨k + 1, by omega, by go_num, Lib.hid (by rw [HST.out, HE.out]; exact H3.out)⟩
              case measure => simp [intOf]; omega
            · have q3 := same 3 k3
              by_cases k4 : d.kind = 4
              · have HE : Hid (stepL L d = forgetL L d.id) := Lib.hid (by unfold stepL; rw [if_neg k0, if_neg k1, if_neg k2, if_neg k3, if_pos k4])
                have q4 : (d.kind == 4) = true := beq_iff_eq.2 k4
                clear k0 k1 k2 k3 k4 same
                go_wp2_with fail
                with_reducible refine (trk_forget w0 R salt L _ HT2.out d.id).mono ?_
                rintro e w3 ⟨rfl, h3⟩
                have H3 := Lib.hid h3
                clear h3
                go_wp2_with fail
                go_roundw
                case rel => exact ⟨k + 1, by omega, by go_num, Lib.hid (by rw [HST.out, HE.out]; exact H3.out)⟩
                case measure => simp [intOf]; omega
              · have q4 := same 4 k4
                by_cases k5 : d.kind = 5
                · obtain ⟨c, L', hc⟩ : ∃ c L', dropC L d.peer = (c, L') := ⟨_, _, rfl⟩
                  have HE : Hid (stepL L d = L') := Lib.hid (by unfold stepL; rw [if_neg k0, if_neg k1, if_neg k2, if_neg k3, if_neg k4, if_pos k5, hc])
                  have q5 : (d.kind == 5) = true := beq_iff_eq.2 k5
                  have HC := Lib.hid hc
                  clear hc k0 k1 k2 k3 k4 k5 same
                  go_wp2_with fail
                  with_reducible refine (trk_drop w0 R salt L _ HT2.out d.peer c L' HC.out).mono ?_
                  rintro e w3 ⟨rfl, h3⟩
                  have H3 := Lib.hid h3
                  clear h3
                  go_wp2_with fail
                  go_roundw
                  case rel => exact ⟨k + 1, by omega, by go_num, Lib.hid (by rw [HST.out, HE.out]; exact H3.out)⟩
                  case measure => simp [intOf]; omega
                · have q5 := same 5 k5
                  have HE : Hid (stepL L d = L) := Lib.hid (by unfold stepL; rw [if_neg k0, if_neg k1, if_neg k2, if_neg k3, if_neg k4, if_neg k5])
                  clear k0 k1 k2 k3 k4 k5 same
                  go_wp2_with fail
                  go_roundw
                  case rel => exact ⟨k + 1, by omega, by go_num, Lib.hid (by rw [HST.out, HE.out]; exact HT2.out)⟩
                  case measure => simp [intOf]; omega
    · have he : l.take k = l := List.take_of_length_le (by omega)
      rw [he] at HT
      go_wp2_with fail
      go_ret
      exact ⟨R, rfl, HT.out⟩
end Go.Proofs.Ytamiddnkgjfdhaa
