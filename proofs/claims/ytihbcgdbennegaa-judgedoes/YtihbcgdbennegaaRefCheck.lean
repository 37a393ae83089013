/-
  The contract of the reference's DeedCheck.
-/
import Derived.Test.YtihbcgdbennegaaDeedCheck
import Derived.StillTailTactics
namespace Go.Proofs.Ytihbcgdbennegaa
open Go.RowKit

theorem insAt_take {w : World} {a : Option Addr} {l : List InD} (k : Nat) (h : InsAt w a l) : InsAt w a (l.take k) := fun i hi => by
  have h1 : i < l.length := by rw [List.length_take] at hi; omega
  rw [List.getElem_take]
  exact h i h1
theorem has_take (l : List InD) (k : Nat) (r : Bool) (x : InD) (a : Option Addr) (cap : Nat) (w : World) (hk : k ≤ l.length) (hl : l.length ≤ maxLen) (hi : InsAt w a l) (h : (l.take k).contains x = r) :
    Calls Try.prog 55 #[.slice a k cap, .agg #[.int .u64 x.1.toNat, .int .i64 x.2]] w fun e w' => e = .returned (.bool r) ∧ Below w.heap.size w w' := by
  have := has_any (l.take k) x a cap w (by rw [List.length_take]; omega) (insAt_take k hi)
  rw [List.length_take, Nat.min_eq_left hk, h] at this
  exact this

theorem refCheck_large (l : List InD) (o g f : Int) (a : Option Addr) (cap : Nat) (w : World) (hl : 8 < l.length) :
    Calls Try.prog 34 #[.agg #[.slice a l.length cap, .int .i64 o, .int .i64 g, .int .i64 f]] w fun e w' => e = .returned (.int .i64 2) ∧ Below w.heap.size w w' := by
  go_enter Try.func34, Try.ntmps34
  go_wp2
  go_ret
  exact ⟨rfl, kept_new _ _⟩

set_option maxHeartbeats 2000000 in
set_option maxRecDepth 20000 in
theorem refCheck_small (l : List InD) (o g f : Int) (a : Option Addr) (cap : Nat) (w : World) (hl : l.length ≤ 8) (hc : l.length ≤ cap) (hi : InsAt w a l) :
    Calls Try.prog 34 #[.agg #[.slice a l.length cap, .int .i64 o, .int .i64 g, .int .i64 f]] w fun e w' => e = .returned (.int .i64 (checkS l o g f)) ∧ Below w.heap.size w w' := by
  have hi0 := insAt_kept (kept_new w (.cells #[.slice a l.length cap, .int .i64 o, .int .i64 g, .int .i64 f] 30)) hi
  go_enter Try.func34, Try.ntmps34
  go_wp2
  go_loopw [14] (fun i wr => ∃ k : Nat, k ≤ l.length ∧ i = .int .i64 k ∧ Hid (atsB (l.take k) = true) ∧ Below (w.alloc (.cells #[.slice a l.length cap, .int .i64 o, .int .i64 g, .int .i64 f] 30)).heap.size (w.alloc (.cells #[.slice a l.length cap, .int .i64 o, .int .i64 g, .int .i64 f] 30)) wr) (fun i _ => l.length - (intOf i).toNat)
  case atStart => exact ⟨0, Nat.zero_le _, rfl, Lib.hid rfl, Below.refl _ _⟩
  case round =>
    obtain ⟨k, hk, rfl, NO, hbel⟩ := hrel
    have hkw := kept_trans (kept_new _ _) hbel
    by_cases hlt : k < l.length
    · obtain ⟨b, oo, rfl, hb, hd0, hd1, hok⟩ := insAt_kept hbel hi0 k hlt
      by_cases hx : within l[k].2 0 15 = true
      · have HX := Lib.hid hx
        clear hx
        go_wp2_with fail
        with_reducible refine (outside_no _ _ _ _ HX.out).mono ?_
        rintro e w' ⟨rfl, rfl⟩
        go_wp2_with fail
        go_roundw
        case rel => exact ⟨k + 1, by omega, by go_num, Lib.hid (atsB_take hlt NO.out HX.out), kept_alloc hbel _⟩
        case measure => simp [intOf]; omega
      · rw [Bool.not_eq_true] at hx
        have HX := Lib.hid hx
        clear hx
        go_wp2_with fail
        with_reducible refine (outside_yes _ _ _ _ HX.out).mono ?_
        rintro e w' ⟨rfl, rfl⟩
        go_wp2_with fail
        go_ret
        exact ⟨ret_i64 (by unfold checkS; rw [if_pos (atsB_bad hlt HX.out)]), kept_alloc hkw _⟩
    · have hats := NO.out
      rw [List.take_of_length_le (by omega)] at hats
      have HA := Lib.hid hats
      clear hats NO
      obtain ⟨c0, c1, c2, c3, hws⟩ := box_four hbel
      go_wp2_with fail
      clear c0 c1 c2 c3 hws hkw hlt hk
      go_loopw [25] (fun i wr => ∃ k : Nat, k ≤ l.length ∧ i = .int .i64 k ∧ Hid ((l.take k).Nodup) ∧ Below (w.alloc (.cells #[.slice a l.length cap, .int .i64 o, .int .i64 g, .int .i64 f] 30)).heap.size (w.alloc (.cells #[.slice a l.length cap, .int .i64 o, .int .i64 g, .int .i64 f] 30)) wr) (fun i _ => l.length - (intOf i).toNat)
      case atStart => exact ⟨0, Nat.zero_le _, rfl, Lib.hid (by simp), hbel⟩
      case round =>
        clear hbel
        obtain ⟨k, hk, rfl, NO, hbel⟩ := hrel
        have hkw := kept_trans (kept_new _ _) hbel
        obtain ⟨c0, c1, c2, c3, hws⟩ := box_four hbel
        by_cases hlt : k < l.length
        · have hir := insAt_kept hbel hi0
          obtain ⟨b, oo, rfl, hb, hd0, hd1, hok⟩ := hir k hlt
          have hkc : k ≤ cap := by omega
          obtain ⟨w2, hw2⟩ : ∃ w2, (wr.alloc (.cells #[.int .u64 l[k].1.toNat, .int .i64 l[k].2] 52)).drew = w2 := ⟨_, rfl⟩
          have hb2 : Below (wr.alloc (.cells #[.int .u64 l[k].1.toNat, .int .i64 l[k].2] 52)).heap.size (wr.alloc (.cells #[.int .u64 l[k].1.toNat, .int .i64 l[k].2] 52)) w2 := hw2 ▸ (Below.refl _ _).drew
          have hbr := kept_trans (kept_new _ _) hb2
          obtain ⟨g0, g1, _⟩ := box_pair hb2
          obtain ⟨e0, _, _, _, _⟩ := box_four (kept_trans hbel hbr)
          have hi2 := insAt_kept hbr hir
          have HW := Lib.hid hw2
          clear hw2 hb2
          by_cases hx : (l.take k).contains l[k] = true
          · have HX := Lib.hid hx
            clear hx
            go_wp2_with fail
            refine region_tail 5 (by kernel_rfl) (by kernel_rfl) HW.out ?_
            simp only [List.take_succ_cons, List.take_zero, List.drop_succ_cons, List.drop_zero]
            repeat still_step
            refine wpStill_nil ?_
            go_wp2_with fail
            with_reducible refine (has_take l k true l[k] _ _ _ (by omega) (by unfold maxLen; omega) hi2 HX.out).mono ?_
            rintro e w' ⟨rfl, hb3⟩
            go_wp2_with fail
            go_ret
            exact ⟨ret_i64 (by unfold checkS; rw [if_neg (by rw [HA.out]; decide), if_pos (dup_at hlt HX.out)]), kept_trans (kept_trans hkw hbr) hb3⟩
          · rw [Bool.not_eq_true] at hx
            have HX := Lib.hid hx
            clear hx
            go_wp2_with fail
            refine region_tail 5 (by kernel_rfl) (by kernel_rfl) HW.out ?_
            simp only [List.take_succ_cons, List.take_zero, List.drop_succ_cons, List.drop_zero]
            repeat still_step
            refine wpStill_nil ?_
            go_wp2_with fail
            with_reducible refine (has_take l k false l[k] _ _ _ (by omega) (by unfold maxLen; omega) hi2 HX.out).mono ?_
            rintro e w' ⟨rfl, hb3⟩
            go_wp2_with fail
            go_roundw
            case rel => exact ⟨k + 1, by omega, by go_num, Lib.hid (nodup_take hlt NO.out HX.out), kept_trans (kept_trans hbel hbr) hb3⟩
            case measure => simp [intOf]; omega
        · have HD := Lib.hid (dup_none (by omega) NO.out)
          have HB := Lib.hid (show checkS l o g f = if restB o g f = false then 1 else 0 by unfold checkS; rw [if_neg (by rw [HA.out]; decide), if_neg (by rw [HD.out]; decide)])
          clear hbel NO hi0
          by_cases ho : within o 1 16 = true
          · by_cases hg : within g 1 1000 = true
            · by_cases hf : within f 0 1000 = true
              · have HR := Lib.hid (show restB o g f = true by unfold restB; rw [ho, hg, hf]; rfl)
                have HO := Lib.hid ho
                have HG := Lib.hid hg
                have HF := Lib.hid hf
                clear ho hg hf
                go_wp2_with fail
                with_reducible refine (outside_no _ _ _ _ HO.out).mono ?_
                rintro e w' ⟨rfl, rfl⟩
                go_wp2_with fail
                with_reducible refine (outside_no _ _ _ _ HG.out).mono ?_
                rintro e w' ⟨rfl, rfl⟩
                go_wp2_with fail
                with_reducible refine (outside_no _ _ _ _ HF.out).mono ?_
                rintro e w' ⟨rfl, rfl⟩
                go_wp2_with fail
                go_ret
                exact ⟨ret_i64 (by rw [HB.out, if_neg (by rw [HR.out]; decide)]), hkw⟩
              · rw [Bool.not_eq_true] at hf
                have HR := Lib.hid (show restB o g f = false by unfold restB; rw [ho, hg, hf]; rfl)
                have HO := Lib.hid ho
                have HG := Lib.hid hg
                have HF := Lib.hid hf
                clear ho hg hf
                go_wp2_with fail
                with_reducible refine (outside_no _ _ _ _ HO.out).mono ?_
                rintro e w' ⟨rfl, rfl⟩
                go_wp2_with fail
                with_reducible refine (outside_no _ _ _ _ HG.out).mono ?_
                rintro e w' ⟨rfl, rfl⟩
                go_wp2_with fail
                with_reducible refine (outside_yes _ _ _ _ HF.out).mono ?_
                rintro e w' ⟨rfl, rfl⟩
                go_wp2_with fail
                go_ret
                exact ⟨ret_i64 (by rw [HB.out, if_pos HR.out]), hkw⟩
            · rw [Bool.not_eq_true] at hg
              have HR := Lib.hid (show restB o g f = false by unfold restB; rw [ho, hg]; rfl)
              have HO := Lib.hid ho
              have HG := Lib.hid hg
              clear ho hg
              go_wp2_with fail
              with_reducible refine (outside_no _ _ _ _ HO.out).mono ?_
              rintro e w' ⟨rfl, rfl⟩
              go_wp2_with fail
              with_reducible refine (outside_yes _ _ _ _ HG.out).mono ?_
              rintro e w' ⟨rfl, rfl⟩
              go_wp2_with fail
              go_ret
              exact ⟨ret_i64 (by rw [HB.out, if_pos HR.out]), hkw⟩
          · rw [Bool.not_eq_true] at ho
            have HR := Lib.hid (show restB o g f = false by unfold restB; rw [ho]; rfl)
            have HO := Lib.hid ho
            clear ho
            go_wp2_with fail
            with_reducible refine (outside_yes _ _ _ _ HO.out).mono ?_
            rintro e w' ⟨rfl, rfl⟩
            go_wp2_with fail
            go_ret
            exact ⟨ret_i64 (by rw [HB.out, if_pos HR.out]), hkw⟩

/-- Check, whatever the deed. -/
theorem check_any (d : DeedD) (a : Option Addr) (cap : Nat) (w : World) (hi : InsAt w a d.ins) :
    Calls Try.prog 28 #[deedV a cap d] w fun e w' => e = .returned (.int .i64 (checkD d)) ∧ Below w.heap.size w w' := by
  by_cases h : 8 < d.ins.length
  · refine (check_large d.ins d.outs d.weight d.fee a cap w h).mono ?_
    rintro e w' ⟨rfl, hb⟩
    exact ⟨ret_i64 (by unfold checkD; rw [if_pos h]), hb⟩
  · refine (check_small d.ins d.outs d.weight d.fee a cap w (by omega) hi).mono ?_
    rintro e w' ⟨rfl, hb⟩
    exact ⟨ret_i64 (by unfold checkD checkS; rw [if_neg h]), hb⟩
theorem refCheck_any (d : DeedD) (a : Option Addr) (cap : Nat) (w : World) (hc : d.ins.length ≤ cap) (hi : InsAt w a d.ins) :
    Calls Try.prog 34 #[deedV a cap d] w fun e w' => e = .returned (.int .i64 (checkD d)) ∧ Below w.heap.size w w' := by
  by_cases h : 8 < d.ins.length
  · refine (refCheck_large d.ins d.outs d.weight d.fee a cap w h).mono ?_
    rintro e w' ⟨rfl, hb⟩
    exact ⟨ret_i64 (by unfold checkD; rw [if_pos h]), hb⟩
  · refine (refCheck_small d.ins d.outs d.weight d.fee a cap w (by omega) hc hi).mono ?_
    rintro e w' ⟨rfl, hb⟩
    exact ⟨ret_i64 (by unfold checkD checkS; rw [if_neg h]), hb⟩
end Go.Proofs.Ytihbcgdbennegaa
