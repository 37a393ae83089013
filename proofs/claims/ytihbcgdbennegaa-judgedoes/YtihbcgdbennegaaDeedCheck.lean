/-
  Contracts of the program's Check and of the reference's DeedCheck: both answer 'checkD'.
-/
import Derived.Test.YtihbcgdbennegaaIns
import Derived.Test.YtihbcgdbennegaaOutside
import Derived.Maps.OwnOps
import Derived.Maps.Own
namespace Go.Proofs.Ytihbcgdbennegaa
open Go.RowKit

abbrev Seen (w : World) (b n : Nat) (ks : List InD) : Prop := SetIs Try.prog 52 4 inOk inKey w b n ks

theorem repeats_any (l : List InD) (a : Option Addr) (cap : Nat) (w : World) (hl : l.length ≤ 8) (hi : InsAt w a l) :
    Calls Try.prog 50 #[.slice a l.length cap] w fun e w' => e = .returned (.bool (dupB l)) ∧ Below w.heap.size w w' := by
  have hmm := @run_makeMap Try.prog
  go_enter Try.func50, Try.ntmps50
  go_wp2
  go_loopw [9] (fun i wr => ∃ k : Nat, k ≤ l.length ∧ i = .int .i64 k ∧ Hid ((l.take k).Nodup) ∧ Hid (Seen wr w.heap.size k (l.take k)) ∧ Below w.heap.size w wr) (fun i _ => l.length - (intOf i).toNat)
  case atStart => exact ⟨0, Nat.zero_le _, rfl, Lib.hid (by simp), Lib.hid (set_new w), kept_new w _⟩
  case round =>
    obtain ⟨k, hk, rfl, NO, SE, hbel⟩ := hrel
    by_cases hlt : k < l.length
    · obtain ⟨b, o, rfl, hb, hd0, hd1, hok⟩ := insAt_kept hbel hi k hlt
      have SA := set_alloc SE.out (.cells #[.int .u64 l[k].1.toNat, .int .i64 l[k].2] 52)
      have hlook := set_look SA in_keyed Try.underlying49 Try.underlying4 (zero_bool _) hok (in_key _ hok)
      by_cases hx : (l.take k).contains l[k] = true
      · rw [hx] at hlook
        have HX := Lib.hid hx
        clear hx
        go_wp2
        go_ret
        exact ⟨ret_bool (dup_at hlt HX.out).symm, kept_alloc hbel _⟩
      · rw [Bool.not_eq_true] at hx
        rw [hx] at hlook
        obtain ⟨w1, hput, S1, hg⟩ := set_put SA in_keyed Try.underlying49 Try.underlying4 (by unfold maxLen; omega) hok (in_key _ hok) (fun y hy e => inKey_inj hy hok e)
        have HX := Lib.hid hx
        clear hx
        go_wp2
        go_roundw
        case rel => exact ⟨k + 1, by omega, by go_num, Lib.hid (nodup_take hlt NO.out HX.out), Lib.hid (take_snoc hlt ▸ S1), (kept_alloc hbel _).grown hg (by have := hbel.size; simp; omega) (fun j hj => by cases hj; exact Nat.le_refl _)⟩
        case measure => simp [intOf]; omega
    · go_wp2
      go_ret
      exact ⟨ret_bool (dup_none (by omega) NO.out).symm, hbel⟩
theorem repeats_is (l : List InD) (a : Option Addr) (cap : Nat) (w : World) (r : Bool) (hl : l.length ≤ 8) (hi : InsAt w a l) (h : dupB l = r) :
    Calls Try.prog 50 #[.slice a l.length cap] w fun e w' => e = .returned (.bool r) ∧ Below w.heap.size w w' := h ▸ repeats_any l a cap w hl hi

theorem within_yes (n lo hi : Int) (w : World) (h : within n lo hi = true) : Calls Try.prog 49 #[.int .i64 n, .int .i64 lo, .int .i64 hi] w fun e w' => e = .returned (.bool true) ∧ w = w' := by
  unfold within at h
  have h := of_decide_eq_true h
  obtain ⟨h1, h2⟩ := h
  go_enter Try.func49, Try.ntmps49
  go_wp2
  go_ret
  exact ⟨rfl, rfl⟩
theorem within_no (n lo hi : Int) (w : World) (h : within n lo hi = false) : Calls Try.prog 49 #[.int .i64 n, .int .i64 lo, .int .i64 hi] w fun e w' => e = .returned (.bool false) ∧ w = w' := by
  unfold within at h
  have h := of_decide_eq_false h
  by_cases h1 : lo ≤ n
  · have h2 : ¬ n ≤ hi := fun h2 => h ⟨h1, h2⟩
    clear h
    go_enter Try.func49, Try.ntmps49
    go_wp2
    go_ret
    exact ⟨rfl, rfl⟩
  · clear h
    go_enter Try.func49, Try.ntmps49
    go_wp2
    go_ret
    exact ⟨rfl, rfl⟩
/-- A deed as a value: its Ins lie behind address a. -/
def deedV (a : Option Addr) (cap : Nat) (d : DeedD) : Value := .agg #[.slice a d.ins.length cap, .int .i64 d.outs, .int .i64 d.weight, .int .i64 d.fee]

theorem check_large (l : List InD) (o g f : Int) (a : Option Addr) (cap : Nat) (w : World) (hl : 8 < l.length) :
    Calls Try.prog 28 #[.agg #[.slice a l.length cap, .int .i64 o, .int .i64 g, .int .i64 f]] w fun e w' => e = .returned (.int .i64 2) ∧ Below w.heap.size w w' := by
  go_enter Try.func28, Try.ntmps28
  go_wp2
  go_ret
  exact ⟨rfl, kept_new _ _⟩

/-- What Check answers where there are at most eight Ins. -/
def checkS (l : List InD) (o g f : Int) : Int := if atsB l = false then 1 else if dupB l = true then 6 else if restB o g f = false then 1 else 0

set_option maxHeartbeats 2000000 in
theorem check_small (l : List InD) (o g f : Int) (a : Option Addr) (cap : Nat) (w : World) (hl : l.length ≤ 8) (hi : InsAt w a l) :
    Calls Try.prog 28 #[.agg #[.slice a l.length cap, .int .i64 o, .int .i64 g, .int .i64 f]] w fun e w' => e = .returned (.int .i64 (checkS l o g f)) ∧ Below w.heap.size w w' := by
  have hi0 := insAt_kept (kept_new w (.cells #[.slice a l.length cap, .int .i64 o, .int .i64 g, .int .i64 f] 30)) hi
  go_enter Try.func28, Try.ntmps28
  go_wp2
  go_loopw [13] (fun i wr => ∃ k : Nat, k ≤ l.length ∧ i = .int .i64 k ∧ Hid (atsB (l.take k) = true) ∧ Below (w.alloc (.cells #[.slice a l.length cap, .int .i64 o, .int .i64 g, .int .i64 f] 30)).heap.size (w.alloc (.cells #[.slice a l.length cap, .int .i64 o, .int .i64 g, .int .i64 f] 30)) wr) (fun i _ => l.length - (intOf i).toNat)
  case atStart => exact ⟨0, Nat.zero_le _, rfl, Lib.hid rfl, Below.refl _ _⟩
  case round =>
    obtain ⟨k, hk, rfl, NO, hbel⟩ := hrel
    have hkw := kept_trans (kept_new _ _) hbel
    by_cases hlt : k < l.length
    · obtain ⟨b, oo, rfl, hb, hd0, hd1, hok⟩ := insAt_kept hbel hi0 k hlt
      by_cases hx : within l[k].2 0 15 = true
      · have HX := Lib.hid hx
        clear hx
        go_wp2_with fail
        with_reducible refine (within_yes _ _ _ _ HX.out).mono ?_
        rintro e w' ⟨rfl, rfl⟩
        go_wp2_with fail
        go_roundw
        case rel => exact ⟨k + 1, by omega, by go_num, Lib.hid (atsB_take hlt NO.out HX.out), kept_alloc hbel _⟩
        case measure => simp [intOf]; omega
      · rw [Bool.not_eq_true] at hx
        have HX := Lib.hid hx
        clear hx
        go_wp2_with fail
        with_reducible refine (within_no _ _ _ _ HX.out).mono ?_
        rintro e w' ⟨rfl, rfl⟩
        go_wp2_with fail
        go_ret
        exact ⟨ret_i64 (by unfold checkS; rw [if_pos (atsB_bad hlt HX.out)]), kept_alloc hkw _⟩
    · have hats := NO.out
      rw [List.take_of_length_le (by omega)] at hats
      have HA := Lib.hid hats
      clear hats NO
      obtain ⟨c0, c1, c2, c3, hws⟩ := box_four hbel
      have hir := insAt_kept hbel hi0
      by_cases hdup : dupB l = true
      · have HD := Lib.hid hdup
        clear hdup
        go_wp2_with fail
        with_reducible refine (repeats_is l _ _ _ true hl hir HD.out).mono ?_
        rintro e w1 ⟨rfl, hb1⟩
        go_wp2_with fail
        go_ret
        exact ⟨ret_i64 (by unfold checkS; rw [if_neg (by rw [HA.out]; decide), if_pos HD.out]), kept_trans hkw hb1⟩
      · rw [Bool.not_eq_true] at hdup
        have HD := Lib.hid hdup
        clear hdup
        have base : checkS l o g f = if restB o g f = false then 1 else 0 := by unfold checkS; rw [if_neg (by rw [HA.out]; decide), if_neg (by rw [HD.out]; decide)]
        have HB := Lib.hid base
        clear base
        go_wp2_with fail
        with_reducible refine (repeats_is l _ _ _ false hl hir HD.out).mono ?_
        rintro e w1 ⟨rfl, hb1⟩
        obtain ⟨d0, d1, d2, d3, hws1⟩ := box_four (kept_trans hbel hb1)
        have hk1 := kept_trans hkw hb1
        clear hb1 hbel hkw hir
        by_cases ho : within o 1 16 = true
        · by_cases hg : within g 1 1000 = true
          · by_cases hf : within f 0 1000 = true
            · have HR := Lib.hid (show restB o g f = true by unfold restB; rw [ho, hg, hf]; rfl)
              have HO := Lib.hid ho
              have HG := Lib.hid hg
              have HF := Lib.hid hf
              clear ho hg hf
              go_wp2_with fail
              with_reducible refine (within_yes _ _ _ _ HO.out).mono ?_
              rintro e w' ⟨rfl, rfl⟩
              go_wp2_with fail
              with_reducible refine (within_yes _ _ _ _ HG.out).mono ?_
              rintro e w' ⟨rfl, rfl⟩
              go_wp2_with fail
              with_reducible refine (within_yes _ _ _ _ HF.out).mono ?_
              rintro e w' ⟨rfl, rfl⟩
              go_wp2_with fail
              go_ret
              exact ⟨ret_i64 (by rw [HB.out, if_neg (by rw [HR.out]; decide)]), hk1⟩
            · rw [Bool.not_eq_true] at hf
              have HR := Lib.hid (show restB o g f = false by unfold restB; rw [ho, hg, hf]; rfl)
              have HO := Lib.hid ho
              have HG := Lib.hid hg
              have HF := Lib.hid hf
              clear ho hg hf
              go_wp2_with fail
              with_reducible refine (within_yes _ _ _ _ HO.out).mono ?_
              rintro e w' ⟨rfl, rfl⟩
              go_wp2_with fail
              with_reducible refine (within_yes _ _ _ _ HG.out).mono ?_
              rintro e w' ⟨rfl, rfl⟩
              go_wp2_with fail
              with_reducible refine (within_no _ _ _ _ HF.out).mono ?_
              rintro e w' ⟨rfl, rfl⟩
              go_wp2_with fail
              go_ret
              exact ⟨ret_i64 (by rw [HB.out, if_pos HR.out]), hk1⟩
          · rw [Bool.not_eq_true] at hg
            have HR := Lib.hid (show restB o g f = false by unfold restB; rw [ho, hg]; rfl)
            have HO := Lib.hid ho
            have HG := Lib.hid hg
            clear ho hg
            go_wp2_with fail
            with_reducible refine (within_yes _ _ _ _ HO.out).mono ?_
            rintro e w' ⟨rfl, rfl⟩
            go_wp2_with fail
            with_reducible refine (within_no _ _ _ _ HG.out).mono ?_
            rintro e w' ⟨rfl, rfl⟩
            go_wp2_with fail
            go_ret
            exact ⟨ret_i64 (by rw [HB.out, if_pos HR.out]), hk1⟩
        · rw [Bool.not_eq_true] at ho
          have HR := Lib.hid (show restB o g f = false by unfold restB; rw [ho]; rfl)
          have HO := Lib.hid ho
          clear ho
          go_wp2_with fail
          with_reducible refine (within_no _ _ _ _ HO.out).mono ?_
          rintro e w' ⟨rfl, rfl⟩
          go_wp2_with fail
          go_ret
          exact ⟨ret_i64 (by rw [HB.out, if_pos HR.out]), hk1⟩
end Go.Proofs.Ytihbcgdbennegaa
