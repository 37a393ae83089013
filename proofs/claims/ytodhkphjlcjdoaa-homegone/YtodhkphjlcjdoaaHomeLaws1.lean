/-
  The walk of HomeGone.
-/
import Derived.Test.YtodhkphjlcjdoaaHomeK
import Derived.Test.YtodhkphjlcjdoaaRest
namespace Go.Proofs.Ytodhkphjlcjdoaa
open Go.RowKit Go.Maps

theorem allI_filter (x : UInt64) (ls : List LD) : allI (ls.filter fun l => !(l.id == x)) = (allI ls).filter fun y => !(y == x) := by
  have key : ∀ (ls : List LD) (acc : List UInt64), (ls.filter fun l => !(l.id == x)).foldl (fun acc l => if acc.contains l.id then acc else acc ++ [l.id]) (acc.filter fun y => !(y == x)) = (ls.foldl (fun acc l => if acc.contains l.id then acc else acc ++ [l.id]) acc).filter fun y => !(y == x) := by
    intro ls
    induction ls with
    | nil => intro acc; rfl
    | cons a r ih =>
      intro acc
      by_cases e : a.id = x
      · rw [List.filter_cons_of_neg (by simp [e]), List.foldl_cons, ← ih]
        congr 1
        by_cases hc : acc.contains a.id = true
        · rw [if_pos hc]
        · rw [if_neg hc, List.filter_append]
          simp [e]
      · have e2 : (a.id == x) = false := beq_eq_false_iff_ne.2 e
        rw [List.filter_cons_of_pos (by simp [e2]), List.foldl_cons, List.foldl_cons, ← ih]
        congr 1
        have hm : (acc.filter fun y => !(y == x)).contains a.id = acc.contains a.id := by
          rw [Bool.eq_iff_iff, List.contains_iff_mem, List.contains_iff_mem, List.mem_filter]
          simp [e]
        rw [hm]
        by_cases hc : acc.contains a.id = true
        · rw [if_pos hc, if_pos hc]
        · rw [if_neg hc, if_neg hc, List.filter_append]
          simp [e]
  exact key ls []
theorem allL_remove (L : List LinkD) (x : UInt64) : allL (removeL L x) = (allL L).filter fun y => !(y == x) := by
  unfold allL
  rw [← allI_filter, lsOf_filter]
  rfl
theorem filter_out_len {x : UInt64} : ∀ {l : List UInt64}, l.Nodup → (l.filter fun y => !(y == x)).length + (if x ∈ l then 1 else 0) = l.length
  | [], _ => by simp
  | a :: r, hn => by
    obtain ⟨ha, hr⟩ := List.nodup_cons.1 hn
    have ih := filter_out_len (x := x) hr
    by_cases e : a = x
    · subst e
      rw [if_neg ha] at ih
      rw [List.filter_cons_of_neg (by simp), if_pos (by simp)]
      simp only [List.length_cons]
      omega
    · have e2 : (a == x) = false := beq_eq_false_iff_ne.2 e
      rw [List.filter_cons_of_pos (by simp [e2])]
      simp only [List.length_cons, List.mem_cons, Ne.symm e, false_or] at ih ⊢
      have e3 : (x = a ∨ x ∈ r) ↔ x ∈ r := ⟨fun h => h.resolve_left (Ne.symm e), .inr⟩
      first
        | omega
        | (rw [if_congr e3 rfl rfl]; omega)
theorem removed_len {n : Nat} {L : List LinkD} (_h : GoodL n L) (x : UInt64) : ((allL (removeL L x)).length : Int) = (allL L).length - (if (deedOf L x).isSome then 1 else 0) := by
  have h1 := filter_out_len (x := x) (allL_nodup L)
  rw [allL_remove]
  by_cases hx : x ∈ allL L
  · rw [if_pos hx] at h1
    rw [if_pos ((allL_some x).2 hx)]
    omega
  · rw [if_neg hx] at h1
    rw [if_neg (fun h => hx ((allL_some x).1 h))]
    omega
theorem removed_none (L : List LinkD) (x : UInt64) : (deedOf (removeL L x) x).isSome = false := by
  rw [Option.isSome_eq_false_iff, Option.isNone_iff_eq_none, deedOf_none]
  intro l hl
  have := (List.mem_filter.1 hl).2
  simpa using this
theorem dropped_none (L : List LinkD) (p : Nat) : usageL (dropL L p) p = (0, 0) := usageL_none (by
  rintro ⟨l, hl, e⟩
  have := (List.mem_filter.1 hl).2
  simp [e] at this)
theorem count_any (r : Bool) (n : Int) (hn : n = if r then 1 else 0) (w : World) : Calls Try.prog 32 #[.bool r] w fun e w' => e = .returned (.int .i64 n) ∧ w = w' := by
  subst hn
  cases r with
  | true =>
    go_enter Try.func32, Try.ntmps32
    go_wp2
    go_ret
    exact ⟨rfl, rfl⟩
  | false =>
    go_enter Try.func32, Try.ntmps32
    go_wp2
    go_ret
    exact ⟨rfl, rfl⟩
set_option maxRecDepth 20000 in
theorem homeGone_walk (l : List OpH) (a : Option Addr) (cap : Nat) (id : UInt64) (peer : Int) (hm : l.length ≤ maxLen) (_ : -9223372036854775808 ≤ peer ∧ peer ≤ 9223372036854775807) (w : World) (hi : OpsHAt w a l) :
    Calls Try.prog 8 #[.slice a l.length cap, .int .u64 id.toNat, .int .i64 peer] w fun e w' => e = .returned (.bool true) ∧ Below w.heap.size w w' := by
  have HI := Lib.hid hi
  have HM := Lib.hid hm
  clear hi hm
  go_enter Try.func8, Try.ntmps8
  go_wp2_with fail
  with_reducible refine (housed_any w).mono ?_
  rintro e w1 ⟨rfl, hb1⟩
  go_wp2_with fail
  with_reducible refine (kept_any w l a cap HM.out HI.out w1 hb1).mono ?_
  rintro e w2 ⟨R, rfl, h2⟩
  obtain ⟨L, hL⟩ : ∃ L, runC l = L := ⟨_, rfl⟩
  rw [hL] at h2
  have H2 := Lib.hid h2
  clear h2 hL hb1
  go_wp2_with fail
  with_reducible refine (hd_all w _ R L w2 H2.out).mono ?_
  rintro e w3 ⟨a3, c3, rfl, _, hb3⟩
  have H3 := Lib.hid (H2.out.kept hb3)
  clear hb3
  obtain ⟨r, hr⟩ : ∃ r, (deedOf L id).isSome = r := ⟨_, rfl⟩
  have HR := Lib.hid hr
  have hcnt := removed_len H2.out.good id
  rw [hr] at hcnt
  have hbn1 := allL_len L
  have hbn2 := allL_len (removeL L id)
  have hgl := H2.out.good.len
  have hgl2 : (removeL L id).length ≤ L.length := List.length_filter_le _ _
  obtain ⟨n1, hn1⟩ : ∃ n, (allL L).length = n := ⟨_, rfl⟩
  obtain ⟨n2, hn2⟩ : ∃ n, (allL (removeL L id)).length = n := ⟨_, rfl⟩
  obtain ⟨cn, hcn⟩ : ∃ c : Int, (if r = true then (1 : Int) else 0) = c := ⟨_, rfl⟩
  rw [hn1, hn2, hcn] at hcnt
  rw [hn1] at hbn1 ⊢
  have HN2 := Lib.hid hn2
  have HCN : Hid (cn = if r then 1 else 0) := Lib.hid hcn.symm
  have hc01 : cn = 0 ∨ cn = 1 := by rw [← hcn]; split <;> omega
  have hcl : 0 ≤ cn := by omega
  have hcu : cn ≤ 1 := by omega
  have hb25 : n1 ≤ 24 := by omega
  clear hr hn1 hn2 hcn hbn1 hbn2 hgl hgl2 hc01
  go_wp2_with fail
  with_reducible refine (hd_has w _ R L w3 H3.out id r HR.out).mono ?_
  rintro e w4 ⟨rfl, hb4⟩
  have H4 := Lib.hid (H3.out.kept hb4)
  clear hb4
  go_wp2_with fail
  with_reducible refine (hd_remove w _ R L w4 H4.out id r HR.out).mono ?_
  rintro e w5 ⟨rfl, h5, _⟩
  have H5 := Lib.hid h5
  clear h5
  have hrr : (r != r) = false := by simp
  go_wp2_with fail
  with_reducible refine (hd_has w _ R _ w5 H5.out id false (removed_none L id)).mono ?_
  rintro e w6 ⟨rfl, hb6⟩
  have H6 := Lib.hid (H5.out.kept hb6)
  clear hb6
  go_wp2_with fail
  with_reducible refine (hd_all w _ R _ w6 H6.out).mono ?_
  rintro e w7 ⟨a7, c7, rfl, _, hb7⟩
  have H7 := Lib.hid (H6.out.kept hb7)
  rw [HN2.out]
  clear hb7
  go_wp2_with fail
  with_reducible refine (count_any r cn HCN.out w7).mono ?_
  rintro e w8 ⟨rfl, rfl⟩
  have heq : ((n2 : Int) != (n1 : Int) - cn) = false := by rw [hcnt]; simp
  obtain ⟨pn, hpn⟩ : ∃ pn : Nat, peer % 8 = pn := ⟨(peer % 8).toNat, by omega⟩
  have hp8 : pn < 8 := by omega
  have HPN := Lib.hid hpn
  have HD : Hid (dropC (removeL L id) pn = (0, dropL (removeL L id) pn)) := Lib.hid (by
    unfold dropC
    rw [if_pos ⟨by omega, by omega⟩]
    rfl)
  have HU : Hid (usageC (dropL (removeL L id) pn) pn = (0, 0, 0)) := Lib.hid (by
    unfold usageC
    rw [if_pos ⟨by omega, by omega⟩, show ((pn : Int)).toNat = pn from rfl, dropped_none])
  clear hpn
  go_wp2_with fail
  with_reducible refine (rest_is peer 8 pn w7 (by omega) (by omega) HPN.out).mono ?_
  rintro e w8 ⟨rfl, rfl⟩
  go_wp2_with fail
  with_reducible refine (hd_drop w _ R _ w7 H7.out pn 0 _ HD.out).mono ?_
  rintro e w9 ⟨rfl, h9, _⟩
  have H9 := Lib.hid h9
  clear h9
  go_wp2_with fail
  with_reducible refine (hd_usage w _ R _ w9 H9.out pn 0 0 0 HU.out).mono ?_
  rintro e w10 ⟨rfl, hb10⟩
  have H10 := Lib.hid (H9.out.kept hb10)
  clear hb10
  go_wp2_with fail
  go_ret
  exact ⟨rfl, H10.out.below⟩
end Go.Proofs.Ytodhkphjlcjdoaa
