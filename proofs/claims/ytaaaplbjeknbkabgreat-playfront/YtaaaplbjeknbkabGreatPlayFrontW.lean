/-
  PlayFront: the walk.
-/
import Derived.Test.YtaaaplbjeknbkabGreatPlayRun
import Derived.Test.YtaaaplbjeknbkabGreatActsRow
import Derived.Test.YtaaaplbjeknbkabGreatPlayEq
import Derived.Test.YtaaaplbjeknbkabGreatJ5
import Derived.Test.YtaaaplbjeknbkabGreatJ31
set_option maxRecDepth 20000
namespace Go.Proofs.YtaaaplbjeknbkabGreat
open Go.RowKit Go.Maps

variable {w w' : World} {s : NS}

theorem outsAt_front {a : Option Addr} {l r : List OutD} (h : OutsAt w a (l ++ r)) : OutsAt w a l := fun i hi => by
  obtain ⟨b, o, e, hb, c0, c1⟩ := h i (by rw [List.length_append]; omega)
  rw [List.getElem_append_left hi] at c0 c1
  exact ⟨b, o, e, hb, c0, c1⟩
theorem idsAt_front {a : Option Addr} {l r : List UInt64} (h : IdsAt w a (l ++ r)) : IdsAt w a l := fun i hi => by
  obtain ⟨b, o, e, hb, c0⟩ := h i (by rw [List.length_append]; omega)
  rw [List.getElem_append_left hi] at c0
  exact ⟨b, o, e, hb, c0⟩
theorem errs_kept {a : Option Addr} {l : List Int} (hb : Below w.heap.size w w') (h : Tr.IntsAt w a l) : Tr.IntsAt w' a l := fun i hi => by
  obtain ⟨b, o, e, hlt, c⟩ := h i hi
  exact ⟨b, o, e, Nat.lt_of_lt_of_le hlt hb.size, kept_cell hb c⟩
theorem eqOut_n (l : List OutD) (n : Nat) (hn : l.length = n) (a b : Option Addr) (ca cb : Nat) (w : World) (hl : n ≤ 1000000) (ha : OutsAt w a l) (hb : OutsAt w b l) : Calls Tryz.prog 23 #[.slice a n ca, .slice b n cb] w fun e w' => e = .returned (.bool true) ∧ Below w.heap.size w w' := by
  subst hn
  exact eqOut_same l a b ca cb w hl ha hb
theorem eqErr_n (l : List Int) (n : Nat) (hn : l.length = n) (a b : Option Addr) (ca cb : Nat) (w : World) (hl : n ≤ 1000000) (ha : Tr.IntsAt w a l) (hb : Tr.IntsAt w b l) : Calls Tryz.prog 24 #[.slice a n ca, .slice b n cb] w fun e w' => e = .returned (.bool true) ∧ w = w' := by
  subst hn
  exact eqErr_is l l a b ca cb w true (by unfold maxLen; omega) ha hb (beq_self_eq_true _)
theorem eqID_n (l : List UInt64) (n : Nat) (hn : l.length = n) (a b : Option Addr) (ca cb : Nat) (w : World) (hl : n ≤ 10000000000000) (ha : IdsAt w a l) (hb : IdsAt w b l) : Calls Tryz.prog 14 #[.slice a n ca, .slice b n cb] w fun e w' => e = .returned (.bool true) ∧ w = w' := by
  subst hn
  exact eqID_is l l a b ca cb w true (by unfold maxLen; omega) ha hb (beq_self_eq_true _)
/-- Run's answer, by its parts. -/
structure Ran (w : World) (oa : Option Addr) (p oc : Nat) (os : List OutD) (b n : Nat) (es : List Int) (xa : Option Addr) (q xc : Nat) (ids : List UInt64) : Prop where
  op : os.length = p
  oc : p ≤ oc
  outs : OutsAt w oa os
  en : es.length = n
  errs : Tr.IntsAt w (some ⟨b, 0, none⟩) es
  xq : ids.length = q
  few : ids.length ≤ 1000
  xcap : q ≤ xc
  idat : IdsAt w xa ids
theorem Ran.kept {oa xa : Option Addr} {p oc b n q xc : Nat} {os : List OutD} {es : List Int} {ids : List UInt64} (h : Ran w oa p oc os b n es xa q xc ids) (hb : Below w.heap.size w w') : Ran w' oa p oc os b n es xa q xc ids :=
  ⟨h.op, h.oc, outsAt_kept hb h.outs, h.en, errs_kept hb h.errs, h.xq, h.few, h.xcap, idsAt_kept hb h.idat⟩
theorem ran_form {os : List OutD} {es : List Int} {ids : List UInt64} {e : Ending} (h : RanN w os es ids e w') :
    ∃ oa p oc b n xa q xc, e = .returned (.tuple #[.slice oa p oc, .slice (some ⟨b, 0, none⟩) n n, .slice xa q xc, .int .i64 0]) ∧ Ran w' oa p oc os b n es xa q xc ids ∧ Below w.heap.size w w' := by
  obtain ⟨v, b, xa, xc, rfl, ho, he, hx, hf, hxc, hb⟩ := h
  obtain ⟨oa, oc, rfl, hc, hat⟩ := owns_outsAt ho
  exact ⟨oa, _, oc, b, _, xa, _, xc, rfl, ⟨rfl, hc, hat, rfl, he, rfl, hf, hxc, hx⟩, hb⟩
/-- What the longer script keeps of the shorter one. -/
theorem ran_front {oa xa : Option Addr} {p p2 oc b n2 q q2 xc : Nat} {l m : List ActD} (h2 : Ran w oa p2 oc (outK s (l ++ m) (l ++ m).length) b n2 ((List.range (l ++ m).length).map (errK s (l ++ m))) xa q2 xc ((stK s (l ++ m) (l ++ m).length).A.map Ju.idD))
    (hp : (outK s l l.length).length = p) (hq : ((stK s l l.length).A.map Ju.idD).length = q) :
    p ≤ p2 ∧ q ≤ q2 ∧ OutsAt w oa (outK s l l.length) ∧ Tr.IntsAt w (some ⟨b, 0, none⟩) ((List.range l.length).map (errK s l)) ∧ IdsAt w xa ((stK s l l.length).A.map Ju.idD) := by
  have hL : (l ++ m).length = l.length + m.length := List.length_append
  obtain ⟨r, hr⟩ := out_more (s := s) (l ++ m) l.length m.length
  obtain ⟨t, ht⟩ := st_more (s := s) (l ++ m) l.length m.length
  rw [out_front l.length (Nat.le_refl _)] at hr
  rw [st_front l.length (Nat.le_refl _)] at ht
  have ho := h2.outs
  have h1 := h2.op
  have hi := h2.idat
  have h3 := h2.xq
  have he := h2.errs
  rw [hL] at ho h1 hi h3 he
  rw [hr] at ho h1
  rw [ht, List.map_append] at hi h3
  rw [List.length_append] at h1 h3
  refine ⟨by omega, by omega, outsAt_front ho, ?_, idsAt_front hi⟩
  have e : (List.range l.length).map (errK s l) = ((List.range (l.length + m.length)).map (errK s (l ++ m))).take l.length := by
    rw [← List.map_take, List.take_range, Nat.min_eq_left (by omega)]
    exact List.map_congr_left fun i hi => (err_front (List.mem_range.1 hi)).symm
  rw [e]
  exact Tr.intsAt_take _ he
theorem run_n (salt : UInt64) (l : List ActD) (n : Nat) (hn : l.length = n) (a : Option Addr) (cap : Nat) (hl : n ≤ 60) (hkd : ∀ i (h : i < l.length), (Lit.int .i64 l[i].kind).wf = true) (w : World) (hi : ActsAt w a l) :
    Calls Tryz.prog 22 #[.int .u64 salt.toNat, .slice a n cap] w (RanN w (outK (NS.new salt) l l.length) ((List.range l.length).map (errK (NS.new salt) l)) ((stK (NS.new salt) l l.length).A.map Ju.idD)) := by
  subst hn
  exact run_ok salt l a cap hl hkd w hi
set_option maxRecDepth 20000 in
set_option maxHeartbeats 4000000 in
theorem playFront_walk (salt : UInt64) (l : List ActD) (a : Option Addr) (ca : Nat) (m : List ActD) (b : Option Addr) (cb : Nat) (hl : l.length ≤ 1048576) (hm : m.length ≤ 1048576) (w : World) (hi : ActsAt w a l ∧ ∀ i (h : i < l.length), (Lit.int .i64 l[i].kind).wf = true) (hj : ActsAt w b m ∧ ∀ i (h : i < m.length), (Lit.int .i64 m[i].kind).wf = true) :
    Calls Tryz.prog 5 #[.int .u64 salt.toNat, .slice a l.length ca, .slice b m.length cb] w fun e w' => e = .returned (.bool true) ∧ Below w.heap.size w w' := by
  have HI := Lib.hid hi.1
  have HJ := Lib.hid hj.1
  have HKL := Lib.hid hi.2
  have HKM : Hid (∀ i (h : i < (l ++ m).length), (Lit.int .i64 (l ++ m)[i].kind).wf = true) := Lib.hid fun i h => by
    by_cases hil : i < l.length
    · rw [List.getElem_append_left hil]; exact hi.2 i hil
    · rw [List.getElem_append_right (by omega)]; exact hj.2 _ _
  have HSZ : Hid (∀ d ∈ l ++ m, d.bytes.size ≤ maxLen) := Lib.hid fun d hd => by
    rcases List.mem_append.1 hd with h | h
    · obtain ⟨i, hil, rfl⟩ := List.getElem_of_mem h; exact (hi.1 i hil).2
    · obtain ⟨i, hil, rfl⟩ := List.getElem_of_mem h; exact (hj.1 i hil).2
  obtain ⟨n, hn⟩ : ∃ n, l.length = n := ⟨_, rfl⟩
  obtain ⟨k, hk⟩ : ∃ k, m.length = k := ⟨_, rfl⟩
  obtain ⟨N, hN⟩ : ∃ N, (l ++ m).length = N := ⟨_, rfl⟩
  have HNK : Hid (N = n + k) := Lib.hid (by rw [← hN, List.length_append, hn, hk])
  have HN := Lib.hid hN
  have HNL := Lib.hid hn
  have HKL' := Lib.hid hk
  rw [hn] at hl ⊢
  rw [hk] at hm ⊢
  clear hi hj hn hk hN
  go_enter Tryz.func5, Tryz.ntmps5
  go_wp2_with fail
  with_reducible refine (met_any _).mono ?_
  rintro e w1 ⟨rfl, hb1⟩
  have HB1 := Lib.hid hb1
  clear hb1
  go_wp2_with fail
  by_cases h60 : 60 < n
  · with_reducible refine (run_long salt n a ca h60 _).mono ?_
    rintro e w2 ⟨rfl, hb2⟩
    have HB2 := Lib.hid (kept_trans HB1.out hb2)
    have HI2 := Lib.hid (actsAt_kept HB2.out HI.out)
    have HJ2 := Lib.hid (actsAt_kept HB2.out HJ.out)
    clear hb2
    go_wp2_with (at_builtin; refine append_acts rfl _ _ rfl rfl rfl HNL.out (acts_nil _ w.heap.size) HI2.out (by have := HNL.out; simp; omega) HB2.out.size ?_; intro v3 w3 ho3 hg3 hk3; refine Hid.out ?_)
    refine Lib.hid ?_
    rw [List.nil_append] at ho3
    have HB3 := Lib.hid (below_grown HB2.out hg3 (fun g hg => by cases hg) HB2.out.size)
    have HO3 := Lib.hid ho3
    have HJ3 := Lib.hid (actsAt_kept HB3.out HJ.out)
    have HR3 : Hid (Below w2.heap.size w2 w3) := Lib.hid (below_grown (Below.refl _ _) hg3 (fun g hg => by cases hg) (Nat.le_refl _))
    have hk3' := hk3
    clear ho3 hg3 hk3
    go_wp2_with (at_builtin; refine append_acts rfl _ _ rfl rfl rfl HKL'.out HO3.out HJ3.out (by have h1 := HNL.out; have h2 := HKL'.out; omega) HB3.out.size ?_; intro v4 w4 ho4 hg4 hk4; refine Hid.out ?_)
    refine Lib.hid ?_
    have HB4 := Lib.hid (below_grown HB3.out hg4 (fun g hg => (HO3.out.lt g hg).1) HB3.out.size)
    have hng : ∀ g, v3.ownBlock = some g → w2.heap.size ≤ g := fun g hg => by
      rcases hk3' g hg with h | h
      · cases h
      · exact h
    have HR4 : Hid (Below w2.heap.size w2 w4) := Lib.hid (below_grown HR3.out hg4 hng HR3.out.size)
    obtain ⟨a4, c4, hv4, _, hat4⟩ := owns_actsAt ho4 HSZ.out
    rw [HN.out] at hv4
    subst hv4
    have HA4 := Lib.hid hat4
    clear ho4 hg4 hk4 hat4 hng hk3'
    go_wp2_with fail
    with_reducible refine (run_long salt N a4 c4 (by have := HNK.out; omega) _).mono ?_
    rintro e w5 ⟨rfl, hb5⟩
    have HB5 := Lib.hid (kept_trans HB4.out hb5)
    clear hb5
    go_wp2_with fail
    go_ret
    exact ⟨rfl, HB5.out⟩
  · with_reducible refine (run_n salt l n HNL.out a ca (by omega) HKL.out _ (actsAt_kept HB1.out HI.out)).mono ?_
    intro e w2 h2
    obtain ⟨oa, p, oc, b2, n2, xa, q, xc, rfl, hr2, hb2⟩ := ran_form h2
    have en : n2 = n := by rw [← hr2.en, List.length_map, List.length_range, HNL.out]
    subst en
    have HR2 := Lib.hid hr2
    have HB2 := Lib.hid (kept_trans HB1.out hb2)
    have HI2 := Lib.hid (actsAt_kept HB2.out HI.out)
    clear hb2 h2 hr2
    go_wp2_with (at_builtin; refine append_acts rfl _ _ rfl rfl rfl HNL.out (acts_nil _ w.heap.size) HI2.out (by have := HNL.out; simp; omega) HB2.out.size ?_; intro v3 w3 ho3 hg3 hk3; refine Hid.out ?_)
    refine Lib.hid ?_
    rw [List.nil_append] at ho3
    have HB3 := Lib.hid (below_grown HB2.out hg3 (fun g hg => by cases hg) HB2.out.size)
    have HO3 := Lib.hid ho3
    have HJ3 := Lib.hid (actsAt_kept HB3.out HJ.out)
    have HR3 : Hid (Below w2.heap.size w2 w3) := Lib.hid (below_grown (Below.refl _ _) hg3 (fun g hg => by cases hg) (Nat.le_refl _))
    have hk3' := hk3
    clear ho3 hg3 hk3
    go_wp2_with (at_builtin; refine append_acts rfl _ _ rfl rfl rfl HKL'.out HO3.out HJ3.out (by have h1 := HNL.out; have h2 := HKL'.out; omega) HB3.out.size ?_; intro v4 w4 ho4 hg4 hk4; refine Hid.out ?_)
    refine Lib.hid ?_
    have HB4 := Lib.hid (below_grown HB3.out hg4 (fun g hg => (HO3.out.lt g hg).1) HB3.out.size)
    have hng : ∀ g, v3.ownBlock = some g → w2.heap.size ≤ g := fun g hg => by
      rcases hk3' g hg with h | h
      · cases h
      · exact h
    have HR4 : Hid (Below w2.heap.size w2 w4) := Lib.hid (below_grown HR3.out hg4 hng HR3.out.size)
    obtain ⟨a4, c4, hv4, _, hat4⟩ := owns_actsAt ho4 HSZ.out
    rw [HN.out] at hv4
    subst hv4
    have HA4 := Lib.hid hat4
    clear ho4 hg4 hk4 hat4 hng hk3'
    have HRA := Lib.hid (HR2.out.kept HR4.out)
    clear HR2
    go_wp2_with fail
    by_cases hN6 : 60 < N
    · with_reducible refine (run_long salt N a4 c4 hN6 _).mono ?_
      rintro e w5 ⟨rfl, hb5⟩
      have HB5 := Lib.hid (kept_trans HB4.out hb5)
      clear hb5
      go_wp2_with fail
      go_ret
      exact ⟨rfl, HB5.out⟩
    · with_reducible refine (run_n salt (l ++ m) N HN.out a4 c4 (by omega) HKM.out _ HA4.out).mono ?_
      intro e w5 h5
      obtain ⟨oa5, p5, oc5, b5, n5, xa5, q5, xc5, rfl, hr5, hb5⟩ := ran_form h5
      have en : n5 = N := by rw [← hr5.en, List.length_map, List.length_range, HN.out]
      subst en
      have HRA5 := Lib.hid (HRA.out.kept hb5)
      have HB5 := Lib.hid (kept_trans HB4.out hb5)
      obtain ⟨hpp, hqq, f1, f2, f3⟩ := ran_front hr5 HRA.out.op HRA.out.xq
      have F1 := Lib.hid f1
      have F2 := Lib.hid f2
      have F3 := Lib.hid f3
      have hp6 : p ≤ 6000 := by
        rw [← HRA.out.op]
        have := out_len (s := NS.new salt) l l.length
        have := HNL.out
        omega
      have hq6 : q ≤ 1000 := by rw [← HRA.out.xq]; exact HRA.out.few
      have hoc := hr5.oc
      have z0 : (p : Int) ≤ (p5 : Int) := by omega
      have z1 : (p : Int) ≤ (oc5 : Int) := by omega
      have hxc := hr5.xcap
      have z5 : (q : Int) ≤ (xc5 : Int) := by omega
      have z2 : (q : Int) ≤ (q5 : Int) := by omega
      have z3 : IntKind.i64.wrap ((n2 : Int) + (k : Int)) = (n5 : Int) := by have := HNK.out; rw [IntWalk.i64_in _ (by omega)]; omega
      have z4 : (n2 : Int) ≤ (n5 : Int) := by have := HNK.out; omega
      clear hb5 h5 hr5 f1 f2 f3 hoc hxc
      go_wp2_with fail
      with_reducible refine (eqOut_n _ p HRA.out.op oa5 oa oc5 oc _ (by omega) F1.out HRA5.out.outs).mono ?_
      rintro e w6 ⟨rfl, hb6⟩
      have HB6 := Lib.hid hb6
      clear hb6
      go_wp2_with fail
      with_reducible refine (eqErr_n _ n2 HRA.out.en (some ⟨b5, 0, none⟩) (some ⟨b2, 0, none⟩) n5 n2 _ (by omega) (errs_kept HB6.out F2.out) (errs_kept HB6.out HRA5.out.errs)).mono ?_
      rintro e w7 ⟨rfl, rfl⟩
      go_wp2_with fail
      with_reducible refine (eqID_n _ q HRA.out.xq xa5 xa xc5 xc _ (by omega) (idsAt_kept HB6.out F3.out) (idsAt_kept HB6.out HRA5.out.idat)).mono ?_
      rintro e w8 ⟨rfl, rfl⟩
      go_wp2_with fail
      go_ret
      exact ⟨rfl, kept_trans HB5.out HB6.out⟩
end Go.Proofs.YtaaaplbjeknbkabGreat
