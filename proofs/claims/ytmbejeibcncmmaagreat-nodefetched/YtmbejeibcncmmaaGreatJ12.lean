/-
  Contracts of package judge: slices.Index and Contains of Ins; judgeWith, Pair.
  Contracts of package judge: judgeWith, Pair.
  A filter of recent IDs as plain data: its two generations as lists, what Put, Has and Count make of them, and what follows (P8). No program is named here.
  Messages as plain data: what Check answers, what Encode and Decode answer, the ways back. No program is named here.
  Decoding of messages as plain data: the errors of the form, the fields; the two ways back; what is cut off or added. No program is named here.
  A node as plain data: what each of its calls makes of it.
-/
import Derived.Test.YtmbejeibcncmmaaGreatJ11
import Derived.Test.YtmbejeibcncmmaaGreatJ6
import Derived.Test.YtmbejeibcncmmaaGreatJ5
import Derived.Test.YtmbejeibcncmmaaGreatJ9
namespace Go.Proofs.YtmbejeibcncmmaaGreat.Ju
open Go.RowKit Go.Maps

theorem inFind_any (x : InD) (l : List InD) (a : Option Addr) (cp : Nat) (w : World) (hl : l.length ≤ 1000) (hi : InsAt w a l) :
    Calls Tryz.prog 176 #[.slice a l.length cp, .agg #[.int .u64 x.1.toNat, .int .i64 x.2]] w fun e w' => e = .returned (.int .i64 (firstAt (fun y => x == y) l)) ∧ Below w.heap.size w w' := by
  have hi0 := insAt_kept (kept_new w (.cells #[.int .u64 x.1.toNat, .int .i64 x.2] 64)) hi
  go_enter Tryz.func176, Tryz.ntmps176
  go_wp2
  go_loopw [8] (fun i wr => ∃ k : Nat, k ≤ l.length ∧ i = .int .i64 k ∧ Hid ((l.take k).findIdx? (fun y => x == y) = none) ∧ Below (w.alloc (.cells #[.int .u64 x.1.toNat, .int .i64 x.2] 64)).heap.size (w.alloc (.cells #[.int .u64 x.1.toNat, .int .i64 x.2] 64)) wr) (fun i _ => l.length - (intOf i).toNat)
  case atStart => exact ⟨0, Nat.zero_le _, rfl, Lib.hid rfl, Below.refl _ _⟩
  case round =>
    obtain ⟨k, hk, rfl, NO, hbel⟩ := hrel
    obtain ⟨hx0, hx1, hws⟩ := box_pair hbel
    have hkw := kept_trans (kept_new _ _) hbel
    by_cases hlt : k < l.length
    · obtain ⟨b, o, rfl, hb, c0, c1, _⟩ := insAt_kept hbel hi0 k hlt
      have hq := fun wx => run_eq_in x l[k] wx
      cases hx : (x == l[k]) with
      | true =>
        rw [hx] at hq
        have HX := Lib.hid hx
        clear hx
        go_wp2_with fail
        go_quiet (fail)
        go_wp2
        go_ret
        exact ⟨ret_i64 (firstAt_hit hlt NO.out HX.out).symm, below_drewN hkw _⟩
      | false =>
        rw [hx] at hq
        have HX := Lib.hid hx
        clear hx
        go_wp2_with fail
        go_quiet (fail)
        go_wp2
        go_roundw
        case rel => exact ⟨k + 1, by omega, by go_num, Lib.hid (firstAt_miss hlt NO.out HX.out), below_drewN hbel _⟩
        case measure => simp [intOf]; omega
    · go_wp2
      go_ret
      refine ⟨ret_i64 ?_, hkw⟩
      have := NO.out
      rw [List.take_of_length_le (by omega)] at this
      unfold firstAt
      rw [this]
theorem any_containsI (x : InD) (l : List InD) : (l.any fun y => x == y) = l.contains x := by
  rw [Bool.eq_iff_iff, List.any_eq_true, List.contains_iff_mem]
  constructor
  · rintro ⟨y, hy, e⟩
    rw [beq_iff_eq.1 e]
    exact hy
  · exact fun h => ⟨x, h, by simp⟩
theorem inHas_any (x : InD) (l : List InD) (r : Bool) (hr : l.contains x = r) (a : Option Addr) (cp : Nat) (w : World) (hl : l.length ≤ 1000) (hi : InsAt w a l) :
    Calls Tryz.prog 172 #[.slice a l.length cp, .agg #[.int .u64 x.1.toNat, .int .i64 x.2]] w fun e w' => e = .returned (.bool r) ∧ Below w.heap.size w w' := by
  have HI := Lib.hid (insAt_kept (kept_new w (.cells #[.int .u64 x.1.toNat, .int .i64 x.2] 64)) hi)
  have HR := Lib.hid hr
  clear hi hr
  go_enter Tryz.func172, Tryz.ntmps172
  go_wp2_with fail
  refine (inFind_any x l _ _ _ hl HI.out).mono ?_
  rintro e w1 ⟨rfl, hb1⟩
  have e1 := firstAt_neg (fun y => x == y) l
  rw [any_containsI, HR.out] at e1
  obtain ⟨i, hi⟩ : ∃ i, firstAt (fun y => x == y) l = i := ⟨_, rfl⟩
  rw [hi] at e1 ⊢
  clear hi
  go_wp2
  go_ret
  exact ⟨rfl, kept_trans (kept_new _ _) hb1⟩

variable {w w' : World} {F : Nat → Prop} {R : Loc} {L : List DeedD}
/-- What judgeWith's closures see: the ledger, an ID, a deed with its Ins (captured in blocks c1, c2, c3). -/
structure WithIs (F : Nat → Prop) (R : Loc) (L : List DeedD) (c1 c2 c3 : Nat) (p : DeedD) (pa : Option Addr) (pc : Nat) (w : World) : Prop where
  led : LedL w F R L
  q1 : w.cell? ⟨c1, 0, none⟩ = some (.pointer (some ⟨R.b, 29, none⟩))
  q2 : w.cell? ⟨c2, 0, none⟩ = some (.int .u64 (idD p).toNat)
  p0 : w.cell? ⟨c3, 0, none⟩ = some (.slice pa p.ins.length pc)
  p1 : w.cell? ⟨c3, 1, none⟩ = some (.int .i64 p.outs)
  p2 : w.cell? ⟨c3, 2, none⟩ = some (.int .i64 p.weight)
  p3 : w.cell? ⟨c3, 3, none⟩ = some (.int .i64 p.fee)
  ins : InsAt w pa p.ins
theorem WithIs.kept {c1 c2 c3 : Nat} {p : DeedD} {pa : Option Addr} {pc : Nat} (h : WithIs F R L c1 c2 c3 p pa pc w) (hb : Below w.heap.size w w') : WithIs F R L c1 c2 c3 p pa pc w' :=
  ⟨h.led.kept hb, kept_cell hb h.q1, kept_cell hb h.q2, kept_cell hb h.p0, kept_cell hb h.p1, kept_cell hb h.p2, kept_cell hb h.p3, insAt_kept hb h.ins⟩
theorem findLL_any (x : UInt64) (w : World) (h : LedL w F R L) : Calls Tryz.prog 118 #[.pointer (some ⟨R.b, 29, none⟩), .int .u64 x.toNat] w (FindAns w (findL L x)) := by
  obtain ⟨b, s, n, ev, v, hn, h⟩ := h
  exact find_any x w h
theorem isSpentL_any (x : InD) (hx : inOk x) (r : Bool) (hr : spentL L x = r) (w : World) (h : LedL w F R L) :
    Calls Tryz.prog 120 #[.pointer (some ⟨R.b, 29, none⟩), .agg #[.int .u64 x.1.toNat, .int .i64 x.2]] w fun e w' => e = .returned (.bool r) ∧ Below w.heap.size w w' := by
  obtain ⟨b, s, n, ev, v, hn, h⟩ := h
  exact isSpent_any x hx r hr w h
/-- Ins do not lie in a deed's own box. -/
theorem ins_not_box {w : World} {a : Option Addr} {l : List InD} (h : InsAt w a l) {n : Nat} {u : Option Addr} {k c : Nat} {x y z : Int} {t : TypeId} {fr : Nat × Nat} (hb : w.heap[n]? = some (.cells #[.slice u k c, .int .i64 x, .int .i64 y, .int .i64 z] t fr)) : ∀ bb o, l ≠ [] → a = some ⟨bb, o, none⟩ → ¬ bb = n := fun bb o hne e en => by
  obtain ⟨b', o', e', _, c0, _⟩ := h 0 (List.length_pos_iff.2 hne)
  rw [e] at e'
  cases e'
  rw [en, Nat.zero_mul, Nat.add_zero, head_cell hb o] at c0
  match o, c0 with
  | 0, c0 => simp at c0
  | 1, c0 => simp at c0
  | 2, c0 => simp at c0
  | 3, c0 => simp at c0
  | o + 4, c0 => simp at c0
set_option maxRecDepth 20000 in
theorem with1_any (c1 c2 c3 : Nat) (p : DeedD) (pa : Option Addr) (pc : Nat) (hp : p.ins.length ≤ 8) (x : UInt64) (w : World) (h : WithIs F R L c1 c2 c3 p pa pc w) :
    Calls Tryz.prog 170 #[.int .u64 x.toNat, .pointer (some ⟨c1, 0, none⟩), .pointer (some ⟨c2, 0, none⟩), .pointer (some ⟨c3, 0, none⟩)] w (FindAns w (findL (L ++ [p]) x)) := by
  have hk0 := kept_new w (.cells #[.slice none 0 0, .int .i64 0, .int .i64 0, .int .i64 0] 53)
  have z1 := (h.kept hk0).q1
  have t1 := (cell_spot h.q1).2
  have H := Lib.hid (h.kept hk0)
  have HK := Lib.hid hk0
  have HSN := Lib.hid (findL_snoc L p x)
  obtain ⟨mm, hmm⟩ : ∃ m, findL (L ++ [p]) x = m := ⟨_, rfl⟩
  rw [hmm]
  have HMM := Lib.hid hmm
  have hbe : ((x.toNat : Int) == ((idD p).toNat : Int)) = (x == idD p) := u64_beq x (idD p)
  obtain ⟨ix, hix⟩ : ∃ ix, idD p = ix := ⟨_, rfl⟩
  rw [hix] at hbe
  have HIX := Lib.hid hix
  clear h hk0 hmm hix
  go_enter Tryz.func170, Tryz.ntmps170
  go_wp2_with fail
  with_reducible refine (findLL_any x _ H.out.led).mono ?_
  rintro e w1 ⟨a1, k1, rfl, hl1, hi1, hb1⟩
  have hB := (hb1.block w.heap.size (by simp)).trans (heap_alloc_new w _)
  have e0 := (head_cell hB 0).trans rfl
  have e1 := (head_cell hB 1).trans rfl
  have e2 := (head_cell hB 2).trans rfl
  have e3 := (head_cell hB 3).trans rfl
  have f0 := frozen_of_row w1 _ 0 _ _ hB
  have f1 := frozen_of_row w1 _ 1 _ _ hB
  have f2 := frozen_of_row w1 _ 2 _ _ hB
  have f3 := frozen_of_row w1 _ 3 _ _ hB
  have hs := (cell_spot e0).2
  have H1 := H.out.kept hb1
  have g2 := H1.q2
  rw [HIX.out] at g2
  have g3 := (cell_spot g2).2
  have y0 := H1.p0
  have y1 := H1.p1
  have y2 := H1.p2
  have y3 := H1.p3
  have y4 := (cell_spot y0).2
  have HIN := Lib.hid H1.ins
  have HB1 := Lib.hid (kept_trans HK.out hb1)
  have HBX := Lib.hid hB
  clear hB hb1 H1
  obtain ⟨dd, hdd⟩ : ∃ d, (findL L x).getD nod = d := ⟨_, rfl⟩
  rw [hdd] at hl1 hi1 ⊢
  have hk2 := kept_new w1 (.cells #[.slice a1 dd.ins.length k1, .int .i64 dd.outs, .int .i64 dd.weight, .int .i64 dd.fee] 53)
  have HI1 := Lib.hid hi1
  clear hi1 hk2
  cases hq : (findL L x).isSome with
  | true =>
    have hm : mm = some dd := by
      rw [← HMM.out, HSN.out, if_pos hq, ← hdd]
      cases hf : findL L x with
      | none => rw [hf] at hq; cases hq
      | some y => rfl
    subst hm
    clear hdd hq HSN HMM hbe
    obtain ⟨dl, dO, dg, df⟩ := dd
    simp only at hl1 HI1 ⊢
    go_wp2_with fail
    refine bodyPost_ret (v := .tuple #[.agg #[.slice a1 dl.length k1, .int .i64 dO, .int .i64 dg, .int .i64 df], .bool true]) (by simp [results, Tryz.results170, go_sem, e0, e1, e2, e3, hs]) rfl ?_
    have ht := turn_set4 w1 w.heap.size (.slice a1 dl.length k1) (.int .i64 dO) (.int .i64 dg) (.int .i64 df)
    have hi3 := insAt_turn HI1.out ht (ins_not_box HI1.out HBX.out)
    exact ⟨a1, k1, rfl, hl1, insAt_kept (kept_new _ _) hi3, kept_alloc (HB1.out.trans (ht.below (fun k hk => by omega) HB1.out.size)) _⟩
  | false =>
    have hnone : findL L x = none := by
      cases hf : findL L x with
      | none => rfl
      | some y => rw [hf] at hq; cases hq
    obtain rfl : nod = dd := by rw [← hdd, hnone]; rfl
    by_cases hx : x = ix
    · rw [beq_iff_eq.2 hx] at hbe
      have hm : mm = some p := by rw [← HMM.out, HSN.out, if_neg (by rw [hq]; simp), if_pos (by rw [HIX.out, hx])]
      subst hm
      clear hdd hq hnone HSN HMM hx
      obtain ⟨pl, pO, pg, pf⟩ := p
      simp only at hp y0 y1 y2 y3 HIN ⊢
      simp only [nod, List.length_nil]
      go_wp2_with fail
      refine bodyPost_ret (v := .tuple #[.agg #[.slice pa pl.length pc, .int .i64 pO, .int .i64 pg, .int .i64 pf], .bool true]) (by simp [results, Tryz.results170, go_sem, e0, e1, e2, e3, hs]) rfl ?_
      have ht := turn_set4 w1 w.heap.size (.slice pa pl.length pc) (.int .i64 pO) (.int .i64 pg) (.int .i64 pf)
      have hi3 := insAt_turn HIN.out ht (ins_not_box HIN.out HBX.out)
      exact ⟨pa, pc, rfl, hp, insAt_kept (kept_new _ _) hi3, kept_alloc (HB1.out.trans (ht.below (fun k hk => by omega) HB1.out.size)) _⟩
    · rw [beq_eq_false_iff_ne.2 hx] at hbe
      have hm : mm = none := by rw [← HMM.out, HSN.out, if_neg (by rw [hq]; simp), if_neg (by rw [HIX.out]; exact fun e => hx e.symm)]
      subst hm
      clear hdd hq hnone HSN HMM hx
      simp only [nod, List.length_nil] at hl1 HI1 ⊢
      go_wp2_with fail
      refine bodyPost_ret (v := .tuple #[.agg #[.slice a1 0 k1, .int .i64 0, .int .i64 0, .int .i64 0], .bool false]) (by simp [results, Tryz.results170, go_sem, e0, e1, e2, e3, hs]) rfl ?_
      have ht := turn_set4 w1 w.heap.size (.slice a1 0 k1) (.int .i64 0) (.int .i64 0) (.int .i64 0)
      exact ⟨a1, k1, rfl, Nat.zero_le _, fun i hi => absurd hi (by simp [nod]), kept_alloc (HB1.out.trans (ht.below (fun k hk => by omega) HB1.out.size)) _⟩
set_option maxRecDepth 20000 in
theorem with2_any (c1 c2 c3 : Nat) (p : DeedD) (pa : Option Addr) (pc : Nat) (hp : p.ins.length ≤ 8) (x : InD) (hx : inOk x) (w : World) (h : WithIs F R L c1 c2 c3 p pa pc w) :
    Calls Tryz.prog 171 #[.agg #[.int .u64 x.1.toNat, .int .i64 x.2], .pointer (some ⟨c1, 0, none⟩), .pointer (some ⟨c3, 0, none⟩)] w fun e w' => e = .returned (.bool (spentL (L ++ [p]) x)) ∧ Below w.heap.size w w' := by
  have hk0 := kept_new w (.cells #[.int .u64 x.1.toNat, .int .i64 x.2] 64)
  have z1 := (h.kept hk0).q1
  have t1 := (cell_spot h.q1).2
  have H := Lib.hid (h.kept hk0)
  have HK := Lib.hid hk0
  have HX := Lib.hid hx
  obtain ⟨r, hr⟩ : ∃ r, spentL (L ++ [p]) x = r := ⟨_, rfl⟩
  have hr2 : r = (spentL L x || p.ins.contains x) := by
    rw [← hr]
    unfold spentL
    rw [insL_snoc]
    simp
  rw [hr]
  clear h hk0 hx hr
  obtain ⟨ex, ea⟩ := x
  simp only at z1 H HK HX hr2 ⊢
  cases hs : spentL L (ex, ea) with
  | true =>
    rw [hs, Bool.true_or] at hr2
    subst hr2
    have HS := Lib.hid hs
    clear hs
    go_enter Tryz.func171, Tryz.ntmps171
    go_wp2_with fail
    with_reducible refine (isSpentL_any (ex, ea) HX.out true HS.out _ H.out.led).mono ?_
    rintro e w1 ⟨rfl, hb1⟩
    go_wp2_with fail
    go_ret
    exact ⟨rfl, kept_trans HK.out hb1⟩
  | false =>
    rw [hs, Bool.false_or] at hr2
    have HS := Lib.hid hs
    have HR2 := Lib.hid hr2.symm
    clear hs hr2
    go_enter Tryz.func171, Tryz.ntmps171
    go_wp2_with fail
    with_reducible refine (isSpentL_any (ex, ea) HX.out false HS.out _ H.out.led).mono ?_
    rintro e w1 ⟨rfl, hb1⟩
    obtain ⟨d0, d1, hs1⟩ := box_pair hb1
    have H1 := H.out.kept hb1
    have y0 := H1.p0
    have y4 := (cell_spot y0).2
    have HIN := Lib.hid H1.ins
    have HB1 := Lib.hid (kept_trans HK.out hb1)
    clear hb1 H1
    go_wp2_with fail
    with_reducible refine (inHas_any (ex, ea) p.ins r HR2.out pa pc _ (by omega) HIN.out).mono ?_
    rintro e w2 ⟨rfl, hb2⟩
    go_wp2_with fail
    go_ret
    exact ⟨rfl, kept_trans HB1.out hb2⟩
end Go.Proofs.YtmbejeibcncmmaaGreat.Ju
namespace Go.Proofs.YtmbejeibcncmmaaGreat.Ju
open Go.RowKit Go.Maps

variable {w w' : World} {F : Nat → Prop} {R : Loc} {L : List DeedD}
/-- The state of a child as if its parent, which is Poor, were contained. -/
def withL (L : List DeedD) (p c : DeedD) : Int := if missL (findL (L ++ [p])) c.ins ≠ [] then 2 else if wickedL (findL (L ++ [p])) (spentL (L ++ [p])) c.ins = true then 3 else payI (p.fee + c.fee) (p.weight + c.weight)
/-- Pair's answers. -/
def pairL (L : List DeedD) (p c : DeedD) : Int × Int := if checkD p ≠ 0 then (0, checkD p) else if checkD c ≠ 0 then (0, checkD c) else if spendsD c (idD p) = false then (0, 4) else if stateL L p ≠ 1 then (stateL L p, 0) else (withL L p c, 0)
theorem finds_with (c1 c2 c3 : Nat) (p : DeedD) (pa : Option Addr) (pc : Nat) (hp : p.ins.length ≤ 8) : FindsN (WithIs F R L c1 c2 c3 p pa pc) 170 #[] #[.pointer (some ⟨c1, 0, none⟩), .pointer (some ⟨c2, 0, none⟩), .pointer (some ⟨c3, 0, none⟩)] (findL (L ++ [p])) :=
  ⟨fun _ _ => by kernel_rfl, fun x w hw => with1_any c1 c2 c3 p pa pc hp x w hw⟩
theorem spends_with (c1 c2 c3 : Nat) (p : DeedD) (pa : Option Addr) (pc : Nat) (hp : p.ins.length ≤ 8) : SpendsN (WithIs F R L c1 c2 c3 p pa pc) 171 #[] #[.pointer (some ⟨c1, 0, none⟩), .pointer (some ⟨c3, 0, none⟩)] (spentL (L ++ [p])) :=
  ⟨fun _ _ => by kernel_rfl, fun x w hx hw => with2_any c1 c2 c3 p pa pc hp x hx w hw⟩
set_option maxRecDepth 20000 in
theorem judgeWith_any (p c : DeedD) (pa ca : Option Addr) (pc cc : Nat) (hp : checkD p = 0) (hc : checkD c = 0) (w : World) (h : LedL w F R L) (hpi : InsAt w pa p.ins) (hci : InsAt w ca c.ins) (ix : UInt64) (hix : idD p = ix) (r : Int) (hr : withL L p c = r) :
    Calls Tryz.prog 164 #[.pointer (some ⟨R.b, 29, none⟩), .int .u64 ix.toNat, .agg #[.slice pa p.ins.length pc, .int .i64 p.outs, .int .i64 p.weight, .int .i64 p.fee], .agg #[.slice ca c.ins.length cc, .int .i64 c.outs, .int .i64 c.weight, .int .i64 c.fee]] w fun e w' => e = .returned (.int .i64 r) ∧ Below w.heap.size w w' := by
  obtain ⟨w0, hw0⟩ : ∃ y, y = (((w.alloc (.cells #[.pointer (some ⟨R.b, 29, none⟩)] 100)).alloc (.cells #[.int .u64 ix.toNat] 22)).alloc (.cells #[.slice pa p.ins.length pc, .int .i64 p.outs, .int .i64 p.weight, .int .i64 p.fee] 53)).alloc (.cells #[.slice ca c.ins.length cc, .int .i64 c.outs, .int .i64 c.weight, .int .i64 c.fee] 53) := ⟨_, rfl⟩
  have hk0 : Below w.heap.size w w0 := hw0 ▸ kept_alloc (kept_alloc (kept_alloc (kept_new _ _) _) _) _
  have hW : WithIs F R L w.heap.size (w.heap.size + 1) (w.heap.size + 2) p pa pc w0 := ⟨h.kept hk0, by rw [hw0]; simp [go_sem], by rw [hw0, hix]; simp [go_sem], by rw [hw0]; simp [go_sem], by rw [hw0]; simp [go_sem], by rw [hw0]; simp [go_sem], by rw [hw0]; simp [go_sem], insAt_kept hk0 hpi⟩
  have k0 : w0.cell? ⟨w.heap.size + 3, 0, none⟩ = some (.slice ca c.ins.length cc) := by rw [hw0]; simp [go_sem]
  have k1 : w0.cell? ⟨w.heap.size + 3, 1, none⟩ = some (.int .i64 c.outs) := by rw [hw0]; simp [go_sem]
  have k2 : w0.cell? ⟨w.heap.size + 3, 2, none⟩ = some (.int .i64 c.weight) := by rw [hw0]; simp [go_sem]
  have k3 : w0.cell? ⟨w.heap.size + 3, 3, none⟩ = some (.int .i64 c.fee) := by rw [hw0]; simp [go_sem]
  have k4 : w.heap.size + 3 < w0.heap.size := (cell_spot k0).2
  have HW := Lib.hid hW
  have HI := Lib.hid (insAt_kept hk0 hci)
  have HK := Lib.hid hk0
  have HW0 := Lib.hid hw0
  have HPC := Lib.hid hp
  have HCC := Lib.hid hc
  have hp8 := (check_ok hp).1
  have hc8 := (check_ok hc).1
  obtain ⟨m, hm⟩ : ∃ m, missL (findL (L ++ [p])) c.ins = m := ⟨_, rfl⟩
  have HM := Lib.hid hm
  unfold withL at hr
  rw [hm] at hr
  have HR := Lib.hid hr
  have HF := Lib.hid (finds_with (F := F) (R := R) (L := L) w.heap.size (w.heap.size + 1) (w.heap.size + 2) p pa pc hp8)
  have HS := Lib.hid (spends_with (F := F) (R := R) (L := L) w.heap.size (w.heap.size + 1) (w.heap.size + 2) p pa pc hp8)
  clear h hpi hci hk0 hW hw0 hp hc hm hix hr
  go_enter Tryz.func164, Tryz.ntmps164
  go_wp2_with fail
  rw [← HW0.out]
  refine (missing_any _ (fun _ _ h hb => WithIs.kept h hb) _ _ _ _ HF.out c ca cc w0 HW.out hc8 HI.out).mono ?_
  rw [HM.out]
  rintro e w2 ⟨a2, cp2, rfl, ho2, hb2⟩
  obtain ⟨g0, g1, g2, g3⟩ : _ ∧ _ ∧ _ ∧ _ := ⟨kept_cell hb2 k0, kept_cell hb2 k1, kept_cell hb2 k2, kept_cell hb2 k3⟩
  have hs2 := (cell_spot g0).2
  have HI2 := Lib.hid (insAt_kept hb2 HI.out)
  have H2 := Lib.hid (HW.out.kept hb2)
  have HB2 := Lib.hid (kept_trans HK.out hb2)
  clear hb2 ho2
  by_cases hne : m ≠ []
  · have hr := HR.out
    rw [if_pos hne] at hr
    subst hr
    have hpos : 0 < m.length := List.length_pos_iff.2 hne
    clear hne HR
    go_wp2_with fail
    go_ret
    exact ⟨rfl, HB2.out⟩
  · have hr := HR.out
    rw [if_neg hne] at hr
    obtain rfl : m = [] := Classical.not_not.1 hne
    clear hne HR
    cases hw : wickedL (findL (L ++ [p])) (spentL (L ++ [p])) c.ins with
    | true =>
      rw [if_pos hw] at hr
      subst hr
      have HWK := Lib.hid hw
      clear hw
      go_wp2_with fail
      refine (isWicked_any _ (fun _ _ h hb => WithIs.kept h hb) _ _ _ _ _ _ _ _ HF.out HS.out c ca cc _ H2.out hc8 HI2.out true HWK.out).mono ?_
      rintro e w3 ⟨rfl, hb3⟩
      go_wp2_with fail
      go_ret
      exact ⟨rfl, kept_trans HB2.out hb3⟩
    | false =>
      rw [if_neg (by rw [hw]; simp)] at hr
      have HWK := Lib.hid hw
      have HQ := Lib.hid hr
      clear hw hr
      go_wp2_with fail
      refine (isWicked_any _ (fun _ _ h hb => WithIs.kept h hb) _ _ _ _ _ _ _ _ HF.out HS.out c ca cc _ H2.out hc8 HI2.out false HWK.out).mono ?_
      rintro e w3 ⟨rfl, hb3⟩
      obtain ⟨r0, r1, r2, r3⟩ : _ ∧ _ ∧ _ ∧ _ := ⟨kept_cell hb3 g0, kept_cell hb3 g1, kept_cell hb3 g2, kept_cell hb3 g3⟩
      have hs3 := (cell_spot r0).2
      have H3 := H2.out.kept hb3
      have p0 := H3.p0
      have p1 := H3.p1
      have p2 := H3.p2
      have p3 := H3.p3
      have p4 := (cell_spot p0).2
      have HROW : Hid (RowOf (w3.alloc (.cells #[.slice pa p.ins.length pc, .int .i64 p.outs, .int .i64 p.weight, .int .i64 p.fee, .slice ca c.ins.length cc, .int .i64 c.outs, .int .i64 c.weight, .int .i64 c.fee] 53)) (some ⟨w3.heap.size, 0, none⟩) [⟨pa, pc, p⟩, ⟨ca, cc, c⟩]) := Lib.hid fun i hi => by
        have hi : i < 2 := hi
        refine ⟨w3.heap.size, 0, rfl, by simp, ?_⟩
        unfold DeedHCells
        match i, hi with
        | 0, _ => refine ⟨?_, ?_, ?_, ?_⟩ <;> simp [go_sem]
        | 1, _ => refine ⟨?_, ?_, ?_, ?_⟩ <;> simp [go_sem]
      have HB3 := Lib.hid (kept_alloc (kept_trans HB2.out hb3) (.cells #[.slice pa p.ins.length pc, .int .i64 p.outs, .int .i64 p.weight, .int .i64 p.fee, .slice ca c.ins.length cc, .int .i64 c.outs, .int .i64 c.weight, .int .i64 c.fee] 53))
      have HP : Hid (payI (feesL [⟨pa, pc, p⟩, ⟨ca, cc, c⟩]) (weightsL [⟨pa, pc, p⟩, ⟨ca, cc, c⟩]) = r) := Lib.hid (by simpa [feesL, weightsL] using HQ.out)
      have HFI : Hid (∀ q ∈ [(⟨pa, pc, p⟩ : DeedH), ⟨ca, cc, c⟩], checkD q.d = 0) := Lib.hid (fun q hq => by
        rcases List.mem_cons.1 hq with rfl | hq
        · exact HPC.out
        · rw [List.mem_singleton.1 hq]
          exact HCC.out)
      clear hb3 H3
      go_wp2_with fail
      refine (payment_any [⟨pa, pc, p⟩, ⟨ca, cc, c⟩] _ _ _ (by simp) HFI.out HROW.out r HP.out).mono ?_
      rintro e w4 ⟨rfl, hb4⟩
      go_wp2_with fail
      go_ret
      exact ⟨rfl, kept_trans HB3.out hb4⟩
set_option maxRecDepth 20000 in
theorem pairL_any (p c : DeedD) (pa ca : Option Addr) (pc cc : Nat) (w : World) (h : LedL w F R L) (hpi : InsAt w pa p.ins) (hci : InsAt w ca c.ins) (k r : Int) (hr : pairL L p c = (k, r)) :
    Calls Tryz.prog 156 #[.pointer (some ⟨R.b, 29, none⟩), .agg #[.slice pa p.ins.length pc, .int .i64 p.outs, .int .i64 p.weight, .int .i64 p.fee], .agg #[.slice ca c.ins.length cc, .int .i64 c.outs, .int .i64 c.weight, .int .i64 c.fee]] w fun e w' => e = .returned (.tuple #[.int .i64 k, .int .i64 r]) ∧ Below w.heap.size w w' := by
  obtain ⟨w0, hw0⟩ : ∃ y, y = (w.alloc (.cells #[.slice pa p.ins.length pc, .int .i64 p.outs, .int .i64 p.weight, .int .i64 p.fee] 53)).alloc (.cells #[.slice ca c.ins.length cc, .int .i64 c.outs, .int .i64 c.weight, .int .i64 c.fee] 53) := ⟨_, rfl⟩
  have hk0 : Below w.heap.size w w0 := hw0 ▸ kept_alloc (kept_new _ _) _
  have hbx : w0.heap[w.heap.size]? = some (.cells #[.slice pa p.ins.length pc, .int .i64 p.outs, .int .i64 p.weight, .int .i64 p.fee] 53 (0, 0)) := hw0 ▸ heap_alloc2_old _ _ _
  have hby : w0.heap[w.heap.size + 1]? = some (.cells #[.slice ca c.ins.length cc, .int .i64 c.outs, .int .i64 c.weight, .int .i64 c.fee] 53 (0, 0)) := hw0 ▸ heap_alloc2_new _ _ _
  have hcell : ∀ wx, Below w0.heap.size w0 wx → (wx.cell? ⟨w.heap.size, 0, none⟩ = some (.slice pa p.ins.length pc) ∧ wx.cell? ⟨w.heap.size, 1, none⟩ = some (.int .i64 p.outs) ∧ wx.cell? ⟨w.heap.size, 2, none⟩ = some (.int .i64 p.weight) ∧ wx.cell? ⟨w.heap.size, 3, none⟩ = some (.int .i64 p.fee)) ∧
      (wx.cell? ⟨w.heap.size + 1, 0, none⟩ = some (.slice ca c.ins.length cc) ∧ wx.cell? ⟨w.heap.size + 1, 1, none⟩ = some (.int .i64 c.outs) ∧ wx.cell? ⟨w.heap.size + 1, 2, none⟩ = some (.int .i64 c.weight) ∧ wx.cell? ⟨w.heap.size + 1, 3, none⟩ = some (.int .i64 c.fee)) ∧ w.heap.size + 1 < wx.heap.size := fun wx hb =>
    ⟨⟨kept_cell hb (head_cell hbx 0), kept_cell hb (head_cell hbx 1), kept_cell hb (head_cell hbx 2), kept_cell hb (head_cell hbx 3)⟩, ⟨kept_cell hb (head_cell hby 0), kept_cell hb (head_cell hby 1), kept_cell hb (head_cell hby 2), kept_cell hb (head_cell hby 3)⟩, (cell_spot (kept_cell hb (head_cell hby 0))).2⟩
  have HC := Lib.hid hcell
  have H := Lib.hid (h.kept hk0)
  have HP := Lib.hid (insAt_kept hk0 hpi)
  have HI := Lib.hid (insAt_kept hk0 hci)
  have HK := Lib.hid hk0
  have HW0 := Lib.hid hw0
  unfold pairL at hr
  clear h hpi hci hk0 hw0 hbx hby hcell
  by_cases hp : checkD p = 0
  · rw [if_neg (not_not_intro hp)] at hr
    have HPC := Lib.hid hp
    obtain ⟨ix, hix⟩ : ∃ ix, idD p = ix := ⟨_, rfl⟩
    rw [hix] at hr
    have HIX := Lib.hid hix
    have HID : Hid (∀ wx, InsAt wx pa p.ins → Calls Tryz.prog 26 #[.agg #[.slice pa p.ins.length pc, .int .i64 p.outs, .int .i64 p.weight, .int .i64 p.fee]] wx fun e w' => e = .returned (.tuple #[.int .u64 ix.toNat, .int .i64 0]) ∧ Below wx.heap.size wx w') := Lib.hid (fun wx hi => hix ▸ id_ok p pa pc wx hi hp)
    clear hp hix
    by_cases hc : checkD c = 0
    · rw [if_neg (not_not_intro hc)] at hr
      have HCC := Lib.hid hc
      have hc8 := (check_ok hc).1
      clear hc
      cases hsp : spendsD c ix with
      | false =>
        rw [if_pos hsp] at hr
        simp only [Prod.mk.injEq] at hr
        obtain ⟨rfl, rfl⟩ := hr
        have HSP := Lib.hid hsp
        clear hsp
        go_enter Tryz.func156, Tryz.ntmps156
        go_wp2_with fail
        rw [← HW0.out]
        with_reducible refine (HID.out _ HP.out).mono ?_
        rintro e w1 ⟨rfl, hb1⟩
        obtain ⟨_, ⟨c0, c1, c2, c3⟩, hs1⟩ := HC.out _ hb1
        have HB1 := Lib.hid hb1
        clear hb1
        go_wp2_with fail
        with_reducible refine (check_is c ca cc _ 0 (insAt_kept HB1.out HI.out) HCC.out).mono ?_
        rintro e w2 ⟨rfl, hb2⟩
        have HB2 := Lib.hid (kept_trans HB1.out hb2)
        obtain ⟨_, ⟨d0, d1, d2, d3⟩, hs2⟩ := HC.out _ HB2.out
        clear hb2
        go_wp2_with fail
        refine (show Calls Tryz.prog 115 #[.agg #[.slice ca c.ins.length cc, .int .i64 c.outs, .int .i64 c.weight, .int .i64 c.fee], .int .u64 ix.toNat] w2 fun e w' => e = .returned (.bool false) ∧ Below w2.heap.size w2 w' from HSP.out ▸ spends_any c ix ca cc w2 (by omega) (insAt_kept HB2.out HI.out)).mono ?_
        rintro e w3 ⟨rfl, hb3⟩
        go_wp2_with fail
        go_ret2
        exact ⟨rfl, kept_trans HK.out (kept_trans HB2.out hb3)⟩
      | true =>
        rw [if_neg (by rw [hsp]; simp)] at hr
        have HSP := Lib.hid hsp
        obtain ⟨st, hst⟩ : ∃ st, stateL L p = st := ⟨_, rfl⟩
        have HJ : Hid (judgeL L p = (st, missL (findL L) p.ins, 0)) := Lib.hid (by unfold judgeL; rw [if_neg (not_not_intro HPC.out), hst])
        rw [hst] at hr
        clear hsp hst
        by_cases h1 : st = 1
        · subst h1
          rw [if_neg (by simp)] at hr
          simp only [Prod.mk.injEq] at hr
          obtain ⟨hr, rfl⟩ := hr
          have HR := Lib.hid hr
          clear hr
          go_enter Tryz.func156, Tryz.ntmps156
          go_wp2_with fail
          rw [← HW0.out]
          with_reducible refine (HID.out _ HP.out).mono ?_
          rintro e w1 ⟨rfl, hb1⟩
          obtain ⟨_, ⟨c0, c1, c2, c3⟩, hs1⟩ := HC.out _ hb1
          have HB1 := Lib.hid hb1
          clear hb1
          go_wp2_with fail
          with_reducible refine (check_is c ca cc _ 0 (insAt_kept HB1.out HI.out) HCC.out).mono ?_
          rintro e w2 ⟨rfl, hb2⟩
          have HB2 := Lib.hid (kept_trans HB1.out hb2)
          obtain ⟨_, ⟨d0, d1, d2, d3⟩, hs2⟩ := HC.out _ HB2.out
          clear hb2
          go_wp2_with fail
          refine (show Calls Tryz.prog 115 #[.agg #[.slice ca c.ins.length cc, .int .i64 c.outs, .int .i64 c.weight, .int .i64 c.fee], .int .u64 ix.toNat] w2 fun e w' => e = .returned (.bool true) ∧ Below w2.heap.size w2 w' from HSP.out ▸ spends_any c ix ca cc w2 (by omega) (insAt_kept HB2.out HI.out)).mono ?_
          rintro e w3 ⟨rfl, hb3⟩
          have HB3 := Lib.hid (kept_trans HB2.out hb3)
          obtain ⟨⟨e0, e1, e2, e3⟩, _, hs3⟩ := HC.out _ HB3.out
          have hs3' : w.heap.size < w3.heap.size := by omega
          clear hb3
          go_wp2_with fail
          with_reducible refine (judgeL_any p pa pc _ (H.out.kept HB3.out) (insAt_kept HB3.out HP.out)).mono ?_
          rw [HJ.out]
          rintro e w4 ⟨a4, k4, rfl, _, hb4⟩
          have HB4 := Lib.hid (kept_trans HB3.out hb4)
          obtain ⟨⟨f0, f1, f2, f3⟩, ⟨g0, g1, g2, g3⟩, hs4⟩ := HC.out _ HB4.out
          have hs4' : w.heap.size < w4.heap.size := by omega
          clear hb4
          simp only
          go_wp2_with fail
          with_reducible refine (judgeWith_any p c pa ca pc cc HPC.out HCC.out _ (H.out.kept HB4.out) (insAt_kept HB4.out HP.out) (insAt_kept HB4.out HI.out) ix HIX.out k HR.out).mono ?_
          rintro e w5 ⟨rfl, hb5⟩
          go_wp2_with fail
          go_ret2
          exact ⟨rfl, kept_trans HK.out (kept_trans HB4.out hb5)⟩
        · rw [if_pos h1] at hr
          simp only [Prod.mk.injEq] at hr
          obtain ⟨rfl, rfl⟩ := hr
          have hb1' : (st != 1) = true := by simpa using h1
          clear h1
          go_enter Tryz.func156, Tryz.ntmps156
          go_wp2_with fail
          rw [← HW0.out]
          with_reducible refine (HID.out _ HP.out).mono ?_
          rintro e w1 ⟨rfl, hb1⟩
          obtain ⟨_, ⟨c0, c1, c2, c3⟩, hs1⟩ := HC.out _ hb1
          have HB1 := Lib.hid hb1
          clear hb1
          go_wp2_with fail
          with_reducible refine (check_is c ca cc _ 0 (insAt_kept HB1.out HI.out) HCC.out).mono ?_
          rintro e w2 ⟨rfl, hb2⟩
          have HB2 := Lib.hid (kept_trans HB1.out hb2)
          obtain ⟨_, ⟨d0, d1, d2, d3⟩, hs2⟩ := HC.out _ HB2.out
          clear hb2
          go_wp2_with fail
          refine (show Calls Tryz.prog 115 #[.agg #[.slice ca c.ins.length cc, .int .i64 c.outs, .int .i64 c.weight, .int .i64 c.fee], .int .u64 ix.toNat] w2 fun e w' => e = .returned (.bool true) ∧ Below w2.heap.size w2 w' from HSP.out ▸ spends_any c ix ca cc w2 (by omega) (insAt_kept HB2.out HI.out)).mono ?_
          rintro e w3 ⟨rfl, hb3⟩
          have HB3 := Lib.hid (kept_trans HB2.out hb3)
          obtain ⟨⟨e0, e1, e2, e3⟩, _, hs3⟩ := HC.out _ HB3.out
          have hs3' : w.heap.size < w3.heap.size := by omega
          clear hb3
          go_wp2_with fail
          with_reducible refine (judgeL_any p pa pc _ (H.out.kept HB3.out) (insAt_kept HB3.out HP.out)).mono ?_
          rw [HJ.out]
          rintro e w4 ⟨a4, k4, rfl, _, hb4⟩
          simp only
          go_wp2_with fail
          go_ret2
          exact ⟨rfl, kept_trans HK.out (kept_trans HB3.out hb4)⟩
    · rw [if_pos hc] at hr
      simp only [Prod.mk.injEq] at hr
      obtain ⟨rfl, hr⟩ := hr
      rw [hr] at hc
      have HR := Lib.hid hr
      have hrb : (r != 0) = true := by simpa using hc
      clear hr hc
      go_enter Tryz.func156, Tryz.ntmps156
      go_wp2_with fail
      rw [← HW0.out]
      with_reducible refine (HID.out _ HP.out).mono ?_
      rintro e w1 ⟨rfl, hb1⟩
      obtain ⟨_, ⟨c0, c1, c2, c3⟩, hs1⟩ := HC.out _ hb1
      have HB1 := Lib.hid hb1
      clear hb1
      go_wp2_with fail
      with_reducible refine (check_is c ca cc _ r (insAt_kept HB1.out HI.out) HR.out).mono ?_
      rintro e w2 ⟨rfl, hb2⟩
      go_wp2_with fail
      go_ret2
      exact ⟨rfl, kept_trans HK.out (kept_trans HB1.out hb2)⟩
  · rw [if_pos hp] at hr
    simp only [Prod.mk.injEq] at hr
    obtain ⟨rfl, hr⟩ := hr
    rw [hr] at hp
    have HR := Lib.hid hr
    have HNZ := Lib.hid hp
    have hrb : (r != 0) = true := by simpa using hp
    clear hr hp
    go_enter Tryz.func156, Tryz.ntmps156
    go_wp2_with fail
    rw [← HW0.out]
    with_reducible refine (id_err p pa pc _ r HP.out HR.out HNZ.out).mono ?_
    rintro e w1 ⟨rfl, hb1⟩
    go_wp2_with fail
    go_ret2
    exact ⟨rfl, kept_trans HK.out hb1⟩
end Go.Proofs.YtmbejeibcncmmaaGreat.Ju
namespace Go.Proofs.YtmbejeibcncmmaaGreat.Ri

structure RingS where
  size : Nat
  cur : List UInt64
  prev : List UInt64

def RingS.put (s : RingS) (x : UInt64) : RingS :=
  if s.cur.contains x = true then s else if s.size ≤ s.cur.length then ⟨s.size, [x], s.cur⟩ else ⟨s.size, s.cur ++ [x], s.prev⟩
def RingS.has (s : RingS) (x : UInt64) : Bool := s.cur.contains x || s.prev.contains x
def RingS.count (s : RingS) : Nat := s.cur.length + (s.prev.filter fun x => !s.cur.contains x).length
def RingS.none (n : Nat) : RingS := ⟨n, [], []⟩
def RingS.puts (s : RingS) (l : List UInt64) : RingS := l.foldl RingS.put s
def RingS.Good (s : RingS) : Prop := 1 ≤ s.size ∧ s.size ≤ 50 ∧ s.cur.length ≤ s.size ∧ s.prev.length ≤ s.size ∧ s.cur.Nodup ∧ s.prev.Nodup

theorem put_there {s : RingS} {x : UInt64} (h : s.cur.contains x = true) : s.put x = s := by unfold RingS.put; rw [if_pos h]
theorem put_full {s : RingS} {x : UInt64} (h : s.cur.contains x = false) (hf : s.size ≤ s.cur.length) : s.put x = ⟨s.size, [x], s.cur⟩ := by
  unfold RingS.put; rw [if_neg (by rw [h]; decide), if_pos hf]
theorem put_room {s : RingS} {x : UInt64} (h : s.cur.contains x = false) (hf : s.cur.length < s.size) : s.put x = ⟨s.size, s.cur ++ [x], s.prev⟩ := by
  unfold RingS.put; rw [if_neg (by rw [h]; decide), if_neg (by omega)]
/-- The three ways of Put. -/
theorem put_ways (s : RingS) (x : UInt64) : (x ∈ s.cur ∧ s.put x = s) ∨ (x ∉ s.cur ∧ s.size ≤ s.cur.length ∧ s.put x = ⟨s.size, [x], s.cur⟩) ∨ (x ∉ s.cur ∧ s.cur.length < s.size ∧ s.put x = ⟨s.size, s.cur ++ [x], s.prev⟩) := by
  by_cases h : x ∈ s.cur
  · exact .inl ⟨h, put_there (List.contains_iff_mem.2 h)⟩
  · have h' : s.cur.contains x = false := by rw [← Bool.not_eq_true, List.contains_iff_mem]; exact h
    rcases Nat.lt_or_ge s.cur.length s.size with hl | hl
    · exact .inr (.inr ⟨h, hl, put_room h' hl⟩)
    · exact .inr (.inl ⟨h, hl, put_full h' hl⟩)
theorem put_size (s : RingS) (x : UInt64) : (s.put x).size = s.size := by
  rcases put_ways s x with ⟨_, e⟩ | ⟨_, _, e⟩ | ⟨_, _, e⟩ <;> rw [e]
theorem nodup_snoc' {l : List UInt64} {x : UInt64} (h : l.Nodup) (hx : x ∉ l) : (l ++ [x]).Nodup := by
  rw [List.nodup_append]
  exact ⟨h, by simp, fun a ha b hb => by rw [List.mem_singleton.1 hb]; exact fun e => hx (e ▸ ha)⟩
theorem put_good {s : RingS} (h : s.Good) (x : UInt64) : (s.put x).Good := by
  obtain ⟨h1, h2, h3, h4, h5, h6⟩ := h
  rcases put_ways s x with ⟨_, e⟩ | ⟨_, hl, e⟩ | ⟨hx, hl, e⟩ <;> rw [e]
  · exact ⟨h1, h2, h3, h4, h5, h6⟩
  · exact ⟨h1, h2, by simpa using h1, h3, by simp, h5⟩
  · exact ⟨h1, h2, by simp; omega, h4, nodup_snoc' h5 hx, h6⟩
theorem none_good {n : Nat} (h1 : 1 ≤ n) (h2 : n ≤ 50) : (RingS.none n).Good := ⟨h1, h2, Nat.zero_le _, Nat.zero_le _, List.nodup_nil, List.nodup_nil⟩
theorem puts_good {s : RingS} (h : s.Good) (l : List UInt64) : (s.puts l).Good := by
  induction l generalizing s with
  | nil => exact h
  | cons x r ih => exact ih (put_good h x)
theorem puts_size (s : RingS) (l : List UInt64) : (s.puts l).size = s.size := by
  induction l generalizing s with
  | nil => rfl
  | cons x r ih => exact (ih (s.put x)).trans (put_size s x)
theorem puts_snoc (s : RingS) (l : List UInt64) (x : UInt64) : s.puts (l ++ [x]) = (s.puts l).put x := by unfold RingS.puts; rw [List.foldl_append]; rfl
theorem puts_take {l : List UInt64} {k : Nat} (s : RingS) (h : k < l.length) : s.puts (l.take (k + 1)) = (s.puts (l.take k)).put l[k] := by
  rw [List.take_succ_eq_append_getElem h, puts_snoc]
theorem has_iff {s : RingS} {x : UInt64} : s.has x = true ↔ x ∈ s.cur ∨ x ∈ s.prev := by
  unfold RingS.has
  rw [Bool.or_eq_true, List.contains_iff_mem, List.contains_iff_mem]
theorem count_le {s : RingS} (h : s.Good) : s.count ≤ 2 * s.size := by
  obtain ⟨_, _, h3, h4, _⟩ := h
  have := List.length_filter_le (fun x => !s.cur.contains x) s.prev
  unfold RingS.count
  omega
theorem put_mem (s : RingS) (x : UInt64) : x ∈ (s.put x).cur := by
  rcases put_ways s x with ⟨h, e⟩ | ⟨_, _, e⟩ | ⟨_, _, e⟩ <;> rw [e]
  · exact h
  · simp
  · simp
theorem put_put (s : RingS) (x : UInt64) : (s.put x).put x = s.put x := put_there (List.contains_iff_mem.2 (put_mem s x))
theorem put_from {s : RingS} {x y : UInt64} (h : (s.put x).has y = true) : s.has y = true ∨ y = x := by
  rw [has_iff] at h ⊢
  rcases put_ways s x with ⟨_, e⟩ | ⟨_, _, e⟩ | ⟨_, _, e⟩ <;> rw [e] at h
  · exact .inl h
  · rcases h with h | h
    · exact .inr (by simpa using h)
    · exact .inl (.inl h)
  · rcases h with h | h
    · rcases List.mem_append.1 h with h | h
      · exact .inl (.inl h)
      · exact .inr (by simpa using h)
    · exact .inl (.inr h)
/-- What was never put is not there. -/
theorem puts_from {s : RingS} {l : List UInt64} {y : UInt64} (h : (s.puts l).has y = true) : s.has y = true ∨ y ∈ l := by
  induction l generalizing s with
  | nil => exact .inl h
  | cons x r ih =>
    rcases ih (s := s.put x) h with h1 | h1
    · rcases put_from h1 with h2 | h2
      · exact .inl h2
      · exact .inr (by rw [h2]; exact List.mem_cons_self)
    · exact .inr (List.mem_cons_of_mem _ h1)
theorem none_has (n : Nat) (y : UInt64) : (RingS.none n).has y = false := rfl
theorem none_count (n : Nat) : (RingS.none n).count = 0 := rfl

theorem nodup_len : ∀ {a d : List UInt64}, a.Nodup → (∀ y ∈ a, y ∈ d) → a.length ≤ d.length
  | [], _, _, _ => Nat.zero_le _
  | x :: a, d, hn, hs => by
    obtain ⟨hx, hn'⟩ := List.nodup_cons.1 hn
    have hm : x ∈ d := hs x List.mem_cons_self
    have h1 : a.length ≤ (d.erase x).length := nodup_len hn' (fun y hy => (List.mem_erase_of_ne (fun e : y = x => hx (e ▸ hy))).2 (hs y (List.mem_cons_of_mem _ hy)))
    have h2 : 0 < d.length := List.length_pos_of_mem hm
    rw [List.length_erase_of_mem hm] at h1
    simp only [List.length_cons]
    omega

/-- Behind all that was put: a tail of it lies in the current generation, or holds that generation; and a tail of no more IDs than the size is there. -/
def Late (n : Nat) (l : List UInt64) (s : RingS) : Prop :=
  (∀ i, (∀ y ∈ l.drop i, y ∈ s.cur) ∨ (∀ y ∈ s.cur, y ∈ l.drop i)) ∧ ∀ i (d : List UInt64), (∀ y ∈ l.drop i, y ∈ d) → d.length ≤ n → ∀ y ∈ l.drop i, s.has y = true
theorem drop_snoc (l : List UInt64) (x : UInt64) (i : Nat) : ((l ++ [x]).drop i = l.drop i ++ [x]) ∨ (l ++ [x]).drop i = [] := by
  rcases Nat.lt_or_ge l.length i with h | h
  · exact .inr (List.drop_eq_nil_of_le (by simp; omega))
  · exact .inl (by rw [List.drop_append_of_le_length h])
theorem late_put {n : Nat} {l : List UInt64} {s : RingS} {x : UInt64} (hg : s.Good) (hn : s.size = n) (h : Late n l s) : Late n (l ++ [x]) (s.put x) := by
  obtain ⟨ha, hb⟩ := h
  refine ⟨fun i => ?_, fun i d hd hlen y hy => ?_⟩
  · rcases drop_snoc l x i with e | e <;> rw [e]
    · rcases put_ways s x with ⟨hx, e⟩ | ⟨_, _, e⟩ | ⟨_, _, e⟩ <;> rw [e]
      · rcases ha i with h | h
        · exact .inl fun y hy => (List.mem_append.1 hy).elim (h y) (fun hy => by rw [List.mem_singleton.1 hy]; exact hx)
        · exact .inr fun y hy => List.mem_append.2 (.inl (h y hy))
      · exact .inr fun y hy => List.mem_append.2 (.inr hy)
      · rcases ha i with h | h
        · exact .inl fun y hy => (List.mem_append.1 hy).elim (fun hy => List.mem_append.2 (.inl (h y hy))) (fun hy => List.mem_append.2 (.inr hy))
        · exact .inr fun y hy => (List.mem_append.1 hy).elim (fun hy => List.mem_append.2 (.inl (h y hy))) (fun hy => List.mem_append.2 (.inr hy))
    · exact .inl fun y hy => absurd hy (by simp)
  · rcases drop_snoc l x i with e | e <;> rw [e] at hd hy
    · rw [has_iff]
      rcases List.mem_append.1 hy with hy | hy
      · have hold := has_iff.1 (hb i d (fun z hz => hd z (List.mem_append.2 (.inl hz))) hlen y hy)
        rcases put_ways s x with ⟨hx, e⟩ | ⟨hx, hl, e⟩ | ⟨_, _, e⟩ <;> rw [e]
        · exact hold
        · rcases ha i with h | h
          · exact .inr (h y hy)
          · have : (s.cur ++ [x]).length ≤ d.length := nodup_len (nodup_snoc' hg.2.2.2.2.1 hx) (fun z hz => hd z ((List.mem_append.1 hz).elim (fun hz => List.mem_append.2 (.inl (h z hz))) (fun hz => List.mem_append.2 (.inr hz))))
            rw [List.length_append] at this
            simp only [List.length_cons, List.length_nil] at this
            omega
        · exact hold.elim (fun h => .inl (List.mem_append.2 (.inl h))) .inr
      · rw [List.mem_singleton.1 hy]
        exact .inl (put_mem s x)
    · exact absurd hy (by simp)
theorem late_puts {n : Nat} (l : List UInt64) (h1 : 1 ≤ n) (h2 : n ≤ 50) (k : Nat) (hk : k ≤ l.length) : Late n (l.take k) ((RingS.none n).puts (l.take k)) := by
  induction k with
  | zero => exact ⟨fun i => .inl fun y hy => absurd hy (by simp), fun i d _ _ y hy => absurd hy (by simp)⟩
  | succ k ih =>
    rw [puts_take _ hk, List.take_succ_eq_append_getElem hk]
    exact late_put (puts_good (none_good h1 h2) _) (puts_size _ _) (ih (by omega))
/-- The last IDs, as many as the size, are there. -/
theorem late_has {n : Nat} (l : List UInt64) (h1 : 1 ≤ n) (h2 : n ≤ 50) (i : Nat) (d : List UInt64) (hd : ∀ y ∈ l.drop i, y ∈ d) (hlen : d.length ≤ n) : ∀ y ∈ l.drop i, ((RingS.none n).puts l).has y = true := by
  have := (late_puts l h1 h2 l.length (Nat.le_refl _)).2 i d
  rw [List.take_length] at this
  exact this hd hlen

/-- Behind twice as many new IDs as the size an ID is gone. -/
theorem rolls {s : RingS} (hg : s.Good) (x : UInt64) (hx : x ∈ s.cur) (o : List UInt64) (ho : o.Nodup) (hn : ∀ y ∈ o, s.has y = false) (hl : o.length = 2 * s.size) : (s.puts o).has x = false := by
  have hc : 1 ≤ s.cur.length := List.length_pos_of_mem hx
  obtain ⟨h1, h2, h3, h4, h5, h6⟩ := hg
  have key : ∀ k, k ≤ o.length → (∀ z ∈ (s.puts (o.take k)).cur, z ∈ s.cur ∨ z ∈ o.take k) ∧
      ((k + s.cur.length ≤ s.size ∧ (s.puts (o.take k)).cur.length = s.cur.length + k) ∨
       (s.size < k + s.cur.length ∧ k + s.cur.length ≤ 2 * s.size ∧ x ∉ (s.puts (o.take k)).cur ∧ (s.puts (o.take k)).cur.length + s.size = s.cur.length + k) ∨
       (2 * s.size < k + s.cur.length ∧ x ∉ (s.puts (o.take k)).cur ∧ x ∉ (s.puts (o.take k)).prev)) := by
    intro k
    induction k with
    | zero => intro _; exact ⟨fun z hz => .inl hz, .inl ⟨by omega, rfl⟩⟩
    | succ k ih =>
      intro hk
      obtain ⟨ih1, ih2⟩ := ih (by omega)
      rw [puts_take s hk, List.take_succ_eq_append_getElem hk]
      have hsz := puts_size s (o.take k)
      have hyo : o[k] ∈ o := List.getElem_mem hk
      have hys : o[k] ∉ s.cur := fun h => by have := hn _ hyo; rw [has_iff.2 (.inl h)] at this; cases this
      have hyx : x ≠ o[k] := fun e => hys (e ▸ hx)
      have hyt : o[k] ∉ o.take k := fun h => by
        have hnd : (o.take (k + 1)).Nodup := ho.sublist (List.take_sublist _ _)
        rw [List.take_succ_eq_append_getElem hk, List.nodup_append] at hnd
        exact hnd.2.2 _ h _ (List.mem_singleton.2 rfl) rfl
      have hyc : o[k] ∉ (s.puts (o.take k)).cur := fun h => (ih1 _ h).elim hys hyt
      rcases put_ways (s.puts (o.take k)) o[k] with ⟨h, _⟩ | ⟨_, hf, e⟩ | ⟨_, hf, e⟩
      · exact absurd h hyc
      · rw [e]
        refine ⟨fun z hz => .inr (List.mem_append.2 (.inr hz)), ?_⟩
        rcases ih2 with ⟨a1, a2⟩ | ⟨a1, a2, a3, a4⟩ | ⟨a1, a2, a3⟩
        · exact .inr (.inl ⟨by omega, by omega, by simpa using hyx, by simp; omega⟩)
        · exact .inr (.inr ⟨by omega, by simpa using hyx, a3⟩)
        · exact .inr (.inr ⟨by omega, by simpa using hyx, a2⟩)
      · rw [e]
        refine ⟨fun z hz => (List.mem_append.1 hz).elim (fun hz => (ih1 z hz).elim .inl (fun hz => .inr (List.mem_append.2 (.inl hz)))) (fun hz => .inr (List.mem_append.2 (.inr hz))), ?_⟩
        rcases ih2 with ⟨a1, a2⟩ | ⟨a1, a2, a3, a4⟩ | ⟨a1, a2, a3⟩
        · exact .inl ⟨by omega, by simp; omega⟩
        · exact .inr (.inl ⟨by omega, by omega, by simp [a3, hyx], by simp; omega⟩)
        · exact .inr (.inr ⟨by omega, by simp [a2, hyx], a3⟩)
  obtain ⟨_, k2⟩ := key o.length (Nat.le_refl _)
  rw [List.take_length] at k2
  rw [← Bool.not_eq_true, has_iff, not_or]
  rcases k2 with ⟨a1, _⟩ | ⟨_, a2, _⟩ | ⟨_, a2, a3⟩
  · omega
  · omega
  · exact ⟨a2, a3⟩
end Go.Proofs.YtmbejeibcncmmaaGreat.Ri
namespace Go.Proofs.YtmbejeibcncmmaaGreat.Ms

structure MsgD where
  kind : Int
  ids : List UInt64
  body : ByteArray

/-- P6: the first error. -/
def checkM (m : MsgD) : Int :=
  if within m.kind 1 4 = false then 1 else if (m.kind = 3 ∧ 0 < m.ids.length) ∨ (m.kind ≠ 3 ∧ 0 < m.body.size) then 4
  else if 20 < m.ids.length ∨ 100 < m.body.size then 2 else if m.ids.length = 0 ∧ m.body.size = 0 then 4 else if m.ids.Nodup then 0 else 6
def zeroM : MsgD := ⟨0, [], ⟨#[]⟩⟩

theorem within_known {k : Int} (h : within k 1 4 = true) : k = 1 ∨ k = 2 ∨ k = 3 ∨ k = 4 := by
  have := of_decide_eq_true (p := 1 ≤ k ∧ k ≤ 4) h
  omega
theorem checkM_kind {m : MsgD} (h : within m.kind 1 4 = false) : checkM m = 1 := by unfold checkM; rw [if_pos h]
theorem checkM_form {m : MsgD} (h : within m.kind 1 4 = true) (h1 : (m.kind = 3 ∧ 0 < m.ids.length) ∨ (m.kind ≠ 3 ∧ 0 < m.body.size)) : checkM m = 4 := by
  unfold checkM; rw [if_neg (by rw [h]; decide), if_pos h1]
theorem checkM_large {m : MsgD} (h : within m.kind 1 4 = true) (h1 : ¬ ((m.kind = 3 ∧ 0 < m.ids.length) ∨ (m.kind ≠ 3 ∧ 0 < m.body.size))) (h2 : 20 < m.ids.length ∨ 100 < m.body.size) : checkM m = 2 := by
  unfold checkM; rw [if_neg (by rw [h]; decide), if_neg h1, if_pos h2]
theorem checkM_none {m : MsgD} (h : within m.kind 1 4 = true) (h1 : ¬ ((m.kind = 3 ∧ 0 < m.ids.length) ∨ (m.kind ≠ 3 ∧ 0 < m.body.size))) (h2 : ¬ (20 < m.ids.length ∨ 100 < m.body.size)) (h3 : m.ids.length = 0 ∧ m.body.size = 0) : checkM m = 4 := by
  unfold checkM; rw [if_neg (by rw [h]; decide), if_neg h1, if_neg h2, if_pos h3]
theorem checkM_rest {m : MsgD} (h : within m.kind 1 4 = true) (h1 : ¬ ((m.kind = 3 ∧ 0 < m.ids.length) ∨ (m.kind ≠ 3 ∧ 0 < m.body.size))) (h2 : ¬ (20 < m.ids.length ∨ 100 < m.body.size)) (h3 : ¬ (m.ids.length = 0 ∧ m.body.size = 0)) : checkM m = if m.ids.Nodup then 0 else 6 := by
  unfold checkM; rw [if_neg (by rw [h]; decide), if_neg h1, if_neg h2, if_neg h3]
/-- A message that has no error: Bring with a body, or another kind with IDs. -/
theorem checkM_ok {m : MsgD} (h : checkM m = 0) : within m.kind 1 4 = true ∧ ((m.kind = 3 ∧ m.ids = [] ∧ 0 < m.body.size ∧ m.body.size ≤ 100) ∨ (m.kind ≠ 3 ∧ m.body.size = 0 ∧ 0 < m.ids.length ∧ m.ids.length ≤ 20 ∧ m.ids.Nodup)) := by
  unfold checkM at h
  split at h
  · cases h
  · rename_i h0
    split at h
    · cases h
    · rename_i h1
      split at h
      · cases h
      · rename_i h2
        split at h
        · cases h
        · rename_i h3
          split at h
          · rename_i h4
            refine ⟨by simpa using h0, ?_⟩
            by_cases hk : m.kind = 3
            · have hl : m.ids.length = 0 := by omega
              exact .inl ⟨hk, List.eq_nil_of_length_eq_zero hl, by omega, by omega⟩
            · exact .inr ⟨hk, by omega, by omega, by omega, h4⟩
          · cases h

theorem nodup_snoc {l : List UInt64} {k : Nat} (h : k < l.length) : (l.take (k + 1)).Nodup ↔ (l.take k).Nodup ∧ (l.take k).contains l[k] = false := by
  rw [List.take_succ_eq_append_getElem h, List.nodup_append]
  constructor
  · rintro ⟨h1, _, h3⟩
    refine ⟨h1, ?_⟩
    rw [← Bool.not_eq_true, List.contains_iff_mem]
    intro hm
    exact h3 _ hm _ (by simp) rfl
  · rintro ⟨h1, h2⟩
    refine ⟨h1, by simp, fun a ha b hb => ?_⟩
    simp only [List.mem_singleton] at hb
    subst hb
    intro e
    subst e
    rw [List.contains_iff_mem.2 ha] at h2
    cases h2
theorem nodup_of_take {l : List UInt64} (k : Nat) (h : l.Nodup) : (l.take k).Nodup := h.sublist (List.take_sublist _ _)
theorem not_nodup {l : List UInt64} {k : Nat} (h : k < l.length) (h1 : (l.take k).contains l[k] = true) : ¬ l.Nodup := fun hn => by
  have := (nodup_snoc h).1 (nodup_of_take (k + 1) hn)
  rw [h1] at this
  cases this.2

/-- IDs as bytes. -/
def encI (l : List UInt64) : List UInt8 := l.flatMap fun x => be 8 x.toNat
theorem encI_length : ∀ l, (encI l).length = 8 * l.length
  | [] => rfl
  | x :: r => by
    have := encI_length r
    unfold encI at *
    simp [be_length, this]
    omega
theorem encI_take {l : List UInt64} {k : Nat} (h : k < l.length) : encI (l.take (k + 1)) = encI (l.take k) ++ be 8 l[k].toNat := by
  unfold encI
  rw [List.take_succ_eq_append_getElem h, List.flatMap_append]
  simp
/-- P6: the encoding of a message that has no error. -/
def encM (m : MsgD) : List UInt8 :=
  if m.kind = 3 then UInt8.ofNat m.kind.toNat :: m.body.data.toList else UInt8.ofNat m.kind.toNat :: UInt8.ofNat m.ids.length :: encI m.ids
theorem encM_bring {m : MsgD} (h : m.kind = 3) : encM m = [UInt8.ofNat m.kind.toNat] ++ m.body.data.toList := by unfold encM; rw [if_pos h]; rfl
theorem encM_ids {m : MsgD} (h : m.kind ≠ 3) : encM m = [UInt8.ofNat m.kind.toNat] ++ [UInt8.ofNat m.ids.length] ++ encI m.ids := by unfold encM; rw [if_neg h]; rfl
theorem encM_ne (m : MsgD) : encM m ≠ [] := by unfold encM; split <;> simp
end Go.Proofs.YtmbejeibcncmmaaGreat.Ms
namespace Go.Proofs.YtmbejeibcncmmaaGreat.Ms

/-- The first byte as a kind. -/
def kindOf (l : List UInt8) : Int := ((l.getD 0 0).toNat : Int)
/-- P7: the errors that do not depend on the fields. -/
def formM (l : List UInt8) : Int :=
  if l.length = 0 then 3 else if within (kindOf l) 1 4 = false then 1 else if kindOf l = 3 then 0 else if l.length < 2 then 3
  else if l.length < 2 + 8 * (l.getD 1 0).toNat then 3 else if 2 + 8 * (l.getD 1 0).toNat < l.length then 4 else 0
def idsOf (n : Nat) (r : List UInt8) : List UInt64 := (List.range n).map fun i => numU ((r.drop (8 * i)).take 8)
/-- The fields of bytes that are well formed. -/
def readM (l : List UInt8) : MsgD := if kindOf l = 3 then ⟨3, [], ⟨(l.drop 1).toArray⟩⟩ else ⟨kindOf l, idsOf (l.getD 1 0).toNat (l.drop 2), ⟨#[]⟩⟩
/-- P7: the error of Decode. -/
def errM (l : List UInt8) : Int := if formM l ≠ 0 then formM l else checkM (readM l)
/-- What Decode answers. -/
def ansM (l : List UInt8) : MsgD := if errM l = 0 then readM l else zeroM

theorem idsOf_length (n : Nat) (r : List UInt8) : (idsOf n r).length = n := by simp [idsOf]
theorem idsOf_at (n : Nat) (r : List UInt8) (k : Nat) (h : k < (idsOf n r).length) : (idsOf n r)[k] = numU ((r.drop (8 * k)).take 8) := by simp [idsOf]
theorem body_nil {s : ByteArray} (h : s.size = 0) : s = ⟨#[]⟩ := by
  apply ByteArray.ext
  exact Array.eq_empty_of_size_eq_zero h
theorem encI_cons (x : UInt64) (r : List UInt64) : encI (x :: r) = be 8 x.toNat ++ encI r := by simp [encI]
theorem drop_encI : ∀ (l : List UInt64) (k : Nat), (encI l).drop (8 * k) = encI (l.drop k)
  | [], k => by simp [encI]
  | x :: r, 0 => rfl
  | x :: r, k + 1 => by
    have hl : (be 8 x.toNat).length = 8 := be_length _ _
    rw [encI_cons, List.drop_append, hl, List.drop_of_length_le (by rw [hl]; omega), List.nil_append, show 8 * (k + 1) - 8 = 8 * k by omega, drop_encI r k]
    rfl
theorem idsOf_encI (l : List UInt64) : idsOf l.length (encI l) = l := by
  apply List.ext_getElem (idsOf_length _ _)
  intro k h1 h2
  rw [idsOf_at, drop_encI, List.drop_eq_getElem_cons h2, encI_cons, List.take_left' (be_length _ _), numU_be]
theorem encI_idsOf : ∀ (n : Nat) (r : List UInt8), 8 * n ≤ r.length → encI (idsOf n r) = r.take (8 * n)
  | 0, r, _ => by simp [encI, idsOf]
  | n + 1, r, h => by
    have e : idsOf (n + 1) r = idsOf n r ++ [numU ((r.drop (8 * n)).take 8)] := by simp [idsOf, List.range_succ]
    have e2 : ∀ x, encI (idsOf n r ++ [x]) = encI (idsOf n r) ++ be 8 x.toNat := fun x => by simp [encI]
    have hl : ((r.drop (8 * n)).take 8).length = 8 := by rw [List.length_take, List.length_drop]; omega
    have e3 : be 8 (numU ((r.drop (8 * n)).take 8)).toNat = (r.drop (8 * n)).take 8 := by
      rw [numU_short _ (by omega)]
      have := be_numN ((r.drop (8 * n)).take 8)
      rw [hl] at this
      exact this
    rw [e, e2, encI_idsOf n r (by omega), e3, show 8 * (n + 1) = 8 * n + 8 by omega, List.take_add]

/-! ### A message without an error -/
theorem kind_enc {m : MsgD} (h : checkM m = 0) (r : List UInt8) : kindOf (encM m ++ r) = m.kind := by
  have hk := within_known (checkM_ok h).1
  have e : (encM m ++ r).getD 0 0 = UInt8.ofNat m.kind.toNat := by unfold encM; split <;> rfl
  unfold kindOf
  rw [e, UInt8.toNat_ofNat']
  omega
theorem ids_enc {m : MsgD} (h : checkM m = 0) (h3 : m.kind ≠ 3) : m.ids.length ≤ 20 ∧ m.body = ⟨#[]⟩ ∧ (encM m).length = 2 + 8 * m.ids.length ∧ 0 < m.ids.length := by
  rcases (checkM_ok h).2 with ⟨h4, _⟩ | ⟨_, h5, h6, h7, _⟩
  · exact absurd h4 h3
  · exact ⟨h7, body_nil h5, by rw [encM_ids h3]; simp [encI_length]; omega, h6⟩
theorem second_enc {m : MsgD} (h : checkM m = 0) (h3 : m.kind ≠ 3) (r : List UInt8) : ((encM m ++ r).getD 1 0).toNat = m.ids.length := by
  have e : (encM m ++ r).getD 1 0 = UInt8.ofNat m.ids.length := by rw [encM_ids h3]; rfl
  rw [e, UInt8.toNat_ofNat']
  have := (ids_enc h h3).1
  omega
theorem enc_pos (m : MsgD) : (encM m).length ≠ 0 := fun h => encM_ne m (List.eq_nil_of_length_eq_zero h)
theorem formM_enc {m : MsgD} (h : checkM m = 0) : formM (encM m) = 0 := by
  have hk := kind_enc h []
  rw [List.append_nil] at hk
  unfold formM
  rw [if_neg (enc_pos m), hk, if_neg (by rw [(checkM_ok h).1]; decide)]
  by_cases h3 : m.kind = 3
  · rw [if_pos h3]
  · have h2 := second_enc h h3 []
    rw [List.append_nil] at h2
    obtain ⟨_, _, hl, hp⟩ := ids_enc h h3
    rw [if_neg h3, h2, if_neg (by omega), if_neg (by omega), if_neg (by omega)]
theorem readM_enc {m : MsgD} (h : checkM m = 0) : readM (encM m) = m := by
  have hk := kind_enc h []
  rw [List.append_nil] at hk
  unfold readM
  rw [hk]
  by_cases h3 : m.kind = 3
  · rw [if_pos h3]
    have hi : m.ids = [] := by
      rcases (checkM_ok h).2 with ⟨_, h5, _⟩ | ⟨h4, _⟩
      · exact h5
      · exact absurd h3 h4
    obtain ⟨k, i, b⟩ := m
    simp only at h3 hi
    subst h3 hi
    congr 1
  · have h2 := second_enc h h3 []
    rw [List.append_nil] at h2
    obtain ⟨_, hb, _, _⟩ := ids_enc h h3
    have hd : (encM m).drop 2 = encI m.ids := by rw [encM_ids h3]; rfl
    rw [if_neg h3, h2, hd, idsOf_encI]
    obtain ⟨k, i, b⟩ := m
    simp only at hb
    subst hb
    rfl
theorem enc_inj {m n : MsgD} (hm : checkM m = 0) (hn : checkM n = 0) (h : encM m = encM n) : m = n := by rw [← readM_enc hm, h, readM_enc hn]
theorem errM_enc {m : MsgD} (h : checkM m = 0) : errM (encM m) = 0 := by unfold errM; rw [if_neg (by rw [formM_enc h]; decide), readM_enc h]; exact h
theorem errM_zero {l : List UInt8} (h : errM l = 0) : formM l = 0 ∧ checkM (readM l) = 0 := by
  unfold errM at h
  split at h
  · rename_i hh; exact absurd h hh
  · rename_i hh; exact ⟨by simpa using hh, h⟩
theorem ansM_enc {m : MsgD} (h : checkM m = 0) : ansM (encM m) = m := by unfold ansM; rw [if_pos (errM_enc h), readM_enc h]
theorem zeroM_check : checkM zeroM = 1 := by decide

/-! ### Bytes that are well formed -/
theorem formM_zero {l : List UInt8} (h : formM l = 0) : l.length ≠ 0 ∧ within (kindOf l) 1 4 = true ∧ (kindOf l ≠ 3 → l.length = 2 + 8 * (l.getD 1 0).toNat) := by
  unfold formM at h
  split at h
  · cases h
  · rename_i h0
    split at h
    · cases h
    · rename_i h1
      refine ⟨h0, by simpa using h1, fun h3 => ?_⟩
      rw [if_neg h3] at h
      split at h
      · cases h
      · split at h
        · cases h
        · split at h
          · cases h
          · omega
theorem enc_readM {l : List UInt8} (h : formM l = 0) : encM (readM l) = l := by
  obtain ⟨h0, h1, h2⟩ := formM_zero h
  obtain ⟨a, r, rfl⟩ : ∃ a r, l = a :: r := by
    cases l with
    | nil => exact absurd rfl h0
    | cons a r => exact ⟨a, r, rfl⟩
  have hk : kindOf (a :: r) = (a.toNat : Int) := rfl
  have ha : UInt8.ofNat ((a.toNat : Int)).toNat = a := by simp
  unfold readM
  rw [hk] at h1 h2 ⊢
  by_cases h3 : (a.toNat : Int) = 3
  · rw [if_pos h3, encM_bring rfl]
    have h3' : a = 3 := UInt8.toNat_inj.1 (by simp; omega)
    subst h3'
    simp
  · rw [if_neg h3, encM_ids h3]
    obtain ⟨b, q, rfl⟩ : ∃ b q, r = b :: q := by
      cases r with
      | nil => have := h2 h3; simp at this
      | cons b q => exact ⟨b, q, rfl⟩
    have hl := h2 h3
    have hb : (a :: b :: q).getD 1 0 = b := rfl
    have hd : (a :: b :: q).drop 2 = q := rfl
    rw [hb] at hl ⊢
    rw [hd]
    have hq : q.length = 8 * b.toNat := by simp at hl; omega
    show [UInt8.ofNat ((a.toNat : Int)).toNat] ++ [UInt8.ofNat (idsOf b.toNat q).length] ++ encI (idsOf b.toNat q) = _
    rw [ha, idsOf_length, encI_idsOf _ _ (by omega), List.take_of_length_le (by omega)]
    simp

/-! ### What is cut off or added -/
theorem take_getD (l : List UInt8) (k i : Nat) (h : i < k) : (l.take k).getD i 0 = l.getD i 0 := by
  rw [List.getD_eq_getElem?_getD, List.getElem?_take, if_pos h, List.getD_eq_getElem?_getD]
theorem formM_cut {m : MsgD} (h : checkM m = 0) (h3 : m.kind ≠ 3) (k : Nat) (hk : k < (encM m).length) : formM ((encM m).take k) = 3 := by
  obtain ⟨_, _, hl, _⟩ := ids_enc h h3
  have hlen : ((encM m).take k).length = k := by rw [List.length_take]; omega
  unfold formM
  rw [hlen]
  by_cases k0 : k = 0
  · rw [if_pos k0]
  · have hkk : kindOf ((encM m).take k) = m.kind := by
      have := kind_enc h []
      rw [List.append_nil] at this
      unfold kindOf at *
      rw [take_getD _ _ _ (by omega)]
      exact this
    rw [if_neg k0, hkk, if_neg (by rw [(checkM_ok h).1]; decide), if_neg h3]
    by_cases k1 : k < 2
    · rw [if_pos k1]
    · have h2 := second_enc h h3 []
      rw [List.append_nil] at h2
      rw [if_neg k1, take_getD _ _ _ (by omega), h2, if_pos (by omega)]
theorem formM_more {m : MsgD} (h : checkM m = 0) (h3 : m.kind ≠ 3) (x : List UInt8) (hx : 0 < x.length) : formM (encM m ++ x) = 4 := by
  obtain ⟨_, _, hl, _⟩ := ids_enc h h3
  have hlen : (encM m ++ x).length = 2 + 8 * m.ids.length + x.length := by rw [List.length_append]; omega
  unfold formM
  rw [hlen, if_neg (by omega), kind_enc h x, if_neg (by rw [(checkM_ok h).1]; decide), if_neg h3, if_neg (by omega), second_enc h h3 x, if_neg (by omega), if_pos (by omega)]
theorem errM_form {l : List UInt8} {r : Int} (h : formM l = r) (hr : r ≠ 0) : errM l = r := by unfold errM; rw [if_pos (by rw [h]; exact hr)]; exact h
end Go.Proofs.YtmbejeibcncmmaaGreat.Ms
namespace Go.Proofs.YtmbejeibcncmmaaGreat
open Go.RowKit Go.Maps

/-- A node: its peers (there or not, preferred or not), the time, the tracker's salt and entries, the pool's links, the ledger's deeds, the filters of Wicked and of Poor ones. -/
structure NS where
  peers : Nat → Bool × Bool
  now : Int
  salt : UInt64
  T : List Tr.TEnt
  P : List Ho.LinkD
  A : List DeedD
  W : Ri.RingS
  Q : Ri.RingS
def NS.new (salt : UInt64) : NS := ⟨fun _ => (false, false), 0, salt, [], [], [], Ri.RingS.none 50, Ri.RingS.none 20⟩
/-- What a node is, whatever was done. -/
structure NGood (s : NS) : Prop where
  now : 0 ≤ s.now ∧ s.now ≤ 1099511627776
  T : Tr.Good s.T
  P : Ho.GoodL 24 s.P
  A : Ju.GoodJ s.A
  W : s.W.Good
  Q : s.Q.Good
/-- One is settled: neither requested nor kept. -/
def NS.settle (s : NS) (x : UInt64) : NS := { s with T := Tr.forgetL s.T x, P := Ho.removeL s.P x }
/-- One is accepted. -/
def NS.accept (s : NS) (x : UInt64) (d : DeedD) : NS := ({ s with A := (Ju.acceptL s.A d).2 } : NS).settle x
/-- The first child that pays. -/
def NS.payer (s : NS) (x : UInt64) (d : DeedD) : Option UInt64 := (Ho.childL s.P x).find? fun c => decide (Ju.pairL s.A d ((Ho.deedOf s.P c).getD nod) = (0, 0))
/-- A Poor one and its payer. -/
def NS.seek (s : NS) (x : UInt64) (d : DeedD) : NS × List UInt64 := match s.payer x d with
  | none => (s, [])
  | some c => let t := (s.accept x d).accept c ((Ho.deedOf s.P c).getD nod); (t, Ho.childL t.P x ++ Ho.childL t.P c)
/-- An examination: what the node is then, what is to be examined then. -/
def NS.examine (s : NS) (x : UInt64) (d : DeedD) : NS × List UInt64 :=
  if (Ju.judgeL s.A d).1 = 0 then (s.accept x d, Ho.childL (s.accept x d).P x)
  else if (Ju.judgeL s.A d).1 = 1 then (({ s with Q := s.Q.put x } : NS).settle x).seek x d
  else if (Ju.judgeL s.A d).1 = 3 then (({ s with W := s.W.put x } : NS).settle x, [])
  else (s, [])
theorem remove_len {L : List Ho.LinkD} {x : UInt64} {d : DeedD} (h : Ho.deedOf L x = some d) : (Ho.removeL L x).length < L.length := by
  unfold Ho.deedOf at h
  unfold Ho.removeL
  cases hf : L.find? fun l => l.id == x with
  | none => rw [hf] at h; cases h
  | some l =>
    have hm := List.mem_of_find?_eq_some hf
    have hx := List.find?_some hf
    exact List.length_filter_lt_length_iff_exists.2 ⟨l, hm, by simpa using hx⟩
theorem remove_le (L : List Ho.LinkD) (x : UInt64) : (Ho.removeL L x).length ≤ L.length := List.length_filter_le _ _
theorem settle_P (s : NS) (x : UInt64) : (s.settle x).P = Ho.removeL s.P x := rfl
theorem accept_P (s : NS) (x : UInt64) (d : DeedD) : (s.accept x d).P = Ho.removeL s.P x := rfl
theorem seek_le (s : NS) (x : UInt64) (d : DeedD) : (s.seek x d).1.P.length ≤ s.P.length := by
  unfold NS.seek
  split
  · exact Nat.le_refl _
  · rename_i c _
    show (Ho.removeL (Ho.removeL s.P x) c).length ≤ _
    exact Nat.le_trans (remove_le _ _) (remove_le _ _)
/-- What was in the pool is gone from it, or nothing happened. -/
theorem examine_step (s : NS) (x : UInt64) (d d' : DeedD) (h : Ho.deedOf s.P x = some d') : (s.examine x d).1.P.length < s.P.length ∨ s.examine x d = (s, []) := by
  unfold NS.examine
  split
  · exact .inl (remove_len h)
  · split
    · refine .inl (Nat.lt_of_le_of_lt (seek_le _ x d) ?_)
      exact remove_len h
    · split
      · exact .inl (remove_len h)
      · exact .inr rfl
/-- The queue. -/
def NS.follow (s : NS) (q : List UInt64) : NS := match q with
  | [] => s
  | x :: r => match _h : Ho.deedOf s.P x with
    | none => s.follow r
    | some d => (s.examine x d).1.follow (r ++ (s.examine x d).2)
termination_by (s.P.length, q.length)
decreasing_by
  · exact Prod.Lex.right _ (by simp)
  · rcases examine_step s x d d _h with h1 | h1
    · exact Prod.Lex.left _ _ h1
    · rw [h1]
      exact Prod.Lex.right _ (by simp)
theorem follow_nil (s : NS) : s.follow [] = s := by rw [NS.follow]
theorem follow_none (s : NS) (x : UInt64) (r : List UInt64) (h : Ho.deedOf s.P x = none) : s.follow (x :: r) = s.follow r := by
  rw [NS.follow]
  split
  · rfl
  · rename_i d h'; rw [h] at h'; cases h'
theorem follow_some (s : NS) (x : UInt64) (r : List UInt64) (d : DeedD) (h : Ho.deedOf s.P x = some d) : s.follow (x :: r) = (s.examine x d).1.follow (r ++ (s.examine x d).2) := by
  rw [NS.follow]
  split
  · rename_i h'; rw [h] at h'; cases h'
  · rename_i d' h'
    rw [h] at h'
    cases h'
    rfl
/-- One of the missing. -/
def NS.want (s : NS) (p : Nat) (x : UInt64) : NS := if (Ho.deedOf s.P x).isSome || s.W.has x then s else { s with T := (Tr.annC s.T p x s.now (s.peers p).2).2 }
/-- A Lost one comes into the pool. -/
def NS.adopt (s : NS) (p : Nat) (x : UInt64) (d : DeedD) (ms : List UInt64) : NS :=
  let t : NS := { s with T := Tr.forgetL s.T x, P := (Ho.addC s.P p x d).2 }
  if (Ho.deedOf t.P x).isSome then ms.foldl (fun s m => s.want p m) t else t
/-- A deed is brought. -/
def NS.bring (s : NS) (p : Nat) (d : DeedD) : NS :=
  let t : NS := { s with T := (Tr.answerC s.T p (Ju.idD d)).2 }
  if (Ju.findL t.A (Ju.idD d)).isSome || t.W.has (Ju.idD d) then t
  else
    let r := t.examine (Ju.idD d) d
    (if (Ju.judgeL t.A d).2.1 ≠ [] then r.1.adopt p (Ju.idD d) d (Ju.judgeL t.A d).2.1 else r.1).follow r.2
/-- The time k later, not beyond its end. -/
def NS.later (s : NS) (k : Int) : Int := min (s.now + k) 1099511627776
def NS.knows (s : NS) (x : UInt64) : Bool := (Ju.findL s.A x).isSome || (Ho.deedOf s.P x).isSome || s.W.has x || s.Q.has x
/-- IDs are announced. -/
def NS.announce1 (s : NS) (p : Nat) (x : UInt64) : NS := if s.knows x then s else { s with T := (Tr.annC s.T p x (if (s.peers p).2 then s.now else s.later 3) (s.peers p).2).2 }
def NS.announce (s : NS) (p : Nat) (l : List UInt64) : NS := l.foldl (fun s x => s.announce1 p x) s
/-- IDs are missing. -/
def NS.missing (s : NS) (p : Nat) (l : List UInt64) : NS := l.foldl (fun s x => { s with T := (Tr.answerC s.T p x).2 }) s
/-- The IDs for which a peer is to be asked now. -/
def NS.asks (s : NS) (p : Nat) : List UInt64 := (((Tr.idsOf s.T p).filter ((Tr.ofL s.salt s.T).isNext p))).take (4 - (s.T.filter fun e => e.peer == p && e.st == 2).length)
def NS.request (s : NS) (p : Nat) : NS := (s.asks p).foldl (fun s x => { s with T := (Tr.askC s.T p x (s.later 10)).2 }) s
/-- What is sent: to whom, and the bytes. -/
structure OutD where
  peer : Nat
  bytes : ByteArray
/-- A message, or nothing where it has no encoding. -/
def message (p : Nat) (m : Ms.MsgD) : List OutD := if Ms.checkM m = 0 then [⟨p, str (Ms.encM m)⟩] else []
/-- Wait's work for the first k peers. -/
def NS.wait (s : NS) : Nat → NS × List OutD
  | 0 => (s, [])
  | k + 1 => let r := s.wait k; (r.1.request k, r.2 ++ message k ⟨2, r.1.asks k, ⟨#[]⟩⟩)
def NS.fetch (s : NS) (p : Nat) (l : List UInt64) : List OutD :=
  (l.flatMap fun x => match Ju.findL s.A x with | none => [] | some d => message p ⟨3, [], str (encB d)⟩) ++ message p ⟨4, l.filter (fun x => (Ju.findL s.A x).isNone), ⟨#[]⟩⟩
end Go.Proofs.YtmbejeibcncmmaaGreat
