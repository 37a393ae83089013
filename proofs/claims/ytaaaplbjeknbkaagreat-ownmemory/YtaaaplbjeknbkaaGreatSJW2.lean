/-
  Contracts of package judge: isWicked, payment, Judge.
-/
import Derived.Test.YtaaaplbjeknbkaaGreatSJW1
set_option maxRecDepth 20000
namespace Go.Proofs.YtaaaplbjeknbkaaGreat.So.Ju
open Go.Proofs.YtaaaplbjeknbkaaGreat.Ju
open Go.RowKit Go.Maps

variable {w w' : World} {F : Nat → Prop} {R : Nat} {M : UInt64 → Option DeedD} {os : List UInt64} {sp : List InD} {b s n : Nat} {ev : UInt64 → Option Value} {v : Value}

/-- A function value that says of an In whether it is spent, in every world that keeps K. -/
def SpendsN (K : World → Prop) (f : FuncId) (pre cap : Array Value) (q : InD → Bool) : Prop :=
  (∀ (args : Array Value) (w : World), (callFunc f args).run Tryz.prog w = .ok (.enter f args) w) ∧
  ∀ (x : InD) (w : World), inOk x → K w → Calls Tryz.prog f (pre.push (.agg #[.int .u64 x.1.toNat, .int .i64 x.2]) ++ cap) w fun e w' => e = .returned (.bool (q x)) ∧ Below w.heap.size w w'
theorem finds_led : FindsN (fun w => LedAt w F R M os sp b s n ev v) 110 #[.pointer (some ⟨R, 0, none⟩)] #[] M :=
  ⟨fun _ _ => by kernel_rfl, fun x w hw => find_any x w hw⟩
theorem spends_led : SpendsN (fun w => LedAt w F R M os sp b s n ev v) 112 #[.pointer (some ⟨R, 0, none⟩)] #[] (fun e => sp.contains e) :=
  ⟨fun _ _ => by kernel_rfl, fun x w hx hw => isSpent_any x hx _ rfl w hw⟩
/-- A function value that says of an In whether it is chosen, in every world that keeps K. -/
def PicksO (K : World → Prop) (f : FuncId) (cap : Array Value) (q : InD → Bool) : Prop :=
  (∀ (args : Array Value) (w : World), (callFunc f args).run Tryz.prog w = .ok (.enter f args) w) ∧
  ∀ (e : InD) (w : World), inOk e → K w → Calls Tryz.prog f (#[inV e] ++ cap) w fun x w' => x = .returned (.bool (q e)) ∧ Below w.heap.size w w'
theorem inIndexO_any (K : World → Prop) (hK : ∀ a b, K a → Below a.heap.size a b → K b) (f : FuncId) (cap : Array Value) (q : InD → Bool) (hp : PicksO K f cap q) (l : List InD) (a : Option Addr) (cp : Nat) (w : World) (hw : K w) (hl : l.length ≤ 1000) (hi : InsAt w a l) :
    Calls Tryz.prog 162 #[.slice a l.length cp, .func (.func f) #[] cap] w fun e w' => e = .returned (.int .i64 (firstAt q l)) ∧ Below w.heap.size w w' := by
  have hcf := hp.1
  have HP := Lib.hid hp.2
  have HK := Lib.hid hK
  have HW := Lib.hid hw
  clear hp hK hw
  go_enter Tryz.func162, Tryz.ntmps162
  go_wp2
  go_loopw [8] (fun i wr => ∃ k : Nat, k ≤ l.length ∧ i = .int .i64 k ∧ Hid ((l.take k).findIdx? q = none) ∧ Below w.heap.size w wr) (fun i _ => l.length - (intOf i).toNat)
  case atStart => exact ⟨0, Nat.zero_le _, rfl, Lib.hid rfl, Below.refl _ _⟩
  case round =>
    obtain ⟨k, hk, rfl, NO, hbel⟩ := hrel
    by_cases hlt : k < l.length
    · obtain ⟨b, o, rfl, hb, c0, c1, hok⟩ := insAt_kept hbel hi k hlt
      have HOK : Hid (inOk l[k]) := Lib.hid hok
      clear hok
      go_wp2_with fail
      refine (HP.out l[k] _ HOK.out (HK.out _ _ HW.out hbel)).mono ?_
      rintro e w1 ⟨rfl, hb1⟩
      cases hq : q l[k] with
      | true =>
        have HQ := Lib.hid hq
        clear hq
        go_wp2
        go_ret
        refine ⟨ret_i64 ?_, kept_trans hbel hb1⟩
        exact (firstAt_hit hlt NO.out HQ.out).symm
      | false =>
        have HQ := Lib.hid hq
        clear hq
        go_wp2
        go_roundw
        case rel => exact ⟨k + 1, by omega, by go_num, Lib.hid (firstAt_miss hlt NO.out HQ.out), kept_trans hbel hb1⟩
        case measure => simp [intOf]; omega
    · go_wp2
      go_ret
      refine ⟨ret_i64 ?_, hbel⟩
      have := NO.out
      rw [List.take_of_length_le (by omega)] at this
      unfold firstAt
      rw [this]
theorem inContainsO_any (K : World → Prop) (hK : ∀ a b, K a → Below a.heap.size a b → K b) (f : FuncId) (fc : Array Value) (q : InD → Bool) (hp : PicksO K f fc q) (l : List InD) (a : Option Addr) (cp : Nat) (w : World) (hw : K w) (hl : l.length ≤ 1000) (hi : InsAt w a l) :
    Calls Tryz.prog 142 #[.slice a l.length cp, .func (.func f) #[] fc] w fun e w' => e = .returned (.bool (l.any q)) ∧ Below w.heap.size w w' := by
  have HP := Lib.hid hp
  have HK := Lib.hid hK
  have HW := Lib.hid hw
  have HI := Lib.hid hi
  clear hp hK hw hi
  go_enter Tryz.func142, Tryz.ntmps142
  go_wp2_with fail
  refine (inIndexO_any K HK.out f fc q HP.out l _ _ w HW.out hl HI.out).mono ?_
  rintro e w1 ⟨rfl, hb1⟩
  have e1 := firstAt_neg q l
  obtain ⟨i, hi⟩ : ∃ i, firstAt q l = i := ⟨_, rfl⟩
  rw [hi] at e1 ⊢
  go_wp2
  go_ret
  exact ⟨rfl, hb1⟩
/-- What the closure of isWicked captured. -/
def Caught (c1 c2 : Nat) (f1 : FuncId) (p1 q1 : Array Value) (f2 : FuncId) (p2 q2 : Array Value) (w : World) : Prop := w.cell? ⟨c1, 0, none⟩ = some (.func (.func f1) p1 q1) ∧ w.cell? ⟨c2, 0, none⟩ = some (.func (.func f2) p2 q2)
set_option maxRecDepth 20000 in
theorem wicked1_any (K : World → Prop) (hK : ∀ a b, K a → Below a.heap.size a b → K b) (f1 f2 : FuncId) (p1 q1 p2 q2 : Array Value) (M : UInt64 → Option DeedD) (q : InD → Bool) (h1 : FindsN K f1 p1 q1 M) (h2 : SpendsN K f2 p2 q2 q) (c1 c2 : Nat) (e : InD) (he : inOk e) (w : World) (hw : K w) (hc : Caught c1 c2 f1 p1 q1 f2 p2 q2 w) (r : Bool) (hr : badIn M q e = r) :
    Calls Tryz.prog 144 #[.agg #[.int .u64 e.1.toNat, .int .i64 e.2], .pointer (some ⟨c1, 0, none⟩), .pointer (some ⟨c2, 0, none⟩)] w fun x w' => x = .returned (.bool r) ∧ Below w.heap.size w w' := by
  have hf1 := h1.1
  have hf2 := h2.1
  have H1 := Lib.hid h1.2
  have H2 := Lib.hid h2.2
  have HK := Lib.hid hK
  have hk0 := kept_new w (.cells #[.int .u64 e.1.toNat, .int .i64 e.2] 62)
  have HW := Lib.hid (hK _ _ hw hk0)
  have z1 := kept_cell hk0 hc.1
  have z2 := kept_cell hk0 hc.2
  have s1 := (cell_spot hc.1).2
  have s2 := (cell_spot hc.2).2
  have HB0 := Lib.hid hk0
  have HE := Lib.hid he
  have HR := Lib.hid hr
  clear h1 h2 hK hw hc hk0 he hr
  obtain ⟨ex, ea⟩ := e
  simp only at HW z1 z2 HB0 HE HR ⊢
  go_enter Tryz.func144, Tryz.ntmps144
  go_wp2_with fail
  with_reducible refine (H1.out ex _ HW.out).mono ?_
  rintro x w1 ⟨a1, cc1, rfl, _, _, hb1⟩
  obtain ⟨d0, d1, hs1⟩ := box_pair hb1
  obtain ⟨dd, hdd⟩ : ∃ d, (M ex).getD nod = d := ⟨_, rfl⟩
  rw [hdd]
  have hbad : r = (decide (ea ≥ dd.outs) || q (ex, ea)) := by rw [← HR.out]; unfold badIn; rw [hdd]
  obtain ⟨dl, dO, dg, df⟩ := dd
  simp only
  obtain ⟨rr, hrr⟩ : ∃ r, (M ex).isSome = r := ⟨_, rfl⟩
  rw [hrr]
  have hk3 := kept_new w1 (.cells #[.slice a1 dl.length cc1, .int .i64 dO, .int .i64 dg, .int .i64 df] 50)
  have HW3 := Lib.hid (HK.out _ _ HW.out (kept_trans hb1 hk3))
  have y2 := kept_cell hb1 z2
  have y3 := (cell_spot y2).2
  have HB3 := Lib.hid (kept_trans (kept_trans HB0.out hb1) hk3)
  clear hdd hrr hb1 hk3
  simp only at hbad
  by_cases hge : ea ≥ dO
  · have hd : decide (ea ≥ dO) = true := decide_eq_true hge
    rw [hd, Bool.true_or] at hbad
    have HQ := Lib.hid hbad
    clear hge hbad
    go_wp2_with fail
    go_ret
    exact ⟨ret_bool HQ.out.symm, HB3.out⟩
  · have hd : decide (ea ≥ dO) = false := decide_eq_false hge
    rw [hd, Bool.false_or] at hbad
    have HQ := Lib.hid hbad
    clear hge hbad
    go_wp2_with fail
    with_reducible refine (H2.out (ex, ea) _ HE.out HW3.out).mono ?_
    rintro x w4 ⟨rfl, hb4⟩
    go_wp2_with fail
    go_ret
    exact ⟨ret_bool HQ.out.symm, kept_trans HB3.out hb4⟩
theorem caught_kept {c1 c2 : Nat} {f1 f2 : FuncId} {p1 q1 p2 q2 : Array Value} {a b : World} (h : Caught c1 c2 f1 p1 q1 f2 p2 q2 a) (hb : Below a.heap.size a b) : Caught c1 c2 f1 p1 q1 f2 p2 q2 b := ⟨kept_cell hb h.1, kept_cell hb h.2⟩
set_option maxRecDepth 20000 in
theorem isWicked_any (K : World → Prop) (hK : ∀ a b, K a → Below a.heap.size a b → K b) (f1 f2 : FuncId) (p1 q1 p2 q2 : Array Value) (M : UInt64 → Option DeedD) (q : InD → Bool) (h1 : FindsN K f1 p1 q1 M) (h2 : SpendsN K f2 p2 q2 q) (d : DeedD) (a : Option Addr) (cp : Nat) (w : World) (hw : K w) (hl : d.ins.length ≤ 8) (hi : InsAt w a d.ins) (r : Bool) (hr : wickedL M q d.ins = r) :
    Calls Tryz.prog 111 #[.agg #[.slice a d.ins.length cp, .int .i64 d.outs, .int .i64 d.weight, .int .i64 d.fee], .func (.func f1) p1 q1, .func (.func f2) p2 q2] w fun e w' => e = .returned (.bool r) ∧ Below w.heap.size w w' := by
  obtain ⟨l, o, g, fe⟩ := d
  simp only at hl hi hr ⊢
  obtain ⟨w3, hw3⟩ : ∃ x, x = ((w.alloc (.cells #[.slice a l.length cp, .int .i64 o, .int .i64 g, .int .i64 fe] 50)).alloc (.cells #[.func (.func f1) p1 q1] 160)).alloc (.cells #[.func (.func f2) p2 q2] 162) := ⟨_, rfl⟩
  have hk3 : Below w.heap.size w w3 := by rw [hw3]; exact kept_alloc (kept_alloc (kept_new _ _) _) _
  have hcau : Caught (w.heap.size + 1) (w.heap.size + 2) f1 p1 q1 f2 p2 q2 w3 := by
    rw [hw3]
    constructor
    · simp [go_sem]
    · simp [go_sem]
  have HP : Hid (PicksO (fun w => K w ∧ Caught (w3.heap.size - 2) (w3.heap.size - 1) f1 p1 q1 f2 p2 q2 w) 144 #[.pointer (some ⟨w.heap.size + 1, 0, none⟩), .pointer (some ⟨w.heap.size + 2, 0, none⟩)] (badIn M q)) := Lib.hid ⟨fun _ _ => by kernel_rfl, fun e we he hwe => by
    have hz : w3.heap.size = w.heap.size + 3 := by rw [hw3]; simp
    rw [hz] at hwe
    exact wicked1_any K hK f1 f2 p1 q1 p2 q2 M q h1 h2 _ _ e he we hwe.1 hwe.2 _ rfl⟩
  have HW : Hid (K w3 ∧ Caught (w3.heap.size - 2) (w3.heap.size - 1) f1 p1 q1 f2 p2 q2 w3) := Lib.hid ⟨hK _ _ hw hk3, by
    have hz : w3.heap.size = w.heap.size + 3 := by rw [hw3]; simp
    rw [hz]
    exact hcau⟩
  have HKK : Hid (∀ a b, (K a ∧ Caught (w3.heap.size - 2) (w3.heap.size - 1) f1 p1 q1 f2 p2 q2 a) → Below a.heap.size a b → (K b ∧ Caught (w3.heap.size - 2) (w3.heap.size - 1) f1 p1 q1 f2 p2 q2 b)) := Lib.hid fun a b h hb => ⟨hK a b h.1 hb, caught_kept h.2 hb⟩
  have HI := Lib.hid (insAt_kept hk3 hi)
  have HB := Lib.hid hk3
  have HW3 := Lib.hid hw3
  have HR := Lib.hid hr
  clear hK h1 h2 hw hi hk3 hcau hw3 hr
  go_enter Tryz.func111, Tryz.ntmps111
  go_wp2_with fail
  rw [← HW3.out]
  refine (inContainsO_any _ HKK.out _ _ _ HP.out l _ _ _ HW.out (by omega) HI.out).mono ?_
  rintro e w4 ⟨rfl, hb4⟩
  rw [show l.any (badIn M q) = r from HR.out]
  go_wp2_with fail
  go_ret
  exact ⟨rfl, kept_trans HB.out hb4⟩
end Go.Proofs.YtaaaplbjeknbkaaGreat.So.Ju
