/-
  Contracts of package judge: New, find, isSpent, Has, missing.
-/
import Derived.Test.YtaaaplbjeknbkaaGreatSLed
import Derived.Test.YtaaaplbjeknbkaaGreatJ4
import Derived.BigQuiet
import Derived.Deep.QuietTactic
set_option maxRecDepth 20000
namespace Go.Proofs.YtaaaplbjeknbkaaGreat.So.Ju
open Go.Proofs.YtaaaplbjeknbkaaGreat.Ju
open Go.RowKit Go.Maps

variable {w w' : World} {F : Nat → Prop} {R : Nat} {M : UInt64 → Option DeedD} {os : List UInt64} {sp : List InD} {b s n : Nat} {ev : UInt64 → Option Value} {v : Value}

theorem own_mono {w : World} {B B' : Nat} {e : TypeId} {size n : Nat} {v : Value} {xs : List Value} (h : w.ownsRow B' e size v n xs) (hb : B ≤ B') : w.ownsRow B e size v n xs :=
  ⟨h.1, h.2.imp id fun ⟨g, cap, cur, q1, q2, q3⟩ => ⟨g, cap, cur, q1, Nat.le_trans hb q2, q3⟩⟩
/-- An empty ledger. -/
theorem led_new (w : World) : Calls Tryz.prog 54 #[] w fun e w' => ∃ R F, e = .returned (.pointer (some ⟨R, 0, none⟩)) ∧ (∀ k, F k → w.heap.size ≤ k) ∧ LedAt w' F R (fun _ => none) [] [] w.heap.size (w.heap.size + 1) 0 (fun _ => none) (.slice none 0 0) ∧ Below w.heap.size w w' := by
  have hmm := @run_makeMap Tryz.prog
  go_enter Tryz.func54, Tryz.ntmps54
  go_wp2
  go_ret
  refine ⟨w.heap.size + 2, fun k => k = w.heap.size ∨ k = w.heap.size + 1 ∨ k = w.heap.size + 2, by simp, fun k hk => by omega, ?_, kept_alloc (kept_alloc (kept_new _ _) _) _⟩
  have hS := set_new (P := Tryz.prog) (k := 62) (e := 4) (ok := inOk) (kl := inKey) (w.alloc (.map #[] 0))
  have hz : (w.alloc (.map #[] 0)).heap.size = w.heap.size + 1 := by simp
  rw [hz] at hS
  refine ⟨?_, tmap_same (tmap_new w) ?_ (fun i hi => by cases hi), fun x => .inl ⟨rfl, rfl⟩, (fun x d h => by cases h), World.ownsRow_nil _ _ _ _, seen_same hS ?_, by omega, .inr (.inr rfl), .inl rfl, .inr (.inl rfl), (fun g hg => by cases hg), (fun k hk => ?_)⟩
  · have := heap_alloc_new ((w.alloc (.map #[] 0)).alloc (.map #[] 0)) (.cells #[.map (some w.heap.size), .slice none 0 0, .map (some (w.heap.size + 1))] 106)
    simpa using this
  · exact (heap_alloc_old _ _ (by simp; omega)).trans (heap_alloc_old _ _ (by simp))
  · exact heap_alloc_old _ _ (by simp)
  · simp
    omega
/-- The answer of find. -/
def FindAns (w : World) (m : Option DeedD) (e : Ending) (w' : World) : Prop :=
  ∃ a c, e = .returned (.tuple #[.agg #[.slice a (m.getD nod).ins.length c, .int .i64 (m.getD nod).outs, .int .i64 (m.getD nod).weight, .int .i64 (m.getD nod).fee], .bool m.isSome]) ∧ (m.getD nod).ins.length ≤ 8 ∧ InsAt w' a (m.getD nod).ins ∧ Below w.heap.size w w'
set_option maxRecDepth 20000 in
theorem find_any (x : UInt64) (w : World) (h : LedAt w F R M os sp b s n ev v) :
    Calls Tryz.prog 110 #[.pointer (some ⟨R, 0, none⟩), .int .u64 x.toNat] w (FindAns w (M x)) := by
  have hk0 := kept_new w (.cells #[.slice none 0 0, .int .i64 0, .int .i64 0, .int .i64 0] 50)
  have hmc := (h.kept hk0).mapc
  have hlk := (h.kept hk0).look_ok x
  have hlt := h.lt
  have hth := h.there_is x
  obtain ⟨a, c, hv, hl, hc, hi⟩ := h.deed x
  rw [hv, hth] at hlk
  unfold deedV at hlk
  clear h hv hth
  unfold FindAns
  obtain ⟨r, hr⟩ : ∃ r, (M x).isSome = r := ⟨_, rfl⟩
  rw [hr] at hlk ⊢
  clear hr
  obtain ⟨d, hd⟩ : ∃ d, (M x).getD nod = d := ⟨_, rfl⟩
  rw [hd] at hlk hl hi hc ⊢
  clear hd hc hk0
  obtain ⟨l, o, g, f⟩ := d
  simp only at hlk hl hi ⊢
  have HI := Lib.hid hi
  clear hi
  go_enter Tryz.func110, Tryz.ntmps110
  go_wp2
  refine bodyPost_ret (v := .tuple #[.agg #[.slice a l.length c, .int .i64 o, .int .i64 g, .int .i64 f], .bool r]) (by simp [results, Tryz.results110, go_sem]) rfl ?_
  have hk : Below w.heap.size w ((w.alloc (.cells #[.slice a l.length c, .int .i64 o, .int .i64 g, .int .i64 f] 50)).alloc (.cells #[.slice a l.length c, .int .i64 o, .int .i64 g, .int .i64 f] 50)) := kept_alloc (kept_new _ _) _
  exact ⟨a, c, rfl, hl, insAt_kept hk HI.out, hk⟩
set_option maxRecDepth 20000 in
theorem isSpent_any (x : InD) (hx : inOk x) (r : Bool) (hr : sp.contains x = r) (w : World) (h : LedAt w F R M os sp b s n ev v) :
    Calls Tryz.prog 112 #[.pointer (some ⟨R, 0, none⟩), .agg #[.int .u64 x.1.toNat, .int .i64 x.2]] w fun e w' => e = .returned (.bool r) ∧ Below w.heap.size w w' := by
  have hk0 := kept_new w (.cells #[.int .u64 x.1.toNat, .int .i64 x.2] 62)
  have hsc := (h.kept hk0).spentc
  have hlt := h.lt
  have hlk := fun q => seen_look (seen_same (h.kept hk0).spent (w' := (w.alloc (.cells #[.int .u64 x.1.toNat, .int .i64 x.2] 62)).drewN q) rfl) x hx
  rw [hr] at hlk
  clear h hr
  go_enter Tryz.func112, Tryz.ntmps112
  go_wp2_with fail
  go_quiet (fail)
  go_wp2_with fail
  go_ret
  exact ⟨rfl, below_drewN hk0 _⟩
set_option maxRecDepth 20000 in
theorem hasJ_any (x : UInt64) (w : World) (h : LedAt w F R M os sp b s n ev v) (r : Bool) (hr : (M x).isSome = r) :
    Calls Tryz.prog 107 #[.pointer (some ⟨R, 0, none⟩), .int .u64 x.toNat] w fun e w' => e = .returned (.bool r) ∧ Below w.heap.size w w' := by
  have H := Lib.hid h
  have HR := Lib.hid hr
  clear h hr
  go_enter Tryz.func107, Tryz.ntmps107
  go_wp2_with fail
  with_reducible refine (find_any x _ H.out).mono ?_
  rintro e w1 ⟨a, c, rfl, hl, hi, hb1⟩
  rw [HR.out]
  obtain ⟨d, hd⟩ : ∃ d, (M x).getD nod = d := ⟨_, rfl⟩
  rw [hd]
  clear hd hl hi
  go_wp2_with fail
  go_ret
  exact ⟨rfl, kept_alloc hb1 _⟩
/-- A function value that finds the deed of an ID, in every world that keeps K. -/
def FindsN (K : World → Prop) (f : FuncId) (pre cap : Array Value) (M : UInt64 → Option DeedD) : Prop :=
  (∀ (args : Array Value) (w : World), (callFunc f args).run Tryz.prog w = .ok (.enter f args) w) ∧
  ∀ (x : UInt64) (w : World), K w → Calls Tryz.prog f (pre.push (.int .u64 x.toNat) ++ cap) w (FindAns w (M x))
set_option maxRecDepth 20000 in
theorem missing_any (K : World → Prop) (hK : ∀ a b, K a → Below a.heap.size a b → K b) (f : FuncId) (pre cap : Array Value) (M : UInt64 → Option DeedD) (hp : FindsN K f pre cap M) (d : DeedD) (a : Option Addr) (cp : Nat) (w : World) (hw : K w) (hl : d.ins.length ≤ 8) (hi : InsAt w a d.ins) :
    Calls Tryz.prog 109 #[.agg #[.slice a d.ins.length cp, .int .i64 d.outs, .int .i64 d.weight, .int .i64 d.fee], .func (.func f) pre cap] w (GaveIds w (missL M d.ins)) := by
  have hcf := hp.1
  have HP := Lib.hid hp.2
  have HK := Lib.hid hK
  have hk0 := kept_new w (.cells #[.slice a d.ins.length cp, .int .i64 d.outs, .int .i64 d.weight, .int .i64 d.fee] 50)
  have HW := Lib.hid (hK _ _ hw hk0)
  have HI := Lib.hid (insAt_kept hk0 hi)
  have HB0 := Lib.hid hk0
  clear hp hK hw hi hk0
  obtain ⟨l, o, g, fe⟩ := d
  simp only at hl HI HB0 HW ⊢
  go_enter Tryz.func109, Tryz.ntmps109
  go_wp2_with fail
  obtain ⟨w0, hw0⟩ : ∃ x, x = w.alloc (.cells #[.slice a l.length cp, .int .i64 o, .int .i64 g, .int .i64 fe] 50) := ⟨_, rfl⟩
  rw [← hw0] at HI HB0 HW ⊢
  clear hw0
  go_loopw [5, 13] (fun vi i wr => ∃ k : Nat, k ≤ l.length ∧ i = .int .i64 k ∧ Hid (OwnIds wr w0.heap.size vi (missL M (l.take k))) ∧ Hid (Below w0.heap.size w0 wr)) (fun _ i _ => l.length - (intOf i).toNat)
  case atStart => exact ⟨0, Nat.zero_le _, rfl, Lib.hid (ownIds_nil _ _), Lib.hid (Below.refl _ _)⟩
  case round =>
    obtain ⟨k, hk, rfl, HO, HB⟩ := hrel
    rename_i u5
    by_cases hkl : k < l.length
    · obtain ⟨bb, oo, rfl, hbb, c0, c1, _⟩ := insAt_kept HB.out HI.out k hkl
      have hst := missL_step (M := M) hkl
      have hlen := missL_length M (l.take k)
      rw [List.length_take] at hlen
      obtain ⟨⟨ix, ia⟩, hix⟩ : ∃ q, l[k] = q := ⟨_, rfl⟩
      rw [hix] at c0 c1 hst
      simp only at c0 c1 hst
      have hk1 := kept_new wr (.cells #[.int .u64 ix.toNat, .int .i64 ia] 62)
      have HK1 := Lib.hid hk1
      have HW1 := Lib.hid (HK.out _ _ HW.out (kept_trans HB.out hk1))
      clear hix hk1
      go_wp2_with fail
      with_reducible refine (HP.out ix _ HW1.out).mono ?_
      rintro e w1 ⟨a1, cc1, rfl, _, _, hb1⟩
      obtain ⟨d0, d1, hs1⟩ := box_pair hb1
      have hb2 := kept_trans HK1.out hb1
      obtain ⟨dd, hdd⟩ : ∃ d, (M ix).getD nod = d := ⟨_, rfl⟩
      rw [hdd]
      obtain ⟨dl, dO, dg, df⟩ := dd
      simp only
      have hk3 := kept_new w1 (.cells #[.slice a1 dl.length cc1, .int .i64 dO, .int .i64 dg, .int .i64 df] 50)
      have hb3 := kept_trans hb2 hk3
      have HO3 := Lib.hid (owns_below HO.out hb3)
      have HB3 := Lib.hid (kept_trans HB.out hb3)
      clear hdd hb1 hb2 hb3 hk3 HK1 HW1
      cases hq : (M ix).isSome with
      | true =>
        rw [if_pos hq] at hst
        have HST := Lib.hid hst
        clear hst hq
        go_wp2_with fail
        go_roundw
        case rel => exact ⟨k + 1, by omega, by go_num, Lib.hid (by rw [HST.out]; exact HO3.out), HB3⟩
        case measure => simp [intOf]; omega
      | false =>
        rw [if_neg (by rw [hq]; simp)] at hst
        obtain ⟨ja, jc, rfl, _, hids, _⟩ := owns_idsAt HO3.out
        have HIDS := Lib.hid hids
        clear hids hq
        cases hc : (missL M (l.take k)).contains ix with
        | true =>
          rw [if_pos hc] at hst
          have HST := Lib.hid hst
          have HQ := Lib.hid hc
          clear hst hc
          go_wp2_with fail
          with_reducible refine (idHas_any ix _ true HQ.out _ _ _ (by omega) HIDS.out).mono ?_
          rintro e w2 ⟨rfl, hb2⟩
          have HO4 := Lib.hid (owns_below HO3.out hb2)
          have HB4 := Lib.hid (kept_trans HB3.out hb2)
          clear hb2
          go_wp2_with fail
          go_roundw
          case rel => exact ⟨k + 1, by omega, by go_num, Lib.hid (by rw [HST.out]; exact HO4.out), HB4⟩
          case measure => simp [intOf]; omega
        | false =>
          rw [if_neg (by rw [hc]; simp)] at hst
          have HST := Lib.hid hst
          have HQ := Lib.hid hc
          clear hst hc
          go_wp2_with fail
          with_reducible refine (idHas_any ix _ false HQ.out _ _ _ (by omega) HIDS.out).mono ?_
          rintro e w2 ⟨rfl, hb2⟩
          have d0' := kept_cell (kept_trans (kept_new _ _) hb2) d0
          have hs2 := (cell_spot d0').2
          have HO4 := Lib.hid (owns_below HO3.out hb2)
          have HB4 := Lib.hid (kept_trans HB3.out hb2)
          clear hb2
          go_wp2_with (at_builtin; refine append_id rfl _ _ rfl ix rfl rfl HO4.out (by omega) HB4.out.size ?_; intro g4 cap4 w4 ho4 hg4 hg5)
          have HO5 := Lib.hid ho4
          have HB5 := Lib.hid (HB4.out.grown hg5 HB4.out.size (fun j hj => (HO4.out.lt j hj).1))
          clear ho4 hg4 hg5
          go_wp2_with fail
          go_roundw
          case rel => exact ⟨k + 1, by omega, by go_num, Lib.hid (by rw [HST.out]; simpa using HO5.out), HB5⟩
          case measure => simp [intOf]; omega
    · have he : l.take k = l := List.take_of_length_le (by omega)
      have HO' := HO.out
      rw [he] at HO'
      obtain ⟨a6, cap6, e6, _, _, _⟩ := owns_idsAt HO'
      subst e6
      have HE := Lib.hid HO'
      clear HO' he
      go_wp2_with fail
      go_ret
      exact ⟨a6, cap6, rfl, own_mono HE.out HB0.out.size, kept_trans HB0.out HB.out⟩
end Go.Proofs.YtaaaplbjeknbkaaGreat.So.Ju
