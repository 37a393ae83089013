/-
  Contracts of the program's Check and of the reference's DeedCheck: both answer 'checkD'.
  The contract of the reference's DeedCheck.
  What the checks of a deed tell, and their contracts by the answer.
  Ins of a deed in a block of their own; slices.IndexFunc and ContainsFunc of Ins; the pool's spends and clone.
  The map of a pool: from IDs to deeds, whose values are known to the sign; perhaps with a range over it under way.
  Rows in blocks of their own, as a thing owns them; the Ins of a deed that passes the check.
  The contract of deed.Clone: a deed whose Ins lie in a new block.
-/
import Derived.Test.YtaaaplbjeknbkaaGreatJ2
import Derived.Maps.OwnOps
import Derived.Maps.Own
import Derived.StillTailTactics
import Derived.Test.YtaaaplbjeknbkaaGreatJ1
import Derived.Maps.OwnSet
import Derived.Maps.RangeWalk
import Derived.Deep.AppendLies
import Derived.Shelf.SlMaps.Clone
set_option maxRecDepth 20000
namespace Go.Proofs.YtaaaplbjeknbkaaGreat
open Go.RowKit

abbrev Seen (w : World) (b n : Nat) (ks : List InD) : Prop := SetIs Tryz.prog 62 4 inOk inKey w b n ks

theorem repeats_any (l : List InD) (a : Option Addr) (cap : Nat) (w : World) (hl : l.length ≤ 8) (hi : InsAt w a l) :
    Calls Tryz.prog 71 #[.slice a l.length cap] w fun e w' => e = .returned (.bool (dupB l)) ∧ Below w.heap.size w w' := by
  have hmm := @run_makeMap Tryz.prog
  go_enter Tryz.func71, Tryz.ntmps71
  go_wp2
  go_loopw [9] (fun i wr => ∃ k : Nat, k ≤ l.length ∧ i = .int .i64 k ∧ Hid ((l.take k).Nodup) ∧ Hid (Seen wr w.heap.size k (l.take k)) ∧ Below w.heap.size w wr) (fun i _ => l.length - (intOf i).toNat)
  case atStart => exact ⟨0, Nat.zero_le _, rfl, Lib.hid (by simp), Lib.hid (set_new w), kept_new w _⟩
  case round =>
    obtain ⟨k, hk, rfl, NO, SE, hbel⟩ := hrel
    by_cases hlt : k < l.length
    · obtain ⟨b, o, rfl, hb, hd0, hd1, hok⟩ := insAt_kept hbel hi k hlt
      have SA := set_alloc SE.out (.cells #[.int .u64 l[k].1.toNat, .int .i64 l[k].2] 62)
      have hlook := set_look SA in_keyed Tryz.underlying57 Tryz.underlying4 (zero_bool _) hok (in_key _ hok)
      by_cases hx : (l.take k).contains l[k] = true
      · rw [hx] at hlook
        have HX := Lib.hid hx
        clear hx
        go_wp2
        go_ret
        exact ⟨ret_bool (dup_at hlt HX.out).symm, kept_alloc hbel _⟩
      · rw [Bool.not_eq_true] at hx
        rw [hx] at hlook
        obtain ⟨w1, hput, S1, hg⟩ := set_put SA in_keyed Tryz.underlying57 Tryz.underlying4 (by unfold maxLen; omega) hok (in_key _ hok) (fun y hy e => inKey_inj hy hok e)
        have HX := Lib.hid hx
        clear hx
        go_wp2
        go_roundw
        case rel => exact ⟨k + 1, by omega, by go_num, Lib.hid (nodup_take hlt NO.out HX.out), Lib.hid (take_snoc hlt ▸ S1), (kept_alloc hbel _).grown hg (by have := hbel.size; simp; omega) (fun j hj => by cases hj; exact Nat.le_refl _)⟩
        case measure => simp [intOf]; omega
    · go_wp2
      go_ret
      exact ⟨ret_bool (dup_none (by omega) NO.out).symm, hbel⟩
theorem repeats_is (l : List InD) (a : Option Addr) (cap : Nat) (w : World) (r : Bool) (hl : l.length ≤ 8) (hi : InsAt w a l) (h : dupB l = r) :
    Calls Tryz.prog 71 #[.slice a l.length cap] w fun e w' => e = .returned (.bool r) ∧ Below w.heap.size w w' := h ▸ repeats_any l a cap w hl hi

theorem within_yes (n lo hi : Int) (w : World) (h : within n lo hi = true) : Calls Tryz.prog 70 #[.int .i64 n, .int .i64 lo, .int .i64 hi] w fun e w' => e = .returned (.bool true) ∧ w = w' := by
  unfold within at h
  have h := of_decide_eq_true h
  obtain ⟨h1, h2⟩ := h
  go_enter Tryz.func70, Tryz.ntmps70
  go_wp2
  go_ret
  exact ⟨rfl, rfl⟩
theorem within_no (n lo hi : Int) (w : World) (h : within n lo hi = false) : Calls Tryz.prog 70 #[.int .i64 n, .int .i64 lo, .int .i64 hi] w fun e w' => e = .returned (.bool false) ∧ w = w' := by
  unfold within at h
  have h := of_decide_eq_false h
  by_cases h1 : lo ≤ n
  · have h2 : ¬ n ≤ hi := fun h2 => h ⟨h1, h2⟩
    clear h
    go_enter Tryz.func70, Tryz.ntmps70
    go_wp2
    go_ret
    exact ⟨rfl, rfl⟩
  · clear h
    go_enter Tryz.func70, Tryz.ntmps70
    go_wp2
    go_ret
    exact ⟨rfl, rfl⟩
/-- A deed as a value: its Ins lie behind address a. -/
def deedV (a : Option Addr) (cap : Nat) (d : DeedD) : Value := .agg #[.slice a d.ins.length cap, .int .i64 d.outs, .int .i64 d.weight, .int .i64 d.fee]

theorem check_large (l : List InD) (o g f : Int) (a : Option Addr) (cap : Nat) (w : World) (hl : 8 < l.length) :
    Calls Tryz.prog 31 #[.agg #[.slice a l.length cap, .int .i64 o, .int .i64 g, .int .i64 f]] w fun e w' => e = .returned (.int .i64 2) ∧ Below w.heap.size w w' := by
  go_enter Tryz.func31, Tryz.ntmps31
  go_wp2
  go_ret
  exact ⟨rfl, kept_new _ _⟩

/-- What Check answers where there are at most eight Ins. -/
def checkS (l : List InD) (o g f : Int) : Int := if atsB l = false then 1 else if dupB l = true then 6 else if restB o g f = false then 1 else 0

set_option maxHeartbeats 2000000 in
theorem check_small (l : List InD) (o g f : Int) (a : Option Addr) (cap : Nat) (w : World) (hl : l.length ≤ 8) (hi : InsAt w a l) :
    Calls Tryz.prog 31 #[.agg #[.slice a l.length cap, .int .i64 o, .int .i64 g, .int .i64 f]] w fun e w' => e = .returned (.int .i64 (checkS l o g f)) ∧ Below w.heap.size w w' := by
  have hi0 := insAt_kept (kept_new w (.cells #[.slice a l.length cap, .int .i64 o, .int .i64 g, .int .i64 f] 50)) hi
  go_enter Tryz.func31, Tryz.ntmps31
  go_wp2
  go_loopw [13] (fun i wr => ∃ k : Nat, k ≤ l.length ∧ i = .int .i64 k ∧ Hid (atsB (l.take k) = true) ∧ Below (w.alloc (.cells #[.slice a l.length cap, .int .i64 o, .int .i64 g, .int .i64 f] 50)).heap.size (w.alloc (.cells #[.slice a l.length cap, .int .i64 o, .int .i64 g, .int .i64 f] 50)) wr) (fun i _ => l.length - (intOf i).toNat)
  case atStart => exact ⟨0, Nat.zero_le _, rfl, Lib.hid rfl, Below.refl _ _⟩
  case round =>
    obtain ⟨k, hk, rfl, NO, hbel⟩ := hrel
    have hkw := kept_trans (kept_new _ _) hbel
    by_cases hlt : k < l.length
    · obtain ⟨b, oo, rfl, hb, hd0, hd1, hok⟩ := insAt_kept hbel hi0 k hlt
      by_cases hx : within l[k].2 0 15 = true
      · have HX := Lib.hid hx
        clear hx
        go_wp2_with fail
        with_reducible refine (within_yes _ _ _ _ HX.out).mono ?_
        rintro e w' ⟨rfl, rfl⟩
        go_wp2_with fail
        go_roundw
        case rel => exact ⟨k + 1, by omega, by go_num, Lib.hid (atsB_take hlt NO.out HX.out), kept_alloc hbel _⟩
        case measure => simp [intOf]; omega
      · rw [Bool.not_eq_true] at hx
        have HX := Lib.hid hx
        clear hx
        go_wp2_with fail
        with_reducible refine (within_no _ _ _ _ HX.out).mono ?_
        rintro e w' ⟨rfl, rfl⟩
        go_wp2_with fail
        go_ret
        exact ⟨ret_i64 (by unfold checkS; rw [if_pos (atsB_bad hlt HX.out)]), kept_alloc hkw _⟩
    · have hats := NO.out
      rw [List.take_of_length_le (by omega)] at hats
      have HA := Lib.hid hats
      clear hats NO
      obtain ⟨c0, c1, c2, c3, hws⟩ := box_four hbel
      have hir := insAt_kept hbel hi0
      by_cases hdup : dupB l = true
      · have HD := Lib.hid hdup
        clear hdup
        go_wp2_with fail
        with_reducible refine (repeats_is l _ _ _ true hl hir HD.out).mono ?_
        rintro e w1 ⟨rfl, hb1⟩
        go_wp2_with fail
        go_ret
        exact ⟨ret_i64 (by unfold checkS; rw [if_neg (by rw [HA.out]; decide), if_pos HD.out]), kept_trans hkw hb1⟩
      · rw [Bool.not_eq_true] at hdup
        have HD := Lib.hid hdup
        clear hdup
        have base : checkS l o g f = if restB o g f = false then 1 else 0 := by unfold checkS; rw [if_neg (by rw [HA.out]; decide), if_neg (by rw [HD.out]; decide)]
        have HB := Lib.hid base
        clear base
        go_wp2_with fail
        with_reducible refine (repeats_is l _ _ _ false hl hir HD.out).mono ?_
        rintro e w1 ⟨rfl, hb1⟩
        obtain ⟨d0, d1, d2, d3, hws1⟩ := box_four (kept_trans hbel hb1)
        have hk1 := kept_trans hkw hb1
        clear hb1 hbel hkw hir
        by_cases ho : within o 1 16 = true
        · by_cases hg : within g 1 1000 = true
          · by_cases hf : within f 0 1000 = true
            · have HR := Lib.hid (show restB o g f = true by unfold restB; rw [ho, hg, hf]; rfl)
              have HO := Lib.hid ho
              have HG := Lib.hid hg
              have HF := Lib.hid hf
              clear ho hg hf
              go_wp2_with fail
              with_reducible refine (within_yes _ _ _ _ HO.out).mono ?_
              rintro e w' ⟨rfl, rfl⟩
              go_wp2_with fail
              with_reducible refine (within_yes _ _ _ _ HG.out).mono ?_
              rintro e w' ⟨rfl, rfl⟩
              go_wp2_with fail
              with_reducible refine (within_yes _ _ _ _ HF.out).mono ?_
              rintro e w' ⟨rfl, rfl⟩
              go_wp2_with fail
              go_ret
              exact ⟨ret_i64 (by rw [HB.out, if_neg (by rw [HR.out]; decide)]), hk1⟩
            · rw [Bool.not_eq_true] at hf
              have HR := Lib.hid (show restB o g f = false by unfold restB; rw [ho, hg, hf]; rfl)
              have HO := Lib.hid ho
              have HG := Lib.hid hg
              have HF := Lib.hid hf
              clear ho hg hf
              go_wp2_with fail
              with_reducible refine (within_yes _ _ _ _ HO.out).mono ?_
              rintro e w' ⟨rfl, rfl⟩
              go_wp2_with fail
              with_reducible refine (within_yes _ _ _ _ HG.out).mono ?_
              rintro e w' ⟨rfl, rfl⟩
              go_wp2_with fail
              with_reducible refine (within_no _ _ _ _ HF.out).mono ?_
              rintro e w' ⟨rfl, rfl⟩
              go_wp2_with fail
              go_ret
              exact ⟨ret_i64 (by rw [HB.out, if_pos HR.out]), hk1⟩
          · rw [Bool.not_eq_true] at hg
            have HR := Lib.hid (show restB o g f = false by unfold restB; rw [ho, hg]; rfl)
            have HO := Lib.hid ho
            have HG := Lib.hid hg
            clear ho hg
            go_wp2_with fail
            with_reducible refine (within_yes _ _ _ _ HO.out).mono ?_
            rintro e w' ⟨rfl, rfl⟩
            go_wp2_with fail
            with_reducible refine (within_no _ _ _ _ HG.out).mono ?_
            rintro e w' ⟨rfl, rfl⟩
            go_wp2_with fail
            go_ret
            exact ⟨ret_i64 (by rw [HB.out, if_pos HR.out]), hk1⟩
        · rw [Bool.not_eq_true] at ho
          have HR := Lib.hid (show restB o g f = false by unfold restB; rw [ho]; rfl)
          have HO := Lib.hid ho
          clear ho
          go_wp2_with fail
          with_reducible refine (within_no _ _ _ _ HO.out).mono ?_
          rintro e w' ⟨rfl, rfl⟩
          go_wp2_with fail
          go_ret
          exact ⟨ret_i64 (by rw [HB.out, if_pos HR.out]), hk1⟩
end Go.Proofs.YtaaaplbjeknbkaaGreat
namespace Go.Proofs.YtaaaplbjeknbkaaGreat
open Go.RowKit

theorem insAt_take {w : World} {a : Option Addr} {l : List InD} (k : Nat) (h : InsAt w a l) : InsAt w a (l.take k) := fun i hi => by
  have h1 : i < l.length := by rw [List.length_take] at hi; omega
  rw [List.getElem_take]
  exact h i h1
/-- Check, whatever the deed. -/
theorem check_any (d : DeedD) (a : Option Addr) (cap : Nat) (w : World) (hi : InsAt w a d.ins) :
    Calls Tryz.prog 31 #[deedV a cap d] w fun e w' => e = .returned (.int .i64 (checkD d)) ∧ Below w.heap.size w w' := by
  by_cases h : 8 < d.ins.length
  · refine (check_large d.ins d.outs d.weight d.fee a cap w h).mono ?_
    rintro e w' ⟨rfl, hb⟩
    exact ⟨ret_i64 (by unfold checkD; rw [if_pos h]), hb⟩
  · refine (check_small d.ins d.outs d.weight d.fee a cap w (by omega) hi).mono ?_
    rintro e w' ⟨rfl, hb⟩
    exact ⟨ret_i64 (by unfold checkD checkS; rw [if_neg h]), hb⟩
end Go.Proofs.YtaaaplbjeknbkaaGreat
namespace Go.Proofs.YtaaaplbjeknbkaaGreat
open Go.RowKit

theorem check_ok {d : DeedD} (h : checkD d = 0) : d.ins.length ≤ 8 ∧ (∀ k (hk : k < d.ins.length), 0 ≤ (d.ins[k]).2 ∧ (d.ins[k]).2 ≤ 15) ∧ dupB d.ins = false ∧ (1 ≤ d.outs ∧ d.outs ≤ 16) ∧ (1 ≤ d.weight ∧ d.weight ≤ 1000) ∧ (0 ≤ d.fee ∧ d.fee ≤ 1000) := by
  unfold checkD at h
  split at h
  · cases h
  · split at h
    · cases h
    · split at h
      · cases h
      · split at h
        · cases h
        · rename_i h1 h2 h3 h4
          simp only [Bool.not_eq_false, Bool.not_eq_true] at h2 h3 h4
          refine ⟨by omega, fun k hk => ?_, h3, ?_⟩
          · have := List.all_eq_true.1 h2 _ (List.getElem_mem hk)
            exact of_decide_eq_true this
          · unfold restB within at h4
            simp only [Bool.and_eq_true, decide_eq_true_eq] at h4
            exact ⟨h4.1.1, h4.1.2, h4.2⟩

theorem check_is (d : DeedD) (a : Option Addr) (cap : Nat) (w : World) (r : Int) (hi : InsAt w a d.ins) (h : checkD d = r) :
    Calls Tryz.prog 31 #[.agg #[.slice a d.ins.length cap, .int .i64 d.outs, .int .i64 d.weight, .int .i64 d.fee]] w fun e w' => e = .returned (.int .i64 r) ∧ Below w.heap.size w w' := h ▸ check_any d a cap w hi
theorem four_kept {w w' : World} (hg : w.grownBy w' none) {b : Nat} {u0 u1 u2 u3 : Value} (h0 : w.cell? ⟨b, 0, none⟩ = some u0) (h1 : w.cell? ⟨b, 1, none⟩ = some u1) (h2 : w.cell? ⟨b, 2, none⟩ = some u2) (h3 : w.cell? ⟨b, 3, none⟩ = some u3) :
    w'.cell? ⟨b, 0, none⟩ = some u0 ∧ w'.cell? ⟨b, 1, none⟩ = some u1 ∧ w'.cell? ⟨b, 2, none⟩ = some u2 ∧ w'.cell? ⟨b, 3, none⟩ = some u3 :=
  ⟨hg.cell h0 (by simp), hg.cell h1 (by simp), hg.cell h2 (by simp), hg.cell h3 (by simp)⟩
end Go.Proofs.YtaaaplbjeknbkaaGreat
namespace Go.Proofs.YtaaaplbjeknbkaaGreat
open Go.RowKit

def inC (x : InD) : List Value := [.int .u64 x.1.toNat, .int .i64 x.2]
def insC (l : List InD) : List Value := l.flatMap inC
theorem insC_length (l : List InD) : (insC l).length = l.length * 2 := by
  induction l with
  | nil => rfl
  | cons a r ih => simp only [insC, List.flatMap_cons, List.length_append, List.length_cons, inC, List.length_nil] at ih ⊢; omega
theorem insC_at : ∀ (l : List InD) (i : Nat) (h : i < l.length) (j : Nat), j < 2 → (insC l)[i * 2 + j]? = (inC l[i])[j]?
  | [], i, h, _, _ => absurd h (by simp)
  | a :: r, 0, _, j, hj => by
    show (inC a ++ insC r)[0 * 2 + j]? = _
    rw [List.getElem?_append_left (by simp [inC]; omega)]
    simp
  | a :: r, i + 1, h, j, hj => by
    show (inC a ++ insC r)[(i + 1) * 2 + j]? = _
    rw [List.getElem?_append_right (by simp [inC]; omega), show (inC a).length = 2 from rfl, show (i + 1) * 2 + j - 2 = i * 2 + j by omega, insC_at r i (by simpa using h) j hj]
    rfl
/-- The slice v holds these Ins, in a block of its own. -/
abbrev OwnIns (w : World) (v : Value) (l : List InD) : Prop := w.ownsRow 0 62 2 v l.length (insC l)
theorem ownIns_at {w : World} {v : Value} {l : List InD} (h : OwnIns w v l) (hok : ∀ x ∈ l, inOk x) : ∃ a cap, v = .slice a l.length cap ∧ l.length ≤ cap ∧ InsAt w a l := by
  rcases h.2 with ⟨hv, hn⟩ | ⟨g, cap, cur, hv, hB, hg, hc, _, _, _⟩
  · exact ⟨none, 0, by rw [hn]; exact hv, by omega, fun i hi => absurd hi (by omega)⟩
  · refine ⟨some ⟨g, 0, none⟩, cap, hv, hc, fun i hi => ⟨g, 0, rfl, (Array.getElem?_eq_some_iff.1 hg).1, ?_⟩⟩
    have hh := h
    rw [hv] at hh
    have hat : ∀ j, j < 2 → w.cell? ⟨g, 0 + i * 2 + j, none⟩ = (inC l[i])[j]? := fun j hj => by
      rw [Nat.zero_add, hh.cellAt (i * 2 + j) (by omega)]
      exact insC_at l i hi j hj
    exact ⟨hat 0 (by omega), hat 1 (by omega), hok _ (List.getElem_mem hi)⟩
theorem ownIns_slice {w : World} {a : Option Addr} {n cap : Nat} {l : List InD} (h : OwnIns w (.slice a n cap) l) (hok : ∀ x ∈ l, inOk x) : n = l.length ∧ n ≤ cap ∧ InsAt w a l := by
  obtain ⟨a', cap', e, hc, hi⟩ := ownIns_at h hok
  simp only [Value.slice.injEq] at e
  obtain ⟨rfl, rfl, rfl⟩ := e
  exact ⟨rfl, hc, hi⟩

/-- A function value that says of an In whether it is chosen, in every world that keeps K. -/
def PicksN (K : World → Prop) (f : FuncId) (cap : Array Value) (q : InD → Bool) : Prop :=
  (∀ (args : Array Value) (w : World), (callFunc f args).run Tryz.prog w = .ok (.enter f args) w) ∧
  ∀ (e : InD) (w : World), K w → Calls Tryz.prog f (#[inV e] ++ cap) w fun x w' => x = .returned (.bool (q e)) ∧ Below w.heap.size w w'
theorem inIndex_any (K : World → Prop) (hK : ∀ a b, K a → Below a.heap.size a b → K b) (f : FuncId) (cap : Array Value) (q : InD → Bool) (hp : PicksN K f cap q) (l : List InD) (a : Option Addr) (cp : Nat) (w : World) (hw : K w) (hl : l.length ≤ 1000) (hi : InsAt w a l) :
    Calls Tryz.prog 162 #[.slice a l.length cp, .func (.func f) #[] cap] w fun e w' => e = .returned (.int .i64 (firstAt q l)) ∧ Below w.heap.size w w' := by
  have hcf := hp.1
  have HP := Lib.hid hp.2
  have HK := Lib.hid hK
  have HW := Lib.hid hw
  clear hp hK hw
  go_enter Tryz.func162, Tryz.ntmps162
  go_wp2
  go_loopw [8] (fun i wr => ∃ k : Nat, k ≤ l.length ∧ i = .int .i64 k ∧ Hid ((l.take k).findIdx? q = none) ∧ Below w.heap.size w wr) (fun i _ => l.length - (intOf i).toNat)
  case atStart => exact ⟨0, Nat.zero_le _, rfl, Lib.hid rfl, Below.refl _ _⟩
  case round =>
    obtain ⟨k, hk, rfl, NO, hbel⟩ := hrel
    by_cases hlt : k < l.length
    · obtain ⟨b, o, rfl, hb, c0, c1, _⟩ := insAt_kept hbel hi k hlt
      go_wp2_with fail
      refine (HP.out l[k] _ (HK.out _ _ HW.out hbel)).mono ?_
      rintro e w1 ⟨rfl, hb1⟩
      cases hq : q l[k] with
      | true =>
        have HQ := Lib.hid hq
        clear hq
        go_wp2
        go_ret
        refine ⟨ret_i64 ?_, kept_trans hbel hb1⟩
        exact (firstAt_hit hlt NO.out HQ.out).symm
      | false =>
        have HQ := Lib.hid hq
        clear hq
        go_wp2
        go_roundw
        case rel => exact ⟨k + 1, by omega, by go_num, Lib.hid (firstAt_miss hlt NO.out HQ.out), kept_trans hbel hb1⟩
        case measure => simp [intOf]; omega
    · go_wp2
      go_ret
      refine ⟨ret_i64 ?_, hbel⟩
      have := NO.out
      rw [List.take_of_length_le (by omega)] at this
      unfold firstAt
      rw [this]
theorem inContains_any (K : World → Prop) (hK : ∀ a b, K a → Below a.heap.size a b → K b) (f : FuncId) (fc : Array Value) (q : InD → Bool) (hp : PicksN K f fc q) (l : List InD) (a : Option Addr) (cp : Nat) (w : World) (hw : K w) (hl : l.length ≤ 1000) (hi : InsAt w a l) :
    Calls Tryz.prog 142 #[.slice a l.length cp, .func (.func f) #[] fc] w fun e w' => e = .returned (.bool (l.any q)) ∧ Below w.heap.size w w' := by
  have HP := Lib.hid hp
  have HK := Lib.hid hK
  have HW := Lib.hid hw
  have HI := Lib.hid hi
  clear hp hK hw hi
  go_enter Tryz.func142, Tryz.ntmps142
  go_wp2_with fail
  refine (inIndex_any K HK.out f fc q HP.out l _ _ w HW.out hl HI.out).mono ?_
  rintro e w1 ⟨rfl, hb1⟩
  have e1 := firstAt_neg q l
  obtain ⟨i, hi⟩ : ∃ i, firstAt q l = i := ⟨_, rfl⟩
  rw [hi] at e1 ⊢
  go_wp2
  go_ret
  exact ⟨rfl, hb1⟩
theorem picks_spends (c : Nat) (x : UInt64) : PicksN (CellIs c (.int .u64 x.toNat)) 143 #[.pointer (some ⟨c, 0, none⟩)] (fun e => e.1 == x) := by
  refine ⟨fun _ _ => by kernel_rfl, fun e w hw => ?_⟩
  unfold inV
  have hc := cell_spot hw
  have hw : w.cell? ⟨c, 0, none⟩ = some (.int .u64 x.toNat) := hw
  have hlt : c < w.heap.size := hc.2
  clear hc
  have hq : ((e.1.toNat : Int) == (x.toNat : Int)) = (e.1 == x) := u64_beq e.1 x
  show Calls Tryz.prog 143 #[.agg #[.int .u64 e.1.toNat, .int .i64 e.2], .pointer (some ⟨c, 0, none⟩)] w _
  go_enter Tryz.func143, Tryz.ntmps143
  go_wp2
  go_ret
  exact ⟨rfl, kept_new _ _⟩
/-- A deed spends an output of x. -/
def spendsD (d : DeedD) (x : UInt64) : Bool := d.ins.any fun e => e.1 == x
theorem spends_any (d : DeedD) (x : UInt64) (a : Option Addr) (cap : Nat) (w : World) (hl : d.ins.length ≤ 1000) (hi : InsAt w a d.ins) :
    Calls Tryz.prog 106 #[.agg #[.slice a d.ins.length cap, .int .i64 d.outs, .int .i64 d.weight, .int .i64 d.fee], .int .u64 x.toNat] w fun e w' => e = .returned (.bool (spendsD d x)) ∧ Below w.heap.size w w' := by
  have hk : Below w.heap.size w ((w.alloc (.cells #[.slice a d.ins.length cap, .int .i64 d.outs, .int .i64 d.weight, .int .i64 d.fee] 50)).alloc (.cells #[.int .u64 x.toNat] 22)) := kept_alloc (kept_new _ _) _
  have HI := Lib.hid (insAt_kept hk hi)
  have HC : Hid (CellIs (w.heap.size + 1) (.int .u64 x.toNat) ((w.alloc (.cells #[.slice a d.ins.length cap, .int .i64 d.outs, .int .i64 d.weight, .int .i64 d.fee] 50)).alloc (.cells #[.int .u64 x.toNat] 22))) := Lib.hid (by
    have := cellIs_new (w.alloc (.cells #[.slice a d.ins.length cap, .int .i64 d.outs, .int .i64 d.weight, .int .i64 d.fee] 50)) (.int .u64 x.toNat) 22
    simpa using this)
  clear hi
  go_enter Tryz.func106, Tryz.ntmps106
  go_wp2_with fail
  refine (inContains_any _ (cellIs_kept _ _) _ _ _ (picks_spends (w.heap.size + 1) x) d.ins _ _ _ HC.out hl HI.out).mono ?_
  rintro e w1 ⟨rfl, hb1⟩
  go_wp2
  go_ret
  exact ⟨rfl, kept_trans hk hb1⟩
end Go.Proofs.YtaaaplbjeknbkaaGreat
namespace Go.Proofs.YtaaaplbjeknbkaaGreat
open Go.RowKit Go.Maps

theorem u64_keyed : Maps.Keyed Tryz.prog 22 := int_keyed Tryz.underlying22
theorem u64_key (x : UInt64) : keyOf Tryz.prog 22 (.int .u64 x.toNat) = some (.int .u64 x.toNat) := keyOf_int_mk Tryz.underlying22 (wf_u64_of x)
theorem lit_ne {x y : UInt64} (h : x ≠ y) : Lit.int .u64 x.toNat ≠ Lit.int .u64 y.toNat := fun e => h (by simp only [Lit.int.injEq, true_and] at e; exact u64_inj e)
theorem same_lit (x y : UInt64) : (Lit.int .u64 x.toNat).sameKey (.int .u64 y.toNat) = (x == y) := by
  rw [Bool.eq_iff_iff]
  constructor
  · intro h
    have := WideAt.sameKey_eq h
    simp only [Lit.int.injEq, true_and] at this
    exact beq_iff_eq.2 (u64_inj this)
  · intro h
    rw [beq_iff_eq.1 h]
    exact WideAt.sameKey_self (u64_keyed.key (u64_key y))

/-- An element is its own reading. -/
def exactE (v : Value) : Option (DataW Value × List MemPlace) := some (.held v, [])
/-- A range over a map under way: its iterator, what is to come, how many. -/
structure It where
  r : Nat
  left : Lit → Bool
  cnt : Nat
/-- Block b is a map that reads as D, with a range over it under way or none. -/
def MapIs (w : World) (b : Nat) (it : Option It) (D : DataW Value) : Prop :=
  ∃ n, match it with
  | none => w.ownsMap Tryz.prog 22 exactE b n D
  | some i => w.ranges Tryz.prog 22 exactE b i.r n D i.left i.cnt
theorem mapIs_owns {w : World} {b : Nat} {it : Option It} {D : DataW Value} (h : MapIs w b it D) : ∃ n, w.ownsMap Tryz.prog 22 exactE b n D := by
  obtain ⟨n, h⟩ := h
  cases it with
  | none => exact ⟨n, h⟩
  | some i => exact ⟨n, World.ranges.owns h⟩
/-- The map holds these values under these IDs, and no others. -/
def TMap (w : World) (b : Nat) (it : Option It) (ev : UInt64 → Option Value) : Prop :=
  ∃ D, MapIs w b it D ∧ (∀ x v, ev x = some v → ∀ z, D.atKey (.int .u64 x.toNat) z = .held v) ∧ (∀ x, Maps.has D (.int .u64 x.toNat) = (ev x).isSome)
theorem tmap_lt {w : World} {b : Nat} {it : Option It} {ev : UInt64 → Option Value} (h : TMap w b it ev) : b < w.heap.size := by
  obtain ⟨D, hm, _⟩ := h
  obtain ⟨n, hn⟩ := mapIs_owns hm
  exact hn.lt
theorem tmap_same {w w' : World} {b : Nat} {it : Option It} {ev : UInt64 → Option Value} (h : TMap w b it ev) (e : w'.heap[b]? = w.heap[b]?) (er : ∀ i, it = some i → w'.heap[i.r]? = w.heap[i.r]?) : TMap w' b it ev := by
  obtain ⟨D, ⟨n, hm⟩, r2⟩ := h
  refine ⟨D, ⟨n, ?_⟩, r2⟩
  cases it with
  | none =>
    obtain ⟨es, clock, hb, r⟩ := hm
    exact ⟨es, clock, e.trans hb, r⟩
  | some i =>
    obtain ⟨es, clock, since, seen, c0, hb, q1, q2, q3, hr, r⟩ := hm
    exact ⟨es, clock, since, seen, c0, e.trans hb, q1, q2, q3, (er i rfl).trans hr, r⟩
theorem tmap_new (w : World) : TMap (w.alloc (.map #[] 0)) w.heap.size none (fun _ => none) := ⟨.map [], ⟨0, World.ownsMap_made w _ _ _⟩, fun x v h => by simp at h, fun x => rfl⟩
/-- The deed that no ID has. -/
abbrev zeroD : Value := .agg #[.slice none 0 0, .int .i64 0, .int .i64 0, .int .i64 0]
theorem zero_deed (w : World) : (zeroValue 50).run Tryz.prog w = .ok zeroD w := by kernel_rfl
theorem tmap_look {w : World} {b : Nat} {it : Option It} {ev : UInt64 → Option Value} (h : TMap w b it ev) (x : UInt64) :
    (Instr.lookup 47 (.map (some b)) (.int .u64 x.toNat) false).run Tryz.prog w = .ok ((ev x).getD zeroD) w := by
  obtain ⟨D, hm, hat, hhas⟩ := h
  obtain ⟨n, hD⟩ := mapIs_owns hm
  obtain ⟨u, ps, hrun, hu⟩ := hD.lookup u64_keyed Tryz.underlying47 (zero_deed w) (zd := .held zeroD) (zp := []) rfl (u64_key x)
  rw [hrun]
  unfold exactE at hu
  simp only [Option.some.injEq, Prod.mk.injEq] at hu
  cases hx : ev x with
  | some v =>
    rw [hat x v hx] at hu
    have := hu.1
    simp only [DataW.held.injEq] at this
    rw [this]
    rfl
  | none =>
    have h0 := hhas x
    rw [hx] at h0
    rw [atKey_of_not_has h0] at hu
    have := hu.1
    simp only [DataW.held.injEq] at this
    rw [this]
    rfl
theorem tmap_look_ok {w : World} {b : Nat} {it : Option It} {ev : UInt64 → Option Value} (h : TMap w b it ev) (x : UInt64) :
    (Instr.lookup 47 (.map (some b)) (.int .u64 x.toNat) true).run Tryz.prog w = .ok (.tuple #[(ev x).getD zeroD, .bool (ev x).isSome]) w := by
  obtain ⟨D, hm, hat, hhas⟩ := h
  obtain ⟨n, hD⟩ := mapIs_owns hm
  obtain ⟨u, ps, hrun, hu⟩ := hD.look_ok u64_keyed Tryz.underlying47 (zero_deed w) (zd := .held zeroD) (zp := []) rfl (u64_key x)
  rw [hrun, hhas x]
  unfold exactE at hu
  simp only [Option.some.injEq, Prod.mk.injEq] at hu
  cases hx : ev x with
  | some v =>
    rw [hat x v hx] at hu
    have := hu.1
    simp only [DataW.held.injEq] at this
    rw [this]
    rfl
  | none =>
    have h0 := hhas x
    rw [hx] at h0
    rw [atKey_of_not_has h0] at hu
    have := hu.1
    simp only [DataW.held.injEq] at this
    rw [this]
    rfl
/-- What is left where a key is taken out. -/
def It.drop (i : It) (x : UInt64) (n : Nat) : It := ⟨i.r, fun z => i.left z && !z.sameKey (.int .u64 x.toNat), n⟩
theorem mapTurned_turn {w w' : World} {b : Nat} (h : w.mapTurned w' b) : Turn (fun k => k = b) (fun k => k = b) w w' := Turn.of_grown h.grown (fun k hk => by cases hk; rfl)
theorem del_has {D : DataW Value} {ev : UInt64 → Option Value} (h : ∀ x : UInt64, Maps.has D (.int .u64 x.toNat) = (ev x).isSome) (x y : UInt64) : Maps.has (D.del (.int .u64 x.toNat)) (.int .u64 y.toNat) = (if y = x then none else ev y).isSome := by
  by_cases e : y = x
  · rw [e, if_pos rfl, has_del_same]; rfl
  · rw [if_neg e, has_del_other (lit_ne e), h y]
theorem del_at {D : DataW Value} {ev : UInt64 → Option Value} (h : ∀ x v, ev x = some v → ∀ z, D.atKey (.int .u64 x.toNat) z = .held v) (x y : UInt64) (v : Value) (hy : (if y = x then none else ev y) = some v) (z : DataW Value) : (D.del (.int .u64 x.toNat)).atKey (.int .u64 y.toNat) z = .held v := by
  by_cases e : y = x
  · rw [if_pos e] at hy; cases hy
  · rw [if_neg e] at hy
    rw [atKey_del_other (lit_ne e), h y v hy]
theorem tmap_delete {w : World} {b : Nat} {it : Option It} {ev : UInt64 → Option Value} (h : TMap w b it ev) (x : UInt64) :
    ∃ w', (∀ ty, (Builtin.delete_ #[47, 22] ty #[.map (some b), .int .u64 x.toNat]).run Tryz.prog w = .ok (.tuple #[]) w') ∧
      (∃ n, (∀ i, it = some i → n ≤ i.cnt) ∧ TMap w' b (it.map fun i => i.drop x n) (fun y => if y = x then none else ev y)) ∧ Turn (fun k => k = b) (fun k => k = b) w w' := by
  obtain ⟨D, ⟨n, hm⟩, hat, hhas⟩ := h
  cases it with
  | none =>
    obtain ⟨w', hrun, ho, ht⟩ := World.ownsMap.drop hm u64_keyed Tryz.underlying47 (u64_key x) 0
    exact ⟨w', fun ty => hrun, ⟨0, (fun i hi => by cases hi), _, ⟨n, ho⟩, fun y v hy z => del_at hat x y v hy z, fun y => del_has hhas x y⟩, mapTurned_turn ht⟩
  | some i =>
    obtain ⟨w', cnt', hrun, ho, hc, ht⟩ := World.ranges.drop hm u64_keyed Tryz.underlying47 (u64_key x) 0
    exact ⟨w', fun ty => hrun, ⟨cnt', (fun j hj => by cases hj; exact hc), _, ⟨n, ho⟩, fun y v hy z => del_at hat x y v hy z, fun y => del_has hhas x y⟩, mapTurned_turn ht⟩
/-- As many keys as there are entries. -/
theorem nodup_le : ∀ {a b : List UInt64}, a.Nodup → (∀ x ∈ a, x ∈ b) → a.length ≤ b.length
  | [], _, _, _ => Nat.zero_le _
  | x :: r, b, hn, hs => by
    obtain ⟨hx, hr⟩ := List.nodup_cons.1 hn
    have hxb : x ∈ b := hs x (by simp)
    have := nodup_le hr (b := b.erase x) (fun y hy => (List.mem_erase_of_ne (show y ≠ x from fun e => hx (e ▸ hy))).2 (hs y (by simp [hy])))
    rw [List.length_erase_of_mem hxb] at this
    have h1 : 0 < b.length := List.length_pos_of_mem hxb
    simp only [List.length_cons]
    omega
def litId : Lit → UInt64
  | .int _ a => UInt64.ofNat a.toNat
  | _ => 0
theorem litId_mk (x : UInt64) : litId (.int .u64 x.toNat) = x := by simp [litId]
theorem tmap_small {w : World} {b : Nat} {D : DataW Value} {n : Nat} (h : w.ownsMap Tryz.prog 22 exactE b n D) (ks : List UInt64) (hks : ∀ x : UInt64, Maps.has D (.int .u64 x.toNat) = true → x ∈ ks) : w.ownsMap Tryz.prog 22 exactE b ks.length D := by
  obtain ⟨es, clock, hb, F, hs, hD⟩ := h
  refine ⟨es, clock, hb, F, ?_, hD⟩
  have hkeys : ∀ p ∈ es.toList.map (WideElems.rg Tryz.prog 22 exactE), ∃ x : UInt64, p.1 = .int .u64 x.toNat := fun p hp => by
    obtain ⟨v, hv⟩ := fit_keys F p hp
    obtain ⟨a, _, e, hw⟩ := keyOf_int_inv Tryz.underlying22 hv
    obtain ⟨u, rfl⟩ := wf_u64 hw
    exact ⟨u, e⟩
  have hap := fit_apart u64_keyed F
  have hnd : ((es.toList.map (WideElems.rg Tryz.prog 22 exactE)).map fun p => litId p.1).Nodup := by
    unfold List.Nodup
    rw [List.pairwise_map]
    refine List.Pairwise.imp_of_mem (fun {p q} hp hq hne => ?_) hap
    obtain ⟨x, hx⟩ := hkeys p hp
    obtain ⟨y, hy⟩ := hkeys q hq
    rw [hx, hy, litId_mk, litId_mk]
    intro e
    exact hne (by rw [hx, hy, e])
  have hsub : ∀ x ∈ (es.toList.map (WideElems.rg Tryz.prog 22 exactE)).map (fun p => litId p.1), x ∈ ks := fun x hx => by
    obtain ⟨p, hp, rfl⟩ := List.mem_map.1 hx
    obtain ⟨y, hy⟩ := hkeys p hp
    rw [hy, litId_mk]
    refine hks y ?_
    rw [hD, has_eq, List.any_eq_true]
    exact ⟨p, mem_sorted.2 hp, by rw [hy, same_lit]; simp⟩
  have := nodup_le hnd hsub
  simpa using this
theorem tmap_put {w : World} {b : Nat} {ev : UInt64 → Option Value} (h : TMap w b none ev) (ks : List UInt64) (hks : ∀ x, (ev x).isSome = true → x ∈ ks) (hkl : ks.length ≤ 1000) (x : UInt64) (v : Value) :
    ∃ w', (Instr.mapUpdate 47 (.map (some b)) (.int .u64 x.toNat) v).run Tryz.prog w = .ok () w' ∧ TMap w' b none (fun y => if y = x then some v else ev y) ∧ Turn (fun k => k = b) (fun k => k = b) w w' := by
  obtain ⟨D, ⟨n, hm⟩, hat, hhas⟩ := h
  have hm2 := tmap_small hm ks (fun y hy => hks y (by rw [← hhas y]; exact hy))
  obtain ⟨w', hrun, ho, hg⟩ := hm2.update u64_keyed Tryz.underlying47 (by unfold maxLen; omega) (u64_key x) (val := v) (d := .held v) (ps := []) rfl
  refine ⟨w', hrun, ⟨_, ⟨_, ho⟩, fun y u hy z => ?_, fun y => ?_⟩, Turn.of_grown hg (fun k hk => by cases hk; rfl)⟩
  · replace hy : (if y = x then some v else ev y) = some u := hy
    by_cases e : y = x
    · rw [if_pos e] at hy
      cases hy
      rw [e, atKey_put_same hm2.isMap (u64_keyed.key (u64_key _))]
    · rw [if_neg e] at hy
      rw [atKey_put_other (lit_ne e), hat y u hy]
  · show _ = (if y = x then some v else ev y).isSome
    by_cases e : y = x
    · rw [e, if_pos rfl, has_put_same hm2.isMap (u64_keyed.key (u64_key _))]
      rfl
    · rw [if_neg e, has_put_other (lit_ne e), hhas y]
end Go.Proofs.YtaaaplbjeknbkaaGreat
namespace Go.Proofs.YtaaaplbjeknbkaaGreat
open Go.RowKit

/-- A function with another value in one place. -/
def upd {α β : Type} [DecidableEq α] (f : α → β) (a : α) (v : β) : α → β := fun x => if x = a then v else f x
theorem upd_same {α β : Type} [DecidableEq α] (f : α → β) (a : α) (v : β) : upd f a v a = v := if_pos rfl
theorem upd_other {α β : Type} [DecidableEq α] (f : α → β) {a x : α} (v : β) (h : x ≠ a) : upd f a v x = f x := if_neg h
/-- The deed with nothing in it. -/
def nod : DeedD := ⟨[], 0, 0, 0⟩
theorem own_at {w : World} {B : Nat} {e : TypeId} {size n : Nat} {v : Value} {xs : List Value} {g : Nat} (h : w.ownsRow B e size v n xs) (hg : v.ownBlock = some g) : ∃ cur, w.heap[g]? = some (.cells cur e (0, 0)) := by
  rcases h.2 with ⟨hv, _⟩ | ⟨g', cap, cur, hv, _, hh, _⟩
  · rw [hv] at hg; cases hg
  · rw [hv] at hg
    simp only [Value.ownBlock, Option.some.injEq] at hg
    subst hg
    exact ⟨cur, hh⟩
theorem own_same {w w' : World} {B : Nat} {e : TypeId} {size n : Nat} {v : Value} {xs : List Value} (h : w.ownsRow B e size v n xs) (hs : ∀ g, v.ownBlock = some g → w'.heap[g]? = w.heap[g]?) : w'.ownsRow B e size v n xs := by
  refine ⟨h.1, ?_⟩
  rcases h.2 with hv | ⟨g, cap, cur, hv, hb, hh, r⟩
  · exact .inl hv
  · exact .inr ⟨g, cap, cur, hv, hb, (hs g (by rw [hv]; rfl)).trans hh, r⟩
theorem own_turn {w w' : World} {G G' : Nat → Prop} {B : Nat} {e : TypeId} {size n : Nat} {v : Value} {xs : List Value} (h : w.ownsRow B e size v n xs) (ht : Turn G G' w w') (hn : ∀ g, v.ownBlock = some g → ¬ G g) : w'.ownsRow B e size v n xs :=
  own_same h fun g hg => ht.block g ((h.lt g hg).2) (hn g hg)
theorem head_cell {w : World} {R : Nat} {cs : Array Value} {t : TypeId} {fr : Nat × Nat} (h : w.heap[R]? = some (.cells cs t fr)) (j : Nat) : w.cell? ⟨R, j, none⟩ = cs[j]? := by simp [World.cell?, h]
theorem ins_ok {d : DeedD} (h : checkD d = 0) : ∀ z ∈ d.ins, inOk z := fun z hz => by
  obtain ⟨k, hk, rfl⟩ := List.getElem_of_mem hz
  have := (check_ok h).2.1 k hk
  unfold inOk
  simp only [Lit.wf, Bool.and_eq_true, decide_eq_true_eq]
  exact ⟨by show (-9223372036854775808 : Int) ≤ _; omega, by show _ ≤ (9223372036854775807 : Int); omega⟩
theorem insAt_turn {w w' : World} {G G' : Nat → Prop} {a : Option Addr} {l : List InD} (h : InsAt w a l) (ht : Turn G G' w w') (hn : ∀ bb o, l ≠ [] → a = some ⟨bb, o, none⟩ → ¬ G bb) : InsAt w' a l := fun i hi => by
  obtain ⟨bb, o, e, hb, c0, c1, c2⟩ := h i hi
  have hG := hn bb o (fun e => by rw [e] at hi; simp at hi) e
  have hs := ht.block bb hb hG
  exact ⟨bb, o, e, Nat.lt_of_lt_of_le hb ht.size, (World.cell?_of_block (a := ⟨bb, o + i * 2, none⟩) hs).trans c0, (World.cell?_of_block (a := ⟨bb, o + i * 2 + 1, none⟩) hs).trans c1, c2⟩
theorem turn_set4 (w : World) (n : Nat) (u0 u1 u2 u3 : Value) : Turn (fun k => k = n) (fun k => k = n) w ((((w.setCell ⟨n, 0, none⟩ u0).setCell ⟨n, 1, none⟩ u1).setCell ⟨n, 2, none⟩ u2).setCell ⟨n, 3, none⟩ u3) :=
  (((Turn.set (F := fun k => k = n) w ⟨n, 0, none⟩ u0 rfl).trans (Turn.set _ ⟨n, 1, none⟩ u1 rfl)).trans (Turn.set _ ⟨n, 2, none⟩ u2 rfl)).trans (Turn.set _ ⟨n, 3, none⟩ u3 rfl)
/-- The answer of Deed. -/
def DeedAns (w : World) (m : Option DeedD) (e : Ending) (w' : World) : Prop :=
  ∃ a c, e = .returned (.tuple #[.agg #[.slice a (m.getD nod).ins.length c, .int .i64 (m.getD nod).outs, .int .i64 (m.getD nod).weight, .int .i64 (m.getD nod).fee], .int .i64 (if m.isSome then 0 else 5)]) ∧ (m.getD nod).ins.length ≤ 8 ∧ (m.getD nod).ins.length ≤ c ∧ InsAt w' a (m.getD nod).ins ∧ Below w.heap.size w w'
end Go.Proofs.YtaaaplbjeknbkaaGreat
namespace Go.Proofs.YtaaaplbjeknbkaaGreat
open Go.RowKit

theorem info_in : (Tryz.prog.info? 62).map (fun i => (i.zero, i.size, i.bytes)) = some (some (.agg #[.int .u64 0, .int .i64 0]), 2, 16) := by kernel_rfl
theorem insC_one (l : List InD) : ∀ u ∈ insC l, u.oneCell' = true := fun u hu => by
  unfold insC at hu
  obtain ⟨x, _, hx⟩ := List.mem_flatMap.1 hu
  simp only [inC, List.mem_cons, List.not_mem_nil, or_false] at hx
  rcases hx with rfl | rfl <;> rfl
theorem ins_cells {w : World} {bb o : Nat} {l : List InD} (h : InsAt w (some ⟨bb, o, none⟩) l) : ∀ j u, (insC l)[j]? = some u → w.cell? ((⟨bb, o, none⟩ : Addr).add j) = some u := fun j u hj => by
  have hl : j < (insC l).length := (List.getElem?_eq_some_iff.1 hj).1
  rw [insC_length] at hl
  have hi : j / 2 < l.length := by omega
  have e2 := insC_at l (j / 2) hi (j % 2) (by omega)
  rw [show j / 2 * 2 + j % 2 = j by omega, hj] at e2
  obtain ⟨b', o', e, _, c0, c1, _⟩ := h (j / 2) hi
  simp only [Option.some.injEq, Addr.mk.injEq, and_true] at e
  obtain ⟨rfl, rfl⟩ := e
  have e3 : (⟨bb, o, none⟩ : Addr).add j = ⟨bb, o + j, none⟩ := by unfold Addr.add; split <;> simp_all
  rw [e3]
  have hm : j % 2 = 0 ∨ j % 2 = 1 := by omega
  rcases hm with hm | hm
  · rw [hm] at e2
    rw [show o + j = o + j / 2 * 2 by omega, c0, e2]
    rfl
  · rw [hm] at e2
    rw [show o + j = o + j / 2 * 2 + 1 by omega, c1, e2]
    rfl
theorem append_none (a : Option Addr) (cap : Nat) (ty : TypeId) (w : World) : (Builtin.append_ #[48, 48] ty #[.slice none 0 0, .slice a 0 cap]).run Tryz.prog w = .ok (.slice none 0 0) w := by
  obtain ⟨iE, hiE, _, hz1, _⟩ := info_parts info_in
  cases a with
  | none => simp [Builtin.append_, run_underlying Tryz.underlying48, Builtin.lenOf, Builtin.firstCells, sizeOf, typeInfo, hiE]
  | some ad => simp [Builtin.append_, run_underlying Tryz.underlying48, Builtin.lenOf, Builtin.firstCells, sizeOf, typeInfo, hiE, loadCells, loadCellsFrom]
theorem step_append_none {ops : Array Oper} {rest : List Oper} {o : Oper} {a : Act} {Q : Exit → Act → World → Prop} {w : World} (hgd : o.guard = none) (s x : Operand) (ho : o.op = .call { callee := .builtin .append, args := #[s, x], argTypes := #[48, 48] })
    (ad : Option Addr) (cap : Nat) (hs : a.eval s = .slice none 0 0) (hx : a.eval x = .slice ad 0 cap) (h : wpList Tryz.prog ops Q rest (a.put o.dst (.slice none 0 0)) w) : wpList Tryz.prog ops Q (o :: rest) a w := by
  refine wpList_plain hgd fun K' hK' => ?_
  unfold Oper.wp
  simp [execOp, ho, resolve, invoke, builtin, hs, hx, append_none, Result.andThen]
  exact hK' _ _ h
/-- The answer is this deed, its Ins in a block of their own that is new. -/
def Cloned (w : World) (d : DeedD) (v : Value) (w' : World) : Prop := ∃ a c, v = .agg #[.slice a d.ins.length c, .int .i64 d.outs, .int .i64 d.weight, .int .i64 d.fee] ∧ w'.ownsRow w.heap.size 62 2 (.slice a d.ins.length c) d.ins.length (insC d.ins) ∧ Below w.heap.size w w'
set_option maxRecDepth 20000 in
theorem clone_any (d : DeedD) (a : Option Addr) (cap : Nat) (w : World) (hl : d.ins.length ≤ 8) (hi : InsAt w a d.ins) :
    Calls Tryz.prog 135 #[.agg #[.slice a d.ins.length cap, .int .i64 d.outs, .int .i64 d.weight, .int .i64 d.fee]] w fun e w' => ∃ v, e = .returned v ∧ Cloned w d v w' := by
  obtain ⟨l, o, g, f⟩ := d
  simp only at hl hi ⊢
  by_cases hnil : l = []
  · subst hnil
    have HE : ∀ w2, Below w.heap.size w w2 → Cloned w ⟨[], o, g, f⟩ (.agg #[.slice none 0 0, .int .i64 o, .int .i64 g, .int .i64 f]) w2 := fun w2 hb => ⟨none, 0, rfl, World.ownsRow_nil _ _ _ _, hb⟩
    have HE := Lib.hid HE
    clear hl hi
    simp only [List.length_nil]
    go_enter Tryz.func135, Tryz.ntmps135
    go_wp2_with (at_builtin; refine step_append_none rfl _ _ rfl a cap rfl rfl ?_)
    refine bodyPost_ret (v := .agg #[.slice none 0 0, .int .i64 o, .int .i64 g, .int .i64 f]) (by simp [results, Tryz.results135, go_sem]) rfl ?_
    exact ⟨_, rfl, HE.out _ (kept_alloc (kept_new _ _) _)⟩
  · have hpos : 0 < l.length := List.length_pos_iff.2 hnil
    obtain ⟨bb, oo, rfl, hbl, _, _, _⟩ := hi 0 hpos
    obtain ⟨iE, hiE, hz0, hz1, hz2⟩ := info_parts info_in
    have hk : Below w.heap.size w ((w.alloc (.cells #[.slice (some ⟨bb, oo, none⟩) l.length cap, .int .i64 o, .int .i64 g, .int .i64 f] 50)).alloc (.cells #[.slice none 0 0, .int .i64 0, .int .i64 0, .int .i64 0] 50)) := kept_alloc (kept_new _ _) _
    have HN := Lib.hid (ins_cells (insAt_kept hk hi))
    have HL := Lib.hid hl
    clear hnil hi
    go_enter Tryz.func135, Tryz.ntmps135
    go_wp2_with (at_builtin; refine wpList_append_lies _ rfl _ _ 48 rfl w.heap.size 62 iE _ 2 16 Tryz.underlying48 hiE hz0 hz1 hz2 rfl (by decide) (.slice none 0 0) 0 [] rfl (World.ownsRow_nil _ _ _ _) ⟨bb, oo, none⟩ l.length cap (insC l) rfl (insC_length l) HN.out (insC_one l) hpos (by have := HL.out; unfold maxLen; omega) (by have := HL.out; omega) (by simp; omega) _ rfl ?_; intro g2 cap2 w2 hown2 hgrow2 hat2 hlt2; refine Hid.out ?_)
    refine Lib.hid ?_
    have hb2 := grown_below hgrow2
    have hB1 : w2.heap[w.heap.size]? = some (.cells #[.slice (some ⟨bb, oo, none⟩) l.length cap, .int .i64 o, .int .i64 g, .int .i64 f] 50 (0, 0)) := (hb2.block _ (by simp; omega)).trans (heap_alloc2_old _ _ _)
    have hB2 : w2.heap[w.heap.size + 1]? = some (.cells #[.slice none 0 0, .int .i64 0, .int .i64 0, .int .i64 0] 50 (0, 0)) := (hb2.block _ (by simp)).trans (heap_alloc2_new _ _ _)
    have c0 : w2.cell? ⟨w.heap.size, 0, none⟩ = some (.slice (some ⟨bb, oo, none⟩) l.length cap) := head_cell hB1 0
    have c1 : w2.cell? ⟨w.heap.size, 1, none⟩ = some (.int .i64 o) := head_cell hB1 1
    have c2 : w2.cell? ⟨w.heap.size, 2, none⟩ = some (.int .i64 g) := head_cell hB1 2
    have c3 : w2.cell? ⟨w.heap.size, 3, none⟩ = some (.int .i64 f) := head_cell hB1 3
    have d0 : w2.cell? ⟨w.heap.size + 1, 0, none⟩ = some (.slice none 0 0) := head_cell hB2 0
    have d1 : w2.cell? ⟨w.heap.size + 1, 1, none⟩ = some (.int .i64 0) := head_cell hB2 1
    have d2 : w2.cell? ⟨w.heap.size + 1, 2, none⟩ = some (.int .i64 0) := head_cell hB2 2
    have d3 : w2.cell? ⟨w.heap.size + 1, 3, none⟩ = some (.int .i64 0) := head_cell hB2 3
    have e0 := frozen_of_row w2 _ 0 _ _ hB1
    have f0 := frozen_of_row w2 _ 0 _ _ hB2
    have f1 := frozen_of_row w2 _ 1 _ _ hB2
    have f2 := frozen_of_row w2 _ 2 _ _ hB2
    have f3 := frozen_of_row w2 _ 3 _ _ hB2
    have hs2 : w.heap.size + 1 < w2.heap.size := by have := hb2.size; simp at this; omega
    have hg2 : g2 = w.heap.size + 2 := by
      rcases hat2 with h | h
      · cases h
      · rw [h]; simp
    have HO : Hid (w2.ownsRow w.heap.size 62 2 (.slice (some ⟨g2, 0, none⟩) l.length cap2) l.length (insC l)) := Lib.hid (by rw [Nat.zero_add] at hown2; exact hown2)
    have HB := Lib.hid (kept_trans hk hb2)
    have HG := Lib.hid hg2
    clear hown2 hgrow2 hat2 hlt2 hB1 hB2 hb2 hg2
    go_wp2
    refine bodyPost_ret (v := .agg #[.slice (some ⟨g2, 0, none⟩) l.length cap2, .int .i64 o, .int .i64 g, .int .i64 f]) (by simp [results, Tryz.results135, go_sem, d0, d1, d2, d3]) rfl ?_
    have ht : Turn (fun k => k = w.heap.size ∨ k = w.heap.size + 1) (fun k => k = w.heap.size ∨ k = w.heap.size + 1) w2 _ := ((((Turn.set w2 ⟨w.heap.size, 0, none⟩ (.slice (some ⟨g2, 0, none⟩) l.length cap2) (.inl rfl)).trans (Turn.set _ ⟨w.heap.size + 1, 0, none⟩ (.slice (some ⟨g2, 0, none⟩) l.length cap2) (.inr rfl))).trans (Turn.set _ ⟨w.heap.size + 1, 1, none⟩ (.int .i64 o) (.inr rfl))).trans (Turn.set _ ⟨w.heap.size + 1, 2, none⟩ (.int .i64 g) (.inr rfl))).trans (Turn.set _ ⟨w.heap.size + 1, 3, none⟩ (.int .i64 f) (.inr rfl))
    refine ⟨_, rfl, _, _, rfl, own_turn HO.out ht (fun k hk => ?_), HB.out.trans (ht.below (fun k hk => by omega) HB.out.size)⟩
    have hk : g2 = k := by simpa [Value.ownBlock] using hk
    have := HG.out
    omega
theorem map_not_nil (w : World) (b : Nat) : (binOp .eql 47 (.map (some b)) (.map none)).run Tryz.prog w = .ok (.bool false) w := run_eql_map_nil_sl (P := Tryz.prog) w 47 _ _ (some b) Tryz.underlying47
end Go.Proofs.YtaaaplbjeknbkaaGreat
