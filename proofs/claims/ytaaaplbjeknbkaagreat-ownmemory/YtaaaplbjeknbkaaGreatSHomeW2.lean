/-
  Contracts of package orphan: keep, Deed, usages, Usage.
-/
import Derived.Test.YtaaaplbjeknbkaaGreatSHomeW1
import Derived.Shelf.SlMaps.Clone
import Derived.Deep.RegionLaw
import Derived.BigQuiet
import Derived.Deep.QuietTactic
set_option maxRecDepth 20000
namespace Go.Proofs.YtaaaplbjeknbkaaGreat.So.Ho
open Go.Proofs.YtaaaplbjeknbkaaGreat.Ho
open Go.RowKit Go.Maps

variable {w w' : World} {F : Nat → Prop} {R : Nat} {it : Option It} {ls : List LD} {M : UInt64 → Option DeedD} {b : Nat} {ev : UInt64 → Option Value} {v : Value}

set_option maxRecDepth 20000 in
theorem keep_any (x : UInt64) (d : DeedD) (a : Option Addr) (cap : Nat) (ks : List UInt64) (hks : ∀ x, (M x).isSome = true → x ∈ ks) (hkl : ks.length ≤ 1000) (hd : checkD d = 0) (w : World) (h : HomeAt w F R none ls M b ev v) (hi : InsAt w a d.ins) :
    Calls Tryz.prog 100 #[.pointer (some ⟨R, 0, none⟩), .int .u64 x.toNat, .agg #[.slice a d.ins.length cap, .int .i64 d.outs, .int .i64 d.weight, .int .i64 d.fee]] w fun e w' => e = .returned (.tuple #[]) ∧ ∃ F' ev', HomeAt w' F' R none ls (upd M x (some d)) b ev' v ∧ Turn F F' w w' := by
  have hk0 := kept_new w (.cells #[.slice a d.ins.length cap, .int .i64 d.outs, .int .i64 d.weight, .int .i64 d.fee] 50)
  have hkd := (kept_new w (.cells #[.slice a d.ins.length cap, .int .i64 d.outs, .int .i64 d.weight, .int .i64 d.fee] 50)).drew
  have hmc := h.mapc
  have hlt := h.lt
  have hnn := map_not_nil
  have HD := Lib.hid (h.kept hkd)
  have HI := Lib.hid (insAt_kept hkd hi)
  have hl := (check_ok hd).1
  have HC := Lib.hid hd
  have HK := Lib.hid hks
  have HKL := Lib.hid hkl
  have HTD : Hid (Turn F F w (w.alloc (.cells #[.slice a d.ins.length cap, .int .i64 d.outs, .int .i64 d.weight, .int .i64 d.fee] 50)).drew) := Lib.hid (Turn.of_below hkd)
  clear h hi hks hkl hd hk0 hkd
  go_enter Tryz.func100, Tryz.ntmps100
  go_wp2_with fail
  go_region_law (first
    | (go_simp; go_at_call 135; (with_reducible refine (clone_any d a cap _ hl HI.out).mono ?_); rintro e w1 ⟨v1, rfl, a1, c1, rfl, ho1, hb1⟩; obtain ⟨w2, hput, F2, h2, t2⟩ := HD.out.put ks HK.out HKL.out x HC.out hb1 ho1; have j0 := (HD.out.kept hb1).mapc; have j1 := (HD.out.kept hb1).lt; have H2 := Lib.hid h2; have T2 := Lib.hid t2; unfold deedV at hput; clear h2 t2 ho1 hb1))
  all_goals
    go_wp2_with fail
    go_end0
    exact ⟨rfl, F2, _, H2.out, HTD.out.trans T2.out⟩
set_option maxRecDepth 20000 in
theorem deed_none (x : UInt64) (w : World) (h : HomeAt w F R it ls M b ev v) (hx : M x = none) :
    Calls Tryz.prog 154 #[.pointer (some ⟨R, 0, none⟩), .int .u64 x.toNat] w (DeedAns w none) := by
  have H := Lib.hid (h.kept (kept_new w (.cells #[.slice none 0 0, .int .i64 0, .int .i64 0, .int .i64 0] 50)))
  have HX : Hid ((M x).isSome = false) := Lib.hid (by rw [hx]; rfl)
  clear h hx
  go_enter Tryz.func154, Tryz.ntmps154
  go_wp2_with fail
  with_reducible refine (has_home_is x _ H.out false HX.out).mono ?_
  rintro e w1 ⟨rfl, hb1⟩
  have hB := (hb1.block w.heap.size (by simp)).trans (heap_alloc_new w _)
  have c0 := (head_cell hB 0).trans rfl
  have c1 := (head_cell hB 1).trans rfl
  have c2 := (head_cell hB 2).trans rfl
  have c3 := (head_cell hB 3).trans rfl
  have f0 := frozen_of_row w1 _ 0 _ _ hB
  have f1 := frozen_of_row w1 _ 1 _ _ hB
  have f2 := frozen_of_row w1 _ 2 _ _ hB
  have f3 := frozen_of_row w1 _ 3 _ _ hB
  have hs := (cell_spot c0).2
  have HB := Lib.hid (kept_trans (kept_new _ _) hb1)
  clear hB hb1
  go_wp2_with fail
  refine bodyPost_ret (v := .tuple #[.agg #[.slice none 0 0, .int .i64 0, .int .i64 0, .int .i64 0], .int .i64 5]) (by simp [results, Tryz.results154, go_sem, c0, c1, c2, c3]) rfl ?_
  have ht := turn_set4 w1 w.heap.size (.slice none 0 0) (.int .i64 0) (.int .i64 0) (.int .i64 0)
  exact ⟨none, 0, rfl, Nat.zero_le _, Nat.zero_le _, fun i hi => absurd hi (by simp [nod]), HB.out.trans (ht.below (fun k hk => by omega) HB.out.size)⟩
set_option maxRecDepth 20000 in
theorem deed_some (x : UInt64) (d : DeedD) (w : World) (h : HomeAt w F R it ls M b ev v) (hx : M x = some d) :
    Calls Tryz.prog 154 #[.pointer (some ⟨R, 0, none⟩), .int .u64 x.toNat] w (DeedAns w (some d)) := by
  have H := Lib.hid (h.kept (kept_new w (.cells #[.slice none 0 0, .int .i64 0, .int .i64 0, .int .i64 0] 50)))
  have HX : Hid ((M x).isSome = true) := Lib.hid (by rw [hx]; rfl)
  have HXD := Lib.hid hx
  have HF := Lib.hid (h.fine x d hx)
  clear h hx
  go_enter Tryz.func154, Tryz.ntmps154
  go_wp2_with fail
  with_reducible refine (has_home_is x _ H.out true HX.out).mono ?_
  rintro e w1 ⟨rfl, hb1⟩
  have H1 := H.out.kept hb1
  have hmc := H1.mapc
  have hlt := H1.lt
  have hlk := H1.look x
  obtain ⟨a, c, hv, hl, hc, hi⟩ := H1.deed x
  rw [HXD.out] at hv hl hc hi
  rw [hv] at hlk
  simp only [Option.getD_some] at hlk hl hc hi
  unfold deedV at hlk
  have hB := (hb1.block w.heap.size (by simp)).trans (heap_alloc_new w _)
  have HB1 := Lib.hid hB
  have HB := Lib.hid (kept_trans (kept_new _ _) hb1)
  have HI := Lib.hid hi
  clear hB hb1 H1 hi hv
  go_wp2_with fail
  with_reducible refine (clone_any d a c _ hl HI.out).mono ?_
  rintro e w2 ⟨v2, rfl, a2, k2, rfl, ho2, hb2⟩
  have hB := (hb2.block w.heap.size (cell_spot (head_cell HB1.out 0)).2).trans HB1.out
  have c0 := (head_cell hB 0).trans rfl
  have c1 := (head_cell hB 1).trans rfl
  have c2 := (head_cell hB 2).trans rfl
  have c3 := (head_cell hB 3).trans rfl
  have f0 := frozen_of_row w2 _ 0 _ _ hB
  have f1 := frozen_of_row w2 _ 1 _ _ hB
  have f2 := frozen_of_row w2 _ 2 _ _ hB
  have f3 := frozen_of_row w2 _ 3 _ _ hB
  have hs := (cell_spot c0).2
  have HO := Lib.hid ho2
  have HB2 := Lib.hid (kept_trans HB.out hb2)
  have HS : Hid (w.heap.size < w1.heap.size) := Lib.hid (cell_spot (head_cell HB1.out 0)).2
  clear hB hb2 ho2
  go_wp2_with fail
  refine bodyPost_ret (v := .tuple #[.agg #[.slice a2 d.ins.length k2, .int .i64 d.outs, .int .i64 d.weight, .int .i64 d.fee], .int .i64 0]) (by simp [results, Tryz.results154, go_sem, c0, c1, c2, c3]) rfl ?_
  have ht := turn_set4 w2 w.heap.size (.slice a2 d.ins.length k2) (.int .i64 d.outs) (.int .i64 d.weight) (.int .i64 d.fee)
  have ho3 := own_turn HO.out ht (fun k hk e => by have := (HO.out.lt k hk).1; have := HS.out; omega)
  have ho4 : OwnIns _ _ d.ins := ⟨ho3.1, ho3.2.imp id fun ⟨g, cap, cur, q1, _, q3⟩ => ⟨g, cap, cur, q1, Nat.zero_le _, q3⟩⟩
  obtain ⟨_, hc4, hi4⟩ := ownIns_slice ho4 (ins_ok HF.out)
  exact ⟨a2, k2, rfl, hl, hc4, hi4, HB2.out.trans (ht.below (fun k hk => by omega) HB2.out.size)⟩
theorem deed_any (x : UInt64) (w : World) (h : HomeAt w F R it ls M b ev v) :
    Calls Tryz.prog 154 #[.pointer (some ⟨R, 0, none⟩), .int .u64 x.toNat] w (DeedAns w (M x)) := by
  cases hx : M x with
  | none => exact deed_none x w h hx
  | some d => exact deed_some x d w h hx

/-- The weight of a link's deed. -/
def wM (M : UInt64 → Option DeedD) (l : LD) : Int := ((M l.id).getD nod).weight
/-- The usage of each peer. -/
def usageF (M : UInt64 → Option DeedD) (ls : List LD) : Nat → Int × Int := fun p => (((ls.filter fun l => l.peer == p).map (wM M)).sum, ((ls.filter fun l => l.peer == p).length : Int))
/-- The sixteen cells of all usages. -/
def usC (u : Nat → Int × Int) : Array Value := #[.int .i64 (u 0).1, .int .i64 (u 0).2, .int .i64 (u 1).1, .int .i64 (u 1).2, .int .i64 (u 2).1, .int .i64 (u 2).2, .int .i64 (u 3).1, .int .i64 (u 3).2,
  .int .i64 (u 4).1, .int .i64 (u 4).2, .int .i64 (u 5).1, .int .i64 (u 5).2, .int .i64 (u 6).1, .int .i64 (u 6).2, .int .i64 (u 7).1, .int .i64 (u 7).2]
theorem usC_at (u : Nat → Int × Int) (p : Nat) (hp : p < 8) : (usC u)[p * 2]? = some (.int .i64 (u p).1) ∧ (usC u)[p * 2 + 1]? = some (.int .i64 (u p).2) :=
  match p, hp with
  | 0, _ => ⟨rfl, rfl⟩
  | 1, _ => ⟨rfl, rfl⟩
  | 2, _ => ⟨rfl, rfl⟩
  | 3, _ => ⟨rfl, rfl⟩
  | 4, _ => ⟨rfl, rfl⟩
  | 5, _ => ⟨rfl, rfl⟩
  | 6, _ => ⟨rfl, rfl⟩
  | 7, _ => ⟨rfl, rfl⟩
theorem usC_set (u : Nat → Int × Int) (p : Nat) (hp : p < 8) (x y : Int) : ((usC u).setIfInBounds (p * 2) (.int .i64 x)).setIfInBounds (p * 2 + 1) (.int .i64 y) = usC (upd u p (x, y)) :=
  match p, hp with
  | 0, _ => by simp [usC, upd]
  | 1, _ => by simp [usC, upd]
  | 2, _ => by simp [usC, upd]
  | 3, _ => by simp [usC, upd]
  | 4, _ => by simp [usC, upd]
  | 5, _ => by simp [usC, upd]
  | 6, _ => by simp [usC, upd]
  | 7, _ => by simp [usC, upd]
theorem usageF_step {M : UInt64 → Option DeedD} {ls : List LD} {k : Nat} (h : k < ls.length) : usageF M (ls.take (k + 1)) = upd (usageF M (ls.take k)) ls[k].peer ((usageF M (ls.take k) ls[k].peer).1 + wM M ls[k], (usageF M (ls.take k) ls[k].peer).2 + 1) := by
  funext p
  unfold usageF
  rw [List.take_succ_eq_append_getElem h, List.filter_append, List.map_append, List.sum_append, List.length_append]
  by_cases hp : p = ls[k].peer
  · rw [hp, upd_same]
    simp
  · rw [upd_other _ _ hp]
    have : (ls[k].peer == p) = false := beq_eq_false_iff_ne.2 (fun e => hp e.symm)
    simp [this]
theorem sum_bound {α : Type} (f : α → Int) (lo hi : Int) : ∀ (l : List α), (∀ x ∈ l, lo ≤ f x ∧ f x ≤ hi) → lo * l.length ≤ (l.map f).sum ∧ (l.map f).sum ≤ hi * l.length
  | [], _ => by simp
  | a :: r, h => by
    have h1 := sum_bound f lo hi r (fun x hx => h x (by simp [hx]))
    have h2 := h a (by simp)
    simp only [List.map_cons, List.sum_cons, List.length_cons]
    have e1 : lo * ((r.length + 1 : Nat) : Int) = lo * r.length + lo := by rw [Int.natCast_add, Int.mul_add]; simp
    have e2 : hi * ((r.length + 1 : Nat) : Int) = hi * r.length + hi := by rw [Int.natCast_add, Int.mul_add]; simp
    rw [e1, e2]
    omega
theorem HomeAt.weight (h : HomeAt w F R it ls M b ev v) (l : LD) : 0 ≤ wM M l ∧ wM M l ≤ 1000 := by
  unfold wM
  cases hx : M l.id with
  | none => simp [nod]
  | some d =>
    have := (check_ok (h.fine _ d hx)).2.2.2.2.1
    simp only [Option.getD_some]
    omega
theorem usage_bound (hw : ∀ l, 0 ≤ wM M l ∧ wM M l ≤ 1000) (ls : List LD) (p : Nat) : 0 ≤ (usageF M ls p).1 ∧ (usageF M ls p).1 ≤ 1000 * ls.length ∧ 0 ≤ (usageF M ls p).2 ∧ (usageF M ls p).2 ≤ ls.length := by
  have h1 := sum_bound (wM M) 0 1000 (ls.filter fun l => l.peer == p) (fun x _ => hw x)
  have h2 := List.length_filter_le (fun l => l.peer == p) ls
  unfold usageF
  simp only
  omega
end Go.Proofs.YtaaaplbjeknbkaaGreat.So.Ho
