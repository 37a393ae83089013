/-
  The law's homed: an operation on both pools.
-/
import Derived.Test.YtodhkphjlcjdoaaPairH
import Derived.Deep.RegionHeld3
namespace Go.Proofs.Ytodhkphjlcjdoaa
open Go.RowKit Go.Maps

section
variable {w w' : World} {Z : Nat → Prop} {c o : Nat} {q : OpH}
theorem opH_same (hs : SameZ Z w w') (hz : Z c) (h : OpHCells w c 0 q) : OpHCells w' c 0 q := by
  have e := hs c hz
  obtain ⟨c0, c1, c2, c3, c4, c5, c6, c7, c8⟩ := h
  exact ⟨(World.cell?_of_block (a := ⟨c, 0, none⟩) e).trans c0, (World.cell?_of_block (a := ⟨c, 1, none⟩) e).trans c1, (World.cell?_of_block (a := ⟨c, 2, none⟩) e).trans c2, (World.cell?_of_block (a := ⟨c, 3, none⟩) e).trans c3, (World.cell?_of_block (a := ⟨c, 4, none⟩) e).trans c4, (World.cell?_of_block (a := ⟨c, 5, none⟩) e).trans c5, (World.cell?_of_block (a := ⟨c, 6, none⟩) e).trans c6, (World.cell?_of_block (a := ⟨c, 7, none⟩) e).trans c7, (World.cell?_of_block (a := ⟨c, 8, none⟩) e).trans c8⟩
theorem opH_new (w : World) (q : OpH) : OpHCells (w.alloc (.cells #[.int .i64 q.kind, .int .i64 q.peer, .int .i64 q.n, .int .u64 q.id.toNat, .bool q.flag, .slice q.ia q.d.ins.length q.ic, .int .i64 q.d.outs, .int .i64 q.d.weight, .int .i64 q.d.fee] 34)) w.heap.size 0 q :=
  ⟨by simp [go_sem], by simp [go_sem], by simp [go_sem], by simp [go_sem], by simp [go_sem], by simp [go_sem], by simp [go_sem], by simp [go_sem], by simp [go_sem]⟩
theorem same_drew (Z : Nat → Prop) (w : World) : SameZ Z w w.drew := fun _ _ => rfl
theorem same_new (h : There w Z) (o : Obj) : SameZ Z w (w.alloc o) := fun k hk => (kept_new w o).block k (h k hk)
theorem SameZ.less {Z' : Nat → Prop} (h : SameZ Z w w') (hz : ∀ k, Z' k → Z k) : SameZ Z' w w' := fun k hk => h k (hz k hk)
end
/-- What homed leaves behind. -/
def Homed (w0 : World) (Z : Nat → Prop) (R B : Nat) (L' : List LinkD) (w : World) (e : Ending) (w' : World) : Prop := e = .returned (.bool true) ∧ PairH w0 w' Z R B L' L' ∧ SameZ Z w w'
theorem homed_end {w0 w wX w' : World} {Z : Nat → Prop} {c R B : Nat} {L' : List LinkD} (h1 : SameZ Z w wX) (h2 : SameZ (fun k => Z k ∨ k = c) wX w') (h : PairH w0 w' (fun k => Z k ∨ k = c) R B L' L') : Homed w0 Z R B L' w (.returned (.bool true)) w' :=
  ⟨rfl, h.less (fun _ hk => .inl hk), h1.trans (h2.less (fun _ hk => .inl hk))⟩
set_option maxRecDepth 20000 in
set_option maxHeartbeats 1000000 in
theorem homed_add (w0 : World) (Z : Nat → Prop) (R B : Nat) (L : List LinkD) (p n : Int) (x : UInt64) (f : Bool) (ia : Option Addr) (ic : Nat) (d : DeedD) (hc : d.ins.length ≤ ic) (hi : InsAt w0 ia d.ins) (w : World) (h : PairH w0 w Z R B L L) (s : Bool) (r : Int) (L' : List LinkD) (hr : addC L p x d = ((s, r), L')) :
    Calls Try.prog 12 #[.pointer (some ⟨R, 0, none⟩), .pointer (some ⟨B, 0, none⟩), .agg #[.int .i64 0, .int .i64 p, .int .i64 n, .int .u64 x.toNat, .bool f, .slice ia d.ins.length ic, .int .i64 d.outs, .int .i64 d.weight, .int .i64 d.fee]] w fun e w' => Homed w0 Z R B L' w e w' := by
  have HX := Lib.hid (h.beside (.cells #[.int .i64 0, .int .i64 p, .int .i64 n, .int .u64 x.toNat, .bool f, .slice ia d.ins.length ic, .int .i64 d.outs, .int .i64 d.weight, .int .i64 d.fee] 34))
  have HKX := Lib.hid (opH_new w ⟨0, p, n, x, f, ia, ic, d⟩)
  have HSX := Lib.hid (same_new h.there (.cells #[.int .i64 0, .int .i64 p, .int .i64 n, .int .u64 x.toNat, .bool f, .slice ia d.ins.length ic, .int .i64 d.outs, .int .i64 d.weight, .int .i64 d.fee] 34))
  have HR := Lib.hid hr
  have HI := Lib.hid hi
  clear h hr hi
  go_enter Try.func12, Try.ntmps12
  go_wp2_with fail
  with_reducible refine (pairH_add _ _ R B L L _ HX.out p x d ia ic HI.out s r L' HR.out).mono ?_
  rintro e w2 ⟨rfl, h2, s2⟩
  obtain ⟨k0, k1, k2, k3, k4, k5, k6, k7, k8⟩ := opH_same s2 (.inr rfl) HKX.out
  simp only [Nat.zero_add] at k0 k1 k2 k3 k4 k5 k6 k7 k8
  have hlt := (cell_spot k0).2
  have H2 := Lib.hid h2
  have S2 := Lib.hid s2
  clear h2 s2
  go_wp2_with fail
  with_reducible refine (pairH_refadd _ _ R B L' L _ H2.out p x d ia ic hc HI.out s r L' HR.out).mono ?_
  rintro e w3 ⟨rfl, h3, s3⟩
  have H3 := Lib.hid h3
  have S3 := Lib.hid s3
  clear h3 s3
  go_wp2_with fail
  go_ret
  exact homed_end HSX.out (S2.out.trans S3.out) H3.out
set_option maxRecDepth 20000 in
set_option maxHeartbeats 1000000 in
theorem homed_remove (w0 : World) (Z : Nat → Prop) (R B : Nat) (L : List LinkD) (p n : Int) (x : UInt64) (f : Bool) (ia : Option Addr) (ic : Nat) (d : DeedD) (w : World) (h : PairH w0 w Z R B L L) (r : Bool) (hr : (deedOf L x).isSome = r) :
    Calls Try.prog 12 #[.pointer (some ⟨R, 0, none⟩), .pointer (some ⟨B, 0, none⟩), .agg #[.int .i64 1, .int .i64 p, .int .i64 n, .int .u64 x.toNat, .bool f, .slice ia d.ins.length ic, .int .i64 d.outs, .int .i64 d.weight, .int .i64 d.fee]] w fun e w' => Homed w0 Z R B (removeL L x) w e w' := by
  have HX := Lib.hid (h.beside (.cells #[.int .i64 1, .int .i64 p, .int .i64 n, .int .u64 x.toNat, .bool f, .slice ia d.ins.length ic, .int .i64 d.outs, .int .i64 d.weight, .int .i64 d.fee] 34))
  have HKX := Lib.hid (opH_new w ⟨1, p, n, x, f, ia, ic, d⟩)
  have HSX := Lib.hid (same_new h.there (.cells #[.int .i64 1, .int .i64 p, .int .i64 n, .int .u64 x.toNat, .bool f, .slice ia d.ins.length ic, .int .i64 d.outs, .int .i64 d.weight, .int .i64 d.fee] 34))
  have HR := Lib.hid hr
  clear h hr
  go_enter Try.func12, Try.ntmps12
  go_wp2_with fail
  generalize hwX : w.alloc (.cells #[.int .i64 1, .int .i64 p, .int .i64 n, .int .u64 x.toNat, .bool f, .slice ia d.ins.length ic, .int .i64 d.outs, .int .i64 d.weight, .int .i64 d.fee] 34) = wX at HX HSX HKX ⊢
  obtain ⟨k0, k1, k2, k3, k4, k5, k6, k7, k8⟩ := HKX.out
  rw [Nat.zero_add] at k3
  have HD := Lib.hid (HX.out.kept (w' := wX.drew) ((Below.refl _ _).drew))
  have HKD := Lib.hid (opH_same (Z := fun k => k = w.heap.size) (w' := wX.drew) (fun _ _ => rfl) rfl HKX.out)
  have HSD := Lib.hid (HSX.out.trans (same_drew Z wX))
  clear hwX k0 k1 k2 k4 k5 k6 k7 k8
  go_region_held3 (fun w' => w'.cell? ⟨w.heap.size, 3, none⟩ = some (.int .u64 x.toNat))
    (first | exact k3 | exact kk.out | assumption)
    (first
      | (go_at_call 31; ((with_reducible refine (pairH_remove _ _ R B L L _ HD.out x r HR.out).mono ?_); rintro e w2 ⟨rfl, h2, s2⟩; have kk := Lib.hid (s2.cell (p := ⟨w.heap.size, 3, none⟩) (.inr rfl) k3); have H2 := Lib.hid h2; have S2 := Lib.hid s2; clear h2 s2))
      | (go_at_call 35; ((with_reducible refine (pairH_refremove _ _ R B _ L _ H2.out x r HR.out).mono ?_); rintro e w3 ⟨rfl, h3, s3⟩; have kk := Lib.hid (s3.cell (p := ⟨w.heap.size, 3, none⟩) (.inr rfl) kk.out); have H3 := Lib.hid h3; have S3 := Lib.hid s3; clear h3 s3)))
  go_wp2_with fail
  go_ret
  exact homed_end HSD.out (S2.out.trans S3.out) H3.out
set_option maxRecDepth 20000 in
set_option maxHeartbeats 1000000 in
theorem homed_drop (w0 : World) (Z : Nat → Prop) (R B : Nat) (L : List LinkD) (p n : Int) (x : UInt64) (f : Bool) (ia : Option Addr) (ic : Nat) (d : DeedD) (w : World) (h : PairH w0 w Z R B L L) (r : Int) (L' : List LinkD) (hr : dropC L p = (r, L')) :
    Calls Try.prog 12 #[.pointer (some ⟨R, 0, none⟩), .pointer (some ⟨B, 0, none⟩), .agg #[.int .i64 2, .int .i64 p, .int .i64 n, .int .u64 x.toNat, .bool f, .slice ia d.ins.length ic, .int .i64 d.outs, .int .i64 d.weight, .int .i64 d.fee]] w fun e w' => Homed w0 Z R B L' w e w' := by
  have HX := Lib.hid (h.beside (.cells #[.int .i64 2, .int .i64 p, .int .i64 n, .int .u64 x.toNat, .bool f, .slice ia d.ins.length ic, .int .i64 d.outs, .int .i64 d.weight, .int .i64 d.fee] 34))
  have HKX := Lib.hid (opH_new w ⟨2, p, n, x, f, ia, ic, d⟩)
  have HSX := Lib.hid (same_new h.there (.cells #[.int .i64 2, .int .i64 p, .int .i64 n, .int .u64 x.toNat, .bool f, .slice ia d.ins.length ic, .int .i64 d.outs, .int .i64 d.weight, .int .i64 d.fee] 34))
  have HR := Lib.hid hr
  clear h hr
  go_enter Try.func12, Try.ntmps12
  go_wp2_with fail
  generalize hwX : w.alloc (.cells #[.int .i64 2, .int .i64 p, .int .i64 n, .int .u64 x.toNat, .bool f, .slice ia d.ins.length ic, .int .i64 d.outs, .int .i64 d.weight, .int .i64 d.fee] 34) = wX at HX HSX HKX ⊢
  obtain ⟨k0, k1, k2, k3, k4, k5, k6, k7, k8⟩ := HKX.out
  rw [Nat.zero_add] at k1
  have HD := Lib.hid (HX.out.kept (w' := wX.drew) ((Below.refl _ _).drew))
  have HSD := Lib.hid (HSX.out.trans (same_drew Z wX))
  clear hwX k0 k3 k2 k4 k5 k6 k7 k8
  go_region_held3 (fun w' => w'.cell? ⟨w.heap.size, 1, none⟩ = some (.int .i64 p))
    (first | exact k1 | exact kk.out | assumption)
    (first
      | (go_at_call 20; ((with_reducible refine (pairH_drop _ _ R B L L _ HD.out p r L' HR.out).mono ?_); rintro e w2 ⟨rfl, h2, s2⟩; have kk := Lib.hid (s2.cell (p := ⟨w.heap.size, 1, none⟩) (.inr rfl) k1); have H2 := Lib.hid h2; have S2 := Lib.hid s2; clear h2 s2))
      | (go_at_call 36; ((with_reducible refine (pairH_refdrop _ _ R B L' L _ H2.out p r L' HR.out).mono ?_); rintro e w3 ⟨rfl, h3, s3⟩; have kk := Lib.hid (s3.cell (p := ⟨w.heap.size, 1, none⟩) (.inr rfl) kk.out); have H3 := Lib.hid h3; have S3 := Lib.hid s3; clear h3 s3)))
  go_wp2_with fail
  go_ret
  exact homed_end HSD.out (S2.out.trans S3.out) H3.out
set_option maxRecDepth 20000 in
theorem homed_other (w0 : World) (Z : Nat → Prop) (R B : Nat) (L : List LinkD) (kd p n : Int) (x : UInt64) (f : Bool) (ia : Option Addr) (ic : Nat) (d : DeedD) (w : World) (h : PairH w0 w Z R B L L) (h0 : ¬ kd = 0) (h1 : ¬ kd = 1) (h2 : ¬ kd = 2) :
    Calls Try.prog 12 #[.pointer (some ⟨R, 0, none⟩), .pointer (some ⟨B, 0, none⟩), .agg #[.int .i64 kd, .int .i64 p, .int .i64 n, .int .u64 x.toNat, .bool f, .slice ia d.ins.length ic, .int .i64 d.outs, .int .i64 d.weight, .int .i64 d.fee]] w fun e w' => Homed w0 Z R B L w e w' := by
  have HX := Lib.hid (h.beside (.cells #[.int .i64 kd, .int .i64 p, .int .i64 n, .int .u64 x.toNat, .bool f, .slice ia d.ins.length ic, .int .i64 d.outs, .int .i64 d.weight, .int .i64 d.fee] 34))
  have HSX := Lib.hid (same_new h.there (.cells #[.int .i64 kd, .int .i64 p, .int .i64 n, .int .u64 x.toNat, .bool f, .slice ia d.ins.length ic, .int .i64 d.outs, .int .i64 d.weight, .int .i64 d.fee] 34))
  clear h
  go_enter Try.func12, Try.ntmps12
  go_wp2_with fail
  go_ret
  exact homed_end HSX.out (fun _ _ => rfl) HX.out
theorem homed_any (w0 : World) (Z : Nat → Prop) (R B : Nat) (L : List LinkD) (q : OpH) (hc : q.d.ins.length ≤ q.ic) (hi : InsAt w0 q.ia q.d.ins) (w : World) (h : PairH w0 w Z R B L L) :
    Calls Try.prog 12 #[.pointer (some ⟨R, 0, none⟩), .pointer (some ⟨B, 0, none⟩), .agg #[.int .i64 q.kind, .int .i64 q.peer, .int .i64 q.n, .int .u64 q.id.toNat, .bool q.flag, .slice q.ia q.d.ins.length q.ic, .int .i64 q.d.outs, .int .i64 q.d.weight, .int .i64 q.d.fee]] w fun e w' => Homed w0 Z R B (stepC L q) w e w' := by
  obtain ⟨kd, p, n, x, f, ia, ic, d⟩ := q
  unfold stepC
  dsimp only at hc hi ⊢
  by_cases h0 : kd = 0
  · subst h0
    exact homed_add w0 Z R B L p n x f ia ic d hc hi w h _ _ _ rfl
  rw [if_neg h0]
  by_cases h1 : kd = 1
  · subst h1
    exact homed_remove w0 Z R B L p n x f ia ic d w h _ rfl
  rw [if_neg h1]
  by_cases h2 : kd = 2
  · subst h2
    exact homed_drop w0 Z R B L p n x f ia ic d w h _ _ rfl
  rw [if_neg h2]
  exact homed_other w0 Z R B L kd p n x f ia ic d w h h0 h1 h2
end Go.Proofs.Ytodhkphjlcjdoaa
