/-
  The law's tracked: an operation on both trackers.
-/
import Derived.Test.YtamiddnkgjfdhaaPairT
namespace Go.Proofs.Ytamiddnkgjfdhaa
open Go.RowKit Go.Maps

/-- What an operation makes of the entries. -/
def opL (d : OpD) (L : List TEnt) : List TEnt :=
  if d.kind = 0 then (annC L d.peer d.id d.n d.flag).2 else if d.kind = 1 then dueL d.n L else if d.kind = 2 then (askC L d.peer d.id d.n).2 else if d.kind = 3 then (answerC L d.peer d.id).2 else if d.kind = 4 then forgetL L d.id else if d.kind = 5 then (dropC L d.peer).2 else L
/-- The fields of an operation in a block. -/
def Box4 (w : World) (c : Nat) (p n : Int) (x : UInt64) (f : Bool) : Prop := w.cell? ⟨c, 1, none⟩ = some (.int .i64 p) ∧ w.cell? ⟨c, 2, none⟩ = some (.int .i64 n) ∧ w.cell? ⟨c, 3, none⟩ = some (.int .u64 x.toNat) ∧ w.cell? ⟨c, 4, none⟩ = some (.bool f)
theorem box4 {w w' : World} {Z : Nat → Prop} {c : Nat} {p n : Int} {x : UInt64} {f : Bool} (hs : SameOn Z w w') (hz : Z c) (h : Box4 w c p n x f) : Box4 w' c p n x f := by
  have e := hs c hz
  exact ⟨(World.cell?_of_block (a := ⟨c, 1, none⟩) e).trans h.1, (World.cell?_of_block (a := ⟨c, 2, none⟩) e).trans h.2.1, (World.cell?_of_block (a := ⟨c, 3, none⟩) e).trans h.2.2.1, (World.cell?_of_block (a := ⟨c, 4, none⟩) e).trans h.2.2.2⟩
theorem drew_same (Z : Nat → Prop) (w : World) : SameOn Z w w.drew := fun _ _ => rfl
theorem new_same {Z : Nat → Prop} {w : World} (h : ∀ k, Z k → k < w.heap.size) (o : Obj) : SameOn Z w (w.alloc o) := fun k hk => (kept_new w o).block k (h k hk)
theorem same_less {Z Z' : Nat → Prop} {w w' : World} (h : SameOn Z w w') (hz : ∀ k, Z' k → Z k) : SameOn Z' w w' := fun k hk => h k (hz k hk)
/-- What tracked leaves behind. -/
def Tracked (w0 : World) (Z : Nat → Prop) (R B : Nat) (salt : UInt64) (L' : List TEnt) (w : World) (e : Ending) (w' : World) : Prop := e = .returned (.bool true) ∧ PairT w0 w' Z R B salt L' L' ∧ SameOn Z w w'
theorem tracked_end {w0 w wX w' : World} {Z : Nat → Prop} {c R B : Nat} {salt : UInt64} {L' : List TEnt} (h1 : SameOn Z w wX) (h2 : SameOn (fun k => Z k ∨ k = c) wX w') (h : PairT w0 w' (fun k => Z k ∨ k = c) R B salt L' L') : Tracked w0 Z R B salt L' w (.returned (.bool true)) w' :=
  ⟨rfl, h.less (fun _ hk => .inl hk), h1.trans (same_less h2 (fun _ hk => .inl hk))⟩
/-- The operation lies in a new block beside the two. -/
theorem tracked_box {w0 w : World} {Z : Nat → Prop} {R B : Nat} {salt : UInt64} {L : List TEnt} (h : PairT w0 w Z R B salt L L) (kd p n : Int) (x : UInt64) (f : Bool) (v5 v6 v7 v8 : Value) :
    PairT w0 (w.alloc (.cells #[.int .i64 kd, .int .i64 p, .int .i64 n, .int .u64 x.toNat, .bool f, v5, v6, v7, v8] 34)) (fun k => Z k ∨ k = w.heap.size) R B salt L L ∧ Box4 (w.alloc (.cells #[.int .i64 kd, .int .i64 p, .int .i64 n, .int .u64 x.toNat, .bool f, v5, v6, v7, v8] 34)) w.heap.size p n x f ∧ SameOn Z w (w.alloc (.cells #[.int .i64 kd, .int .i64 p, .int .i64 n, .int .u64 x.toNat, .bool f, v5, v6, v7, v8] 34)) :=
  ⟨h.beside _, ⟨by simp [go_sem], by simp [go_sem], by simp [go_sem], by simp [go_sem]⟩, new_same h.there _⟩
set_option maxRecDepth 20000 in
set_option maxHeartbeats 1000000 in
theorem tracked_ann (w0 : World) (Z : Nat → Prop) (R B : Nat) (salt : UInt64) (L : List TEnt) (p n : Int) (x : UInt64) (f : Bool) (ia : Option Addr) (il ic : Nat) (o wt fe : Int) (w : World) (h : PairT w0 w Z R B salt L L) (c : Int) (L' : List TEnt) (hc : annC L p x n f = (c, L')) :
    Calls Try.prog 13 #[.pointer (some ⟨R, 0, none⟩), .pointer (some ⟨B, 0, none⟩), .agg #[.int .i64 0, .int .i64 p, .int .i64 n, .int .u64 x.toNat, .bool f, .slice ia il ic, .int .i64 o, .int .i64 wt, .int .i64 fe]] w fun e w' => Tracked w0 Z R B salt L' w e w' := by
  obtain ⟨hX, kX, sX⟩ := tracked_box h 0 p n x f (.slice ia il ic) (.int .i64 o) (.int .i64 wt) (.int .i64 fe)
  have HX := Lib.hid hX
  have HSX := Lib.hid sX
  have HKX := Lib.hid kX
  clear hX sX h kX
  have HC := Lib.hid hc
  clear hc
  go_enter Try.func13, Try.ntmps13
  go_wp2_with fail
  generalize hwX : w.alloc (.cells #[.int .i64 0, .int .i64 p, .int .i64 n, .int .u64 x.toNat, .bool f, .slice ia il ic, .int .i64 o, .int .i64 wt, .int .i64 fe] 34) = wX at HX HSX HKX ⊢
  obtain ⟨k1, k2, k3, k4⟩ := HKX.out
  have HD := Lib.hid (HX.out.kept (w' := wX.drew) ((Below.refl _ _).drew))
  have HSD := Lib.hid (HSX.out.trans (drew_same Z wX))
  clear hwX
  go_region_held3 (fun w' => w'.cell? ⟨w.heap.size, 1, none⟩ = some (.int .i64 p) ∧ w'.cell? ⟨w.heap.size, 2, none⟩ = some (.int .i64 n) ∧ w'.cell? ⟨w.heap.size, 3, none⟩ = some (.int .u64 x.toNat) ∧ w'.cell? ⟨w.heap.size, 4, none⟩ = some (.bool f))
    (first | exact ⟨k1, k2, k3, k4⟩ | exact kk.out | assumption)
    (first
      | (go_at_call 19; ((with_reducible refine (pairT_announce _ _ R B salt L L _ HD.out p x n f c L' HC.out).mono ?_); rintro e w2 ⟨rfl, h2, s2⟩; have kk := Lib.hid (box4 s2 (.inr rfl) ⟨k1, k2, k3, k4⟩); have H2 := Lib.hid h2; have S2 := Lib.hid s2; clear h2 s2))
      | (go_at_call 32; ((with_reducible refine (pairT_refannounce _ _ R B salt L' L _ H2.out p x n f c L' HC.out).mono ?_); rintro e w3 ⟨rfl, h3, s3⟩; have kk := Lib.hid (box4 s3 (.inr rfl) kk.out); have H3 := Lib.hid h3; have S3 := Lib.hid s3; clear h3 s3)))
  go_wp2_with fail
  go_ret
  exact tracked_end HSD.out (S2.out.trans S3.out) H3.out
set_option maxRecDepth 20000 in
set_option maxHeartbeats 1000000 in
theorem tracked_ask (w0 : World) (Z : Nat → Prop) (R B : Nat) (salt : UInt64) (L : List TEnt) (p n : Int) (x : UInt64) (f : Bool) (ia : Option Addr) (il ic : Nat) (o wt fe : Int) (w : World) (h : PairT w0 w Z R B salt L L) (c : Int) (L' : List TEnt) (hc : askC L p x n = (c, L')) :
    Calls Try.prog 13 #[.pointer (some ⟨R, 0, none⟩), .pointer (some ⟨B, 0, none⟩), .agg #[.int .i64 2, .int .i64 p, .int .i64 n, .int .u64 x.toNat, .bool f, .slice ia il ic, .int .i64 o, .int .i64 wt, .int .i64 fe]] w fun e w' => Tracked w0 Z R B salt L' w e w' := by
  obtain ⟨hX, kX, sX⟩ := tracked_box h 2 p n x f (.slice ia il ic) (.int .i64 o) (.int .i64 wt) (.int .i64 fe)
  have HX := Lib.hid hX
  have HSX := Lib.hid sX
  have HKX := Lib.hid kX
  clear hX sX h kX
  have HC := Lib.hid hc
  clear hc
  go_enter Try.func13, Try.ntmps13
  go_wp2_with fail
  generalize hwX : w.alloc (.cells #[.int .i64 2, .int .i64 p, .int .i64 n, .int .u64 x.toNat, .bool f, .slice ia il ic, .int .i64 o, .int .i64 wt, .int .i64 fe] 34) = wX at HX HSX HKX ⊢
  obtain ⟨k1, k2, k3, k4⟩ := HKX.out
  have HD := Lib.hid (HX.out.kept (w' := wX.drew) ((Below.refl _ _).drew))
  have HSD := Lib.hid (HSX.out.trans (drew_same Z wX))
  clear hwX
  go_region_held3 (fun w' => w'.cell? ⟨w.heap.size, 1, none⟩ = some (.int .i64 p) ∧ w'.cell? ⟨w.heap.size, 2, none⟩ = some (.int .i64 n) ∧ w'.cell? ⟨w.heap.size, 3, none⟩ = some (.int .u64 x.toNat) ∧ w'.cell? ⟨w.heap.size, 4, none⟩ = some (.bool f))
    (first | exact ⟨k1, k2, k3, k4⟩ | exact kk.out | assumption)
    (first
      | (go_at_call 26; ((with_reducible refine (pairT_ask _ _ R B salt L L _ HD.out p x n c L' HC.out).mono ?_); rintro e w2 ⟨rfl, h2, s2⟩; have kk := Lib.hid (box4 s2 (.inr rfl) ⟨k1, k2, k3, k4⟩); have H2 := Lib.hid h2; have S2 := Lib.hid s2; clear h2 s2))
      | (go_at_call 34; ((with_reducible refine (pairT_refask _ _ R B salt L' L _ H2.out p x n c L' HC.out).mono ?_); rintro e w3 ⟨rfl, h3, s3⟩; have kk := Lib.hid (box4 s3 (.inr rfl) kk.out); have H3 := Lib.hid h3; have S3 := Lib.hid s3; clear h3 s3)))
  go_wp2_with fail
  go_ret
  exact tracked_end HSD.out (S2.out.trans S3.out) H3.out
set_option maxRecDepth 20000 in
set_option maxHeartbeats 1000000 in
theorem tracked_answer (w0 : World) (Z : Nat → Prop) (R B : Nat) (salt : UInt64) (L : List TEnt) (p n : Int) (x : UInt64) (f : Bool) (ia : Option Addr) (il ic : Nat) (o wt fe : Int) (w : World) (h : PairT w0 w Z R B salt L L) (c : Int) (L' : List TEnt) (hc : answerC L p x = (c, L')) :
    Calls Try.prog 13 #[.pointer (some ⟨R, 0, none⟩), .pointer (some ⟨B, 0, none⟩), .agg #[.int .i64 3, .int .i64 p, .int .i64 n, .int .u64 x.toNat, .bool f, .slice ia il ic, .int .i64 o, .int .i64 wt, .int .i64 fe]] w fun e w' => Tracked w0 Z R B salt L' w e w' := by
  obtain ⟨hX, kX, sX⟩ := tracked_box h 3 p n x f (.slice ia il ic) (.int .i64 o) (.int .i64 wt) (.int .i64 fe)
  have HX := Lib.hid hX
  have HSX := Lib.hid sX
  have HKX := Lib.hid kX
  clear hX sX h kX
  have HC := Lib.hid hc
  clear hc
  go_enter Try.func13, Try.ntmps13
  go_wp2_with fail
  generalize hwX : w.alloc (.cells #[.int .i64 3, .int .i64 p, .int .i64 n, .int .u64 x.toNat, .bool f, .slice ia il ic, .int .i64 o, .int .i64 wt, .int .i64 fe] 34) = wX at HX HSX HKX ⊢
  obtain ⟨k1, k2, k3, k4⟩ := HKX.out
  have HD := Lib.hid (HX.out.kept (w' := wX.drew) ((Below.refl _ _).drew))
  have HSD := Lib.hid (HSX.out.trans (drew_same Z wX))
  clear hwX
  go_region_held3 (fun w' => w'.cell? ⟨w.heap.size, 1, none⟩ = some (.int .i64 p) ∧ w'.cell? ⟨w.heap.size, 2, none⟩ = some (.int .i64 n) ∧ w'.cell? ⟨w.heap.size, 3, none⟩ = some (.int .u64 x.toNat) ∧ w'.cell? ⟨w.heap.size, 4, none⟩ = some (.bool f))
    (first | exact ⟨k1, k2, k3, k4⟩ | exact kk.out | assumption)
    (first
      | (go_at_call 35; ((with_reducible refine (pairT_answer _ _ R B salt L L _ HD.out p x c L' HC.out).mono ?_); rintro e w2 ⟨rfl, h2, s2⟩; have kk := Lib.hid (box4 s2 (.inr rfl) ⟨k1, k2, k3, k4⟩); have H2 := Lib.hid h2; have S2 := Lib.hid s2; clear h2 s2))
      | (go_at_call 36; ((with_reducible refine (pairT_refanswer _ _ R B salt L' L _ H2.out p x c L' HC.out).mono ?_); rintro e w3 ⟨rfl, h3, s3⟩; have kk := Lib.hid (box4 s3 (.inr rfl) kk.out); have H3 := Lib.hid h3; have S3 := Lib.hid s3; clear h3 s3)))
  go_wp2_with fail
  go_ret
  exact tracked_end HSD.out (S2.out.trans S3.out) H3.out
set_option maxRecDepth 20000 in
set_option maxHeartbeats 1000000 in
theorem tracked_drop (w0 : World) (Z : Nat → Prop) (R B : Nat) (salt : UInt64) (L : List TEnt) (p n : Int) (x : UInt64) (f : Bool) (ia : Option Addr) (il ic : Nat) (o wt fe : Int) (w : World) (h : PairT w0 w Z R B salt L L) (c : Int) (L' : List TEnt) (hc : dropC L p = (c, L')) :
    Calls Try.prog 13 #[.pointer (some ⟨R, 0, none⟩), .pointer (some ⟨B, 0, none⟩), .agg #[.int .i64 5, .int .i64 p, .int .i64 n, .int .u64 x.toNat, .bool f, .slice ia il ic, .int .i64 o, .int .i64 wt, .int .i64 fe]] w fun e w' => Tracked w0 Z R B salt L' w e w' := by
  obtain ⟨hX, kX, sX⟩ := tracked_box h 5 p n x f (.slice ia il ic) (.int .i64 o) (.int .i64 wt) (.int .i64 fe)
  have HX := Lib.hid hX
  have HSX := Lib.hid sX
  have HKX := Lib.hid kX
  clear hX sX h kX
  have HC := Lib.hid hc
  clear hc
  go_enter Try.func13, Try.ntmps13
  go_wp2_with fail
  generalize hwX : w.alloc (.cells #[.int .i64 5, .int .i64 p, .int .i64 n, .int .u64 x.toNat, .bool f, .slice ia il ic, .int .i64 o, .int .i64 wt, .int .i64 fe] 34) = wX at HX HSX HKX ⊢
  obtain ⟨k1, k2, k3, k4⟩ := HKX.out
  have HD := Lib.hid (HX.out.kept (w' := wX.drew) ((Below.refl _ _).drew))
  have HSD := Lib.hid (HSX.out.trans (drew_same Z wX))
  clear hwX
  go_region_held3 (fun w' => w'.cell? ⟨w.heap.size, 1, none⟩ = some (.int .i64 p) ∧ w'.cell? ⟨w.heap.size, 2, none⟩ = some (.int .i64 n) ∧ w'.cell? ⟨w.heap.size, 3, none⟩ = some (.int .u64 x.toNat) ∧ w'.cell? ⟨w.heap.size, 4, none⟩ = some (.bool f))
    (first | exact ⟨k1, k2, k3, k4⟩ | exact kk.out | assumption)
    (first
      | (go_at_call 29; ((with_reducible refine (pairT_drop _ _ R B salt L L _ HD.out p c L' HC.out).mono ?_); rintro e w2 ⟨rfl, h2, s2⟩; have kk := Lib.hid (box4 s2 (.inr rfl) ⟨k1, k2, k3, k4⟩); have H2 := Lib.hid h2; have S2 := Lib.hid s2; clear h2 s2))
      | (go_at_call 38; ((with_reducible refine (pairT_refdrop _ _ R B salt L' L _ H2.out p c L' HC.out).mono ?_); rintro e w3 ⟨rfl, h3, s3⟩; have kk := Lib.hid (box4 s3 (.inr rfl) kk.out); have H3 := Lib.hid h3; have S3 := Lib.hid s3; clear h3 s3)))
  go_wp2_with fail
  go_ret
  exact tracked_end HSD.out (S2.out.trans S3.out) H3.out
set_option maxRecDepth 20000 in
theorem tracked_due (w0 : World) (Z : Nat → Prop) (R B : Nat) (salt : UInt64) (L : List TEnt) (p n : Int) (x : UInt64) (f : Bool) (ia : Option Addr) (il ic : Nat) (o wt fe : Int) (w : World) (h : PairT w0 w Z R B salt L L) :
    Calls Try.prog 13 #[.pointer (some ⟨R, 0, none⟩), .pointer (some ⟨B, 0, none⟩), .agg #[.int .i64 1, .int .i64 p, .int .i64 n, .int .u64 x.toNat, .bool f, .slice ia il ic, .int .i64 o, .int .i64 wt, .int .i64 fe]] w fun e w' => Tracked w0 Z R B salt (dueL n L) w e w' := by
  obtain ⟨hX, kX, sX⟩ := tracked_box h 1 p n x f (.slice ia il ic) (.int .i64 o) (.int .i64 wt) (.int .i64 fe)
  have HX := Lib.hid hX
  have HSX := Lib.hid sX
  have HKX := Lib.hid kX
  clear hX sX h kX
  go_enter Try.func13, Try.ntmps13
  go_wp2_with fail
  with_reducible refine (pairT_due _ _ R B salt L L _ HX.out n).mono ?_
  rintro e w2 ⟨rfl, h2, s2⟩
  obtain ⟨k1, k2, k3, k4⟩ := box4 s2 (.inr rfl) HKX.out
  have H2 := Lib.hid h2
  have S2 := Lib.hid s2
  clear h2 s2
  have hlt := (cell_spot k1).2
  go_wp2_with fail
  with_reducible refine (pairT_refdue _ _ R B salt _ L _ H2.out n).mono ?_
  rintro e w3 ⟨rfl, h3, s3⟩
  have H3 := Lib.hid h3
  have S3 := Lib.hid s3
  clear h3 s3
  go_wp2_with fail
  go_ret
  exact tracked_end HSX.out (S2.out.trans S3.out) H3.out
set_option maxRecDepth 20000 in
theorem tracked_forget (w0 : World) (Z : Nat → Prop) (R B : Nat) (salt : UInt64) (L : List TEnt) (p n : Int) (x : UInt64) (f : Bool) (ia : Option Addr) (il ic : Nat) (o wt fe : Int) (w : World) (h : PairT w0 w Z R B salt L L) :
    Calls Try.prog 13 #[.pointer (some ⟨R, 0, none⟩), .pointer (some ⟨B, 0, none⟩), .agg #[.int .i64 4, .int .i64 p, .int .i64 n, .int .u64 x.toNat, .bool f, .slice ia il ic, .int .i64 o, .int .i64 wt, .int .i64 fe]] w fun e w' => Tracked w0 Z R B salt (forgetL L x) w e w' := by
  obtain ⟨hX, kX, sX⟩ := tracked_box h 4 p n x f (.slice ia il ic) (.int .i64 o) (.int .i64 wt) (.int .i64 fe)
  have HX := Lib.hid hX
  have HSX := Lib.hid sX
  have HKX := Lib.hid kX
  clear hX sX h kX
  go_enter Try.func13, Try.ntmps13
  go_wp2_with fail
  with_reducible refine (pairT_forget _ _ R B salt L L _ HX.out x).mono ?_
  rintro e w2 ⟨rfl, h2, s2⟩
  obtain ⟨k1, k2, k3, k4⟩ := box4 s2 (.inr rfl) HKX.out
  have H2 := Lib.hid h2
  have S2 := Lib.hid s2
  clear h2 s2
  have hlt := (cell_spot k1).2
  go_wp2_with fail
  with_reducible refine (pairT_refforget _ _ R B salt _ L _ H2.out x).mono ?_
  rintro e w3 ⟨rfl, h3, s3⟩
  have H3 := Lib.hid h3
  have S3 := Lib.hid s3
  clear h3 s3
  go_wp2_with fail
  go_ret
  exact tracked_end HSX.out (S2.out.trans S3.out) H3.out
set_option maxRecDepth 20000 in
theorem tracked_other (w0 : World) (Z : Nat → Prop) (R B : Nat) (salt : UInt64) (L : List TEnt) (kd : Int) (p n : Int) (x : UInt64) (f : Bool) (ia : Option Addr) (il ic : Nat) (o wt fe : Int) (w : World) (h : PairT w0 w Z R B salt L L) (h0 : ¬ kd = 0) (h1 : ¬ kd = 1) (h2 : ¬ kd = 2) (h3 : ¬ kd = 3) (h4 : ¬ kd = 4) (h5 : ¬ kd = 5) :
    Calls Try.prog 13 #[.pointer (some ⟨R, 0, none⟩), .pointer (some ⟨B, 0, none⟩), .agg #[.int .i64 kd, .int .i64 p, .int .i64 n, .int .u64 x.toNat, .bool f, .slice ia il ic, .int .i64 o, .int .i64 wt, .int .i64 fe]] w fun e w' => Tracked w0 Z R B salt L w e w' := by
  obtain ⟨hX, kX, sX⟩ := tracked_box h kd p n x f (.slice ia il ic) (.int .i64 o) (.int .i64 wt) (.int .i64 fe)
  have HX := Lib.hid hX
  have HSX := Lib.hid sX
  have HKX := Lib.hid kX
  clear hX sX h kX
  go_enter Try.func13, Try.ntmps13
  go_wp2_with fail
  go_ret
  exact tracked_end HSX.out (fun _ _ => rfl) HX.out
theorem tracked_any (w0 : World) (Z : Nat → Prop) (R B : Nat) (salt : UInt64) (L : List TEnt) (d : OpD) (w : World) (h : PairT w0 w Z R B salt L L) :
    Calls Try.prog 13 #[.pointer (some ⟨R, 0, none⟩), .pointer (some ⟨B, 0, none⟩), .agg #[.int .i64 d.kind, .int .i64 d.peer, .int .i64 d.n, .int .u64 d.id.toNat, .bool d.flag, .slice d.ia d.il d.ic, .int .i64 d.outs, .int .i64 d.weight, .int .i64 d.fee]] w fun e w' => Tracked w0 Z R B salt (opL d L) w e w' := by
  obtain ⟨kd, p, n, x, f, ia, il, ic, o, wt, fe⟩ := d
  unfold opL
  dsimp only
  by_cases h0 : kd = 0
  · subst h0
    exact tracked_ann w0 Z R B salt L p n x f ia il ic o wt fe w h _ _ rfl
  rw [if_neg h0]
  by_cases h1 : kd = 1
  · subst h1
    exact tracked_due w0 Z R B salt L p n x f ia il ic o wt fe w h
  rw [if_neg h1]
  by_cases h2 : kd = 2
  · subst h2
    exact tracked_ask w0 Z R B salt L p n x f ia il ic o wt fe w h _ _ rfl
  rw [if_neg h2]
  by_cases h3 : kd = 3
  · subst h3
    exact tracked_answer w0 Z R B salt L p n x f ia il ic o wt fe w h _ _ rfl
  rw [if_neg h3]
  by_cases h4 : kd = 4
  · subst h4
    exact tracked_forget w0 Z R B salt L p n x f ia il ic o wt fe w h
  rw [if_neg h4]
  by_cases h5 : kd = 5
  · subst h5
    exact tracked_drop w0 Z R B salt L p n x f ia il ic o wt fe w h _ _ rfl
  rw [if_neg h5]
  exact tracked_other w0 Z R B salt L kd p n x f ia il ic o wt fe w h h0 h1 h2 h3 h4 h5
end Go.Proofs.Ytamiddnkgjfdhaa
