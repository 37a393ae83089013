/-
  A map from ints to functions: put, look; a row of errors being filled; acts appended to acts.
-/
import Derived.Test.YtaaaplbjeknbkabGreatJ3
import Derived.Test.YtaaaplbjeknbkabGreatJ18
import Derived.Test.YtaaaplbjeknbkabGreatJ32
import Derived.Test.YtaaaplbjeknbkabGreatJ21
set_option maxRecDepth 20000
namespace Go.Proofs.YtaaaplbjeknbkabGreat
open Go.RowKit Go.Maps

variable {w w' : World} {b n : Nat} {f : Int → Option Value}

theorem int_keyed' : Maps.Keyed Tryz.prog 3 := int_keyed Tryz.underlying3

/-- Block b is a map from ints to functions, of at most n keys. -/
def FMap (w : World) (b n : Nat) (f : Int → Option Value) : Prop :=
  ∃ D : DataW Value, w.ownsMap Tryz.prog 3 exactE b n D ∧ (∀ (x : Int) (v : Value), (Lit.int .i64 x).wf = true → f x = some v → ∀ z, D.atKey (.int .i64 x) z = .held v) ∧ ∀ x : Int, (Lit.int .i64 x).wf = true → Maps.has D (.int .i64 x) = (f x).isSome
theorem FMap.lt (h : FMap w b n f) : b < w.heap.size := by
  obtain ⟨D, hD, _⟩ := h
  exact hD.lt
theorem FMap.same (h : FMap w b n f) (e : w'.heap[b]? = w.heap[b]?) : FMap w' b n f := by
  obtain ⟨D, ⟨es, clock, hb, r⟩, r2⟩ := h
  exact ⟨D, ⟨es, clock, e.trans hb, r⟩, r2⟩
theorem fmap_new (w : World) : FMap (w.alloc (.map #[] 0)) w.heap.size 0 (fun _ => none) := ⟨.map [], World.ownsMap_made w _ _ _, fun x v _ h => (by cases h), fun _ _ => rfl⟩
theorem zero_fn (w : World) : (zeroValue 111).run Tryz.prog w = .ok .nilFunc w := by kernel_rfl
theorem FMap.look_ok (h : FMap w b n f) (x : Int) (hx : (Lit.int .i64 x).wf = true) : (Instr.lookup 106 (.map (some b)) (.int .i64 x) true).run Tryz.prog w = .ok (.tuple #[(f x).getD .nilFunc, .bool (f x).isSome]) w := by
  obtain ⟨D, hD, hat, hhas⟩ := h
  obtain ⟨u, ps, hrun, hu⟩ := hD.look_ok int_keyed' Tryz.underlying106 (zero_fn w) (zd := .held .nilFunc) (zp := []) rfl (keyOf_int_mk Tryz.underlying3 hx)
  have hz : D.atKey (.int .i64 x) (.held Value.nilFunc) = .held ((f x).getD .nilFunc) := by
    cases hf : f x with
    | some v => exact hat x v hx hf _
    | none =>
      have h0 := hhas x hx
      rw [hf] at h0
      rw [atKey_of_not_has h0]
      rfl
  rw [hz] at hu
  unfold exactE at hu
  simp only [Option.some.injEq, Prod.mk.injEq, DataW.held.injEq] at hu
  rw [hrun, hu.1, hhas x hx]
theorem FMap.put (h : FMap w b n f) (x : Int) (v : Value) (hx : (Lit.int .i64 x).wf = true) (hn : n < maxLen) :
    ∃ w', (Instr.mapUpdate 106 (.map (some b)) (.int .i64 x) v).run Tryz.prog w = .ok () w' ∧ FMap w' b (n + 1) (fun y => if y = x then some v else f y) ∧ w.grownBy w' (some b) := by
  obtain ⟨D, hD, hat, hhas⟩ := h
  obtain ⟨w', hrun, hown, hg⟩ := hD.update int_keyed' Tryz.underlying106 hn (keyOf_int_mk Tryz.underlying3 hx) (val := v) (d := .held v) (ps := []) rfl
  refine ⟨w', hrun, ⟨_, hown, fun y u hy hu z => ?_, fun y hy => ?_⟩, hg⟩
  · replace hu : (if y = x then some v else f y) = some u := hu
    by_cases hyx : y = x
    · rw [if_pos hyx] at hu
      cases hu
      rw [hyx, atKey_put_same hD.isMap (int_keyed'.key (keyOf_int_mk Tryz.underlying3 hx))]
    · rw [if_neg hyx] at hu
      rw [atKey_put_other (fun e => hyx (by simpa using e)), hat y u hy hu]
  · show _ = (if y = x then some v else f y).isSome
    by_cases hyx : y = x
    · rw [hyx, if_pos rfl, has_put_same hD.isMap (int_keyed'.key (keyOf_int_mk Tryz.underlying3 hx))]
      rfl
    · rw [if_neg hyx, has_put_other (fun e => hyx (by simpa using e)), hhas y hy]

theorem info_err : (Tryz.prog.info? 29).map (fun i => (i.zero, i.size, i.bytes)) = some (some (.int .i64 0), 1, 8) := by kernel_rfl
theorem make_errs (n : Nat) (hn : n ≤ 1000) (w : World) : (Instr.makeSlice 54 (.int .i64 (n : Int)) (.int .i64 (n : Int))).run Tryz.prog w = .ok (.slice (some ⟨w.heap.size, 0, none⟩) n n) (w.alloc (.cells (madeCells #[.int .i64 0] n) 29)) := by
  obtain ⟨i, hi, hz, hs, hb⟩ := info_parts info_err
  have := run_make (P := Tryz.prog) w 54 29 i _ Tryz.underlying54 hi hz .i64 .i64 n n (by omega) (Int.le_refl _) (by rw [hb]; omega) (by omega)
  rw [hs, Nat.mul_one] at this
  exact this
/-- The cells of a row of errors of which the first k are laid. -/
def errCells (f : Nat → Int) (k j : Nat) : Value := if j < k then .int .i64 (f j) else .int .i64 0
theorem made_errs (w : World) (f : Nat → Int) (n : Nat) : (w.alloc (.cells (madeCells #[.int .i64 0] n) 29)).rowIs w.heap.size 29 n (errCells f 0) := by
  refine ⟨_, heap_alloc_new _ _, size_madeCells _ _, fun i hi => ?_⟩
  unfold errCells madeCells
  simp [hi, Nat.mod_one]
theorem err_step {w : World} {b n k : Nat} {f : Nat → Int} (h : w.rowIs b 29 n (errCells f k)) :
    (w.setCell ⟨b, k, none⟩ (.int .i64 (f k))).rowIs b 29 n (errCells f (k + 1)) := by
  refine (h.set k _).congr fun j hj => ?_
  by_cases e1 : j = k
  · subst e1
    simp [errCells]
  · rw [if_neg e1]
    unfold errCells
    by_cases h3 : j < k
    · rw [if_pos h3, if_pos (by omega)]
    · rw [if_neg h3, if_neg (by omega)]
theorem row_errs {w : World} {b n : Nat} {f : Nat → Int} (h : w.rowIs b 29 n (errCells f n)) : Tr.IntsAt w (some ⟨b, 0, none⟩) ((List.range n).map f) := fun i hi => by
  have hi' : i < n := by simpa using hi
  refine ⟨b, 0, rfl, h.lt, ?_⟩
  have := h.cell (i := i) (by omega)
  simpa [errCells, hi'] using this
theorem rowIs_same {w w' : World} {b n : Nat} {t : TypeId} {f : Nat → Value} (h : w.rowIs b t n f) (e : w'.heap[b]? = w.heap[b]?) : w'.rowIs b t n f := by
  obtain ⟨cs, h1, h2, h3⟩ := h
  exact ⟨cs, e.trans h1, h2, h3⟩
end Go.Proofs.YtaaaplbjeknbkabGreat
