/-
  A map from ints to bools that a law makes, as the function that its look-ups answer.
-/
import Derived.Test.YtaaaplbjeknbkaaGreatJ18
set_option maxRecDepth 20000
namespace Go.Proofs.YtaaaplbjeknbkaaGreat
open Go.RowKit Go.Maps

theorem int_keyed' : Maps.Keyed Tryz.prog 3 := int_keyed Tryz.underlying3
/-- Block b is a map from ints to bools, of at most n keys; a key that it lacks reads false. -/
def BMap (w : World) (b n : Nat) (f : Int → Bool) : Prop :=
  ∃ D : DataW Unit, w.ownsMap Tryz.prog 3 (plainElem Tryz.prog 4) b n D ∧ ∀ x : Int, (Lit.int .i64 x).wf = true → D.atKey (.int .i64 x) (.lit (.bool false)) = .lit (.bool (f x))
theorem bmap_lt {w : World} {b n : Nat} {f : Int → Bool} (h : BMap w b n f) : b < w.heap.size := by
  obtain ⟨D, hD, _⟩ := h
  exact hD.lt
theorem bmap_same {w w' : World} {b n : Nat} {f : Int → Bool} (h : BMap w b n f) (e : w'.heap[b]? = w.heap[b]?) : BMap w' b n f := by
  obtain ⟨D, ⟨es, clock, hb, r⟩, r2⟩ := h
  exact ⟨D, ⟨es, clock, e.trans hb, r⟩, r2⟩
theorem bmap_new (w : World) : BMap (w.alloc (.map #[] 0)) w.heap.size 0 (fun _ => false) := ⟨.map [], World.ownsMap_made w _ _ _, fun _ _ => rfl⟩
theorem bmap_look {w : World} {b n : Nat} {f : Int → Bool} (h : BMap w b n f) (x : Int) (hx : (Lit.int .i64 x).wf = true) : (Instr.lookup 27 (.map (some b)) (.int .i64 x) false).run Tryz.prog w = .ok (.bool (f x)) w := by
  obtain ⟨D, hD, hat⟩ := h
  obtain ⟨u, ps, hrun, hu⟩ := hD.lookup int_keyed' Tryz.underlying27 (zero_bool w) (plainElem_bool Tryz.underlying4 false) (keyOf_int_mk Tryz.underlying3 hx)
  rw [hat x hx] at hu
  rw [hrun]
  unfold plainElem at hu
  rw [Tryz.underlying4] at hu
  cases u <;> simp at hu
  rw [hu.1]
theorem bmap_put {w : World} {b n : Nat} {f : Int → Bool} (h : BMap w b n f) (x : Int) (v : Bool) (hx : (Lit.int .i64 x).wf = true) (hn : n < maxLen) :
    ∃ w', (Instr.mapUpdate 27 (.map (some b)) (.int .i64 x) (.bool v)).run Tryz.prog w = .ok () w' ∧ BMap w' b (n + 1) (fun y => if y = x then v else f y) ∧ w.grownBy w' (some b) := by
  obtain ⟨D, hD, hat⟩ := h
  obtain ⟨w', hrun, hown, hg⟩ := hD.update int_keyed' Tryz.underlying27 hn (keyOf_int_mk Tryz.underlying3 hx) (plainElem_bool Tryz.underlying4 v)
  refine ⟨w', hrun, ⟨_, hown, fun y hy => ?_⟩, hg⟩
  show _ = DataW.lit (Lit.bool (if y = x then v else f y))
  by_cases hyx : y = x
  · rw [if_pos hyx, hyx, atKey_put_same hD.isMap (int_keyed'.key (keyOf_int_mk Tryz.underlying3 hx))]
  · rw [if_neg hyx, atKey_put_other (fun e => hyx (by simpa using e)), hat y hy]
theorem wf_small {x : Int} (h : -9223372036854775808 ≤ x ∧ x ≤ 9223372036854775807) : (Lit.int .i64 x).wf = true := by
  simp [Lit.wf, IntKind.min, IntKind.max, IntKind.signed, IntKind.bits]
  omega
end Go.Proofs.YtaaaplbjeknbkaaGreat
