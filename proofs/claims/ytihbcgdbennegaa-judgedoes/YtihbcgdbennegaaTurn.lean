/-
  Memory that one thing owns is a set of blocks: what a call that turns that thing does to all other blocks, and to what is owned behind it. No program is named here.
-/
import Derived.Below
import Derived.Deep.Draws
namespace Go.Proofs.Ytihbcgdbennegaa
open Go.RowKit

/-- From w to w' only blocks of F may have turned; what is owned behind it (F') was owned ahead of it or is new. -/
structure Turn (F F' : Nat → Prop) (w w' : World) : Prop where
  os : w'.os = w.os
  tape : w'.tape = w.tape
  output : w'.output = w.output
  size : w.heap.size ≤ w'.heap.size
  block : ∀ k, k < w.heap.size → ¬ F k → w'.heap[k]? = w.heap[k]?
  own : ∀ k, F' k → F k ∨ w.heap.size ≤ k
/-- Two things that own no block in common. -/
def Apart (F G : Nat → Prop) : Prop := ∀ k, F k → ¬ G k
/-- All that is owned is there. -/
def There (w : World) (F : Nat → Prop) : Prop := ∀ k, F k → k < w.heap.size

theorem Apart.symm {F G : Nat → Prop} (h : Apart F G) : Apart G F := fun k hg hf => h k hf hg
theorem Turn.refl (F : Nat → Prop) (w : World) : Turn F F w w := ⟨rfl, rfl, rfl, Nat.le_refl _, fun _ _ _ => rfl, fun _ h => .inl h⟩
theorem Turn.trans {F F' F'' : Nat → Prop} {a b c : World} (h : Turn F F' a b) (k : Turn F' F'' b c) : Turn F F'' a c where
  os := k.os.trans h.os
  tape := k.tape.trans h.tape
  output := k.output.trans h.output
  size := Nat.le_trans h.size k.size
  block := fun i hi hn => (k.block i (Nat.lt_of_lt_of_le hi h.size) (fun hf => (h.own i hf).elim hn (fun hle => by omega))).trans (h.block i hi hn)
  own := fun i hi => (k.own i hi).elim (fun hf => h.own i hf) (fun hle => .inr (Nat.le_trans h.size hle))
theorem Turn.below {F F' : Nat → Prop} {w w' : World} {n : Nat} (h : Turn F F' w w') (hF : ∀ k, F k → n ≤ k) (hn : n ≤ w.heap.size) : Below n w w' :=
  ⟨h.os, h.tape, h.output, h.size, fun k hk => h.block k (Nat.lt_of_lt_of_le hk hn) (fun hf => by have := hF k hf; omega)⟩
theorem Turn.above {F F' : Nat → Prop} {w w' : World} {n : Nat} (h : Turn F F' w w') (hF : ∀ k, F k → n ≤ k) (hn : n ≤ w.heap.size) : ∀ k, F' k → n ≤ k :=
  fun k hk => (h.own k hk).elim (hF k) (fun hle => Nat.le_trans hn hle)
theorem Turn.of_below {F : Nat → Prop} {w w' : World} (h : Below w.heap.size w w') : Turn F F w w' := ⟨h.os, h.tape, h.output, h.size, fun k hk _ => h.block k hk, fun _ hf => .inl hf⟩
theorem Turn.of_grown {F : Nat → Prop} {w w' : World} {row : Option Nat} (h : w.grownBy w' row) (hr : ∀ k, row = some k → F k) : Turn F F w w' :=
  ⟨h.os, h.tape, h.output, h.size, fun k hk hn => h.block k hk (fun e => hn (hr k e.symm)), fun _ hf => .inl hf⟩
theorem Turn.set {F : Nat → Prop} (w : World) (p : Addr) (u : Value) (hp : F p.block) : Turn F F w (w.setCell p u) :=
  ⟨rfl, rfl, rfl, by simp, fun k _ hn => Below.heap_setCell w p u k (fun e => hn (e ▸ hp)), fun _ hf => .inl hf⟩
theorem Turn.drewN (F : Nat → Prop) (w : World) (n : Nat) : Turn F F w (w.drewN n) := ⟨rfl, rfl, rfl, Nat.le_refl _, fun _ _ _ => rfl, fun _ h => .inl h⟩
/-- A block that is not the turned thing's is as it was. -/
theorem Turn.same {F F' : Nat → Prop} {w w' : World} (h : Turn F F' w w') {k : Nat} (hk : k < w.heap.size) (hn : ¬ F k) : w'.heap[k]? = w.heap[k]? := h.block k hk hn
/-- More may be owned behind it than was said. -/
theorem Turn.more {F F' : Nat → Prop} {w w' : World} (h : Turn F F' w w') {F'' : Nat → Prop} (hf : ∀ k, F'' k → F' k ∨ w.heap.size ≤ k) : Turn F F'' w w' :=
  ⟨h.os, h.tape, h.output, h.size, h.block, fun k hk => (hf k hk).elim (h.own k) .inr⟩
/-- Two things stay apart while one of them turns. -/
theorem Turn.apart {F F' G : Nat → Prop} {w w' : World} (h : Turn F F' w w') (ha : Apart F G) (hG : There w G) : Apart F' G := fun k hf hg =>
  (h.own k hf).elim (fun hf' => ha k hf' hg) (fun hle => by have := hG k hg; omega)
theorem There.later {F : Nat → Prop} {w w' : World} (h : There w F) (hs : w.heap.size ≤ w'.heap.size) : There w' F := fun k hk => Nat.lt_of_lt_of_le (h k hk) hs
end Go.Proofs.Ytihbcgdbennegaa
