/-
  IDs that a call hands out in new memory.
-/
import Derived.Test.YtihbcgdbennegaaIdsOwn
namespace Go.Proofs.Ytihbcgdbennegaa
open Go.RowKit

variable {w w' : World}

theorem owns_low {w : World} {B : Nat} {e : TypeId} {size n : Nat} {v : Value} {xs : List Value} (h : w.ownsRow B e size v n xs) : w.ownsRow 0 e size v n xs :=
  ⟨h.1, h.2.imp id fun ⟨g, cap, cur, q1, _, q3⟩ => ⟨g, cap, cur, q1, Nat.zero_le _, q3⟩⟩
/-- New IDs are handed out. -/
def GaveIds (w : World) (l : List UInt64) (e : Ending) (w' : World) : Prop := ∃ a cap, e = .returned (.slice a l.length cap) ∧ OwnIds w' w.heap.size (.slice a l.length cap) l ∧ Below w.heap.size w w'
theorem GaveIds.as {l m : List UInt64} {e : Ending} (h : GaveIds w l e w') (he : l = m) : GaveIds w m e w' := he ▸ h
end Go.Proofs.Ytihbcgdbennegaa
