/-
  A slice of IDs that the call itself builds by append: what it owns, and one more ID.
-/
import Derived.Test.YtihbcgdbennegaaIdList
import Derived.Deep.AppendLies
namespace Go.Proofs.Ytihbcgdbennegaa
open Go.RowKit

def idV (x : UInt64) : Value := .int .u64 x.toNat
theorem owns_idsAt {w : World} {B : Nat} {v : Value} {l : List UInt64} (h : w.ownsRow B 36 1 v l.length (l.map idV)) : ∃ a cap, v = .slice a l.length cap ∧ l.length ≤ cap ∧ IdsAt w a l ∧ Fresh B a := by
  rcases h.2 with ⟨hv, hn⟩ | ⟨g, cap, cur, hv, hB, hg, hc, _, _, _⟩
  · refine ⟨none, 0, by rw [hn]; exact hv, by omega, fun i hi => absurd hi (by omega), fun _ _ _ e => by cases e⟩
  · refine ⟨some ⟨g, 0, none⟩, cap, hv, hc, fun i hi => ?_, fun b o sp e => by cases e; exact hB⟩
    have a0 := h.cells (g := g) (by rw [hv]; rfl) i (idV l[i]) (by rw [List.getElem?_map, List.getElem?_eq_getElem hi]; rfl)
    have f0 : (⟨g, 0, none⟩ : Addr).add i = ⟨g, 0 + i, none⟩ := by unfold Addr.add; split <;> simp_all
    rw [f0] at a0
    exact ⟨g, 0, rfl, (Array.getElem?_eq_some_iff.1 hg).1, a0⟩
/-- The slice v holds these IDs, in a block of its own from block B on. -/
abbrev OwnIds (w : World) (B : Nat) (v : Value) (d : List UInt64) : Prop := w.ownsRow B 36 1 v d.length (d.map idV)
theorem ownIds_nil (w : World) (B : Nat) : OwnIds w B (.slice none 0 0) [] := World.ownsRow_nil w B _ 1
theorem ownIds_below {w w' : World} {B : Nat} {v : Value} {d : List UInt64} (h : OwnIds w B v d) (hb : Below w.heap.size w w') : OwnIds w' B v d := owns_below h hb
theorem ownIds_block {w : World} {B : Nat} {v : Value} {d : List UInt64} (h : OwnIds w B v d) : ∀ k, v.ownBlock = some k → B ≤ k ∧ k < w.heap.size := fun k hk => h.lt k hk
theorem info_u64 : (Try.prog.info? 36).map (fun i => (i.zero, i.size, i.bytes)) = some (some (.int .u64 0), 1, 8) := by kernel_rfl
/-- 'append(s, x)': the new ID lies in a block of its own, laid just ahead. -/
theorem append_id {ops : Array Oper} {rest : List Oper} {o : Oper} {a : Act} {Q : Exit → Act → World → Prop} {w : World} (hgd : o.guard = none) (s x : Operand) (ho : o.op = .call { callee := .builtin .append, args := #[s, x], argTypes := #[31, 31] })
    {B : Nat} {v : Value} {d : List UInt64} (y : UInt64) (hs : a.eval s = v) (hx : a.eval x = .slice (some ⟨w.heap.size, 0, none⟩) 1 1) (hown : OwnIds w B v d) (hlen : d.length ≤ 1000000) (hB : B ≤ w.heap.size)
    (h : ∀ g cap w', OwnIds w' B (.slice (some ⟨g, 0, none⟩) (d.length + 1) cap) (d ++ [y]) → (w.alloc (.cells #[.int .u64 y.toNat] 36)).grownBy w' v.ownBlock → w.grownBy w' v.ownBlock → wpList Try.prog ops Q rest (a.put o.dst (.slice (some ⟨g, 0, none⟩) (d.length + 1) cap)) w') :
    wpList Try.prog ops Q (o :: rest) a (w.alloc (.cells #[.int .u64 y.toNat] 36)) := by
  obtain ⟨i0, hi0, hz0, hz1, hz2⟩ := info_parts info_u64
  refine wpList_append_lies _ hgd s x 31 ho B 36 i0 (.int .u64 0) 1 8 Try.underlying31 hi0 hz0 hz1 hz2 rfl (by decide) v d.length (d.map idV) hs (hown.alloc _) ⟨w.heap.size, 0, none⟩ 1 1 [.int .u64 y.toNat] hx rfl (cells_new w _ _) (by simp [Value.oneCell']) (by decide) (by unfold maxLen; omega) (by omega) (by simp; omega) _ rfl ?_
  intro g cap w1 hown' hgrow _ _
  refine h g cap w1 ?_ hgrow ((World.grownBy_alloc w _ _).trans hgrow)
  unfold OwnIds
  rw [List.length_append, List.map_append]
  exact hown'
end Go.Proofs.Ytihbcgdbennegaa
