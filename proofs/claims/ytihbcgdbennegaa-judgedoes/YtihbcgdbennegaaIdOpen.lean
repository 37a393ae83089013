/-
  A slice of IDs among the arguments of a law: what its reading says of memory.
-/
import Derived.Test.YtihbcgdbennegaaIdList
import Derived.Test.YtihbcgdbennegaaFrame
import Derived.ChangeSlices
import Derived.Lib.SmallJoins
namespace Go.Proofs.Ytihbcgdbennegaa
open Go.ChangeShapes Go.WideShapes Go.ChangeAt Go.RowKit Go.Joins

theorem open_ids {H : Type} {enc : TypeId × Value → H} {w : World} {n : Nat} {v : Value} {y : DataW H × List MemPlace} (h : DataW.trod enc Try.prog w 0 (fun _ => true) true n 31 [v] = some y) :
    ∃ (a : Option Addr) (cap : Nat) (l : List UInt64), v = .slice a l.length cap ∧ l.length ≤ cap ∧ l.length ≤ maxLen ∧ IdsAt w a l := by
  rcases open_ints Try.underlying31 Try.underlying36 (by kernel_rfl) h with ⟨hc, _⟩ | ⟨a, len, cap, zs, hcs, _, hl, hm, hzl, _, hx, hwf⟩
  · simp only [List.cons.injEq, and_true] at hc
    exact ⟨none, 0, [], hc, Nat.le_refl _, Nat.zero_le _, fun i hi => absurd hi (by simp)⟩
  · simp only [List.cons.injEq, and_true] at hcs
    simp only [if_true] at hzl
    have hint : ∀ i, i < len → ∃ x : UInt64, w.cell? (a.add i) = some (.int .u64 x.toNat) := by
      intro i hi
      have h0 := hx i (by omega)
      have hw : (Lit.int .u64 (zs.getD i 0)).wf = true := hwf _ (by
        rw [List.getD_eq_getElem?_getD, List.getElem?_eq_getElem (by omega)]
        exact List.getElem_mem _)
      obtain ⟨u, hu⟩ := wf_u64 hw
      exact ⟨u, by rw [h0, hu]⟩
    obtain ⟨f, hf⟩ : ∃ f : Nat → UInt64, ∀ i, i < len → w.cell? (a.add i) = some (.int .u64 (f i).toNat) :=
      ⟨fun i => if h : i < len then (hint i h).choose else 0, fun i hi => by simp only [dif_pos hi]; exact (hint i hi).choose_spec⟩
    refine ⟨some a, cap, (List.range len).map f, by simp [hcs], by simpa using hl, by simp; omega, fun i hi => ?_⟩
    have hi' : i < len := by simpa using hi
    have g0 := hf i hi'
    obtain ⟨hs, hb⟩ := cell_spot (hf 0 (by omega))
    have hs : a.spot = none := by simpa [Addr.add] using hs
    have hb : a.block < w.heap.size := by simpa [Addr.add] using hb
    obtain ⟨b, o, sp⟩ := a
    simp only at hs hb
    subst hs
    refine ⟨b, o, rfl, hb, ?_⟩
    have e : (⟨b, o, none⟩ : Addr).add i = ⟨b, o + i, none⟩ := by unfold Addr.add; split <;> simp_all
    rw [e] at g0
    simpa using g0

set_option maxRecDepth 100000 in
theorem open_ids_arg {H : Type} {enc : TypeId × Value → H} {w : World} {r : Reach} {b0 : Nat} {v : Value} {d : DataW H} {p : List MemPlace} (hv : Value.okWide Try.prog w r b0 31 v) (h : DataW.Trod enc Try.prog w 0 (fun _ => true) true 31 v d p) :
    ∃ (a : Option Addr) (cap : Nat) (l : List UInt64), v = .slice a l.length cap ∧ l.length ≤ cap ∧ l.length ≤ maxLen ∧ IdsAt w a l := by
  obtain ⟨x, len, cap, rfl⟩ := okWide_slice Try.underlying31 hv
  obtain ⟨n, hf⟩ := h
  exact open_ids hf
end Go.Proofs.Ytihbcgdbennegaa
