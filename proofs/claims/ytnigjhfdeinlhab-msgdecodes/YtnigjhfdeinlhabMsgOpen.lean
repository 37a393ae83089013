/-
  A message among the arguments of a law: what its reading says of memory.
-/
import Derived.Test.YtnigjhfdeinlhabMsgCheck
import Derived.Test.YtnigjhfdeinlhabFrame
import Derived.ChangeSlices
import Derived.Lib.SmallJoins
namespace Go.Proofs.Ytnigjhfdeinlhab
open Go.ChangeShapes Go.WideShapes Go.ChangeAt Go.RowKit Go.Joins

theorem open_ids {H : Type} {enc : TypeId × Value → H} {w : World} {n : Nat} {v : Value} {y : DataW H × List MemPlace} (h : DataW.trod enc Try.prog w 0 (fun _ => true) true n 22 [v] = some y) :
    ∃ (a : Option Addr) (cap : Nat) (l : List UInt64), v = .slice a l.length cap ∧ l.length ≤ cap ∧ l.length ≤ maxLen ∧ IdsAt w a l := by
  rcases open_ints Try.underlying22 Try.underlying41 (by kernel_rfl) h with ⟨hc, _⟩ | ⟨a, len, cap, zs, hcs, _, hl, hm, hzl, _, hx, hwf⟩
  · simp only [List.cons.injEq, and_true] at hc
    exact ⟨none, 0, [], hc, Nat.le_refl _, Nat.zero_le _, fun i hi => absurd hi (by simp)⟩
  · simp only [List.cons.injEq, and_true] at hcs
    simp only [if_true] at hzl
    have hint : ∀ i, i < len → ∃ x : UInt64, w.cell? (a.add i) = some (.int .u64 x.toNat) := by
      intro i hi
      have h0 := hx i (by omega)
      have hw : (Lit.int .u64 (zs.getD i 0)).wf = true := hwf _ (by
        rw [List.getD_eq_getElem?_getD, List.getElem?_eq_getElem (by omega)]
        exact List.getElem_mem _)
      obtain ⟨u, hu⟩ := wf_u64 hw
      exact ⟨u, by rw [h0, hu]⟩
    obtain ⟨f, hf⟩ : ∃ f : Nat → UInt64, ∀ i, i < len → w.cell? (a.add i) = some (.int .u64 (f i).toNat) :=
      ⟨fun i => if h : i < len then (hint i h).choose else 0, fun i hi => by simp only [dif_pos hi]; exact (hint i hi).choose_spec⟩
    refine ⟨some a, cap, (List.range len).map f, by simp [hcs], by simpa using hl, by simp; omega, fun i hi => ?_⟩
    have hi' : i < len := by simpa using hi
    have g0 := hf i hi'
    obtain ⟨hs, hb⟩ := cell_spot (hf 0 (by omega))
    have hs : a.spot = none := by simpa [Addr.add] using hs
    have hb : a.block < w.heap.size := by simpa [Addr.add] using hb
    obtain ⟨b, o, sp⟩ := a
    simp only at hs hb
    subst hs
    refine ⟨b, o, rfl, hb, ?_⟩
    have e : (⟨b, o, none⟩ : Addr).add i = ⟨b, o + i, none⟩ := by unfold Addr.add; split <;> simp_all
    rw [e] at g0
    simpa using g0

theorem open_msg {H : Type} {enc : TypeId × Value → H} {w : World} {r : Reach} {b0 : Nat} {v : Value} {d : DataW H} {p : List MemPlace} (hv : Value.okWide Try.prog w r b0 24 v) (h : DataW.Trod enc Try.prog w 0 (fun _ => true) true 24 v d p) :
    ∃ (a : Option Addr) (cap : Nat) (M : MsgD), v = msgV a cap M ∧ M.ids.length ≤ cap ∧ IdsAt w a M.ids := by
  obtain ⟨v0, v1, v2, y0, y1, y2, n, rfl, _, _, t0, t1, t2⟩ := open_agg3 Try.underlying24 (by kernel_rfl) (by kernel_rfl) hv h
  obtain ⟨u0, e0, _, _⟩ := DataW.trod_int Try.underlying3 t0
  obtain ⟨a, cap, l, rfl, hc, _, hi⟩ := open_ids t1
  obtain ⟨s, e2, _, _⟩ := DataW.trod_string Try.underlying9 t2
  simp only [List.cons.injEq, and_true] at e0 e2
  subst e0 e2
  exact ⟨a, cap, ⟨u0, l, s⟩, rfl, hc, hi⟩
end Go.Proofs.Ytnigjhfdeinlhab
