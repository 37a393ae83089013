/-
  A slice of strings among the arguments of a law: how it lies in memory, what its reading says.
-/
import Derived.Test.YtaaaplbjeknbkaaGreatJ4
import Derived.Deep.Slices
set_option maxRecDepth 20000
namespace Go.Proofs.YtaaaplbjeknbkaaGreat
open Go.ChangeShapes Go.WideShapes Go.ChangeAt Go.RowKit Go.Joins Go.Deep

/-- The memory behind a slice's address holds these strings. -/
def StrsAt (w : World) (a : Option Addr) (l : List ByteArray) : Prop := ∀ i (h : i < l.length), ∃ b o, a = some ⟨b, o, none⟩ ∧ b < w.heap.size ∧ w.cell? ⟨b, o + i, none⟩ = some (.string l[i]) ∧ l[i].size ≤ maxLen
set_option maxRecDepth 100000 in
theorem open_strs_arg {H : Type} {enc : TypeId × Value → H} {w : World} {r : Reach} {b0 : Nat} {v : Value} {d : DataW H} {p : List MemPlace} (hv : Value.okWide Tryz.prog w r b0 90 v) (h : DataW.Trod enc Tryz.prog w 0 (fun _ => true) true 90 v d p) :
    ∃ (a : Option Addr) (cap : Nat) (l : List ByteArray), v = .slice a l.length cap ∧ l.length ≤ cap ∧ l.length ≤ maxLen ∧ StrsAt w a l := by
  obtain ⟨xa, xl, xc, rfl⟩ := okWide_slice Tryz.underlying90 hv
  obtain ⟨n, hf⟩ := h
  rcases open_slice Tryz.underlying90 hf with ⟨hc, _⟩ | ⟨a, len, cap, m, k, D, Pl, hcs, hb, hl, hm, hmm, _, hx⟩
  · simp only [Value.cells, List.cons.injEq, and_true] at hc
    exact ⟨none, 0, [], hc, Nat.le_refl _, Nat.zero_le _, fun i hi => absurd hi (by simp)⟩
  · simp only [Value.cells, List.cons.injEq, and_true] at hcs
    simp only [if_true] at hmm
    subst hmm
    have ce : Tryz.prog.cellsOf 9 = 1 := by kernel_rfl
    have each : ∀ i, i < m → ∃ q : ByteArray, w.cell? (a.add i) = some (.string q) ∧ q.size ≤ maxLen := by
      intro i hi
      obtain ⟨cs', h1, h2⟩ := hx i hi
      rw [ce, Nat.mul_one] at h1
      obtain ⟨_, hlen, hcell⟩ := World.cells?_some h1
      match cs', hlen with
      | [v0], _ =>
        obtain ⟨u0, e0, _, hs⟩ := DataW.trod_string Tryz.underlying9 h2
        simp only [List.cons.injEq, and_true] at e0
        subst e0
        have := hcell 0 (by omega)
        rw [add_add, Nat.add_zero] at this
        exact ⟨u0, this, hs⟩
    obtain ⟨f, hf⟩ := choose_lt each
    refine ⟨some a, m, (List.range len).map f, by simp [hcs], by simpa using hl, by simp; omega, fun i hi => ?_⟩
    have hi' : i < len := by simpa using hi
    have g := hf i (by omega)
    obtain ⟨hs, hb⟩ := cell_spot (hf 0 (by omega)).1
    have hs : a.spot = none := by simpa [Addr.add] using hs
    have hb : a.block < w.heap.size := by simpa [Addr.add] using hb
    obtain ⟨b, o, sp⟩ := a
    simp only at hs hb
    subst hs
    have e : ∀ k, (⟨b, o, none⟩ : Addr).add k = ⟨b, o + k, none⟩ := fun k => by unfold Addr.add; split <;> simp_all
    rw [e] at g
    refine ⟨b, o, rfl, hb, ?_⟩
    simp only [List.getElem_map, List.getElem_range]
    exact g
end Go.Proofs.YtaaaplbjeknbkaaGreat
