/-
  A deed among the arguments of a law: what its reading says of memory.
-/
import Derived.Test.YtihbcgdbennegaaRefCheck
import Derived.Test.YtihbcgdbennegaaFrame
import Derived.Deep.SlicePairs
import Derived.Lib.SmallJoins
namespace Go.Proofs.Ytihbcgdbennegaa
open Go.ChangeShapes Go.WideShapes Go.ChangeAt Go.RowKit Go.Joins Go.Deep

theorem open_ins {H : Type} {enc : TypeId × Value → H} {w : World} {n : Nat} {v : Value} {y : DataW H × List MemPlace} (h : DataW.trod enc Try.prog w 0 (fun _ => true) true n 28 [v] = some y) :
    ∃ (a : Option Addr) (cap : Nat) (l : List InD), v = .slice a l.length cap ∧ l.length ≤ cap ∧ l.length ≤ maxLen ∧ InsAt w a l := by
  rcases open_slice_pairs Try.underlying28 Try.underlying52 (by kernel_rfl) rfl rfl (by kernel_rfl) (by kernel_rfl) h with ⟨hc, _⟩ | ⟨a, len, cap, m, n, V0, V1, D0, D1, P0, P1, hcs, _, hl, hm, hmm, _, hx⟩
  · simp only [List.cons.injEq, and_true] at hc
    exact ⟨none, 0, [], hc, Nat.le_refl _, Nat.zero_le _, fun i hi => absurd hi (by simp)⟩
  · simp only [List.cons.injEq, and_true] at hcs
    simp only [if_true] at hmm
    subst hmm
    have hint : ∀ i, i < len → ∃ x : InD, w.cell? (a.add (i * 2)) = some (.int .u64 x.1.toNat) ∧ w.cell? (a.add (i * 2 + 1)) = some (.int .i64 x.2) ∧ (Lit.int .i64 x.2).wf = true := by
      intro i hi
      obtain ⟨h0, h1, t0, t1⟩ := hx i (by omega)
      obtain ⟨u0, e0, _, w0⟩ := DataW.trod_int Try.underlying36 t0
      obtain ⟨u1, e1, _, w1⟩ := DataW.trod_int Try.underlying3 t1
      simp only [List.cons.injEq, and_true] at e0 e1
      obtain ⟨u, rfl⟩ := wf_u64 w0
      exact ⟨(u, u1), by rw [h0, e0], by rw [h1, e1], w1⟩
    obtain ⟨f, hf⟩ : ∃ f : Nat → InD, ∀ i, i < len → w.cell? (a.add (i * 2)) = some (.int .u64 (f i).1.toNat) ∧ w.cell? (a.add (i * 2 + 1)) = some (.int .i64 (f i).2) ∧ (Lit.int .i64 (f i).2).wf = true :=
      ⟨fun i => if h : i < len then (hint i h).choose else (0, 0), fun i hi => by simp only [dif_pos hi]; exact (hint i hi).choose_spec⟩
    refine ⟨some a, m, (List.range len).map f, by simp [hcs], by simpa using hl, by simp; omega, fun i hi => ?_⟩
    have hi' : i < len := by simpa using hi
    obtain ⟨g0, g1, g2⟩ := hf i hi'
    have z0 := (hf 0 (by omega)).1
    obtain ⟨hs, hb⟩ := cell_spot z0
    have hs : a.spot = none := by simpa [Addr.add] using hs
    have hb : a.block < w.heap.size := by simpa [Addr.add] using hb
    obtain ⟨b, o, sp⟩ := a
    simp only at hs hb
    subst hs
    refine ⟨b, o, rfl, hb, ?_, ?_, ?_⟩
    · have e : (⟨b, o, none⟩ : Addr).add (i * 2) = ⟨b, o + i * 2, none⟩ := by unfold Addr.add; split <;> simp_all
      rw [e] at g0
      simpa using g0
    · have e : (⟨b, o, none⟩ : Addr).add (i * 2 + 1) = ⟨b, o + i * 2 + 1, none⟩ := by unfold Addr.add; split <;> simp_all <;> omega
      rw [e] at g1
      simpa using g1
    · simpa using g2

set_option maxRecDepth 20000 in
theorem open_deed {H : Type} {enc : TypeId × Value → H} {w : World} {r : Reach} {b0 : Nat} {v : Value} {d : DataW H} {p : List MemPlace} (hv : Value.okWide Try.prog w r b0 30 v) (h : DataW.Trod enc Try.prog w 0 (fun _ => true) true 30 v d p) :
    ∃ (a : Option Addr) (cap : Nat) (D : DeedD), v = deedV a cap D ∧ D.ins.length ≤ cap ∧ InsAt w a D.ins := by
  obtain ⟨v0, v1, v2, v3, y0, y1, y2, y3, n, rfl, _, _, t0, t1, t2, t3⟩ := open_agg4 Try.underlying30 (by kernel_rfl) (by kernel_rfl) hv h
  obtain ⟨a, cap, l, rfl, hc, _, hi⟩ := open_ins t0
  obtain ⟨u1, e1, _, _⟩ := DataW.trod_int Try.underlying3 t1
  obtain ⟨u2, e2, _, _⟩ := DataW.trod_int Try.underlying3 t2
  obtain ⟨u3, e3, _, _⟩ := DataW.trod_int Try.underlying3 t3
  simp only [List.cons.injEq, and_true] at e1 e2 e3
  subst e1 e2 e3
  exact ⟨a, cap, ⟨l, u1, u2, u3⟩, rfl, hc, hi⟩
end Go.Proofs.Ytihbcgdbennegaa
