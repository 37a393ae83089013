/-
  What the checks of a deed tell, and their contracts by the answer.
-/
import Derived.Test.YtihbcgdbennegaaRefCheck
namespace Go.Proofs.Ytihbcgdbennegaa
open Go.RowKit

theorem check_ok {d : DeedD} (h : checkD d = 0) : d.ins.length ≤ 8 ∧ (∀ k (hk : k < d.ins.length), 0 ≤ (d.ins[k]).2 ∧ (d.ins[k]).2 ≤ 15) ∧ dupB d.ins = false ∧ (1 ≤ d.outs ∧ d.outs ≤ 16) ∧ (1 ≤ d.weight ∧ d.weight ≤ 1000) ∧ (0 ≤ d.fee ∧ d.fee ≤ 1000) := by
  unfold checkD at h
  split at h
  · cases h
  · split at h
    · cases h
    · split at h
      · cases h
      · split at h
        · cases h
        · rename_i h1 h2 h3 h4
          simp only [Bool.not_eq_false, Bool.not_eq_true] at h2 h3 h4
          refine ⟨by omega, fun k hk => ?_, h3, ?_⟩
          · have := List.all_eq_true.1 h2 _ (List.getElem_mem hk)
            exact of_decide_eq_true this
          · unfold restB within at h4
            simp only [Bool.and_eq_true, decide_eq_true_eq] at h4
            exact ⟨h4.1.1, h4.1.2, h4.2⟩

theorem check_is (d : DeedD) (a : Option Addr) (cap : Nat) (w : World) (r : Int) (hi : InsAt w a d.ins) (h : checkD d = r) :
    Calls Try.prog 28 #[.agg #[.slice a d.ins.length cap, .int .i64 d.outs, .int .i64 d.weight, .int .i64 d.fee]] w fun e w' => e = .returned (.int .i64 r) ∧ Below w.heap.size w w' := h ▸ check_any d a cap w hi
theorem refCheck_is (d : DeedD) (a : Option Addr) (cap : Nat) (w : World) (r : Int) (hc : d.ins.length ≤ cap) (hi : InsAt w a d.ins) (h : checkD d = r) :
    Calls Try.prog 34 #[.agg #[.slice a d.ins.length cap, .int .i64 d.outs, .int .i64 d.weight, .int .i64 d.fee]] w fun e w' => e = .returned (.int .i64 r) ∧ Below w.heap.size w w' := h ▸ refCheck_any d a cap w hc hi

theorem four_kept {w w' : World} (hg : w.grownBy w' none) {b : Nat} {u0 u1 u2 u3 : Value} (h0 : w.cell? ⟨b, 0, none⟩ = some u0) (h1 : w.cell? ⟨b, 1, none⟩ = some u1) (h2 : w.cell? ⟨b, 2, none⟩ = some u2) (h3 : w.cell? ⟨b, 3, none⟩ = some u3) :
    w'.cell? ⟨b, 0, none⟩ = some u0 ∧ w'.cell? ⟨b, 1, none⟩ = some u1 ∧ w'.cell? ⟨b, 2, none⟩ = some u2 ∧ w'.cell? ⟨b, 3, none⟩ = some u3 :=
  ⟨hg.cell h0 (by simp), hg.cell h1 (by simp), hg.cell h2 (by simp), hg.cell h3 (by simp)⟩
end Go.Proofs.Ytihbcgdbennegaa
