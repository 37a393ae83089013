/-
  Contracts of package orphan that only look at a pool, or at a deed: New, isPeer, Has, clone, Deed.
-/
import Derived.Test.YtaaaplbjeknbkaaGreatSHome
import Derived.Test.YtaaaplbjeknbkaaGreatJ3
set_option maxRecDepth 20000
namespace Go.Proofs.YtaaaplbjeknbkaaGreat.So.Ho
open Go.Proofs.YtaaaplbjeknbkaaGreat.Ho
open Go.RowKit Go.Maps

theorem isPeer_any (p : Int) (w : World) : Calls Tryz.prog 97 #[.int .i64 p] w fun e w' => e = .returned (.bool (decide (0 ≤ p ∧ p < 8))) ∧ w = w' := by
  by_cases h1 : 0 ≤ p
  · by_cases h2 : p < 8
    · have h3 : decide (0 ≤ p ∧ p < 8) = true := by simp [h1, h2]
      rw [h3]
      go_enter Tryz.func97, Tryz.ntmps97
      go_wp2
      go_ret
      exact ⟨rfl, rfl⟩
    · have h3 : decide (0 ≤ p ∧ p < 8) = false := by simp [h2]
      rw [h3]
      go_enter Tryz.func97, Tryz.ntmps97
      go_wp2
      go_ret
      exact ⟨rfl, rfl⟩
  · have h3 : decide (0 ≤ p ∧ p < 8) = false := by simp [h1]
    rw [h3]
    go_enter Tryz.func97, Tryz.ntmps97
    go_wp2
    go_ret
    exact ⟨rfl, rfl⟩
def goodP (p : Int) : Prop := 0 ≤ p ∧ p < 8
instance (p : Int) : Decidable (goodP p) := by unfold goodP; infer_instance
theorem peer_nat {p : Int} (h : goodP p) : ∃ n : Nat, p = n ∧ n < 8 ∧ p.toNat = n := by
  obtain ⟨h1, h2⟩ := h
  exact ⟨p.toNat, by omega, by omega, rfl⟩
theorem isPeer_yes (p : Int) (n : Nat) (h : p = n) (hn : n < 8) (w : World) : Calls Tryz.prog 97 #[.int .i64 p] w fun e w' => e = .returned (.bool true) ∧ w = w' := by
  refine (isPeer_any p w).mono fun e w' ⟨h1, h2⟩ => ⟨?_, h2⟩
  rw [h1, decide_eq_true ⟨by omega, by omega⟩]
theorem isPeer_no (p : Int) (h : ¬ goodP p) (w : World) : Calls Tryz.prog 97 #[.int .i64 p] w fun e w' => e = .returned (.bool false) ∧ w = w' := by
  refine (isPeer_any p w).mono fun e w' ⟨h1, h2⟩ => ⟨?_, h2⟩
  rw [h1, show decide (0 ≤ p ∧ p < 8) = false from decide_eq_false h]

variable {w w' : World} {F : Nat → Prop} {R : Nat} {it : Option It} {ls : List LD} {M : UInt64 → Option DeedD} {b : Nat} {ev : UInt64 → Option Value} {v : Value}

/-- An empty pool. -/
theorem home_new (w : World) : Calls Tryz.prog 53 #[] w fun e w' => ∃ R F, e = .returned (.pointer (some ⟨R, 0, none⟩)) ∧ w.heap.size ≤ R ∧ (∀ k, F k → w.heap.size ≤ k) ∧ HomeAt w' F R none [] (fun _ => none) w.heap.size (fun _ => none) (.slice none 0 0) ∧ Below w.heap.size w w' := by
  have hmm := @run_makeMap Tryz.prog
  go_enter Tryz.func53, Tryz.ntmps53
  go_wp2
  go_ret
  refine ⟨w.heap.size + 1, fun k => k = w.heap.size ∨ k = w.heap.size + 1, by simp, by omega, fun k hk => by omega, ?_, kept_alloc (kept_new _ _) _⟩
  refine ⟨?_, tmap_same (tmap_new w) ?_ (fun i hi => by cases hi), fun x => .inl ⟨rfl, rfl⟩, (fun x d h => by cases h), World.ownsRow_nil _ _ _ _, .inr rfl, .inl rfl, (fun g hg => by cases hg), (fun k hk => ?_), (fun i hi => by cases hi)⟩
  · exact heap_alloc2_new _ _ _
  · exact heap_alloc_old _ _ (by simp)
  · simp
    omega
set_option maxRecDepth 20000 in
theorem has_home (x : UInt64) (w : World) (h : HomeAt w F R it ls M b ev v) :
    Calls Tryz.prog 99 #[.pointer (some ⟨R, 0, none⟩), .int .u64 x.toNat] w fun e w' => e = .returned (.bool (M x).isSome) ∧ Below w.heap.size w w' := by
  have hmc := h.mapc
  have hlk := h.look_ok x
  have hlt := h.lt
  obtain ⟨a, c, hv, _, _, _⟩ := h.deed x
  rw [hv, h.there_is x] at hlk
  unfold deedV at hlk
  clear h hv
  obtain ⟨d, hd⟩ : ∃ d, (M x).getD nod = d := ⟨_, rfl⟩
  rw [hd] at hlk
  clear hd
  go_enter Tryz.func99, Tryz.ntmps99
  go_wp2
  go_ret
  exact ⟨rfl, kept_new _ _⟩
theorem has_home_is (x : UInt64) (w : World) (h : HomeAt w F R it ls M b ev v) (r : Bool) (hr : (M x).isSome = r) :
    Calls Tryz.prog 99 #[.pointer (some ⟨R, 0, none⟩), .int .u64 x.toNat] w fun e w' => e = .returned (.bool r) ∧ Below w.heap.size w w' := hr ▸ has_home x w h
end Go.Proofs.YtaaaplbjeknbkaaGreat.So.Ho
