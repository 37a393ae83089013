/-
  A filter in memory, and the contracts of package ring: New, turn, Put, Has, Reset, Count.
-/
import Derived.Test.YtagbcgbngdfapaaGens
import Derived.Test.YtagbcgbngdfapaaRingMath
import Derived.BigQuiet
import Derived.Shelf.SlMaps.Clone
namespace Go.Proofs.Ytagbcgbngdfapaa
open Go.RowKit Go.Maps

/-- Block R is a filter: its size and its two maps; F: the blocks that it owns. -/
def RingAt (w : World) (F : Nat → Prop) (R : Nat) (s : RingS) : Prop :=
  ∃ c p, (w.cell? ⟨R, 0, none⟩ = some (.int .i64 s.size) ∧ w.cell? ⟨R, 1, none⟩ = some (.map (some c)) ∧ w.cell? ⟨R, 2, none⟩ = some (.map p) ∧ w.frozen? ⟨R, 2, none⟩ = false) ∧ MapAt w c s.cur ∧ GenAt w p s.prev ∧
    (c ≠ R ∧ ∀ b, p = some b → b ≠ R ∧ b ≠ c) ∧ (F R ∧ F c ∧ ∀ b, p = some b → F b) ∧ There w F
theorem ringAt_same {w w' : World} {F : Nat → Prop} {R : Nat} {s : RingS} (h : RingAt w F R s) (e : ∀ k, k < w.heap.size → F k → w'.heap[k]? = w.heap[k]?) (hs : w.heap.size ≤ w'.heap.size) : RingAt w' F R s := by
  obtain ⟨c, p, ⟨c0, c1, c2, f2⟩, hc, hp, hn, ⟨hFR, hFc, hFp⟩, ht⟩ := h
  have hR := e R (ht R hFR) hFR
  refine ⟨c, p, ⟨?_, ?_, ?_, ?_⟩, map_same hc (e c (ht c hFc) hFc), gen_same hp (fun b hb => e b (ht b (hFp b hb)) (hFp b hb)), hn, ⟨hFR, hFc, hFp⟩, ht.later hs⟩
  · exact (World.cell?_of_block (w := w) (a := ⟨R, 0, none⟩) hR).trans c0
  · exact (World.cell?_of_block (w := w) (a := ⟨R, 1, none⟩) hR).trans c1
  · exact (World.cell?_of_block (w := w) (a := ⟨R, 2, none⟩) hR).trans c2
  · exact (World.frozen?_of_block (w := w) (a := ⟨R, 2, none⟩) hR).trans f2
theorem ringAt_kept {w w' : World} {F : Nat → Prop} {R : Nat} {s : RingS} (h : RingAt w F R s) (hb : Below w.heap.size w w') : RingAt w' F R s := ringAt_same h (fun k hk _ => hb.block k hk) hb.size
theorem ringAt_turn {w w' : World} {F G G' : Nat → Prop} {R : Nat} {s : RingS} (h : RingAt w F R s) (ht : Turn G G' w w') (ha : Apart F G) : RingAt w' F R s := ringAt_same h (fun k hk hf => ht.block k hk (ha k hf)) ht.size
theorem ringAt_there {w : World} {F : Nat → Prop} {R : Nat} {s : RingS} (h : RingAt w F R s) : There w F := by
  obtain ⟨_, _, _, _, _, _, _, h⟩ := h
  exact h
theorem ringAt_block {w : World} {F : Nat → Prop} {R : Nat} {s : RingS} (h : RingAt w F R s) : F R := by
  obtain ⟨_, _, _, _, _, _, h, _⟩ := h
  exact h.1

theorem ring_made (w : World) (n : Nat) : RingAt ((w.alloc (.map #[] 0)).alloc (.cells #[.int .i64 n, .map (some w.heap.size), .map none] 49)) (fun k => k = w.heap.size ∨ k = w.heap.size + 1) (w.heap.size + 1) (RingS.none n) := by
  refine ⟨w.heap.size, none, ⟨by simp [go_sem, RingS.none], by simp [go_sem], by simp [go_sem], by simp [go_sem]⟩, map_same (map_new w) (Below.heap_alloc _ _ _ (by simp)), .inl ⟨rfl, rfl⟩, ⟨by omega, fun b hb => by cases hb⟩, ⟨.inr rfl, .inl rfl, fun b hb => by cases hb⟩, fun k hk => ?_⟩
  simp
  omega
theorem ring_new (n : Nat) (w : World) (h1 : 1 ≤ n) (h2 : n ≤ 50) :
    Calls Try.prog 8 #[.int .i64 n] w fun e w' => e = .returned (.tuple #[.pointer (some ⟨w.heap.size + 1, 0, none⟩), .int .i64 0]) ∧
      RingAt w' (fun k => k = w.heap.size ∨ k = w.heap.size + 1) (w.heap.size + 1) (RingS.none n) ∧ Below w.heap.size w w' := by
  have hmm := @run_makeMap Try.prog
  have HM := Lib.hid (ring_made w n)
  have ha : ¬ (n : Int) < 1 := by omega
  have hb : ¬ (n : Int) > 50 := by omega
  go_enter Try.func8, Try.ntmps8
  go_wp2
  go_ret2
  exact ⟨rfl, HM.out, kept_alloc (kept_new _ _) _⟩
theorem ring_new_bad (n : Int) (w : World) (h : n < 1 ∨ 50 < n) :
    Calls Try.prog 8 #[.int .i64 n] w fun e w' => e = .returned (.tuple #[.pointer none, .int .i64 1]) ∧ w = w' := by
  by_cases h1 : n < 1
  · clear h
    go_enter Try.func8, Try.ntmps8
    go_wp2
    go_ret2
    exact ⟨rfl, rfl⟩
  · have h2 : n > 50 := by omega
    clear h
    go_enter Try.func8, Try.ntmps8
    go_wp2
    go_ret2
    exact ⟨rfl, rfl⟩
theorem ring_has (F : Nat → Prop) (R : Nat) (s : RingS) (x : UInt64) (r : Bool) (hr : s.has x = r) (w : World) (h : RingAt w F R s) :
    Calls Try.prog 14 #[.pointer (some ⟨R, 0, none⟩), .int .u64 x.toNat] w fun e w' => e = .returned (.bool r) ∧ w = w' := by
  obtain ⟨c, p, ⟨c0, c1, c2, f2⟩, hc, hp, hn, hF, ht⟩ := h
  have l1 := map_look hc x
  have l2 := gen_look hp x
  generalize e1 : s.cur.contains x = b1 at l1
  generalize e2 : s.prev.contains x = b2 at l2
  have HR : Hid ((b1 || b2) = r) := Lib.hid (by rw [← e1, ← e2]; exact hr)
  clear hc hp hn hF ht hr e1 e2
  cases b1
  · go_enter Try.func14, Try.ntmps14
    go_wp2
    go_ret
    exact ⟨ret_bool HR.out, rfl⟩
  · go_enter Try.func14, Try.ntmps14
    go_wp2
    go_ret
    exact ⟨ret_bool HR.out, rfl⟩
end Go.Proofs.Ytagbcgbngdfapaa
