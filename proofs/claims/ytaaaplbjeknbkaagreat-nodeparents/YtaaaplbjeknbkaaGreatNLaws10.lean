/-
  NodeParents: the law's deed as it grows.
-/
import Derived.Test.YtaaaplbjeknbkaaGreatJ33
set_option maxRecDepth 20000
namespace Go.Proofs.YtaaaplbjeknbkaaGreat
open Go.RowKit Go.Maps

variable {w w' w0 : World} {F : Nat → Prop} {R : Nat} {s : NS}

theorem join5 (salt : UInt64) (w : World) (h : NodeAt w F R (NS.new salt)) : Calls Tryz.prog 35 #[.pointer (some ⟨R, 0, none⟩), .int .i64 5, .bool true] w (TurnsN w F R (.int .i64 0) ((NS.new salt).setPeer 5 (true, true))) := join_any 5 true _ (join_new salt 5 (by decide) true) w h
theorem ins_apart {B C : Nat} {u v : Value} {l : List InD} {d : List UInt64} (h : OwnInB w B u l) (k : OwnIds w C v d) : ∀ g, u.ownBlock = some g → v.ownBlock ≠ some g := fun g hu hv => by
  obtain ⟨c1, h1⟩ := own_at h hu
  obtain ⟨c2, h2⟩ := own_at k hv
  rw [h1] at h2
  simp at h2
theorem own_base {B : Nat} {v : Value} {l : List InD} (h : OwnInB w B v l) : OwnIns w v l := ⟨h.1, h.2.imp id fun ⟨g, cap, cur, hv, _, r⟩ => ⟨g, cap, cur, hv, Nat.zero_le _, r⟩⟩
theorem parents_check {m : List UInt64} (hn : m.Nodup) (h4 : m.length ≤ 4) : checkD ⟨m.map fun x => (x, 0), 1, 10, 9⟩ = 0 := by
  unfold checkD
  have h1 : atsB (m.map fun x => ((x, 0) : InD)) = true := by
    unfold atsB
    rw [List.all_eq_true]
    intro z hz
    obtain ⟨q, _, rfl⟩ := List.mem_map.1 hz
    rfl
  have h2 : dupB (m.map fun x => ((x, 0) : InD)) = false := by
    unfold dupB
    exact decide_eq_false (not_not_intro (List.pairwise_map.2 (hn.imp fun h e => h (congrArg Prod.fst e))))
  simp only [h1, h2]
  rw [if_neg (by rw [List.length_map]; omega), if_neg (by decide), if_neg (by decide), if_neg (by decide)]
/-- The law's deed, as it grows. -/
structure Grows (w3 wr : World) (vi v : Value) (m : List UInt64) : Prop where
  ids : OwnIds wr (w3.heap.size + 1) v m
  deed : wr.heap[w3.heap.size]? = some (.cells #[vi, .int .i64 1, .int .i64 10, .int .i64 9] 50 (0, 0))
  ins : OwnInB wr (w3.heap.size + 1) vi (m.map fun x => (x, 0))
  below : Below w3.heap.size w3 wr
  nodup : m.Nodup
theorem Grows.lt {w3 wr : World} {vi v : Value} {m : List UInt64} (h : Grows w3 wr vi v m) : w3.heap.size < wr.heap.size := (Array.getElem?_eq_some_iff.1 h.deed).1
theorem Grows.one {w3 wr w6 : World} {vi v : Value} {m : List UInt64} (h : Grows w3 wr vi v m) (hg : wr.grownBy w6 v.ownBlock) : w6.heap[w3.heap.size]? = some (.cells #[vi, .int .i64 1, .int .i64 10, .int .i64 9] 50 (0, 0)) ∧ OwnInB w6 (w3.heap.size + 1) vi (m.map fun x => (x, 0)) ∧ Below w3.heap.size w3 w6 := by
  refine ⟨(hg.block _ h.lt (fun e => ?_)).trans h.deed, own_grown h.ins hg (ins_apart h.ins h.ids), below_grown h.below hg (fun g hgg => ?_) (Nat.le_of_lt h.lt)⟩
  · have := (h.ids.lt _ e.symm).1
    omega
  · have := (h.ids.lt _ hgg).1
    omega
theorem grows_two {w3 w6 w7 : World} {vi v v7 : Value} {m : List UInt64} {y : UInt64} (hi : OwnIds w6 (w3.heap.size + 1) v (m ++ [y])) (hd : w6.heap[w3.heap.size]? = some (.cells #[vi, .int .i64 1, .int .i64 10, .int .i64 9] 50 (0, 0))) (ho : OwnInB w6 (w3.heap.size + 1) vi (m.map fun x => (x, 0))) (hb : Below w3.heap.size w3 w6) (hn : (m ++ [y]).Nodup) (hg : w6.grownBy w7 vi.ownBlock) (h7 : OwnInB w7 (w3.heap.size + 1) v7 ((m ++ [y]).map fun x => (x, 0))) : (w7.cell? ⟨w3.heap.size, 0, none⟩ = some vi ∧ w7.frozen? ⟨w3.heap.size, 0, none⟩ = false ∧ w3.heap.size < w7.heap.size) ∧ Grows w3 (w7.setCell ⟨w3.heap.size, 0, none⟩ v7) v7 v (m ++ [y]) := by
  have hlt : w3.heap.size < w6.heap.size := (Array.getElem?_eq_some_iff.1 hd).1
  have hD : w7.heap[w3.heap.size]? = some (.cells #[vi, .int .i64 1, .int .i64 10, .int .i64 9] 50 (0, 0)) := (hg.block _ hlt (fun e => by have := (ho.lt _ e.symm).1; omega)).trans hd
  have hset : ∀ k, k ≠ w3.heap.size → (w7.setCell ⟨w3.heap.size, 0, none⟩ v7).heap[k]? = w7.heap[k]? := fun k hk => Below.heap_setCell w7 ⟨w3.heap.size, 0, none⟩ v7 k hk
  have hsz : (w7.setCell ⟨w3.heap.size, 0, none⟩ v7).heap.size = w7.heap.size := World.size_setCell ..
  have hb7 := below_grown hb hg (fun g hgg => by have := (ho.lt _ hgg).1; omega) (Nat.le_of_lt hlt)
  refine ⟨⟨head_cell hD 0, frozen_of_row w7 w3.heap.size 0 _ _ hD, Nat.lt_of_lt_of_le hlt hg.size⟩, ?_, ?_, ?_, ?_, hn⟩
  · have h1 := own_grown hi hg (fun g hv hii => ins_apart ho hi g hii hv)
    exact own_same h1 fun g hgg => hset g (by have := (h1.lt _ hgg).1; omega)
  · exact heap_setCell_same w7 w3.heap.size 0 _ _ v7 hD
  · exact own_same h7 fun g hgg => hset g (by have := (h7.lt _ hgg).1; omega)
  · exact ⟨hb7.os, hb7.tape, hb7.output, by rw [hsz]; exact hb7.size, fun k hk => (hset k (by omega)).trans (hb7.block k hk)⟩
end Go.Proofs.YtaaaplbjeknbkaaGreat
