/-
  A queue of IDs: a slice that is cut in front and appended to behind.
  An examination in memory: a node and a queue; settle, accept, enqueueChildren.
  Examinations: enqueueChildren.
  Examinations: seekPayer.
  Examinations: examine.
  Examinations: follow.
-/
import Derived.Test.YtmbejeibcncmmaaGreatJ8
import Derived.Test.YtmbejeibcncmmaaGreatJ1
import Derived.ArgAppend
import Derived.Test.YtmbejeibcncmmaaGreatJ13
import Derived.StillTailTactics
import Derived.Deep.RegionLaw
import Derived.BigQuiet
set_option maxRecDepth 20000
namespace Go.Proofs.YtmbejeibcncmmaaGreat
open Go.RowKit

/-- The slice v holds these IDs; all of its room is there. -/
def QueueAt (w : World) (v : Value) (q : List UInt64) : Prop := (v = .slice none 0 0 ∧ q = []) ∨ ∃ g o cap, v = .slice (some ⟨g, o, none⟩) q.length cap ∧ q.length ≤ cap ∧ g < w.heap.size ∧
  (∀ j, j < cap → (w.cell? ⟨g, o + j, none⟩).isSome = true ∧ w.frozen? ⟨g, o + j, none⟩ = false) ∧ ∀ j (h : j < q.length), w.cell? ⟨g, o + j, none⟩ = some (.int .u64 q[j].toNat)

variable {w w' : World} {v : Value} {q : List UInt64}

theorem QueueAt.lt (h : QueueAt w v q) : ∀ g, v.ownBlock = some g → g < w.heap.size := fun g hg => by
  rcases h with ⟨rfl, _⟩ | ⟨b, o, cap, rfl, _, hb, _⟩
  · cases hg
  · cases hg
    exact hb
theorem QueueAt.same (h : QueueAt w v q) (e : ∀ g, v.ownBlock = some g → w'.heap[g]? = w.heap[g]?) (hs : w.heap.size ≤ w'.heap.size) : QueueAt w' v q := by
  rcases h with h | ⟨g, o, cap, rfl, h1, h2, h3, h4⟩
  · exact .inl h
  · have eg := e g rfl
    refine .inr ⟨g, o, cap, rfl, h1, Nat.lt_of_lt_of_le h2 hs, fun j hj => ⟨?_, ?_⟩, fun j hj => ?_⟩
    · rw [World.cell?_of_block (w := w) (a := ⟨g, o + j, none⟩) eg]
      exact (h3 j hj).1
    · rw [World.frozen?_of_block (w := w) (a := ⟨g, o + j, none⟩) eg]
      exact (h3 j hj).2
    · exact (World.cell?_of_block (w := w) (a := ⟨g, o + j, none⟩) eg).trans (h4 j hj)
theorem queue_nil (w : World) : QueueAt w (.slice none 0 0) [] := .inl ⟨rfl, rfl⟩
theorem QueueAt.form (h : QueueAt w v q) : ∃ a cap, v = .slice a q.length cap ∧ q.length ≤ cap ∧ IdsAt w a q := by
  rcases h with ⟨rfl, rfl⟩ | ⟨g, o, cap, rfl, h1, h2, _, h4⟩
  · exact ⟨none, 0, rfl, Nat.le_refl _, fun i hi => absurd hi (by simp)⟩
  · exact ⟨_, cap, rfl, h1, fun i hi => ⟨g, o, rfl, h2, h4 i hi⟩⟩
/-- The first one is cut off. -/
theorem QueueAt.cut {x : UInt64} {r : List UInt64} (h : QueueAt w v (x :: r)) : ∃ a cap, v = .slice a (r.length + 1) cap ∧ r.length + 1 ≤ cap ∧ w.cell? (a.getD ⟨0, 0, none⟩) = some (.int .u64 x.toNat) ∧ (∃ g o, a = some ⟨g, o, none⟩ ∧ g < w.heap.size) ∧
    QueueAt w (.slice (if cap = 1 then a else a.map (·.add 1)) r.length (cap - 1)) r ∧ (Value.slice (if cap = 1 then a else a.map (·.add 1)) r.length (cap - 1)).ownBlock = v.ownBlock := by
  rcases h with ⟨_, h⟩ | ⟨g, o, cap, rfl, h1, h2, h3, h4⟩
  · cases h
  · simp only [List.length_cons] at h1 h4
    have hadd : (⟨g, o, none⟩ : Addr).add 1 = ⟨g, o + 1, none⟩ := by unfold Addr.add; split <;> simp_all
    refine ⟨some ⟨g, o, none⟩, cap, rfl, h1, h4 0 (by omega), ⟨g, o, rfl, h2⟩, ?_, ?_⟩
    · by_cases hc : cap = 1
      · have hr : r = [] := List.eq_nil_of_length_eq_zero (by omega)
        subst hr hc
        exact .inr ⟨g, o, 0, rfl, Nat.le_refl _, h2, fun j hj => absurd hj (by omega), fun j hj => absurd hj (by simp)⟩
      · rw [if_neg hc]
        refine .inr ⟨g, o + 1, cap - 1, by rw [Option.map_some, hadd], by omega, h2, fun j hj => ?_, fun j hj => ?_⟩
        · have := h3 (j + 1) (by omega)
          rwa [show o + (j + 1) = o + 1 + j by omega] at this
        · have := h4 (j + 1) (by omega)
          rwa [show o + (j + 1) = o + 1 + j by omega, List.getElem_cons_succ] at this
    · by_cases hc : cap = 1
      · rw [if_pos hc]; rfl
      · rw [if_neg hc, Option.map_some, hadd]; rfl
theorem owns_queue {B : Nat} (h : OwnIds w B v q) : QueueAt w v q := by
  rcases h.2 with ⟨hv, hn⟩ | ⟨g, cap, cur, hv, hB, hg, hc, _, hsz, _⟩
  · exact .inl ⟨hv, List.eq_nil_of_length_eq_zero hn⟩
  · refine .inr ⟨g, 0, cap, hv, hc, (Array.getElem?_eq_some_iff.1 hg).1, fun j hj => ⟨?_, frozen_of_row w g _ _ _ hg⟩, fun j hj => ?_⟩
    · rw [cell_of_row w g _ cur _ _ hg, Array.getElem?_eq_getElem (by omega)]
      rfl
    · have a0 := h.cells (g := g) (by rw [hv]; rfl) j (idV q[j]) (by rw [List.getElem?_map, List.getElem?_eq_getElem hj]; rfl)
      have f0 : (⟨g, 0, none⟩ : Addr).add j = ⟨g, 0 + j, none⟩ := by unfold Addr.add; split <;> simp_all
      rw [f0] at a0
      exact a0
theorem size_setCells (b : Nat) : ∀ (vs : List Value) (o : Nat) (w : World), (w.setCells b o vs).heap.size = w.heap.size
  | [], _, _ => rfl
  | v :: r, o, w => by rw [World.setCells, size_setCells b r, World.size_setCell]
theorem turn_setCells (b : Nat) : ∀ (vs : List Value) (o : Nat) (w : World), Turn (fun k => k = b) (fun k => k = b) w (w.setCells b o vs)
  | [], _, w => Turn.refl _ w
  | v :: r, o, w => by
    rw [World.setCells]
    exact (Turn.set (F := fun k => k = b) w ⟨b, o, none⟩ v rfl).trans (turn_setCells b r (o + 1) _)
/-- append. -/
theorem run_append_queue (ty : TypeId) {l : List UInt64} {a : Option Addr} {c B : Nat} (h : QueueAt w v q) (ho : OwnIds w B (.slice a l.length c) l) (hl : q.length + l.length ≤ 1000000) :
    ∃ v' w', (Builtin.append_ #[37, 37] ty #[v, .slice a l.length c]).run Tryz.prog w = .ok v' w' ∧ QueueAt w' v' (q ++ l) ∧ Turn (fun k => v.ownBlock = some k) (fun k => v'.ownBlock = some k) w w' := by
  obtain ⟨i0, hi0, hz0, hz1, hz2⟩ := info_parts info_u64
  obtain ⟨a', c', e, _, hi, _⟩ := owns_idsAt ho
  simp only [Value.slice.injEq, true_and] at e
  obtain ⟨rfl, rfl⟩ := e
  have hml : maxLen = 9223372036854775807 := rfl
  by_cases hn : l = []
  · subst hn
    rw [List.append_nil]
    have hfc : (Builtin.firstCells 1 0 (.slice a 0 c)).run Tryz.prog w = .ok #[] w := by
      cases a with
      | none => exact run_firstCells_none (P := Tryz.prog) w 1 0 0 c
      | some b => exact run_firstCells_some (P := Tryz.prog) w 1 0 b 0 c [] rfl (fun j u hj => by simp at hj)
    rcases h with ⟨rfl, rfl⟩ | ⟨g, o, cap, rfl, h1, h2, h3, h4⟩
    · refine ⟨.slice none 0 0, w, ?_, .inl ⟨rfl, rfl⟩, Turn.refl _ _⟩
      simp [Builtin.append_, run_underlying Tryz.underlying37, sizeOf, typeInfo, hi0, Builtin.lenOf, hz1, hfc]
    · refine ⟨_, w, ?_, .inr ⟨g, o, cap, rfl, h1, h2, h3, h4⟩, Turn.refl _ _⟩
      simp [Builtin.append_, run_underlying Tryz.underlying37, sizeOf, typeInfo, hi0, Builtin.lenOf, hz1, hfc, h1, storeCells]
  · have hpos : 0 < l.length := List.length_pos_iff.2 hn
    obtain ⟨b0, o0, rfl, hb0, _⟩ := hi 0 hpos
    have hnl : (l.map idV).length = l.length * 1 := by simp
    have hnews : ∀ j u, (l.map idV)[j]? = some u → w.cell? ((⟨b0, o0, none⟩ : Addr).add j) = some u := fun j u hu => by
      rw [List.getElem?_map] at hu
      obtain ⟨x, hx, rfl⟩ := Option.map_eq_some_iff.1 hu
      obtain ⟨hj, rfl⟩ := List.getElem?_eq_some_iff.1 hx
      obtain ⟨b1, o1, e1, _, hc1⟩ := hi j hj
      cases e1
      have f0 : (⟨b0, o0, none⟩ : Addr).add j = ⟨b0, o0 + j, none⟩ := by unfold Addr.add; split <;> simp_all
      rw [f0]
      exact hc1
    have hone : ∀ u ∈ l.map idV, u.oneCell' = true := fun u hu => by
      obtain ⟨x, _, rfl⟩ := List.mem_map.1 hu
      rfl
    rcases h with ⟨rfl, rfl⟩ | ⟨g, o, cap, rfl, h1, h2, h3, h4⟩
    · obtain ⟨v', w', hr, r1, r2, _⟩ := run_append_own (P := Tryz.prog) w w.heap.size 37 ty 22 i0 (.int .u64 0) 1 8 Tryz.underlying37 hi0 hz0 hz1 hz2 rfl (by decide) (.slice none 0 0) 0 [] (World.ownsRow_nil w _ _ 1) ⟨b0, o0, none⟩ l.length c _ hnl hnews hone (by omega) (by simp at hl; omega) (Nat.le_refl _)
      rw [Nat.zero_add, List.nil_append] at r1
      refine ⟨v', w', hr, owns_queue r1, ⟨r2.os, r2.tape, r2.output, r2.size, fun k hk _ => r2.block k hk (by simp [Value.ownBlock]), fun k hk => .inr (r1.lt k hk).1⟩⟩
    · by_cases hroom : q.length + l.length ≤ cap
      · have hr := run_append_room_cells (P := Tryz.prog) w 37 ty 22 i0 Tryz.underlying37 hi0 g o q.length cap ⟨b0, o0, none⟩ l.length c (l.map idV) (by rw [hz1]; exact hnl) hnews hone hroom
          (fun j hj => by rw [hz1]; have := (h3 (q.length + j) (by simp at hj; omega)).1; rwa [show o + (q.length + j) = o + q.length * 1 + j by omega] at this)
          (fun j hj => by rw [hz1]; have := (h3 (q.length + j) (by simp at hj; omega)).2; rwa [show o + (q.length + j) = o + q.length * 1 + j by omega] at this)
        rw [hz1, Nat.mul_one] at hr
        have hin := World.cell?_setCells_in g (l.map idV) (o + q.length) w (fun j hj => by have := (h3 (q.length + j) (by simp at hj; omega)).1; rwa [show o + (q.length + j) = o + q.length + j by omega] at this)
        refine ⟨_, _, hr, .inr ⟨g, o, cap, by rw [List.length_append], by rw [List.length_append]; exact hroom, by rw [size_setCells]; exact h2, fun j hj => ⟨?_, ?_⟩, fun j hj => ?_⟩, ?_⟩
        · by_cases hjj : q.length ≤ j ∧ j < q.length + l.length
          · have := hin (j - q.length) (by simp; omega)
            rw [show o + q.length + (j - q.length) = o + j by omega] at this
            rw [this]
            rfl
          · rw [World.cell?_setCells_out g _ _ _ _ (fun _ _ => by simp; omega)]
            exact (h3 j hj).1
        · rw [World.frozen?_setCells]
          exact (h3 j hj).2
        · by_cases hjj : j < q.length
          · rw [World.cell?_setCells_out g _ _ _ _ (fun _ _ => by simp; omega), List.getElem_append_left hjj]
            exact h4 j hjj
          · rw [List.length_append] at hj
            have := hin (j - q.length) (by simp; omega)
            rw [show o + q.length + (j - q.length) = o + j by omega] at this
            rw [this, List.getElem_append_right (by omega), List.getElem_map]
            rfl
        · have := turn_setCells g (l.map idV) (o + q.length) w
          exact ⟨this.os, this.tape, this.output, this.size, fun k hk hn => this.block k hk (fun e => hn (by rw [e]; rfl)), fun k hk => .inl hk⟩
      · obtain ⟨v', w', hr, r1, r2⟩ := run_append_arg_grows (P := Tryz.prog) w 37 ty 22 i0 (.int .u64 0) 1 8 Tryz.underlying37 hi0 hz0 hz1 hz2 rfl (by decide) ⟨g, o, none⟩ q.length cap (q.map idV) (by simp) (fun j u hu => by
          rw [List.getElem?_map] at hu
          obtain ⟨x, hx, rfl⟩ := Option.map_eq_some_iff.1 hu
          obtain ⟨hj, rfl⟩ := List.getElem?_eq_some_iff.1 hx
          rw [Addr.add_lit]
          exact h4 j hj) ⟨b0, o0, none⟩ l.length c _ hnl hnews (by omega) (by omega) (by omega)
        rw [← List.map_append, ← List.length_append] at r1
        refine ⟨v', w', hr, owns_queue r1, ⟨r2.os, r2.tape, r2.output, r2.size, fun k hk _ => r2.block k hk (by simp), fun k hk => .inr (r1.lt k hk).1⟩⟩
/-- At a step of a region that draws its order. -/
theorem step_append_queue {ops : Array Oper} {o : Oper} {a : Act} {K : Act → World → Prop} {Q : Exit → Act → World → Prop} {E : Prop} (hgd : o.guard = none) (s x : Operand)
    (ho : o.op = .call { callee := .builtin .append, args := #[s, x], argTypes := #[37, 37] }) {l : List UInt64} {ad : Option Addr} {c B : Nat} (hs : a.eval s = v) (hx : a.eval x = .slice ad l.length c)
    (h : QueueAt w v q) (hw : OwnIds w B (.slice ad l.length c) l) (hl : q.length + l.length ≤ 1000000)
    (hK : ∀ v' w', QueueAt w' v' (q ++ l) → Turn (fun k => v.ownBlock = some k) (fun k => v'.ownBlock = some k) w w' → K (a.put o.dst v') w') : if Region.wanted o (yielded ops a.tmps) = true then Oper.wp Tryz.prog o a w K Q else E := by
  have hwt : Region.wanted o (yielded ops a.tmps) = true := by simp [Region.wanted, hgd]
  rw [if_pos hwt]
  obtain ⟨v', w', hr, h1, h2⟩ := run_append_queue (w := w) o.type h hw hl
  unfold Oper.wp execOp
  simp only [ho, resolve, invoke, builtin, Sem.run_bind, Sem.run_pure, Result.andThen_ok, List.map_toArray, List.map_cons, List.map_nil, hs, hx, hr]
  exact hK v' w' h1 h2
end Go.Proofs.YtmbejeibcncmmaaGreat
namespace Go.Proofs.YtmbejeibcncmmaaGreat
open Go.RowKit Go.Maps

/-- Block X is an examination of the node in block R (F: the node's blocks), with the queue q (the slice v). -/
structure ExIs (w : World) (G : Nat → Prop) (X R : Nat) (s : NS) (q : List UInt64) (F : Nat → Prop) (v : Value) : Prop where
  node : NodeAt w F R s
  head : w.heap[X]? = some (.cells #[.pointer (some ⟨R, 0, none⟩), v] 152 (0, 0))
  queue : QueueAt w v q
  nx : ¬ F X
  nq : ∀ g, v.ownBlock = some g → ¬ F g ∧ g ≠ X
  all : ∀ k, G k ↔ F k ∨ k = X ∨ v.ownBlock = some k
def ExAt (w : World) (G : Nat → Prop) (X R : Nat) (s : NS) (q : List UInt64) : Prop := ∃ F v, ExIs w G X R s q F v
/-- A call that turns the examination. -/
def TurnsX (w : World) (G : Nat → Prop) (X R : Nat) (v : Value) (s' : NS) (q' : List UInt64) (e : Ending) (w' : World) : Prop := e = .returned v ∧ ∃ G', ExAt w' G' X R s' q' ∧ Turn G G' w w'

variable {w w' : World} {G : Nat → Prop} {X R : Nat} {s : NS} {q : List UInt64}

theorem ExIs.lt {F : Nat → Prop} {v : Value} (h : ExIs w G X R s q F v) : X < w.heap.size := (cell_spot (head_cell h.head 0)).2
theorem ExAt.good (h : ExAt w G X R s q) : NGood s := by
  obtain ⟨F, v, h⟩ := h
  exact h.node.good
theorem ExAt.lt (h : ExAt w G X R s q) : X < w.heap.size := by
  obtain ⟨F, v, h⟩ := h
  exact h.lt
theorem ExAt.ltR (h : ExAt w G X R s q) : R < w.heap.size := by
  obtain ⟨F, v, h⟩ := h
  exact h.node.lt
theorem ExAt.there (h : ExAt w G X R s q) : There w G := by
  obtain ⟨F, v, h⟩ := h
  intro k hk
  rcases (h.all k).1 hk with hk | hk | hk
  · exact h.node.there k hk
  · rw [hk]; exact h.lt
  · exact h.queue.lt k hk
theorem ExAt.c0 (h : ExAt w G X R s q) : w.cell? ⟨X, 0, none⟩ = some (.pointer (some ⟨R, 0, none⟩)) := by
  obtain ⟨F, v, h⟩ := h
  exact head_cell h.head 0
theorem ExAt.rings (h : ExAt w G X R s q) : ∃ a z, w.cell? ⟨R, 32, none⟩ = some (.pointer (some ⟨a, 0, none⟩)) ∧ w.cell? ⟨R, 33, none⟩ = some (.pointer (some ⟨z, 0, none⟩)) := by
  obtain ⟨F, v, h⟩ := h
  exact h.node.rings
theorem ExAt.node (h : ExAt w G X R s q) : ∃ F, NodeAt w F R s ∧ ∀ k, F k → G k := by
  obtain ⟨F, v, h⟩ := h
  exact ⟨F, h.node, fun k hk => (h.all k).2 (.inl hk)⟩
theorem ExAt.kept (h : ExAt w G X R s q) (hb : Below w.heap.size w w') : ExAt w' G X R s q := by
  obtain ⟨F, v, h⟩ := h
  exact ⟨F, v, h.node.kept hb, (hb.block X h.lt).trans h.head, h.queue.same (fun g hg => hb.block g (h.queue.lt g hg)) hb.size, h.nx, h.nq, h.all⟩
theorem ExAt.drew (h : ExAt w G X R s q) : ExAt w.drew G X R s q := h.kept ((Below.refl _ _).drew)
/-- A call that turns the node leaves the queue. -/
theorem ExAt.calls {f : FuncId} {args : Array Value} {u : Value} {s' : NS} (h : ExAt w G X R s q) (hc : ∀ F, NodeAt w F R s → (∀ k, F k → G k) → Calls Tryz.prog f args w (TurnsN w F R u s')) : Calls Tryz.prog f args w (TurnsX w G X R u s' q) := by
  obtain ⟨F, v, h⟩ := h
  refine (hc F h.node (fun k hk => (h.all k).2 (.inl hk))).mono ?_
  rintro e w' ⟨he, F', h1, h2⟩
  have out : ∀ k, k < w.heap.size → ¬ F k → ¬ F' k := fun k hk hn hf => (h2.own k hf).elim hn (fun hle => by omega)
  refine ⟨he, fun k => F' k ∨ k = X ∨ v.ownBlock = some k, ⟨F', v, h1, (h2.block X h.lt h.nx).trans h.head, h.queue.same (fun g hg => h2.block g (h.queue.lt g hg) (h.nq g hg).1) h2.size, out X h.lt h.nx, fun g hg => ⟨out g (h.queue.lt g hg) (h.nq g hg).1, (h.nq g hg).2⟩, fun k => Iff.rfl⟩, ?_⟩
  refine ⟨h2.os, h2.tape, h2.output, h2.size, fun k hk hn => h2.block k hk (fun hf => hn ((h.all k).2 (.inl hf))), fun k hk => ?_⟩
  rcases hk with hk | hk
  · exact (h2.own k hk).imp (fun hf => (h.all k).2 (.inl hf)) id
  · exact .inl ((h.all k).2 (.inr hk))
theorem TurnsX.trans {G1 : Nat → Prop} {w1 : World} {u : Value} {s2 : NS} {q2 : List UInt64} {e : Ending} (ht : Turn G G1 w w1) (h : TurnsX w1 G1 X R u s2 q2 e w') : TurnsX w G X R u s2 q2 e w' := by
  obtain ⟨he, G2, h1, h2⟩ := h
  exact ⟨he, G2, h1, ht.trans h2⟩

set_option maxRecDepth 20000 in
theorem settle_any (x : UInt64) (w : World) (h : ExAt w G X R s q) : Calls Tryz.prog 133 #[.pointer (some ⟨X, 0, none⟩), .int .u64 x.toNat] w (TurnsX w G X R (.tuple #[]) (s.settle x) q) := by
  have c0 := h.c0
  have l0 := h.lt
  have l1 := h.ltR
  have H := Lib.hid h
  clear h
  go_enter Tryz.func133, Tryz.ntmps133
  go_wp2_with fail
  with_reducible refine (H.out.calls fun F hn _ => n_forget x _ hn).mono ?_
  rintro e w1 ⟨rfl, G1, h1, t1⟩
  have H1 := Lib.hid h1
  have T1 := Lib.hid t1
  have d0 := h1.c0
  have d1 := h1.lt
  have d2 := h1.ltR
  clear h1 t1
  go_wp2_with fail
  with_reducible refine (H1.out.calls fun F hn _ => n_remove x _ hn).mono ?_
  rintro e w2 ⟨rfl, G2, h2, t2⟩
  go_wp2_with fail
  go_end0
  exact ⟨rfl, G2, h2, T1.out.trans t2⟩
set_option maxRecDepth 20000 in
theorem accept_any (x : UInt64) (d : DeedD) (a : Option Addr) (cap : Nat) (hl : s.A.length ≤ 5000000000000) (w : World) (h : ExAt w G X R s q) (hi : InsAt w a d.ins) (hout : ∀ bb o, d.ins ≠ [] → a = some ⟨bb, o, none⟩ → ¬ G bb) :
    Calls Tryz.prog 130 #[.pointer (some ⟨X, 0, none⟩), .int .u64 x.toNat, .agg #[.slice a d.ins.length cap, .int .i64 d.outs, .int .i64 d.weight, .int .i64 d.fee]] w (TurnsX w G X R (.tuple #[]) (s.accept x d) q) := by
  obtain ⟨wd, hwd⟩ : ∃ wd, (w.alloc (.cells #[.slice a d.ins.length cap, .int .i64 d.outs, .int .i64 d.weight, .int .i64 d.fee] 53)).drew = wd := ⟨_, rfl⟩
  have hbd : Below w.heap.size w wd := hwd ▸ (kept_new _ _).drew
  have h1 := h.kept hbd
  have c0 := h1.c0
  have l0 := h1.lt
  have l1 := h1.ltR
  have b0 : wd.cell? ⟨w.heap.size, 0, none⟩ = some (.slice a d.ins.length cap) := by rw [← hwd]; show (w.alloc _).cell? _ = _; simp [go_sem]
  have b1 : wd.cell? ⟨w.heap.size, 1, none⟩ = some (.int .i64 d.outs) := by rw [← hwd]; show (w.alloc _).cell? _ = _; simp [go_sem]
  have b2 : wd.cell? ⟨w.heap.size, 2, none⟩ = some (.int .i64 d.weight) := by rw [← hwd]; show (w.alloc _).cell? _ = _; simp [go_sem]
  have b3 : wd.cell? ⟨w.heap.size, 3, none⟩ = some (.int .i64 d.fee) := by rw [← hwd]; show (w.alloc _).cell? _ = _; simp [go_sem]
  have hs1 := (cell_spot b0).2
  have H1 := Lib.hid h1
  have HT : Hid (Turn G G w wd) := Lib.hid (Turn.of_below hbd)
  have HI := Lib.hid (insAt_kept hbd hi)
  have HO := Lib.hid hout
  have HWD := Lib.hid hwd
  clear h h1 hi hout hwd hbd
  go_enter Tryz.func130, Tryz.ntmps130
  go_wp2_with fail
  refine region_tail 7 (by kernel_rfl) (by kernel_rfl) HWD.out ?_
  simp only [List.take_succ_cons, List.take_zero, List.drop_succ_cons, List.drop_zero]
  repeat still_step
  refine wpStill_nil ?_
  go_wp2_with fail
  with_reducible refine (H1.out.calls fun F hn hF => n_accept d a cap hl _ hn HI.out (fun bb o hne e hf => absurd (hF bb hf) (HO.out bb o hne e))).mono ?_
  rintro e w2 ⟨rfl, G2, h2, t2⟩
  have H2 := Lib.hid h2
  have T2 := Lib.hid (HT.out.trans t2)
  clear h2 t2
  go_wp2_with fail
  with_reducible refine (settle_any x _ H2.out).mono ?_
  rintro e w3 ⟨rfl, G3, h3, t3⟩
  go_wp2_with fail
  go_end0
  exact ⟨rfl, G3, h3, T2.out.trans t3⟩
end Go.Proofs.YtmbejeibcncmmaaGreat
namespace Go.Proofs.YtmbejeibcncmmaaGreat
open Go.RowKit Go.Maps

variable {w w' : World} {G : Nat → Prop} {X R : Nat} {s : NS} {q : List UInt64}

theorem childL_len {L : List Ho.LinkD} (x : UInt64) : (Ho.childL L x).length ≤ L.length := by
  unfold Ho.childL
  refine Nat.le_trans (List.length_filter_le _ _) ?_
  unfold Ho.allL
  have := Ho.allI_len (Ho.lsOf L) (Ho.lsOf L).length
  rw [List.take_of_length_le (Nat.le_refl _), Ho.lsOf_len] at this
  exact this
/-- The queue's slice is stored anew. -/
theorem ExIs.stored {F : Nat → Prop} {v v' : Value} {q' : List UInt64} (h : ExIs w G X R s q F v) (hq : QueueAt w' v' q') (ht : Turn (fun k => v.ownBlock = some k) (fun k => v'.ownBlock = some k) w w') :
    (w'.cell? ⟨X, 1, none⟩ = some v ∧ w'.frozen? ⟨X, 1, none⟩ = false ∧ X < w'.heap.size) ∧ ∃ G', ExAt (w'.setCell ⟨X, 1, none⟩ v') G' X R s q' ∧ Turn G G' w (w'.setCell ⟨X, 1, none⟩ v') := by
  have hX : w'.heap[X]? = some (.cells #[.pointer (some ⟨R, 0, none⟩), v] 152 (0, 0)) := (ht.block X h.lt (fun e => (h.nq X e).2 rfl)).trans h.head
  have hn : ∀ k, v'.ownBlock = some k → ¬ F k ∧ k ≠ X := fun k hk => by
    rcases ht.own k hk with hk | hk
    · exact h.nq k hk
    · exact ⟨fun hf => by have := h.node.there k hf; omega, fun e => by have := h.lt; omega⟩
  have hset : ∀ k, k ≠ X → (w'.setCell ⟨X, 1, none⟩ v').heap[k]? = w'.heap[k]? := fun k hk => Below.heap_setCell w' ⟨X, 1, none⟩ v' k hk
  have hsz : (w'.setCell ⟨X, 1, none⟩ v').heap.size = w'.heap.size := World.size_setCell ..
  refine ⟨⟨head_cell hX 1, frozen_of_row w' X 1 _ _ hX, Nat.lt_of_lt_of_le h.lt ht.size⟩, fun k => F k ∨ k = X ∨ v'.ownBlock = some k, ⟨F, v', ?_, ?_, ?_, h.nx, hn, fun k => Iff.rfl⟩, ?_⟩
  · exact h.node.same (fun k hk hf => (hset k (fun e => h.nx (e ▸ hf))).trans (ht.block k hk (fun e => (h.nq k e).1 hf))) (by rw [hsz]; exact ht.size)
  · exact heap_setCell_same w' X 1 _ _ v' hX
  · exact hq.same (fun g hg => hset g (hn g hg).2) (by rw [hsz]; exact Nat.le_refl _)
  · refine ⟨ht.os, ht.tape, ht.output, by rw [hsz]; exact ht.size, fun k hk hg => ?_, fun k hk => ?_⟩
    · have h1 : ¬ (F k ∨ k = X ∨ v.ownBlock = some k) := fun hh => hg ((h.all k).2 hh)
      exact (hset k (fun e => h1 (.inr (.inl e)))).trans (ht.block k hk (fun e => h1 (.inr (.inr e))))
    · rcases hk with hk | hk | hk
      · exact .inl ((h.all k).2 (.inl hk))
      · exact .inl ((h.all k).2 (.inr (.inl hk)))
      · exact (ht.own k hk).imp (fun e => (h.all k).2 (.inr (.inr e))) id
theorem ExIs.kept {F : Nat → Prop} {v : Value} (h : ExIs w G X R s q F v) (hb : Below w.heap.size w w') : ExIs w' G X R s q F v :=
  ⟨h.node.kept hb, (hb.block X h.lt).trans h.head, h.queue.same (fun g hg => hb.block g (h.queue.lt g hg)) hb.size, h.nx, h.nq, h.all⟩
set_option maxRecDepth 20000 in
theorem enqueue_any (x : UInt64) (hq : q.length ≤ 100000) (w : World) (h : ExAt w G X R s q) : Calls Tryz.prog 131 #[.pointer (some ⟨X, 0, none⟩), .int .u64 x.toNat] w (TurnsX w G X R (.tuple #[]) s (q ++ Ho.childL s.P x)) := by
  obtain ⟨F, v, h⟩ := h
  have hd : ExIs w.drew G X R s q F v := h.kept ((Below.refl _ _).drew)
  have HTD : Hid (Turn G G w w.drew) := Lib.hid (Turn.of_below ((Below.refl _ _).drew))
  have c0 : w.drew.cell? ⟨X, 0, none⟩ = some (.pointer (some ⟨R, 0, none⟩)) := head_cell hd.head 0
  have c1 : w.drew.cell? ⟨X, 1, none⟩ = some v := head_cell hd.head 1
  have l0 : X < w.drew.heap.size := hd.lt
  have l1 : R < w.drew.heap.size := hd.node.lt
  have HL : Hid (q.length + (Ho.childL s.P x).length ≤ 1000000) := Lib.hid (by
    have := childL_len (L := s.P) x
    have := hd.node.good.P.len
    omega)
  have HD := Lib.hid hd
  clear h hd
  go_enter Tryz.func131, Tryz.ntmps131
  go_wp2_with fail
  go_region_law (first
    | (go_simp; go_at_call 70; (with_reducible refine (n_childP x _ HD.out.node).mono ?_); rintro e w1 ⟨a1, cp1, rfl, ho1, hb1⟩; have H1 := Lib.hid (HD.out.kept hb1); have HO1 := Lib.hid ho1; have T1 := Lib.hid (HTD.out.trans (Turn.of_below hb1)); have e0 := head_cell H1.out.head 0; have e1 := head_cell H1.out.head 1; have m0 := H1.out.lt; have m1 := H1.out.node.lt; clear ho1 hb1)
    | (refine step_append_queue (by rfl) _ _ (by rfl) (by rfl) (by rfl) H1.out.queue HO1.out HL.out ?_; intro v2 w2 hq2 ht2; obtain ⟨a2, cp2, rfl, _, _⟩ := QueueAt.form hq2; obtain ⟨⟨f0, f1, f2⟩, G3, h3, t3⟩ := H1.out.stored hq2 ht2; have H3 := Lib.hid h3; have T3 := Lib.hid (T1.out.trans t3); clear hq2 ht2 h3 t3))
  all_goals
    go_wp2_with fail
    go_end0
    have h3 := H3.out
    have t3 := T3.out
    rw [List.length_append] at h3 t3
    exact ⟨rfl, G3, h3, t3⟩
end Go.Proofs.YtmbejeibcncmmaaGreat
namespace Go.Proofs.YtmbejeibcncmmaaGreat
open Go.RowKit Go.Maps

variable {w w' : World} {G : Nat → Prop} {X R : Nat} {s : NS} {q : List UInt64}

/-- A boxed deed. -/
def DeedBox (w : World) (b : Nat) (a : Option Addr) (cap : Nat) (d : DeedD) : Prop := w.cell? ⟨b, 0, none⟩ = some (.slice a d.ins.length cap) ∧ w.cell? ⟨b, 1, none⟩ = some (.int .i64 d.outs) ∧ w.cell? ⟨b, 2, none⟩ = some (.int .i64 d.weight) ∧ w.cell? ⟨b, 3, none⟩ = some (.int .i64 d.fee)
theorem DeedBox.kept {b : Nat} {a : Option Addr} {cap : Nat} {d : DeedD} (h : DeedBox w b a cap d) (hb : Below w.heap.size w w') : DeedBox w' b a cap d := ⟨kept_cell hb h.1, kept_cell hb h.2.1, kept_cell hb h.2.2.1, kept_cell hb h.2.2.2⟩
theorem DeedBox.turn {b : Nat} {a : Option Addr} {cap : Nat} {d : DeedD} {G' : Nat → Prop} (h : DeedBox w b a cap d) (ht : Turn G G' w w') (hn : ¬ G b) : DeedBox w' b a cap d := by
  have e := ht.block b (cell_spot h.1).2 hn
  exact ⟨(World.cell?_of_block (w := w) (a := ⟨b, 0, none⟩) e).trans h.1, (World.cell?_of_block (w := w) (a := ⟨b, 1, none⟩) e).trans h.2.1, (World.cell?_of_block (w := w) (a := ⟨b, 2, none⟩) e).trans h.2.2.1, (World.cell?_of_block (w := w) (a := ⟨b, 3, none⟩) e).trans h.2.2.2⟩
theorem accept_len (s : NS) (x : UInt64) (d : DeedD) : (s.accept x d).A.length ≤ s.A.length + 1 := by
  show (Ju.acceptL s.A d).2.length ≤ _
  unfold Ju.acceptL
  split
  · simp
  · split
    · simp
    · split
      · simp
      · simp
theorem box_deed (w : World) (a : Option Addr) (cap : Nat) (d : DeedD) : DeedBox (w.alloc (.cells #[.slice a d.ins.length cap, .int .i64 d.outs, .int .i64 d.weight, .int .i64 d.fee] 53)) w.heap.size a cap d := ⟨by simp [go_sem], by simp [go_sem], by simp [go_sem], by simp [go_sem]⟩
/-- The test for a payer. -/
abbrev pays (s : NS) (d : DeedD) (c : UInt64) : Bool := decide (Ju.pairL s.A d ((Ho.deedOf s.P c).getD nod) = (0, 0))
theorem seek_none {x : UInt64} {d : DeedD} (h : (Ho.childL s.P x).find? (pays s d) = none) : s.seek x d = (s, []) := by
  unfold NS.seek NS.payer
  rw [h]
theorem seek_some {x c : UInt64} {d : DeedD} (h : (Ho.childL s.P x).find? (pays s d) = some c) : s.seek x d = (((s.accept x d).accept c ((Ho.deedOf s.P c).getD nod)), Ho.childL ((s.accept x d).accept c ((Ho.deedOf s.P c).getD nod)).P x ++ Ho.childL ((s.accept x d).accept c ((Ho.deedOf s.P c).getD nod)).P c) := by
  unfold NS.seek NS.payer
  rw [h]
set_option maxRecDepth 20000 in
set_option maxHeartbeats 2000000 in
theorem seek_any (x : UInt64) (d : DeedD) (a : Option Addr) (cap : Nat) (hl : s.A.length ≤ 4000000000000) (hq : q.length ≤ 90000) (w : World) (h : ExAt w G X R s q) (hi : InsAt w a d.ins) (hout : ∀ bb o, d.ins ≠ [] → a = some ⟨bb, o, none⟩ → ¬ G bb) :
    Calls Tryz.prog 134 #[.pointer (some ⟨X, 0, none⟩), .int .u64 x.toNat, .agg #[.slice a d.ins.length cap, .int .i64 d.outs, .int .i64 d.weight, .int .i64 d.fee]] w (TurnsX w G X R (.tuple #[]) (s.seek x d).1 (q ++ (s.seek x d).2)) := by
  have hk0 := kept_new w (.cells #[.slice a d.ins.length cap, .int .i64 d.outs, .int .i64 d.weight, .int .i64 d.fee] 53)
  have h0 := h.kept hk0
  have HB0 := Lib.hid (box_deed w a cap d)
  have HI0 := Lib.hid (insAt_kept hk0 hi)
  have HO := Lib.hid hout
  have HK0 := Lib.hid hk0
  have c0 := h0.c0
  have l0 := h0.lt
  have l1 := h0.ltR
  have H0 := Lib.hid h0
  clear h h0 hk0 hi hout
  go_enter Tryz.func134, Tryz.ntmps134
  go_wp2_with fail
  obtain ⟨F0, hn0, hF0⟩ := H0.out.node
  with_reducible refine (n_childP x _ hn0).mono ?_
  rintro e w1 ⟨a1, cp1, rfl, ho1, hb1⟩
  have H1 := Lib.hid (H0.out.kept hb1)
  have HB1 := Lib.hid (HB0.out.kept hb1)
  have HI1 := Lib.hid (insAt_kept hb1 HI0.out)
  have HK1 := Lib.hid (kept_trans HK0.out hb1)
  obtain ⟨a1', cp1', e1, _, hids, _⟩ := owns_idsAt ho1
  simp only [Value.slice.injEq, true_and] at e1
  obtain ⟨rfl, rfl⟩ := e1
  have HIDS := Lib.hid hids
  obtain ⟨cs, hcs⟩ : ∃ cs, Ho.childL s.P x = cs := ⟨_, rfl⟩
  have HCS := Lib.hid hcs
  rw [hcs] at HIDS ⊢
  have hcl : cs.length ≤ 24 := by
    have h1 := childL_len (L := s.P) x
    have h2 := H1.out.good.P.len
    rw [hcs] at h1
    omega
  clear hn0 hF0 ho1 hb1 hids hcs
  go_wp2_with fail
  go_loopw [21] (fun i wr => ∃ k : Nat, k ≤ cs.length ∧ i = .int .i64 k ∧ Hid (Below w1.heap.size w1 wr) ∧ Hid ((cs.take k).find? (pays s d) = none)) (fun i _ => cs.length - (intOf i).toNat)
  case atStart => exact ⟨0, Nat.zero_le _, rfl, Lib.hid (Below.refl _ _), Lib.hid rfl⟩
  case round =>
    obtain ⟨k, hk, rfl, HB, HN⟩ := hrel
    have HR := Lib.hid (H1.out.kept HB.out)
    have HBR := Lib.hid (HB1.out.kept HB.out)
    by_cases hkl : k < cs.length
    · obtain ⟨g, o, rfl, hg, hc2⟩ := HIDS.out k hkl
      have hc3 := kept_cell HB.out hc2
      obtain ⟨c, hc⟩ : ∃ c, cs[k] = c := ⟨_, rfl⟩
      rw [hc] at hc2 hc3
      have HC := Lib.hid hc
      have hc0 := HR.out.c0
      have hl0 := HR.out.lt
      have hl1 := HR.out.ltR
      have hg2 := (cell_spot hc3).2
      clear hc hc2
      go_wp2_with fail
      obtain ⟨F2, hn2, hF2⟩ := HR.out.node
      with_reducible refine (n_deedP c _ hn2).mono ?_
      rintro e w2 ⟨a2, cp2, rfl, hl8, hlc, hi2, hf2, hb2⟩
      obtain ⟨y, hy⟩ : ∃ y, (Ho.deedOf s.P c).getD nod = y := ⟨_, rfl⟩
      rw [hy] at hl8 hlc hi2 hf2 ⊢
      obtain ⟨er, her⟩ : ∃ er : Int, (if (Ho.deedOf s.P c).isSome then (0 : Int) else 5) = er := ⟨_, rfl⟩
      rw [her]
      obtain ⟨wy, hwy⟩ : ∃ wy, w2.alloc (.cells #[.slice a2 y.ins.length cp2, .int .i64 y.outs, .int .i64 y.weight, .int .i64 y.fee] 53) = wy := ⟨_, rfl⟩
      have hby : Below w2.heap.size w2 wy := hwy ▸ kept_new _ _
      have hbY : Below w1.heap.size w1 wy := kept_trans HB.out (kept_trans hb2 hby)
      have HBY := Lib.hid hbY
      have HYY : Hid (DeedBox wy w2.heap.size a2 cp2 y) := Lib.hid (hwy ▸ box_deed w2 a2 cp2 y)
      have HIY := Lib.hid (insAt_kept hby hi2)
      have HF2 : Hid (∀ bb o, y.ins ≠ [] → a2 = some ⟨bb, o, none⟩ → w1.heap.size ≤ bb) := Lib.hid fun bb o h1 h2 => Nat.le_trans HB.out.size (hf2 bb o h1 h2)
      have HS2 : Hid (w1.heap.size ≤ w2.heap.size) := Lib.hid (Nat.le_trans HB.out.size hb2.size)
      have hbd : Below wy.heap.size wy wy.drew := (Below.refl _ _).drew
      have HED := H1.out.kept (kept_trans hbY hbd)
      have d0 := HED.c0
      have d1 := HED.lt
      have d2 := HED.ltR
      obtain ⟨x0, x1, x2, x3⟩ := HB1.out.kept (kept_trans hbY hbd)
      obtain ⟨y0, y1, y2, y3⟩ := HYY.out.kept hbd
      have d3 := (cell_spot x0).2
      have d4 := (cell_spot y0).2
      obtain ⟨F3, hn3, hF3⟩ := HED.node
      have HN3 := Lib.hid hn3
      have HIXd := Lib.hid (insAt_kept (kept_trans hbY hbd) HI1.out)
      have HIYd := Lib.hid (insAt_kept hbd HIY.out)
      obtain ⟨ps, pr, hp⟩ : ∃ ps pr, Ju.pairL s.A d y = (ps, pr) := ⟨_, _, rfl⟩
      have HP := Lib.hid hp
      have HY := Lib.hid hy
      clear hbd hi2 hf2 hb2 her hn2 hF2 hp hy hl8 hlc hby hbY HED hn3 hF3
      go_upto_region 5 with fail
      go_cut [10, 11, 21] from 21 to 68 (fun v10 v11 i wx => v10 = .int .i64 ps ∧ v11 = .int .i64 pr ∧ i = .int .i64 k ∧ Hid (Below wy.heap.size wy wx))
      case first =>
        go_region_law (first
          | (go_simp; go_at_call 156; (with_reducible refine (n_pair d y a a2 cap cp2 _ HN3.out HIXd.out HIYd.out ps pr HP.out).mono ?_); rintro e w4 ⟨rfl, hb4⟩))
        all_goals
          go_wp2_with fail
          go_meet
          case rel => exact ⟨rfl, rfl, rfl, Lib.hid (kept_trans ((Below.refl _ _).drew) hb4)⟩
      case rest =>
        obtain ⟨rfl, rfl, rfl, HB4⟩ := hcut
        clear d0 d1 d2 x0 x1 x2 x3 y0 y1 y2 y3 d3 d4 HN3 HIXd HIYd
        have hb14 := kept_trans HBY.out HB4.out
        have H4 := Lib.hid (H1.out.kept hb14)
        have HBX := Lib.hid (HB1.out.kept hb14)
        have HBYY := Lib.hid (HYY.out.kept HB4.out)
        have HI4 := Lib.hid (insAt_kept hb14 HI1.out)
        have HJ4 := Lib.hid (insAt_kept HB4.out HIY.out)
        obtain ⟨x0, x1, x2, x3⟩ := HBX.out
        obtain ⟨y0, y1, y2, y3⟩ := HBYY.out
        have d3 := (cell_spot x0).2
        have d4 := (cell_spot y0).2
        have HB14 := Lib.hid hb14
        clear hb14
        by_cases hz : ps = 0 ∧ pr = 0
        · obtain ⟨rfl, rfl⟩ := hz
          have HFI : Hid ((Ho.childL s.P x).find? (pays s d) = some c) := Lib.hid (by
            have e := HN.out
            rw [HCS.out, ← List.take_append_drop k cs, List.find?_append, e, List.drop_eq_getElem_cons hkl, HC.out, List.find?_cons]
            have : pays s d c = true := by
              unfold pays
              rw [HY.out, HP.out]
              rfl
            rw [this]
            rfl)
          go_wp2_with fail
          with_reducible refine (accept_any x d a cap (by omega) _ H4.out HI4.out HO.out).mono ?_
          rintro e w5 ⟨rfl, G5, h5, t5⟩
          have hTG : ∀ k, G k → k < w1.heap.size := H1.out.there
          have hnb : ¬ G w2.heap.size := fun hg => by have := hTG _ hg; have := HS2.out; omega
          have hny : ∀ bb o, y.ins ≠ [] → a2 = some ⟨bb, o, none⟩ → ¬ G bb := fun bb o h1 h2 hg => by have := hTG _ hg; have := HF2.out bb o h1 h2; omega
          have HBY5 := Lib.hid (HBYY.out.turn t5 hnb)
          have HJ5 := Lib.hid (insAt_turn HJ4.out t5 hny)
          have HNY5 : Hid (∀ bb o, y.ins ≠ [] → a2 = some ⟨bb, o, none⟩ → ¬ G5 bb) := Lib.hid fun bb o h1 h2 hg => by
            rcases t5.own bb hg with hg | hg
            · exact hny bb o h1 h2 hg
            · obtain ⟨b', o', e', hb', _⟩ := HJ4.out 0 (List.length_pos_iff.2 h1)
              rw [h2] at e'
              cases e'
              omega
          have HA5 : Hid ((s.accept x d).A.length ≤ 5000000000000) := Lib.hid (by have := accept_len s x d; omega)
          have H5 := Lib.hid h5
          have T5 := Lib.hid t5
          obtain ⟨y0, y1, y2, y3⟩ := HBY5.out
          have d4 := (cell_spot y0).2
          clear h5 t5 hny hnb hTG
          go_wp2_with fail
          with_reducible refine (accept_any c y a2 cp2 HA5.out _ H5.out HJ5.out HNY5.out).mono ?_
          rintro e w6 ⟨rfl, G6, h6, t6⟩
          have H6 := Lib.hid h6
          have T6 := Lib.hid (T5.out.trans t6)
          clear h6 t6
          go_wp2_with fail
          with_reducible refine (enqueue_any x (by omega) _ H6.out).mono ?_
          rintro e w7 ⟨rfl, G7, h7, t7⟩
          have H7 := Lib.hid h7
          have T7 := Lib.hid (T6.out.trans t7)
          have HQ7 : Hid ((q ++ Ho.childL ((s.accept x d).accept c y).P x).length ≤ 100000) := Lib.hid (by
            have h1 := childL_len (L := ((s.accept x d).accept c y).P) x
            have h2 := H6.out.good.P.len
            rw [List.length_append]
            omega)
          clear h7 t7
          go_wp2_with fail
          with_reducible refine (enqueue_any c HQ7.out _ H7.out).mono ?_
          rintro e w8 ⟨rfl, G8, h8, t8⟩
          have H8 := Lib.hid h8
          have T8 := Lib.hid (T7.out.trans t8)
          clear h8 t8
          go_wp2_with fail
          first | go_end0 | refine bodyPost_ret (v := .tuple #[]) rfl rfl ?_
          rw [seek_some HFI.out, HY.out]
          refine ⟨rfl, G8, ?_, (Turn.of_below (kept_trans HK1.out HB14.out)).trans T8.out⟩
          rw [← List.append_assoc]
          exact H8.out
        · have HNN : Hid ((cs.take (k + 1)).find? (pays s d) = none) := Lib.hid (by
            rw [List.take_add_one, List.find?_append, HN.out, List.getElem?_eq_getElem hkl, HC.out]
            have : pays s d c = false := by
              unfold pays
              rw [HY.out, HP.out]
              exact decide_eq_false (fun e => hz (by simpa using e))
            simp [this])
          by_cases hpr : pr = 0
          · subst hpr
            have hps : ¬ ps = 0 := fun e => hz ⟨e, rfl⟩
            go_wp2_with fail
            go_roundw
            case rel => exact ⟨k + 1, by omega, by go_num, HB14, HNN⟩
            case measure => simp [intOf]; omega
          · go_wp2_with fail
            go_roundw
            case rel => exact ⟨k + 1, by omega, by go_num, HB14, HNN⟩
            case measure => simp [intOf]; omega
    · have he : cs.take k = cs := List.take_of_length_le (by omega)
      have HFI : Hid ((Ho.childL s.P x).find? (pays s d) = none) := Lib.hid (by have := HN.out; rw [he] at this; rw [HCS.out]; exact this)
      go_wp2_with fail
      go_end0
      rw [seek_none HFI.out, List.append_nil]
      exact ⟨rfl, G, HR.out, Turn.of_below (kept_trans HK1.out HB.out)⟩
end Go.Proofs.YtmbejeibcncmmaaGreat
namespace Go.Proofs.YtmbejeibcncmmaaGreat
open Go.RowKit Go.Maps

variable {w w' : World} {G : Nat → Prop} {X R : Nat} {s : NS} {q : List UInt64}

theorem idsAt_turn {G G' : Nat → Prop} {a : Option Addr} {l : List UInt64} (h : IdsAt w a l) (ht : Turn G G' w w') (hn : ∀ bb o, l ≠ [] → a = some ⟨bb, o, none⟩ → ¬ G bb) : IdsAt w' a l := fun i hi => by
  obtain ⟨b, o, e, hb, hc⟩ := h i hi
  refine ⟨b, o, e, Nat.lt_of_lt_of_le hb ht.size, ?_⟩
  exact (World.cell?_of_block (w := w) (a := ⟨b, o + i, none⟩) (ht.block b hb (hn b o (fun e0 => by subst e0; simp at hi) e))).trans hc
/-- What examine hands out: the missing IDs; what the node and the queue are then. -/
def Examined (w : World) (G : Nat → Prop) (X R : Nat) (s' : NS) (q' ms : List UInt64) (e : Ending) (w' : World) : Prop :=
  ∃ am cm, e = .returned (.slice am ms.length cm) ∧ ∃ G', ExAt w' G' X R s' q' ∧ Turn G G' w w' ∧ IdsAt w' am ms ∧ ∀ bb o, ms ≠ [] → am = some ⟨bb, o, none⟩ → ¬ G' bb ∧ w.heap.size ≤ bb
/-- A slice that is not the examination's, behind a turn. -/
theorem out_turn {G G' : Nat → Prop} {a : Option Addr} {l : List UInt64} {n : Nat} (h : IdsAt w a l) (ht : Turn G G' w w') (hn : ∀ bb o, l ≠ [] → a = some ⟨bb, o, none⟩ → ¬ G bb ∧ n ≤ bb) : IdsAt w' a l ∧ ∀ bb o, l ≠ [] → a = some ⟨bb, o, none⟩ → ¬ G' bb ∧ n ≤ bb := by
  refine ⟨idsAt_turn h ht (fun bb o h1 h2 => (hn bb o h1 h2).1), fun bb o h1 h2 => ⟨fun hg => ?_, (hn bb o h1 h2).2⟩⟩
  rcases ht.own bb hg with hg | hg
  · exact (hn bb o h1 h2).1 hg
  · obtain ⟨b', o', e', hb', _⟩ := h 0 (List.length_pos_iff.2 h1)
    rw [h2] at e'
    cases e'
    omega
theorem examine_good {x : UInt64} {d : DeedD} (h : (Ju.judgeL s.A d).1 = 0) : s.examine x d = (s.accept x d, Ho.childL (s.accept x d).P x) := by unfold NS.examine; rw [if_pos h]
theorem examine_poor {x : UInt64} {d : DeedD} (h : (Ju.judgeL s.A d).1 = 1) : s.examine x d = (({ s with Q := s.Q.put x } : NS).settle x).seek x d := by unfold NS.examine; rw [if_neg (by rw [h]; decide), if_pos h]
theorem examine_wicked {x : UInt64} {d : DeedD} (h : (Ju.judgeL s.A d).1 = 3) : s.examine x d = (({ s with W := s.W.put x } : NS).settle x, []) := by unfold NS.examine; rw [if_neg (by rw [h]; decide), if_neg (by rw [h]; decide), if_pos h]
theorem examine_lost {x : UInt64} {d : DeedD} (h0 : (Ju.judgeL s.A d).1 ≠ 0) (h1 : (Ju.judgeL s.A d).1 ≠ 1) (h3 : (Ju.judgeL s.A d).1 ≠ 3) : s.examine x d = (s, []) := by unfold NS.examine; rw [if_neg h0, if_neg h1, if_neg h3]
set_option maxRecDepth 20000 in
set_option maxHeartbeats 2000000 in
theorem examine_any (x : UInt64) (d : DeedD) (a : Option Addr) (cap : Nat) (hl : s.A.length ≤ 4000000000000) (hq : q.length ≤ 80000) (ms : List UInt64) (hms : (Ju.judgeL s.A d).2.1 = ms) (w : World) (h : ExAt w G X R s q) (hi : InsAt w a d.ins) (hout : ∀ bb o, d.ins ≠ [] → a = some ⟨bb, o, none⟩ → ¬ G bb) :
    Calls Tryz.prog 96 #[.pointer (some ⟨X, 0, none⟩), .int .u64 x.toNat, .agg #[.slice a d.ins.length cap, .int .i64 d.outs, .int .i64 d.weight, .int .i64 d.fee]] w (Examined w G X R (s.examine x d).1 (q ++ (s.examine x d).2) ms) := by
  obtain ⟨wb, hwb⟩ : ∃ wb, w.alloc (.cells #[.slice a d.ins.length cap, .int .i64 d.outs, .int .i64 d.weight, .int .i64 d.fee] 53) = wb := ⟨_, rfl⟩
  have hk0 : Below w.heap.size w wb := hwb ▸ kept_new _ _
  have hbox : DeedBox wb w.heap.size a cap d := hwb ▸ box_deed w a cap d
  have hbd : Below wb.heap.size wb wb.drew := (Below.refl _ _).drew
  have hd := h.kept (kept_trans hk0 hbd)
  have c0 := hd.c0
  have l0 := hd.lt
  have l1 := hd.ltR
  obtain ⟨b0, b1, b2, b3⟩ := hbox.kept hbd
  have l2 := (cell_spot b0).2
  obtain ⟨F0, hn0, hF0⟩ := hd.node
  have HN0 := Lib.hid hn0
  have HI0 := Lib.hid (insAt_kept (kept_trans hk0 hbd) hi)
  have HIN := Lib.hid hi
  have HO := Lib.hid hout
  have HBOX := Lib.hid hbox
  have HK0 := Lib.hid hk0
  have HE := Lib.hid h
  obtain ⟨k, m, r, hj⟩ : ∃ k m r, Ju.judgeL s.A d = (k, m, r) := ⟨_, _, _, rfl⟩
  obtain rfl : m = ms := by rw [← hms, hj]
  have HJ := Lib.hid hj
  have HTH : Hid (There w G) := Lib.hid h.there
  have HL9 : Hid ((({ s with Q := s.Q.put x } : NS).settle x).A.length ≤ 4000000000000) := Lib.hid hl
  have HQ9 : Hid (q.length ≤ 90000) := Lib.hid (by omega)
  clear h hd hn0 hF0 hi hout hbox hk0 hbd hj hms
  go_enter Tryz.func96, Tryz.ntmps96
  go_upto_region 1 with fail
  go_cut [7, 8, 9] from 10 to 64 (fun v7 v8 _ wx => ∃ am cm, v7 = .int .i64 k ∧ v8 = .slice am m.length cm ∧ Hid (IdsAt wx am m) ∧ Hid (∀ bb o, m ≠ [] → am = some ⟨bb, o, none⟩ → w.heap.size ≤ bb) ∧ Hid (Below wb.heap.size wb wx))
  case first =>
    go_region_law (first
      | (go_simp; go_at_call 72; (with_reducible refine (n_judge d a cap _ HN0.out HI0.out _ HJ.out).mono ?_); rintro e w4 ⟨am, cm, rfl, ho4, hb4⟩; have HO4 := Lib.hid ho4; have HB4 := Lib.hid hb4; clear ho4 hb4))
    all_goals
      go_wp2_with fail
      go_meet
      case rel =>
        obtain ⟨a', c', e', _, hids, hfr⟩ := owns_idsAt HO4.out
        simp only [Value.slice.injEq, true_and] at e'
        obtain ⟨rfl, rfl⟩ := e'
        have hs : w.heap.size ≤ wb.drew.heap.size := HK0.out.size
        exact ⟨_, _, rfl, rfl, Lib.hid hids, Lib.hid (fun bb o _ h2 => Nat.le_trans hs (hfr bb o none h2)), Lib.hid (kept_trans ((Below.refl _ _).drew) HB4.out)⟩
  case rest =>
    obtain ⟨am, cm, rfl, rfl, HIDS, HFR, HB4⟩ := hcut
    clear c0 l0 l1 b0 b1 b2 b3 l2 HN0 HI0
    have hb4 := kept_trans HK0.out HB4.out
    have H4 := Lib.hid (HE.out.kept hb4)
    have HB5 := Lib.hid hb4
    have HI4 := Lib.hid (insAt_kept hb4 HIN.out)
    have HOUT : Hid (∀ bb o, m ≠ [] → am = some ⟨bb, o, none⟩ → ¬ G bb ∧ w.heap.size ≤ bb) := Lib.hid fun bb o h1 h2 => ⟨fun hg => by have := HTH.out bb hg; have := HFR.out bb o h1 h2; omega, HFR.out bb o h1 h2⟩
    have HBX := Lib.hid (HBOX.out.kept HB4.out)
    obtain ⟨b0, b1, b2, b3⟩ := HBX.out
    have l2 := (cell_spot b0).2
    have c0 := H4.out.c0
    have l0 := H4.out.lt
    have l1 := H4.out.ltR
    clear hb4
    by_cases h0 : k = 0
    · subst h0
      have hg : (Ju.judgeL s.A d).1 = 0 := by rw [HJ.out]
      have HX := Lib.hid (examine_good (x := x) hg)
      clear hg
      go_wp2_with fail
      with_reducible refine (accept_any x d a cap (by omega) _ H4.out HI4.out HO.out).mono ?_
      rintro e w5 ⟨rfl, G5, h5, t5⟩
      have H5 := Lib.hid h5
      obtain ⟨hi5, ho5⟩ := out_turn HIDS.out t5 HOUT.out
      have HI5 := Lib.hid hi5
      have HO5 := Lib.hid ho5
      have T5 := Lib.hid ((Turn.of_below HB5.out).trans t5)
      clear h5 t5 hi5 ho5
      go_wp2_with fail
      with_reducible refine (enqueue_any x (by omega) _ H5.out).mono ?_
      rintro e w6 ⟨rfl, G6, h6, t6⟩
      have H6 := Lib.hid h6
      obtain ⟨hi6, ho6⟩ := out_turn HI5.out t6 HO5.out
      have HI6 := Lib.hid hi6
      have HO6 := Lib.hid ho6
      have T6 := Lib.hid (T5.out.trans t6)
      clear h6 t6 hi6 ho6
      go_wp2_with fail
      go_ret
      rw [HX.out]
      exact ⟨am, cm, rfl, G6, H6.out, T6.out, HI6.out, HO6.out⟩
    · by_cases h1 : k = 1
      · subst h1
        have hg : (Ju.judgeL s.A d).1 = 1 := by rw [HJ.out]
        have HX := Lib.hid (examine_poor (x := x) hg)
        clear hg h0
        obtain ⟨ra, rz, hra, hrz⟩ := H4.out.rings
        have HRZ := Lib.hid hrz
        have l3 := (cell_spot hrz).2
        go_wp2_with fail
        with_reducible refine (H4.out.calls fun F hn _ => n_putQ x _ hn HRZ.out).mono ?_
        rintro e w5 ⟨rfl, G5, h5, t5⟩
        have H5 := Lib.hid h5
        obtain ⟨hi5, ho5⟩ := out_turn HIDS.out t5 HOUT.out
        have HI5 := Lib.hid hi5
        have HO5 := Lib.hid ho5
        have HT5 := Lib.hid t5
        have T5 := Lib.hid ((Turn.of_below HB5.out).trans t5)
        clear h5 t5 hi5 ho5
        go_wp2_with fail
        with_reducible refine (settle_any x _ H5.out).mono ?_
        rintro e w6 ⟨rfl, G6, h6, t6⟩
        have H6 := Lib.hid h6
        obtain ⟨hi6, ho6⟩ := out_turn HI5.out t6 HO5.out
        have HI6 := Lib.hid hi6
        have HO6 := Lib.hid ho6
        have T6 := Lib.hid (T5.out.trans t6)
        have hnb : ¬ G w.heap.size := fun hg => by have := HTH.out _ hg; omega
        have t46 := HT5.out.trans t6
        have HBX6 := Lib.hid (HBX.out.turn t46 hnb)
        have HJ6 := Lib.hid (insAt_turn HI4.out t46 HO.out)
        have HNI : Hid (∀ bb o, d.ins ≠ [] → a = some ⟨bb, o, none⟩ → ¬ G6 bb) := Lib.hid fun bb o h1 h2 hg => by
          rcases t46.own bb hg with hg | hg
          · exact HO.out bb o h1 h2 hg
          · obtain ⟨b', o', e', hb', _⟩ := HI4.out 0 (List.length_pos_iff.2 h1)
            rw [h2] at e'
            cases e'
            omega
        obtain ⟨b0, b1, b2, b3⟩ := HBX6.out
        have l2 := (cell_spot b0).2
        clear h6 t6 hi6 ho6 t46 hnb hra hrz l3
        go_wp2_with fail
        with_reducible refine (seek_any x d a cap HL9.out HQ9.out _ H6.out HJ6.out HNI.out).mono ?_
        rintro e w7 ⟨rfl, G7, h7, t7⟩
        have H7 := Lib.hid h7
        obtain ⟨hi7, ho7⟩ := out_turn HI6.out t7 HO6.out
        have HI7 := Lib.hid hi7
        have HO7 := Lib.hid ho7
        have T7 := Lib.hid (T6.out.trans t7)
        clear h7 t7 hi7 ho7
        go_wp2_with fail
        go_ret
        rw [HX.out]
        exact ⟨am, cm, rfl, G7, H7.out, T7.out, HI7.out, HO7.out⟩
      · by_cases h3 : k = 3
        · subst h3
          have hg : (Ju.judgeL s.A d).1 = 3 := by rw [HJ.out]
          have HX := Lib.hid (examine_wicked (x := x) hg)
          clear hg h0 h1
          obtain ⟨ra, rz, hra, hrz⟩ := H4.out.rings
          have HRA := Lib.hid hra
          have l3 := (cell_spot hra).2
          go_wp2_with fail
          with_reducible refine (H4.out.calls fun F hn _ => n_putW x _ hn HRA.out).mono ?_
          rintro e w5 ⟨rfl, G5, h5, t5⟩
          have H5 := Lib.hid h5
          obtain ⟨hi5, ho5⟩ := out_turn HIDS.out t5 HOUT.out
          have HI5 := Lib.hid hi5
          have HO5 := Lib.hid ho5
          have T5 := Lib.hid ((Turn.of_below HB5.out).trans t5)
          clear h5 t5 hi5 ho5
          go_wp2_with fail
          with_reducible refine (settle_any x _ H5.out).mono ?_
          rintro e w6 ⟨rfl, G6, h6, t6⟩
          have H6 := Lib.hid h6
          obtain ⟨hi6, ho6⟩ := out_turn HI5.out t6 HO5.out
          have HI6 := Lib.hid hi6
          have HO6 := Lib.hid ho6
          have T6 := Lib.hid (T5.out.trans t6)
          clear h6 t6 hi6 ho6
          go_wp2_with fail
          go_ret
          rw [HX.out, List.append_nil]
          exact ⟨am, cm, rfl, G6, H6.out, T6.out, HI6.out, HO6.out⟩
        · have e : s.examine x d = (s, []) := examine_lost (by rw [HJ.out]; exact h0) (by rw [HJ.out]; exact h1) (by rw [HJ.out]; exact h3)
          have HX := Lib.hid e
          clear e
          go_wp2_with fail
          go_ret
          rw [HX.out, List.append_nil]
          exact ⟨am, cm, rfl, G, H4.out, Turn.of_below HB5.out, HIDS.out, HOUT.out⟩
end Go.Proofs.YtmbejeibcncmmaaGreat
namespace Go.Proofs.YtmbejeibcncmmaaGreat
open Go.RowKit Go.Maps

variable {w w' : World} {G : Nat → Prop} {X R : Nat} {s : NS} {q : List UInt64}

theorem child_some {L : List Ho.LinkD} {x c : UInt64} (h : c ∈ Ho.childL L x) : ∃ d, Ho.deedOf L c = some d :=
  Option.isSome_iff_exists.1 ((Ho.allL_some c).2 (List.mem_filter.1 h).1)
theorem remove_remove (L : List Ho.LinkD) (x : UInt64) : Ho.removeL (Ho.removeL L x) x = Ho.removeL L x := by
  unfold Ho.removeL
  rw [List.filter_filter]
  simp
theorem acceptL_len (L : List DeedD) (d : DeedD) : (Ju.acceptL L d).2.length ≤ L.length + 1 := by
  unfold Ju.acceptL
  split
  · simp
  · split
    · simp
    · split
      · simp
      · simp
theorem payer_some {x c : UInt64} {d : DeedD} (h : s.payer x d = some c) : ∃ y, Ho.deedOf s.P c = some y := child_some (List.mem_of_find?_eq_some h)
/-- What is accepted behind the seek for a payer. -/
theorem seek_sum (s : NS) (x : UInt64) (d : DeedD) (hx : Ho.removeL s.P x = s.P) : (s.seek x d).1.A.length + (s.seek x d).1.P.length ≤ s.A.length + s.P.length + 1 := by
  unfold NS.seek
  cases hp : s.payer x d with
  | none => simp
  | some c =>
    obtain ⟨y, hy⟩ := payer_some hp
    have h1 := acceptL_len s.A d
    have h2 := acceptL_len (Ju.acceptL s.A d).2 ((Ho.deedOf s.P c).getD nod)
    have h3 : (Ho.removeL (Ho.removeL s.P x) c).length < s.P.length := by rw [hx]; exact remove_len hy
    show (Ju.acceptL (Ju.acceptL s.A d).2 ((Ho.deedOf s.P c).getD nod)).2.length + (Ho.removeL (Ho.removeL s.P x) c).length ≤ _
    omega
theorem examine_sum (s : NS) (x : UInt64) (d : DeedD) : (s.examine x d).1.A.length + (s.examine x d).1.P.length ≤ s.A.length + s.P.length + 1 := by
  unfold NS.examine
  split
  · have h1 := acceptL_len s.A d
    have h2 := remove_le s.P x
    show (Ju.acceptL s.A d).2.length + (Ho.removeL s.P x).length ≤ _
    omega
  · split
    · have h1 := seek_sum (({ s with Q := s.Q.put x } : NS).settle x) x d (remove_remove _ _)
      have h2 := remove_le s.P x
      refine Nat.le_trans h1 ?_
      show s.A.length + (Ho.removeL s.P x).length + 1 ≤ _
      omega
    · split
      · have h2 := remove_le s.P x
        show s.A.length + (Ho.removeL s.P x).length ≤ _
        omega
      · simp
theorem examine_sum' (s : NS) (x : UInt64) (d d' : DeedD) (h : Ho.deedOf s.P x = some d') : (s.examine x d).1.A.length + (s.examine x d).1.P.length ≤ s.A.length + s.P.length := by
  have h2 := remove_len h
  unfold NS.examine
  split
  · have h1 := acceptL_len s.A d
    show (Ju.acceptL s.A d).2.length + (Ho.removeL s.P x).length ≤ _
    omega
  · split
    · have h1 := seek_sum (({ s with Q := s.Q.put x } : NS).settle x) x d (remove_remove _ _)
      refine Nat.le_trans h1 ?_
      show s.A.length + (Ho.removeL s.P x).length + 1 ≤ _
      omega
    · split
      · show s.A.length + (Ho.removeL s.P x).length ≤ _
        omega
      · simp
theorem seek_new (s : NS) (x : UInt64) (d : DeedD) : (s.seek x d).2.length ≤ 2 * (s.seek x d).1.P.length := by
  unfold NS.seek
  cases hp : s.payer x d with
  | none => simp
  | some c =>
    simp only [List.length_append]
    have h1 := childL_len (L := ((s.accept x d).accept c ((Ho.deedOf s.P c).getD nod)).P) x
    have h2 := childL_len (L := ((s.accept x d).accept c ((Ho.deedOf s.P c).getD nod)).P) c
    omega
theorem examine_new (s : NS) (x : UInt64) (d : DeedD) : (s.examine x d).2.length ≤ 2 * (s.examine x d).1.P.length := by
  unfold NS.examine
  split
  · have h1 := childL_len (L := (s.accept x d).P) x
    simp only
    omega
  · split
    · exact seek_new _ _ _
    · split
      · simp
      · simp
theorem mu_step (s : NS) (x : UInt64) (d d' : DeedD) (r : List UInt64) (h : Ho.deedOf s.P x = some d') (hl : s.P.length ≤ 24) : 49 * (s.examine x d).1.P.length + (r ++ (s.examine x d).2).length < 49 * s.P.length + (r.length + 1) := by
  have h1 := examine_new s x d
  rw [List.length_append]
  rcases examine_step s x d d' h with h2 | h2
  · omega
  · rw [h2]
    simp
/-- How much is left to be done, read off memory. -/
def qlen (w : World) (X : Nat) : Nat := match w.cell? ⟨X, 1, none⟩ with | some (.slice _ n _) => n | _ => 0
def muAt (w : World) (X R : Nat) : Nat := 49 * Ho.lenAt w ⟨R, fun _ => .bool false⟩ + qlen w X
theorem ExAt.mu (h : ExAt w G X R s q) : muAt w X R = 49 * s.P.length + q.length := by
  obtain ⟨F, v, h⟩ := h
  obtain ⟨a, cap, rfl, _, _⟩ := h.queue.form
  have h1 : qlen w X = q.length := by
    unfold qlen
    rw [show w.cell? ⟨X, 1, none⟩ = some (.slice a q.length cap) from head_cell h.head 1]
  obtain ⟨cs, FT, FH, FJ, FW, FQ, _, _, hn⟩ := h.node
  have h2 := hn.P.2.lenAt
  unfold muAt
  rw [h1, ← h2]
  rfl
set_option maxRecDepth 20000 in
set_option maxHeartbeats 2000000 in
theorem follow_any (hl : s.A.length + s.P.length ≤ 3000000000000) (hq : q.length ≤ 1000) (w : World) (h : ExAt w G X R s q) :
    Calls Tryz.prog 98 #[.pointer (some ⟨X, 0, none⟩)] w fun e w' => e = .returned (.tuple #[]) ∧ ∃ G', ExAt w' G' X R (s.follow q) [] ∧ Turn G G' w w' := by
  have HE := Lib.hid h
  have HL := Lib.hid hl
  have HM : Hid (49 * s.P.length + q.length ≤ 3000) := Lib.hid (by have := h.good.P.len; omega)
  clear h hl
  go_enter Tryz.func98, Tryz.ntmps98
  go_wp2_with fail
  go_loopw [2, 3, 4] (fun _ _ _ wr => ∃ (G' : Nat → Prop) (s' : NS) (q' : List UInt64), Hid (ExAt wr G' X R s' q') ∧ Hid (Turn G G' w wr) ∧ Hid (s'.follow q' = s.follow q) ∧ Hid (s'.A.length + s'.P.length ≤ 3000000000000) ∧ Hid (49 * s'.P.length + q'.length ≤ 3000)) (fun _ _ _ wr => muAt wr X R)
  case atStart => exact ⟨G, s, q, HE, Lib.hid (Turn.refl _ _), Lib.hid rfl, HL, HM⟩
  case round =>
    obtain ⟨G1, s1, q1, H1, T1, HF, HA, HQ⟩ := hrel
    obtain ⟨F1, v1, h1⟩ := H1.out
    have HX := Lib.hid h1
    have c0 := H1.out.c0
    have l0 := H1.out.lt
    have l1 := H1.out.ltR
    cases q1 with
    | nil =>
      obtain ⟨a, cap, rfl, _, _⟩ := h1.queue.form
      have c1 : wr.cell? ⟨X, 1, none⟩ = some (.slice a 0 cap) := head_cell h1.head 1
      clear h1
      go_wp2_with fail
      go_end0
      refine ⟨rfl, G1, ?_, T1.out⟩
      rw [← HF.out, follow_nil]
      exact H1.out
    | cons x r =>
      obtain ⟨a, cap, rfl, hcap, hx, ⟨g, o, rfl, hg⟩, hcut, hown⟩ := h1.queue.cut
      have c1 : wr.cell? ⟨X, 1, none⟩ = some (.slice (some ⟨g, o, none⟩) (r.length + 1) cap) := head_cell h1.head 1
      have f1 := frozen_of_row wr X 1 _ _ h1.head
      have hx : wr.cell? ⟨g, o, none⟩ = some (.int .u64 x.toNat) := hx
      have HC := Lib.hid hcut
      have HOW := Lib.hid hown
      clear hcut hown h1
      have l2 : g < wr.heap.size := hg
      go_upto_region 2 with fail
      go_cut [2] from 5 to 41 (fun v2 wx => v2 = .int .u64 x.toNat ∧ ∃ G2 : Nat → Prop, Hid (ExAt wx G2 X R s1 r) ∧ Hid (Turn G G2 w wx))
      case first =>
        by_cases hc1 : cap = 1
        · subst hc1
          have hr : r.length = 0 := by omega
          obtain ⟨_, G2, h2, t2⟩ := HX.out.stored HC.out ⟨rfl, rfl, rfl, Nat.le_refl _, fun _ _ _ => rfl, fun k hk => .inl (by rw [← HOW.out]; exact hk)⟩
          have H2 := Lib.hid h2
          have T2 := Lib.hid (T1.out.trans t2)
          clear h2 t2
          go_wp2_with fail
          go_meet
          case rel => exact ⟨rfl, G2, Lib.hid (by simpa [hr] using H2.out), Lib.hid (by simpa [hr] using T2.out)⟩
        · obtain ⟨_, G2, h2, t2⟩ := HX.out.stored HC.out ⟨rfl, rfl, rfl, Nat.le_refl _, fun _ _ _ => rfl, fun k hk => .inl (by rw [← HOW.out]; exact hk)⟩
          have hadd : (⟨g, o, none⟩ : Addr).add 1 = ⟨g, o + 1, none⟩ := by unfold Addr.add; split <;> simp_all
          rw [if_neg hc1, Option.map_some, hadd] at h2 t2
          have H2 := Lib.hid h2
          have T2 := Lib.hid (T1.out.trans t2)
          clear h2 t2 hadd
          go_wp2_with fail
          go_meet
          case rel => exact ⟨rfl, G2, Lib.hid (by simpa using H2.out), Lib.hid (by simpa using T2.out)⟩
      case rest =>
        obtain ⟨rfl, G2, H2, T2⟩ := hcut
        clear HX HC HOW c0 c1 f1 hx l0 l1 l2 hg hcap
        have c0 := H2.out.c0
        have l0 := H2.out.lt
        have l1 := H2.out.ltR
        go_wp2_with fail
        obtain ⟨F2, hn2, hF2⟩ := H2.out.node
        with_reducible refine (n_deedP x _ hn2).mono ?_
        rintro e w3 ⟨a3, cp3, rfl, hl8, hlc, hi3, hf3, hb3⟩
        clear hn2 hF2 hl8 hlc
        cases hd : Ho.deedOf s1.P x with
        | none =>
          rw [hd] at hi3 hf3
          have HD := Lib.hid hd
          clear hd
          have HB3 := Lib.hid hb3
          simp only [Option.isSome_none, Bool.false_eq_true, if_false]
          go_wp2_with fail
          go_roundw
          case rel =>
            refine ⟨G2, s1, r, Lib.hid (H2.out.kept (kept_trans HB3.out (kept_new _ _))), Lib.hid (T2.out.trans (Turn.of_below (kept_trans HB3.out (kept_new _ _)))), Lib.hid ?_, HA, Lib.hid ?_⟩
            · rw [← HF.out, follow_none _ _ _ HD.out]
            · have := HQ.out
              simp only [List.length_cons] at this
              omega
          case measure =>
            rw [(H2.out.kept (kept_trans HB3.out (kept_new _ _))).mu, H1.out.mu]
            simp
        | some y =>
          rw [hd] at hi3 hf3
          simp only [Option.getD_some, Option.isSome_some, if_true] at hi3 hf3 ⊢
          have HD := Lib.hid hd
          obtain ⟨wy, hwy⟩ : ∃ wy, w3.alloc (.cells #[.slice a3 y.ins.length cp3, .int .i64 y.outs, .int .i64 y.weight, .int .i64 y.fee] 53) = wy := ⟨_, rfl⟩
          have hby : Below w3.heap.size w3 wy := hwy ▸ kept_new _ _
          obtain ⟨y0, y1, y2, y3⟩ : DeedBox wy w3.heap.size a3 cp3 y := hwy ▸ box_deed w3 a3 cp3 y
          have HI := Lib.hid (insAt_kept hby hi3)
          have H3 := Lib.hid (H2.out.kept (kept_trans hb3 hby))
          have HT := Lib.hid (T2.out.trans (Turn.of_below (kept_trans hb3 hby)))
          have hth := H2.out.there
          have HO : Hid (∀ bb o, y.ins ≠ [] → a3 = some ⟨bb, o, none⟩ → ¬ G2 bb) := Lib.hid fun bb o h1 h2 hg => by have := hth bb hg; have := hf3 bb o h1 h2; omega
          have hA : s1.A.length ≤ 4000000000000 := by have := HA.out; omega
          have hQ : r.length ≤ 80000 := by have := HQ.out; simp only [List.length_cons] at this; omega
          have l2 := (cell_spot y0).2
          clear hd hi3 hf3 hb3 hby hth
          go_wp2_with fail
          with_reducible refine (examine_any x y a3 cp3 hA hQ _ rfl _ H3.out HI.out HO.out).mono ?_
          rintro e w4 ⟨am, cm, rfl, G4, h4, t4, _, _⟩
          have H4 := Lib.hid h4
          have T4 := Lib.hid (HT.out.trans t4)
          clear h4 t4
          go_wp2_with fail
          go_roundw
          case rel =>
            refine ⟨G4, (s1.examine x y).1, r ++ (s1.examine x y).2, H4, T4, Lib.hid ?_, Lib.hid ?_, Lib.hid ?_⟩
            · rw [← HF.out, follow_some _ _ _ _ HD.out]
            · exact Nat.le_trans (examine_sum' s1 x y y HD.out) HA.out
            · have h1 := HQ.out
              have h2 := mu_step s1 x y y r HD.out H3.out.good.P.len
              simp only [List.length_cons] at h1
              omega
          case measure =>
            rw [H4.out.mu, H1.out.mu]
            have h2 := mu_step s1 x y y r HD.out H3.out.good.P.len
            simp only [List.length_cons]
            omega
end Go.Proofs.YtmbejeibcncmmaaGreat
