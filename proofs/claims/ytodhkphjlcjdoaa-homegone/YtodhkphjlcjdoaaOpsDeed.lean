/-
  A slice of operations (the reference's Op) with their deeds, one operation, or a slice of deeds among the arguments of a law: how they lie in memory, what their reading says.
-/
import Derived.Test.YtodhkphjlcjdoaaIdOpen
import Derived.Test.YtodhkphjlcjdoaaDeedOpen
import Derived.Deep.Slices
namespace Go.Proofs.Ytodhkphjlcjdoaa
open Go.ChangeShapes Go.WideShapes Go.ChangeAt Go.RowKit Go.Joins Go.Deep

/-- An operation as plain data, with its deed. -/
structure OpH where
  kind : Int
  peer : Int
  n : Int
  id : UInt64
  flag : Bool
  ia : Option Addr
  ic : Nat
  d : DeedD
instance : Inhabited OpH := ⟨⟨0, 0, 0, 0, false, none, 0, ⟨[], 0, 0, 0⟩⟩⟩
/-- The nine cells of an operation from an address on. -/
def OpHCells (w : World) (b o : Nat) (q : OpH) : Prop :=
  w.cell? ⟨b, o, none⟩ = some (.int .i64 q.kind) ∧ w.cell? ⟨b, o + 1, none⟩ = some (.int .i64 q.peer) ∧ w.cell? ⟨b, o + 2, none⟩ = some (.int .i64 q.n) ∧ w.cell? ⟨b, o + 3, none⟩ = some (.int .u64 q.id.toNat) ∧ w.cell? ⟨b, o + 4, none⟩ = some (.bool q.flag) ∧
    w.cell? ⟨b, o + 5, none⟩ = some (.slice q.ia q.d.ins.length q.ic) ∧ w.cell? ⟨b, o + 6, none⟩ = some (.int .i64 q.d.outs) ∧ w.cell? ⟨b, o + 7, none⟩ = some (.int .i64 q.d.weight) ∧ w.cell? ⟨b, o + 8, none⟩ = some (.int .i64 q.d.fee)
/-- What is said of an operation's numbers and of its deed's Ins. -/
def OpHFine (w : World) (q : OpH) : Prop := q.d.ins.length ≤ q.ic ∧ InsAt w q.ia q.d.ins ∧ (Lit.int .i64 q.peer).wf = true ∧ (Lit.int .i64 q.d.weight).wf = true
/-- The memory behind a slice's address holds these operations. -/
def OpsHAt (w : World) (a : Option Addr) (l : List OpH) : Prop := ∀ i (h : i < l.length), (∃ b o, a = some ⟨b, o, none⟩ ∧ b < w.heap.size ∧ OpHCells w b (o + i * 9) l[i]) ∧ OpHFine w l[i]
theorem opHCells_kept {w w' : World} {b o : Nat} {q : OpH} (hb : Below w.heap.size w w') (h : OpHCells w b o q) : OpHCells w' b o q := by
  obtain ⟨c0, c1, c2, c3, c4, c5, c6, c7, c8⟩ := h
  exact ⟨kept_cell hb c0, kept_cell hb c1, kept_cell hb c2, kept_cell hb c3, kept_cell hb c4, kept_cell hb c5, kept_cell hb c6, kept_cell hb c7, kept_cell hb c8⟩
/-- A slice of deeds. -/
structure DeedH where
  ia : Option Addr
  ic : Nat
  d : DeedD
instance : Inhabited DeedH := ⟨⟨none, 0, ⟨[], 0, 0, 0⟩⟩⟩
def DeedHCells (w : World) (b o : Nat) (q : DeedH) : Prop :=
  w.cell? ⟨b, o, none⟩ = some (.slice q.ia q.d.ins.length q.ic) ∧ w.cell? ⟨b, o + 1, none⟩ = some (.int .i64 q.d.outs) ∧ w.cell? ⟨b, o + 2, none⟩ = some (.int .i64 q.d.weight) ∧ w.cell? ⟨b, o + 3, none⟩ = some (.int .i64 q.d.fee)
def DeedsAt (w : World) (a : Option Addr) (l : List DeedH) : Prop := ∀ i (h : i < l.length), (∃ b o, a = some ⟨b, o, none⟩ ∧ b < w.heap.size ∧ DeedHCells w b (o + i * 4) l[i]) ∧ InsAt w l[i].ia l[i].d.ins
set_option maxRecDepth 100000 in
theorem open_oph_arg {H : Type} {enc : TypeId × Value → H} {w : World} {r : Reach} {b0 : Nat} {v : Value} {d : DataW H} {p : List MemPlace} (hv : Value.okWide Try.prog w r b0 22 v) (h : DataW.Trod enc Try.prog w 0 (fun _ => true) true 22 v d p) :
    ∃ (a : Option Addr) (cap : Nat) (l : List OpH), v = .slice a l.length cap ∧ l.length ≤ cap ∧ l.length ≤ maxLen ∧ OpsHAt w a l := by
  obtain ⟨xa, xl, xc, rfl⟩ := okWide_slice Try.underlying22 hv
  obtain ⟨n, hf⟩ := h
  rcases open_slice Try.underlying22 hf with ⟨hc, _⟩ | ⟨a, len, cap, m, k, D, Pl, hcs, hb, hl, hm, hmm, _, hx⟩
  · simp only [Value.cells, List.cons.injEq, and_true] at hc
    exact ⟨none, 0, [], hc, Nat.le_refl _, Nat.zero_le _, fun i hi => absurd hi (by simp)⟩
  · simp only [Value.cells, List.cons.injEq, and_true] at hcs
    simp only [if_true] at hmm
    subst hmm
    have ce : Try.prog.cellsOf 34 = 9 := by kernel_rfl
    have each : ∀ i, i < m → ∃ q : OpH, OpHFine w q ∧  w.cell? (a.add (i * 9)) = some (.int .i64 q.kind) ∧ w.cell? (a.add (i * 9 + 1)) = some (.int .i64 q.peer) ∧ w.cell? (a.add (i * 9 + 2)) = some (.int .i64 q.n) ∧ w.cell? (a.add (i * 9 + 3)) = some (.int .u64 q.id.toNat) ∧ w.cell? (a.add (i * 9 + 4)) = some (.bool q.flag) ∧
        w.cell? (a.add (i * 9 + 5)) = some (.slice q.ia q.d.ins.length q.ic) ∧ w.cell? (a.add (i * 9 + 6)) = some (.int .i64 q.d.outs) ∧ w.cell? (a.add (i * 9 + 7)) = some (.int .i64 q.d.weight) ∧ w.cell? (a.add (i * 9 + 8)) = some (.int .i64 q.d.fee) := by
      intro i hi
      obtain ⟨cs', h1, h2⟩ := hx i hi
      rw [ce] at h1
      obtain ⟨_, hlen, hcell⟩ := World.cells?_some h1
      obtain ⟨xs, k', hk, hxy, _, hxl, hf⟩ := DataW.trod_struct Try.underlying34 h2
      have ci : Try.prog.cellsOf 3 = 1 := by kernel_rfl
      have c3 : Try.prog.cellsOf 29 = 1 := by kernel_rfl
      have c4 : Try.prog.cellsOf 4 = 1 := by kernel_rfl
      have cd : Try.prog.cellsOf 32 = 4 := by kernel_rfl
      have cs : Try.prog.cellsOf 30 = 1 := by kernel_rfl
      match cs', hlen with
      | [v0, v1, v2, v3, v4, v5, v6, v7, v8], _ =>
        have g0 : DataW.trod enc Try.prog w 0 (fun _ => true) true k' 3 ([v0, v1, v2, v3, v4, v5, v6, v7, v8].take (Try.prog.cellsOf 3)) = xs[0]? := hf 0 _ rfl
        have g1 : DataW.trod enc Try.prog w 0 (fun _ => true) true k' 3 ([v1, v2, v3, v4, v5, v6, v7, v8].take (Try.prog.cellsOf 3)) = xs[1]? := hf 1 _ rfl
        have g2 : DataW.trod enc Try.prog w 0 (fun _ => true) true k' 3 ([v2, v3, v4, v5, v6, v7, v8].take (Try.prog.cellsOf 3)) = xs[2]? := hf 2 _ rfl
        have g3 : DataW.trod enc Try.prog w 0 (fun _ => true) true k' 29 ([v3, v4, v5, v6, v7, v8].take (Try.prog.cellsOf 29)) = xs[3]? := hf 3 _ rfl
        have g4 : DataW.trod enc Try.prog w 0 (fun _ => true) true k' 4 ([v4, v5, v6, v7, v8].take (Try.prog.cellsOf 4)) = xs[4]? := hf 4 _ rfl
        have g5 : DataW.trod enc Try.prog w 0 (fun _ => true) true k' 32 ([v5, v6, v7, v8].take (Try.prog.cellsOf 32)) = xs[5]? := hf 5 _ rfl
        rw [ci, List.take_succ_cons, List.take_zero, List.getElem?_eq_getElem (by rw [hxl]; decide)] at g0 g1 g2
        rw [c3, List.take_succ_cons, List.take_zero, List.getElem?_eq_getElem (by rw [hxl]; decide)] at g3
        rw [c4, List.take_succ_cons, List.take_zero, List.getElem?_eq_getElem (by rw [hxl]; decide)] at g4
        rw [cd, List.take_of_length_le (by simp), List.getElem?_eq_getElem (by rw [hxl]; decide)] at g5
        obtain ⟨ys, k5, _, _, _, hyl, hy⟩ := DataW.trod_struct Try.underlying32 g5
        have p0 : DataW.trod enc Try.prog w 0 (fun _ => true) true k5 30 ([v5, v6, v7, v8].take (Try.prog.cellsOf 30)) = ys[0]? := hy 0 _ rfl
        have p1 : DataW.trod enc Try.prog w 0 (fun _ => true) true k5 3 ([v6, v7, v8].take (Try.prog.cellsOf 3)) = ys[1]? := hy 1 _ rfl
        have p2 : DataW.trod enc Try.prog w 0 (fun _ => true) true k5 3 ([v7, v8].take (Try.prog.cellsOf 3)) = ys[2]? := hy 2 _ rfl
        have p3 : DataW.trod enc Try.prog w 0 (fun _ => true) true k5 3 ([v8].take (Try.prog.cellsOf 3)) = ys[3]? := hy 3 _ rfl
        rw [cs, List.take_succ_cons, List.take_zero, List.getElem?_eq_getElem (by rw [hyl]; decide)] at p0
        rw [ci, List.take_succ_cons, List.take_zero, List.getElem?_eq_getElem (by rw [hyl]; decide)] at p1 p2 p3
        obtain ⟨u0, e0, _, _⟩ := DataW.trod_int Try.underlying3 g0
        obtain ⟨u1, e1, _, w1⟩ := DataW.trod_int Try.underlying3 g1
        obtain ⟨u2, e2, _, _⟩ := DataW.trod_int Try.underlying3 g2
        obtain ⟨u3, e3, _, w3⟩ := DataW.trod_int Try.underlying29 g3
        obtain ⟨u4, e4, _⟩ := DataW.trod_bool Try.underlying4 g4
        obtain ⟨sa, sc, sl, e5, hcap, _, hins⟩ := open_ins p0
        obtain ⟨u6, e6, _, _⟩ := DataW.trod_int Try.underlying3 p1
        obtain ⟨u7, e7, _, w7⟩ := DataW.trod_int Try.underlying3 p2
        obtain ⟨u8, e8, _, _⟩ := DataW.trod_int Try.underlying3 p3
        simp only [List.cons.injEq, and_true] at e0 e1 e2 e3 e4 e6 e7 e8
        obtain ⟨u, rfl⟩ := wf_u64 w3
        subst e0 e1 e2 e3 e4 e5 e6 e7 e8
        have hc : ∀ j, j < 9 → w.cell? (a.add (i * 9 + j)) = [Value.int .i64 u0, Value.int .i64 u1, Value.int .i64 u2, Value.int .u64 u.toNat, Value.bool u4, Value.slice sa sl.length sc, Value.int .i64 u6, Value.int .i64 u7, Value.int .i64 u8][j]? := fun j hj => by
          have := hcell j hj
          rw [add_add] at this
          exact this
        exact ⟨⟨u0, u1, u2, u, u4, sa, sc, ⟨sl, u6, u7, u8⟩⟩, ⟨hcap, hins, w1, w7⟩, hc 0 (by omega), hc 1 (by omega), hc 2 (by omega), hc 3 (by omega), hc 4 (by omega), hc 5 (by omega), hc 6 (by omega), hc 7 (by omega), hc 8 (by omega)⟩
    obtain ⟨f, hf⟩ := choose_lt each
    refine ⟨some a, m, (List.range len).map f, by simp [hcs], by simpa using hl, by simp; omega, fun i hi => ?_⟩
    have hi' : i < len := by simpa using hi
    have g := hf i (by omega)
    obtain ⟨hs, hb⟩ := cell_spot (hf 0 (by omega)).2.1
    have hs : a.spot = none := by simpa [Addr.add] using hs
    have hb : a.block < w.heap.size := by simpa [Addr.add] using hb
    obtain ⟨b, o, sp⟩ := a
    simp only at hs hb
    subst hs
    have e : ∀ k, (⟨b, o, none⟩ : Addr).add k = ⟨b, o + k, none⟩ := fun k => by unfold Addr.add; split <;> simp_all
    simp only [e, ← Nat.add_assoc] at g
    have gf := (hf i (by omega)).1
    refine ⟨⟨b, o, rfl, hb, ?_⟩, ?_⟩
    · unfold OpHCells
      simp only [List.getElem_map, List.getElem_range]
      exact g.2
    · simp only [List.getElem_map, List.getElem_range]
      exact gf
set_option maxRecDepth 100000 in
theorem read_op {H : Type} {enc : TypeId × Value → H} {w : World} {k : Nat} {cs' : List Value} {y : DataW H × List MemPlace} (hlen : cs'.length = 9) (h2 : DataW.trod enc Try.prog w 0 (fun _ => true) true k 34 cs' = some y) :
    ∃ q : OpH, OpHFine w q ∧ cs' = [.int .i64 q.kind, .int .i64 q.peer, .int .i64 q.n, .int .u64 q.id.toNat, .bool q.flag, .slice q.ia q.d.ins.length q.ic, .int .i64 q.d.outs, .int .i64 q.d.weight, .int .i64 q.d.fee] := by
  obtain ⟨xs, k', hk, hxy, _, hxl, hf⟩ := DataW.trod_struct Try.underlying34 h2
  have ci : Try.prog.cellsOf 3 = 1 := by kernel_rfl
  have c3 : Try.prog.cellsOf 29 = 1 := by kernel_rfl
  have c4 : Try.prog.cellsOf 4 = 1 := by kernel_rfl
  have cd : Try.prog.cellsOf 32 = 4 := by kernel_rfl
  have cs : Try.prog.cellsOf 30 = 1 := by kernel_rfl
  match cs', hlen with
  | [v0, v1, v2, v3, v4, v5, v6, v7, v8], _ =>
    have g0 : DataW.trod enc Try.prog w 0 (fun _ => true) true k' 3 ([v0, v1, v2, v3, v4, v5, v6, v7, v8].take (Try.prog.cellsOf 3)) = xs[0]? := hf 0 _ rfl
    have g1 : DataW.trod enc Try.prog w 0 (fun _ => true) true k' 3 ([v1, v2, v3, v4, v5, v6, v7, v8].take (Try.prog.cellsOf 3)) = xs[1]? := hf 1 _ rfl
    have g2 : DataW.trod enc Try.prog w 0 (fun _ => true) true k' 3 ([v2, v3, v4, v5, v6, v7, v8].take (Try.prog.cellsOf 3)) = xs[2]? := hf 2 _ rfl
    have g3 : DataW.trod enc Try.prog w 0 (fun _ => true) true k' 29 ([v3, v4, v5, v6, v7, v8].take (Try.prog.cellsOf 29)) = xs[3]? := hf 3 _ rfl
    have g4 : DataW.trod enc Try.prog w 0 (fun _ => true) true k' 4 ([v4, v5, v6, v7, v8].take (Try.prog.cellsOf 4)) = xs[4]? := hf 4 _ rfl
    have g5 : DataW.trod enc Try.prog w 0 (fun _ => true) true k' 32 ([v5, v6, v7, v8].take (Try.prog.cellsOf 32)) = xs[5]? := hf 5 _ rfl
    rw [ci, List.take_succ_cons, List.take_zero, List.getElem?_eq_getElem (by rw [hxl]; decide)] at g0 g1 g2
    rw [c3, List.take_succ_cons, List.take_zero, List.getElem?_eq_getElem (by rw [hxl]; decide)] at g3
    rw [c4, List.take_succ_cons, List.take_zero, List.getElem?_eq_getElem (by rw [hxl]; decide)] at g4
    rw [cd, List.take_of_length_le (by simp), List.getElem?_eq_getElem (by rw [hxl]; decide)] at g5
    obtain ⟨ys, k5, _, _, _, hyl, hy⟩ := DataW.trod_struct Try.underlying32 g5
    have p0 : DataW.trod enc Try.prog w 0 (fun _ => true) true k5 30 ([v5, v6, v7, v8].take (Try.prog.cellsOf 30)) = ys[0]? := hy 0 _ rfl
    have p1 : DataW.trod enc Try.prog w 0 (fun _ => true) true k5 3 ([v6, v7, v8].take (Try.prog.cellsOf 3)) = ys[1]? := hy 1 _ rfl
    have p2 : DataW.trod enc Try.prog w 0 (fun _ => true) true k5 3 ([v7, v8].take (Try.prog.cellsOf 3)) = ys[2]? := hy 2 _ rfl
    have p3 : DataW.trod enc Try.prog w 0 (fun _ => true) true k5 3 ([v8].take (Try.prog.cellsOf 3)) = ys[3]? := hy 3 _ rfl
    rw [cs, List.take_succ_cons, List.take_zero, List.getElem?_eq_getElem (by rw [hyl]; decide)] at p0
    rw [ci, List.take_succ_cons, List.take_zero, List.getElem?_eq_getElem (by rw [hyl]; decide)] at p1 p2 p3
    obtain ⟨u0, e0, _, _⟩ := DataW.trod_int Try.underlying3 g0
    obtain ⟨u1, e1, _, w1⟩ := DataW.trod_int Try.underlying3 g1
    obtain ⟨u2, e2, _, _⟩ := DataW.trod_int Try.underlying3 g2
    obtain ⟨u3, e3, _, w3⟩ := DataW.trod_int Try.underlying29 g3
    obtain ⟨u4, e4, _⟩ := DataW.trod_bool Try.underlying4 g4
    obtain ⟨sa, sc, sl, e5, hcap, _, hins⟩ := open_ins p0
    obtain ⟨u6, e6, _, _⟩ := DataW.trod_int Try.underlying3 p1
    obtain ⟨u7, e7, _, w7⟩ := DataW.trod_int Try.underlying3 p2
    obtain ⟨u8, e8, _, _⟩ := DataW.trod_int Try.underlying3 p3
    simp only [List.cons.injEq, and_true] at e0 e1 e2 e3 e4 e6 e7 e8
    obtain ⟨u, rfl⟩ := wf_u64 w3
    subst e0 e1 e2 e3 e4 e5 e6 e7 e8
    exact ⟨⟨u0, u1, u2, u, u4, sa, sc, ⟨sl, u6, u7, u8⟩⟩, ⟨hcap, hins, w1, w7⟩, rfl⟩
set_option maxRecDepth 100000 in
/-- One operation. -/
theorem open_op1_arg {H : Type} {enc : TypeId × Value → H} {w : World} {r : Reach} {b0 : Nat} {v : Value} {d : DataW H} {p : List MemPlace} (hv : Value.okWide Try.prog w r b0 34 v) (h : DataW.Trod enc Try.prog w 0 (fun _ => true) true 34 v d p) :
    ∃ q : OpH, v = .agg #[.int .i64 q.kind, .int .i64 q.peer, .int .i64 q.n, .int .u64 q.id.toNat, .bool q.flag, .slice q.ia q.d.ins.length q.ic, .int .i64 q.d.outs, .int .i64 q.d.weight, .int .i64 q.d.fee] ∧ OpHFine w q := by
  obtain ⟨cs, rfl, hsz⟩ := okWide_struct Try.underlying34 hv
  have ce : Try.prog.cellsOf 34 = 9 := by kernel_rfl
  obtain ⟨n, hf⟩ := h
  obtain ⟨q, h1, h2⟩ := read_op (by simpa [Value.cells] using hsz.trans ce) hf
  refine ⟨q, ?_, h1⟩
  have : cs.toList = _ := h2
  rw [← Array.toArray_toList (xs := cs), this]
set_option maxRecDepth 100000 in
/-- A slice of deeds. -/
theorem open_deeds_arg {H : Type} {enc : TypeId × Value → H} {w : World} {r : Reach} {b0 : Nat} {v : Value} {d : DataW H} {p : List MemPlace} (hv : Value.okWide Try.prog w r b0 62 v) (h : DataW.Trod enc Try.prog w 0 (fun _ => true) true 62 v d p) :
    ∃ (a : Option Addr) (cap : Nat) (l : List DeedH), v = .slice a l.length cap ∧ l.length ≤ cap ∧ l.length ≤ maxLen ∧ DeedsAt w a l := by
  obtain ⟨xa, xl, xc, rfl⟩ := okWide_slice Try.underlying62 hv
  obtain ⟨n, hf⟩ := h
  rcases open_slice Try.underlying62 hf with ⟨hc, _⟩ | ⟨a, len, cap, m, k, D, Pl, hcs, hb, hl, hm, hmm, _, hx⟩
  · simp only [Value.cells, List.cons.injEq, and_true] at hc
    exact ⟨none, 0, [], hc, Nat.le_refl _, Nat.zero_le _, fun i hi => absurd hi (by simp)⟩
  · simp only [Value.cells, List.cons.injEq, and_true] at hcs
    simp only [if_true] at hmm
    subst hmm
    have ce : Try.prog.cellsOf 32 = 4 := by kernel_rfl
    have each : ∀ i, i < m → ∃ q : DeedH, InsAt w q.ia q.d.ins ∧ w.cell? (a.add (i * 4)) = some (.slice q.ia q.d.ins.length q.ic) ∧ w.cell? (a.add (i * 4 + 1)) = some (.int .i64 q.d.outs) ∧ w.cell? (a.add (i * 4 + 2)) = some (.int .i64 q.d.weight) ∧ w.cell? (a.add (i * 4 + 3)) = some (.int .i64 q.d.fee) := by
      intro i hi
      obtain ⟨cs', h1, h2⟩ := hx i hi
      rw [ce] at h1
      obtain ⟨_, hlen, hcell⟩ := World.cells?_some h1
      obtain ⟨ys, k5, _, _, _, hyl, hy⟩ := DataW.trod_struct Try.underlying32 h2
      have ci : Try.prog.cellsOf 3 = 1 := by kernel_rfl
      have cs : Try.prog.cellsOf 30 = 1 := by kernel_rfl
      match cs', hlen with
      | [v5, v6, v7, v8], _ =>
        have p0 : DataW.trod enc Try.prog w 0 (fun _ => true) true k5 30 ([v5, v6, v7, v8].take (Try.prog.cellsOf 30)) = ys[0]? := hy 0 _ rfl
        have p1 : DataW.trod enc Try.prog w 0 (fun _ => true) true k5 3 ([v6, v7, v8].take (Try.prog.cellsOf 3)) = ys[1]? := hy 1 _ rfl
        have p2 : DataW.trod enc Try.prog w 0 (fun _ => true) true k5 3 ([v7, v8].take (Try.prog.cellsOf 3)) = ys[2]? := hy 2 _ rfl
        have p3 : DataW.trod enc Try.prog w 0 (fun _ => true) true k5 3 ([v8].take (Try.prog.cellsOf 3)) = ys[3]? := hy 3 _ rfl
        rw [cs, List.take_succ_cons, List.take_zero, List.getElem?_eq_getElem (by rw [hyl]; decide)] at p0
        rw [ci, List.take_succ_cons, List.take_zero, List.getElem?_eq_getElem (by rw [hyl]; decide)] at p1 p2 p3
        obtain ⟨sa, sc, sl, e5, _, _, hins⟩ := open_ins p0
        obtain ⟨u6, e6, _, _⟩ := DataW.trod_int Try.underlying3 p1
        obtain ⟨u7, e7, _, _⟩ := DataW.trod_int Try.underlying3 p2
        obtain ⟨u8, e8, _, _⟩ := DataW.trod_int Try.underlying3 p3
        simp only [List.cons.injEq, and_true] at e6 e7 e8
        subst e5 e6 e7 e8
        have hc : ∀ j, j < 4 → w.cell? (a.add (i * 4 + j)) = [Value.slice sa sl.length sc, Value.int .i64 u6, Value.int .i64 u7, Value.int .i64 u8][j]? := fun j hj => by
          have := hcell j hj
          rw [add_add] at this
          exact this
        exact ⟨⟨sa, sc, ⟨sl, u6, u7, u8⟩⟩, hins, hc 0 (by omega), hc 1 (by omega), hc 2 (by omega), hc 3 (by omega)⟩
    obtain ⟨f, hf⟩ := choose_lt each
    refine ⟨some a, m, (List.range len).map f, by simp [hcs], by simpa using hl, by simp; omega, fun i hi => ?_⟩
    have hi' : i < len := by simpa using hi
    have g := hf i (by omega)
    obtain ⟨hs, hb⟩ := cell_spot (hf 0 (by omega)).2.1
    have hs : a.spot = none := by simpa [Addr.add] using hs
    have hb : a.block < w.heap.size := by simpa [Addr.add] using hb
    obtain ⟨b, o, sp⟩ := a
    simp only at hs hb
    subst hs
    have e : ∀ k, (⟨b, o, none⟩ : Addr).add k = ⟨b, o + k, none⟩ := fun k => by unfold Addr.add; split <;> simp_all
    simp only [e, ← Nat.add_assoc] at g
    refine ⟨⟨b, o, rfl, hb, ?_⟩, ?_⟩
    · unfold DeedHCells
      simp only [List.getElem_map, List.getElem_range]
      exact g.2
    · simp only [List.getElem_map, List.getElem_range]
      exact g.1
end Go.Proofs.Ytodhkphjlcjdoaa
