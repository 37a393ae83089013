/-
  Rows in blocks of their own, whatever their elements: stores, and clear of what lies behind. No function of a program is named here.
  Slices of IDs: how they lie in memory; the contract of the reference's Has of IDs.
  A slice of IDs that the call itself builds by append: what it owns, and one more ID.
  The frame of a law's row, once for all laws: where the call returns true and nothing that was there has turned ('Below'), the row's step holds. No program is named here.
  A thing that lies inside a node's block.
  The place of the first one in a list that is chosen. No program is named here.
  Slices of Ins: how they lie in memory; contracts of the functions that only look them over (the reference's Has, Eq; outside; the program's range check).
  Decoding as plain data: numbers, the errors of the form, the fields; the two ways back. No program is named here.
  The contract of the reference's Rest: the rest of a division, never negative.
  Contract of the reference's outside.
-/
import Derived.Test.YtaaaplbjeknbkaaGreatJ1
import Derived.Lib.SliceRun
import Derived.Deep.AppendLies
import Derived.Laws.OwnMore
import Derived.ProofKit
import Derived.OpenShut
import Derived.ShutString
import Derived.ChangeOld
import Derived.Below
import Derived.Carry
import Derived.SizedLaws
import Derived.Deep.RegionHeld3
import Derived.RegionTactic
import Derived.BigRegion
import Derived.Deep.RegionWith
import Derived.Laws.Bits64b
import Derived.Lib.AppendStr
set_option maxRecDepth 20000
namespace Go.Proofs.YtaaaplbjeknbkaaGreat
open Go.RowKit

theorem setCells_row (g : Nat) (e : TypeId) : ∀ (vs : List Value) (o : Nat) (w : World) (cur : Array Value), w.heap[g]? = some (.cells cur e (0, 0)) →
    ∃ cur', (w.setCells g o vs).heap[g]? = some (.cells cur' e (0, 0)) ∧ cur'.size = cur.size ∧ cur'.toList.take o = cur.toList.take o
  | [], o, w, cur, h => ⟨cur, h, rfl, rfl⟩
  | v :: r, o, w, cur, h => by
    obtain ⟨cur', h1, h2, h3⟩ := setCells_row g e r (o + 1) (w.setCell ⟨g, o, none⟩ v) (cur.setIfInBounds o v) (heap_setCell_same w g o cur e v h)
    refine ⟨cur', h1, by simpa using h2, ?_⟩
    have h4 := congrArg (List.take o) h3
    rw [List.take_take, List.take_take, Nat.min_eq_left (by omega), Array.toList_setIfInBounds, List.take_set_of_le (Nat.le_refl o)] at h4
    exact h4
theorem setCells_turn (g : Nat) {F : Nat → Prop} (hg : F g) : ∀ (vs : List Value) (o : Nat) (w : World), Turn F F w (w.setCells g o vs)
  | [], _, _ => Turn.refl _ _
  | v :: r, o, w => (Turn.set w ⟨g, o, none⟩ v hg).trans (setCells_turn g hg r (o + 1) (w.setCell ⟨g, o, none⟩ v))
theorem row_cell {w : World} {e : TypeId} {size : Nat} {g cap n : Nat} {xs : List Value} (h : w.ownsRow 0 e size (.slice (some ⟨g, 0, none⟩) n cap) n xs) (j : Nat) (hj : j < n * size) : (w.cell? ⟨g, j, none⟩).isSome = true := by
  rw [h.cellAt j hj, List.getElem?_eq_getElem (by rw [h.1]; exact hj)]
  rfl
theorem row_cut {w : World} {e : TypeId} {size : Nat} {g cap n : Nat} {xs : List Value} (h : w.ownsRow 0 e size (.slice (some ⟨g, 0, none⟩) n cap) n xs) (i : Nat) (hi : i ≤ n) : w.ownsRow 0 e size (.slice (some ⟨g, 0, none⟩) i cap) i (xs.take (i * size)) := by
  have hle : i * size ≤ n * size := Nat.mul_le_mul_right _ hi
  rcases h.2 with ⟨h', _⟩ | ⟨g', cap', cur, h', hb, hg, hnc, hcm, hcs, htake⟩
  · simp at h'
  · simp only [Value.slice.injEq, Option.some.injEq, Addr.mk.injEq, and_true, true_and] at h'
    obtain ⟨rfl, rfl⟩ := h'
    refine ⟨by rw [List.length_take, h.1]; omega, .inr ⟨g, cap, cur, rfl, hb, hg, by omega, hcm, hcs, ?_⟩⟩
    rw [← htake, List.take_take, Nat.min_eq_left hle]
theorem clear_row {t e : TypeId} {size : Nat} (z : Value) (ht : Tryz.prog.underlying t = some (.slice e)) (hv : ∀ w, (zeroValue e).run Tryz.prog w = .ok z w) (hzs : z.cells.size = size) (hsz : 0 < size) (h1 : ∀ v ∈ z.cells.toList, v.oneCell' = true) {w : World} {g cap i n : Nat} {xs : List Value} (hi : i < n)
    (ho : w.ownsRow 0 e size (.slice (some ⟨g, 0, none⟩) n cap) n xs) : ∃ w', (∀ ty, (Builtin.clear_ #[t] ty #[.slice (some ⟨g, i * size, none⟩) (n - i) (cap - i)]).run Tryz.prog w = .ok (.tuple #[]) w') ∧
      w'.ownsRow 0 e size (.slice (some ⟨g, 0, none⟩) i cap) i (xs.take (i * size)) ∧ Turn (fun k => k = g) (fun k => k = g) w w' := by
  have hzl : (Builtin.zeroCells z.cells (n - i)).toList.length = (n - i) * size := by simp [Builtin.zeroCells, hzs]
  have hz1 : ∀ v ∈ (Builtin.zeroCells z.cells (n - i)).toList, v.oneCell' = true := by
    intro v hv
    simp only [Builtin.zeroCells, Array.toList_map, List.mem_map] at hv
    obtain ⟨j, _, rfl⟩ := hv
    have hj : j % z.cells.size < z.cells.size := Nat.mod_lt _ (by omega)
    rw [getElem!_pos z.cells _ hj]
    exact h1 _ (by simp)
  have hmul : i * size + (n - i) * size = n * size := by rw [← Nat.add_mul, Nat.add_sub_cancel' (Nat.le_of_lt hi)]
  have hst := run_storeCells_cells (P := Tryz.prog) g (i * size) (Builtin.zeroCells z.cells (n - i)).toList 0 w (fun j hj => row_cell ho _ (by omega)) (fun j hj => ho.frozenAt _) hz1
  simp only [Nat.add_zero] at hst
  refine ⟨w.setCells g (i * size) (Builtin.zeroCells z.cells (n - i)).toList, fun ty => ?_, ?_, setCells_turn g (F := fun k => k = g) rfl _ _ _⟩
  · obtain ⟨m, hm⟩ : ∃ m, n - i = m + 1 := ⟨n - i - 1, by omega⟩
    rw [hm] at hst ⊢
    simp [Builtin.clear_, run_underlying ht, hv, hst]
  · have hc := row_cut ho i (by omega)
    rcases hc.2 with ⟨h', _⟩ | ⟨g', cap', cur, h', hb, hg, hnc, hcm, hcs, htake⟩
    · simp at h'
    · simp only [Value.slice.injEq, Option.some.injEq, Addr.mk.injEq, and_true, true_and] at h'
      obtain ⟨rfl, rfl⟩ := h'
      obtain ⟨cur', q1, q2, q3⟩ := setCells_row g e (Builtin.zeroCells z.cells (n - i)).toList (i * size) w cur hg
      exact ⟨hc.1, .inr ⟨g, cap, cur', rfl, hb, q1, hnc, hcm, by rw [q2]; exact hcs, by rw [q3]; exact htake⟩⟩
/-- How a list is filtered in place: one step. -/
theorem drop_at {α : Type} {m l : List α} {j : Nat} (h : m.drop j = l.drop j) (hm : j < m.length) (hl : j < l.length) : m[j] = l[j] ∧ m.drop (j + 1) = l.drop (j + 1) := by
  rw [List.drop_eq_getElem_cons hm, List.drop_eq_getElem_cons hl] at h
  exact List.cons.inj h
theorem take_filter_out {α : Type} {q : α → Bool} {m l : List α} {i j : Nat} (hl : j < l.length) (h : m.take i = (l.take j).filter q) (hq : q l[j] = false) : m.take i = (l.take (j + 1)).filter q := by
  rw [List.take_succ_eq_append_getElem hl, List.filter_append, List.filter_cons_of_neg (by rw [hq]; simp), List.filter_nil, List.append_nil]
  exact h
theorem take_filter_in {α : Type} {q : α → Bool} {m l : List α} {i j : Nat} (hi : i < m.length) (hl : j < l.length) (h : m.take i = (l.take j).filter q) (hq : q l[j] = true) : (m.set i l[j]).take (i + 1) = (l.take (j + 1)).filter q := by
  rw [List.take_succ_eq_append_getElem hl, List.filter_append, List.filter_cons_of_pos hq, List.filter_nil, List.take_succ_eq_append_getElem (by simpa using hi), List.take_set_of_le (Nat.le_refl i), h]
  simp
theorem drop_set {α : Type} {m : List α} {i j : Nat} (x : α) (h : i < j) : (m.set i x).drop j = m.drop j := by rw [List.drop_set_of_lt h]
theorem take_filter_start {α : Type} {q : α → Bool} {l : List α} {i : Nat} (h : l.findIdx? q = some i) : l.take i = (l.take (i + 1)).filter (fun e => !q e) := by
  obtain ⟨hi, h1, h2⟩ := List.findIdx?_eq_some_iff_getElem.1 h
  refine take_filter_out hi ?_ (by rw [h1]; rfl)
  rw [List.filter_eq_self.2]
  intro x hx
  obtain ⟨j, hj, rfl⟩ := List.mem_take_iff_getElem.1 hx
  have := h2 j (by omega)
  simpa using this
theorem filter_none {α : Type} {q : α → Bool} {l : List α} (h : l.findIdx? q = none) : l.filter (fun e => !q e) = l := by
  rw [List.filter_eq_self]
  intro x hx
  rw [List.findIdx?_eq_none_iff.1 h x hx]
  rfl
end Go.Proofs.YtaaaplbjeknbkaaGreat
namespace Go.Proofs.YtaaaplbjeknbkaaGreat
open Go.RowKit

/-- The memory behind a slice's address holds these IDs. -/
def IdsAt (w : World) (a : Option Addr) (l : List UInt64) : Prop :=
  ∀ i (h : i < l.length), ∃ b o, a = some ⟨b, o, none⟩ ∧ b < w.heap.size ∧ w.cell? ⟨b, o + i, none⟩ = some (.int .u64 l[i].toNat)
theorem idsAt_kept {a b : World} {x : Option Addr} {l : List UInt64} (h : Below a.heap.size a b) (hi : IdsAt a x l) : IdsAt b x l := fun i hl => by
  obtain ⟨bb, o, e, hb, c0⟩ := hi i hl
  exact ⟨bb, o, e, Nat.lt_of_lt_of_le hb h.size, kept_cell h c0⟩
theorem idsAt_nil (w : World) (a : Option Addr) : IdsAt w a [] := fun i hi => absurd hi (by simp)
theorem idsAt_take {w : World} {a : Option Addr} {l : List UInt64} (k : Nat) (h : IdsAt w a l) : IdsAt w a (l.take k) := fun i hi => by
  have h1 : i < l.length := by rw [List.length_take] at hi; omega
  rw [List.getElem_take]
  exact h i h1
theorem idsAt_set {w : World} {a : Option Addr} {l : List UInt64} {n : Nat} {p : Addr} (h : IdsAt w a l) (hf : Fresh n a) (hp : p.block < n) (v : Value) : IdsAt (w.setCell p v) a l := fun i hi => by
  obtain ⟨b, o, e, hb, c0⟩ := h i hi
  have hn : b ≠ p.block := by have := hf b o none e; omega
  have hs : ∀ oo, (w.setCell p v).cell? ⟨b, oo, none⟩ = w.cell? ⟨b, oo, none⟩ := fun oo => World.cell?_of_block (w := w) (a := ⟨b, oo, none⟩) (Below.heap_setCell w p v b hn)
  exact ⟨b, o, e, by simpa using hb, by rw [hs]; exact c0⟩

theorem contains_id {l : List UInt64} {x : UInt64} {k : Nat} (h : k < l.length) (e : x = l[k]) : l.contains x = true := by
  rw [List.contains_iff_mem]; rw [e]; exact List.getElem_mem h
theorem take_contains_id {l : List UInt64} {x : UInt64} {k : Nat} (h : k < l.length) (n : (l.take k).contains x = false) (e : x ≠ l[k]) : (l.take (k + 1)).contains x = false := by
  rw [List.take_succ_eq_append_getElem h, ← Bool.not_eq_true, List.contains_iff_mem, List.mem_append, not_or]
  refine ⟨by rw [← List.contains_iff_mem, n]; simp, by simpa using e⟩

theorem hasID_any (l : List UInt64) (x : UInt64) (r : Bool) (HR : Hid (l.contains x = r)) (a : Option Addr) (cap : Nat) (w : World) (hl : l.length ≤ maxLen) (hi : IdsAt w a l) :
    Calls Tryz.prog 25 #[.slice a l.length cap, .int .u64 x.toNat] w fun e w' => e = .returned (.bool r) ∧ w = w' := by
  unfold maxLen at hl
  go_enter Tryz.func25, Tryz.ntmps25
  go_wp2
  go_loop [9] (fun i => ∃ k : Nat, k ≤ l.length ∧ i = .int .i64 k ∧ Hid ((l.take k).contains x = false)) (fun i => l.length - (intOf i).toNat)
  case atStart => exact ⟨0, Nat.zero_le _, rfl, Lib.hid rfl⟩
  case round =>
    obtain ⟨k, hk, rfl, NO⟩ := hrel
    by_cases hlt : k < l.length
    · obtain ⟨b, o, rfl, hb, hd⟩ := hi k hlt
      by_cases hx : x = l[k]
      · have hxb : ((x.toNat : Int) == (l[k].toNat : Int)) = true := by rw [u64_beq]; exact beq_iff_eq.2 hx
        have HX := Lib.hid hx
        clear hx
        go_wp2
        go_ret
        exact ⟨ret_bool ((contains_id hlt HX.out).symm.trans HR.out), rfl⟩
      · have hxb : ((x.toNat : Int) == (l[k].toNat : Int)) = false := by rw [u64_beq]; exact beq_eq_false_iff_ne.2 hx
        have HX := Lib.hid hx
        clear hx
        go_wp2
        go_round
        case rel => exact ⟨k + 1, by omega, by go_num, Lib.hid (take_contains_id hlt NO.out HX.out)⟩
        case measure => simp [intOf]; omega
    · go_wp2
      go_ret
      refine ⟨ret_bool ?_, rfl⟩
      have := NO.out
      rw [List.take_of_length_le (by omega)] at this
      exact this.symm.trans HR.out
theorem hasID_take (l : List UInt64) (k : Nat) (r : Bool) (x : UInt64) (a : Option Addr) (cap : Nat) (w : World) (hk : k ≤ l.length) (hl : l.length ≤ maxLen) (hi : IdsAt w a l) (h : (l.take k).contains x = r) :
    Calls Tryz.prog 25 #[.slice a k cap, .int .u64 x.toNat] w fun e w' => e = .returned (.bool r) ∧ w = w' := by
  have := hasID_any (l.take k) x r (Lib.hid h) a cap w (by rw [List.length_take]; omega) (idsAt_take k hi)
  rw [List.length_take, Nat.min_eq_left hk] at this
  exact this

end Go.Proofs.YtaaaplbjeknbkaaGreat
namespace Go.Proofs.YtaaaplbjeknbkaaGreat
open Go.RowKit

def idV (x : UInt64) : Value := .int .u64 x.toNat
theorem owns_idsAt {w : World} {B : Nat} {v : Value} {l : List UInt64} (h : w.ownsRow B 22 1 v l.length (l.map idV)) : ∃ a cap, v = .slice a l.length cap ∧ l.length ≤ cap ∧ IdsAt w a l ∧ Fresh B a := by
  rcases h.2 with ⟨hv, hn⟩ | ⟨g, cap, cur, hv, hB, hg, hc, _, _, _⟩
  · refine ⟨none, 0, by rw [hn]; exact hv, by omega, fun i hi => absurd hi (by omega), fun _ _ _ e => by cases e⟩
  · refine ⟨some ⟨g, 0, none⟩, cap, hv, hc, fun i hi => ?_, fun b o sp e => by cases e; exact hB⟩
    have a0 := h.cells (g := g) (by rw [hv]; rfl) i (idV l[i]) (by rw [List.getElem?_map, List.getElem?_eq_getElem hi]; rfl)
    have f0 : (⟨g, 0, none⟩ : Addr).add i = ⟨g, 0 + i, none⟩ := by unfold Addr.add; split <;> simp_all
    rw [f0] at a0
    exact ⟨g, 0, rfl, (Array.getElem?_eq_some_iff.1 hg).1, a0⟩
/-- The slice v holds these IDs, in a block of its own from block B on. -/
abbrev OwnIds (w : World) (B : Nat) (v : Value) (d : List UInt64) : Prop := w.ownsRow B 22 1 v d.length (d.map idV)
theorem ownIds_nil (w : World) (B : Nat) : OwnIds w B (.slice none 0 0) [] := World.ownsRow_nil w B _ 1
theorem ownIds_below {w w' : World} {B : Nat} {v : Value} {d : List UInt64} (h : OwnIds w B v d) (hb : Below w.heap.size w w') : OwnIds w' B v d := owns_below h hb
theorem ownIds_block {w : World} {B : Nat} {v : Value} {d : List UInt64} (h : OwnIds w B v d) : ∀ k, v.ownBlock = some k → B ≤ k ∧ k < w.heap.size := fun k hk => h.lt k hk
theorem info_u64 : (Tryz.prog.info? 22).map (fun i => (i.zero, i.size, i.bytes)) = some (some (.int .u64 0), 1, 8) := by kernel_rfl
/-- 'append(s, x)': the new ID lies in a block of its own, laid just ahead. -/
theorem append_id {ops : Array Oper} {rest : List Oper} {o : Oper} {a : Act} {Q : Exit → Act → World → Prop} {w : World} (hgd : o.guard = none) (s x : Operand) (ho : o.op = .call { callee := .builtin .append, args := #[s, x], argTypes := #[36, 36] })
    {B : Nat} {v : Value} {d : List UInt64} (y : UInt64) (hs : a.eval s = v) (hx : a.eval x = .slice (some ⟨w.heap.size, 0, none⟩) 1 1) (hown : OwnIds w B v d) (hlen : d.length ≤ 1000000) (hB : B ≤ w.heap.size)
    (h : ∀ g cap w', OwnIds w' B (.slice (some ⟨g, 0, none⟩) (d.length + 1) cap) (d ++ [y]) → (w.alloc (.cells #[.int .u64 y.toNat] 22)).grownBy w' v.ownBlock → w.grownBy w' v.ownBlock → wpList Tryz.prog ops Q rest (a.put o.dst (.slice (some ⟨g, 0, none⟩) (d.length + 1) cap)) w') :
    wpList Tryz.prog ops Q (o :: rest) a (w.alloc (.cells #[.int .u64 y.toNat] 22)) := by
  obtain ⟨i0, hi0, hz0, hz1, hz2⟩ := info_parts info_u64
  refine wpList_append_lies _ hgd s x 36 ho B 22 i0 (.int .u64 0) 1 8 Tryz.underlying36 hi0 hz0 hz1 hz2 rfl (by decide) v d.length (d.map idV) hs (hown.alloc _) ⟨w.heap.size, 0, none⟩ 1 1 [.int .u64 y.toNat] hx rfl (cells_new w _ _) (by simp [Value.oneCell']) (by decide) (by unfold maxLen; omega) (by omega) (by simp; omega) _ rfl ?_
  intro g cap w1 hown' hgrow _ _
  refine h g cap w1 ?_ hgrow ((World.grownBy_alloc w _ _).trans hgrow)
  unfold OwnIds
  rw [List.length_append, List.map_append]
  exact hown'
end Go.Proofs.YtaaaplbjeknbkaaGreat
namespace Go.Proofs.YtaaaplbjeknbkaaGreat
open Go.ChangeShapes Go.WideShapes Go.ChangeAt Go.RowKit

/-- All arguments read behind the call as they read before it, through the same places. -/
theorem trodAll_stays {H : Type} {enc : TypeId × Value → H} {P : Program} (hl : laidOutB P = true) {W W' : World} (hb : Below W.heap.size W W') :
    ∀ (ts : List TypeId) (vs : List Value) (ds : List (DataW H)) (ps : List MemPlace), (ts.all fun t => P.readableRec t && decide (t < P.types.size)) = true →
      DataW.TrodAll enc P W 0 (fun _ => true) true ts vs ds ps → DataW.TrodAll enc P W' 0 (fun b => decide (b < W.heap.size)) true ts vs ds ps
  | [], vs, ds, ps, _, h => by
    obtain ⟨rfl, rfl, rfl⟩ := trodAll_nil h
    exact trodAll_mk0
  | t :: ts, vs, ds, ps, hr, h => by
    obtain ⟨v, vs', d, ds', p, q, rfl, rfl, rfl, h0, r0⟩ := trodAll_cons h
    simp only [List.all_cons, Bool.and_eq_true, decide_eq_true_eq] at hr
    have lt0 : ∀ x ∈ p, x.block < W.heap.size := by obtain ⟨m, hm⟩ := h0; exact DataW.trod_lt m _ _ _ hm
    exact trodAll_cons_mk (Below.trod hl hr.1.1 hr.1.2 h0 hb lt0) (trodAll_stays hl hb ts vs' ds' q (by simpa using hr.2) r0)

theorem trodAll_length {H : Type} {enc : TypeId × Value → H} {P : Program} {W : World} {base : Nat} {spare : Nat → Bool} {held : Bool} :
    ∀ {ts : List TypeId} {vs : List Value} {ds : List (DataW H)} {ps : List MemPlace}, DataW.TrodAll enc P W base spare held ts vs ds ps → ds.length = ts.length
  | [], vs, ds, ps, h => by obtain ⟨rfl, rfl, rfl⟩ := trodAll_nil h; rfl
  | t :: ts, vs, ds, ps, h => by
    obtain ⟨v, vs', d, ds', p, q, rfl, rfl, rfl, h0, r0⟩ := trodAll_cons h
    simp [trodAll_length r0]

theorem wf_u64 {x : Int} (h : (Lit.int .u64 x).wf = true) : ∃ u : UInt64, x = (u.toNat : Int) := by
  have b := bounds_u64 h
  refine ⟨UInt64.ofNat x.toNat, ?_⟩
  rw [UInt64.toNat_ofNat_of_lt' (by show x.toNat < 18446744073709551616; omega)]
  omega
theorem wf_u8 {x : Int} (h : (Lit.int .u8 x).wf = true) : ∃ u : UInt8, x = (u.toNat : Int) := by
  have b := bounds_u8 h
  refine ⟨UInt8.ofNat x.toNat, ?_⟩
  rw [UInt8.toNat_ofNat_of_lt' (by show x.toNat < 256; omega)]
  omega

/-- THE ROW's STEP OF A LAW. -/
theorem law_lifted {C : Checked} {os : Os} {f : FuncId} {fn : Func} {s : ChangeSpec} {tb : TypeId} {H : Type} {enc : TypeId × Value → H}
    (own : ownKnob C.prog.godebug = none) (started : os.Started) (noInit : C.prog.inits.idxOf? f = none) (hfn : C.prog.funcs[f]? = some fn)
    (laid : laidOutB C.prog = true) (hread : (fn.params.toList.all fun t => C.prog.readableRec t && decide (t < C.prog.types.size)) = true)
    (hvars : s.vars = []) (hres : fn.resultTypes = #[tb]) (htb : C.prog.underlying tb = some .bool)
    (hspec : ∀ ds : List (DataW H), ds.length = fn.params.size → s.fn H ds = { results := [.lit (.bool true)], args := ds })
    (witness : ∃ (w : World) (tape : Tape) (i : Input), w.os = os ∧ (w.forCall tape i).Shaped C.prog ∧ i.vars = [] ∧ Input.okWide C.prog (w.forCall tape i) .any w.heap.size f i ∧
      s.pre6 enc C.prog fn [] false (w.forCall tape i).memory i.args ∧ ({} : Assume).holds C.prog (lone (Frame.enter C.prog f i.args .normal) [] (w.forCall tape i)))
    (walk : ∀ (W : World) (base : Nat) (args : Array Value) (ds : List (DataW H)) (p : List MemPlace),
      (∀ (j : Nat) t v, fn.params[j]? = some t → args[j]? = some v → Value.okWide C.prog W .any base t v) →
      DataW.TrodAll enc C.prog W 0 (fun _ => true) true fn.params.toList args.toList ds p →
      (DataW.weightsEach C.prog fn.params.toList ds).all (· ≤ reachBytes) = true →
      Calls C.prog f args W fun e W' => e = .returned (.bool true) ∧ Below W.heap.size W W') :
    ReturnsInHanded {} C os f .any (s.pre6 enc C.prog fn [] false) (s.post enc C.prog fn false true false false) := by
  refine returnsInHanded_of_change_sized (C := C) own started noInit hfn witness ?_
  intro W base args ds gs before hval hW _ hsz _
  have hW' := hW
  obtain ⟨p, q, hA, hV, rfl, hfz, hnd⟩ := hW
  rw [hvars] at hV
  obtain ⟨rfl, rfl⟩ := trodVars_none hV
  have hlen : ds.length = fn.params.size := by rw [trodAll_length hA]; simp
  have hsz' : (DataW.weightsEach C.prog fn.params.toList ds).all (· ≤ reachBytes) = true := by
    have e : s.plain.varTypes C.prog = [] := by
      simp [DataSpec.varTypes, ChangeSpec.plain, hvars]
    rw [e, List.append_nil, List.append_nil] at hsz
    exact hsz
  refine (walk W base args ds p hval hA hsz').mono fun e W' ⟨he, bel⟩ => ?_
  subst he
  have hs : s.fn H (ds ++ []) = { results := [.lit (.bool true)], args := ds } := by rw [List.append_nil]; exact hspec ds hlen
  refine ⟨_, rfl, ds, [], p ++ [], [], p, [], hW', ?_, ?_, ?_, bel.frame _, fun h => by cases h⟩
  · rw [hs, hres]
    exact trodAll_mk1 (shut_bool htb _)
  · rw [hs]
    exact trodAll_stays laid bel _ _ _ _ hread hA
  · rw [hvars, hs]
    exact rfl
end Go.Proofs.YtaaaplbjeknbkaaGreat
namespace Go.Proofs.YtaaaplbjeknbkaaGreat
open Go.RowKit

/-- The block of a node, and the cells of it that are not the thing's own. -/
structure Loc where
  b : Nat
  oc : Nat → Value
end Go.Proofs.YtaaaplbjeknbkaaGreat
namespace Go.Proofs.YtaaaplbjeknbkaaGreat
open Go.RowKit

/-- Where the first one is that is chosen, or -1. -/
def firstAt {α : Type} (q : α → Bool) (l : List α) : Int := match l.findIdx? q with | some k => (k : Int) | none => -1

theorem firstAt_hit {α : Type} {q : α → Bool} {l : List α} {k : Nat} (h : k < l.length) (n : (l.take k).findIdx? q = none) (e : q l[k] = true) : firstAt q l = (k : Int) := by
  unfold firstAt
  have : l.findIdx? q = some k := by
    rw [List.findIdx?_eq_some_iff_getElem]
    refine ⟨h, e, fun j hj => ?_⟩
    have h2 := List.findIdx?_eq_none_iff.1 n l[j] (List.mem_take_iff_getElem.2 ⟨j, by omega, rfl⟩)
    simpa using h2
  rw [this]
theorem firstAt_miss {α : Type} {q : α → Bool} {l : List α} {k : Nat} (h : k < l.length) (n : (l.take k).findIdx? q = none) (e : q l[k] = false) : (l.take (k + 1)).findIdx? q = none := by
  rw [List.findIdx?_eq_none_iff] at n ⊢
  rw [List.take_succ_eq_append_getElem h]
  intro x hx
  rcases List.mem_append.1 hx with hx | hx
  · exact n x hx
  · rw [List.mem_singleton.1 hx]; exact e
/-- A captured cell. -/
def CellIs (c : Nat) (v : Value) (w : World) : Prop := w.cell? ⟨c, 0, none⟩ = some v
theorem cellIs_kept (c : Nat) (v : Value) (a b : World) (h : CellIs c v a) (hb : Below a.heap.size a b) : CellIs c v b := kept_cell hb h
theorem cellIs_set {c g : Nat} (v : Value) (hc : c ≠ g) (a : World) (j : Nat) (u : Value) (h : CellIs c v a) : CellIs c v (a.setCell ⟨g, j, none⟩ u) := (World.cell?_of_block (a := ⟨c, 0, none⟩) (Below.heap_setCell a ⟨g, j, none⟩ u c hc)).trans h
theorem cellIs_new (w : World) (v : Value) (t : TypeId) : CellIs w.heap.size v (w.alloc (.cells #[v] t)) := by simp [CellIs, go_sem]
theorem beq_nat (a b : Nat) : ((a : Int) == (b : Int)) = (a == b) := by
  rw [Bool.eq_iff_iff, beq_iff_eq, beq_iff_eq]
  omega
theorem firstAt_neg {α : Type} (q : α → Bool) (l : List α) : decide (firstAt q l ≥ 0) = l.any q := by
  unfold firstAt
  cases h : l.findIdx? q with
  | none =>
    have := List.findIdx?_eq_none_iff.1 h
    rw [show l.any q = false by rw [List.any_eq_false]; intro x hx; rw [this x hx]; simp]
    simp
  | some k =>
    obtain ⟨hk, h1, _⟩ := List.findIdx?_eq_some_iff_getElem.1 h
    rw [show l.any q = true from List.any_eq_true.2 ⟨_, List.getElem_mem hk, h1⟩]
    simp
end Go.Proofs.YtaaaplbjeknbkaaGreat
namespace Go.Proofs.YtaaaplbjeknbkaaGreat
open Go.RowKit

/-- An In as a value. -/
def inV (x : InD) : Value := .agg #[.int .u64 x.1.toNat, .int .i64 x.2]
/-- The memory behind a slice's address holds these Ins. -/
def InsAt (w : World) (a : Option Addr) (l : List InD) : Prop :=
  ∀ i (h : i < l.length), ∃ b o, a = some ⟨b, o, none⟩ ∧ b < w.heap.size ∧ w.cell? ⟨b, o + i * 2, none⟩ = some (.int .u64 l[i].1.toNat) ∧ w.cell? ⟨b, o + i * 2 + 1, none⟩ = some (.int .i64 l[i].2) ∧ (Lit.int .i64 l[i].2).wf = true

theorem insAt_kept {a b : World} {x : Option Addr} {l : List InD} (h : Below a.heap.size a b) (hi : InsAt a x l) : InsAt b x l := fun i hl => by
  obtain ⟨bb, o, e, hb, c0, c1, c2⟩ := hi i hl
  exact ⟨bb, o, e, Nat.lt_of_lt_of_le hb h.size, kept_cell h c0, kept_cell h c1, c2⟩
theorem in_eq {x y : InD} (h : (x.1.toNat : Int) = y.1.toNat) (h2 : x.2 = y.2) : x = y := Prod.ext (UInt64.toNat_inj.1 (by omega)) h2
/-- Two Ins compared. -/
theorem run_eq_in (x y : InD) (w : World) : (binOp .eql 62 (.agg #[.int .u64 x.1.toNat, .int .i64 x.2]) (.agg #[.int .u64 y.1.toNat, .int .i64 y.2])).run Tryz.prog w = .ok (.bool (x == y)) w := by
  by_cases h1 : (x.1.toNat : Int) = y.1.toNat
  · by_cases h2 : x.2 = y.2
    · have e := in_eq h1 h2
      subst e
      simp [go_sem]
    · have e : (x == y) = false := beq_eq_false_iff_ne.2 fun e => h2 (by rw [e])
      rw [e]
      simp [go_sem, h1, h2]
  · have e : (x == y) = false := beq_eq_false_iff_ne.2 fun e => h1 (by rw [e])
    rw [e]
    simp [go_sem, h1]
theorem contains_at {l : List InD} {x : InD} {k : Nat} (h : k < l.length) (e : x = l[k]) : l.contains x = true := by
  rw [List.contains_iff_mem]; rw [e]; exact List.getElem_mem h
theorem take_contains {l : List InD} {x : InD} {k : Nat} (h : k < l.length) (n : (l.take k).contains x = false) (e : x ≠ l[k]) : (l.take (k + 1)).contains x = false := by
  rw [List.take_succ_eq_append_getElem h, ← Bool.not_eq_true, List.contains_iff_mem, List.mem_append, not_or]
  refine ⟨by rw [← List.contains_iff_mem, n]; simp, by simpa using e⟩

/-- An In as a key of a map. -/
def inKey (x : InD) : Lit := .string (keyBytes [.int .u64 x.1.toNat, .int .i64 x.2])
def inOk (x : InD) : Prop := (Lit.int .i64 x.2).wf = true
theorem in_keyed : Maps.Keyed Tryz.prog 62 := Maps.Keyed.of_law (deep_law_laid laid (m := 2) (by omega) (of_decide_eq_true (by kernel_rfl)) (by kernel_rfl) (by kernel_rfl))
theorem in_key (x : InD) (h : inOk x) : keyOf Tryz.prog 62 (.agg #[.int .u64 x.1.toNat, .int .i64 x.2]) = some (inKey x) :=
  keyOf_struct2 Tryz.underlying62 (by kernel_rfl) (by kernel_rfl) (by kernel_rfl) rfl rfl Tryz.underlying22 Tryz.underlying3 (by kernel_rfl) (by kernel_rfl) (m := Tryz.prog.types.size - 1) (by kernel_rfl) (wf_u64_of _) h
theorem inKey_inj {x y : InD} (hx : inOk x) (hy : inOk y) (h : inKey x = inKey y) : x = y := by
  have e := in_keyed.inj (in_key x hx) (h ▸ in_key y hy)
  simp only [Value.agg.injEq, Array.mk.injEq, List.cons.injEq, Value.int.injEq, true_and, and_true] at e
  exact in_eq e.1 e.2
end Go.Proofs.YtaaaplbjeknbkaaGreat
namespace Go.Proofs.YtaaaplbjeknbkaaGreat

/-- A number's bytes read, the most significant one first. -/
def numN (l : List UInt8) : Nat := l.foldl (fun n c => n * 256 + c.toNat) 0
def numU (l : List UInt8) : UInt64 := l.foldl (fun x c => 256 * x + c.toUInt64) 0
theorem numN_snoc (l : List UInt8) (c : UInt8) : numN (l ++ [c]) = numN l * 256 + c.toNat := by simp [numN]
theorem numU_snoc (l : List UInt8) (c : UInt8) : numU (l ++ [c]) = 256 * numU l + c.toUInt64 := by simp [numU]
theorem snocInduction {α : Type} {p : List α → Prop} (h0 : p []) (h1 : ∀ l a, p l → p (l ++ [a])) : ∀ l, p l := by
  intro l
  have h : ∀ n (l : List α), l.length = n → p l := by
    intro n
    induction n with
    | zero => intro l hl; rw [List.eq_nil_of_length_eq_zero hl]; exact h0
    | succ n ih =>
      intro l hl
      have hne : l ≠ [] := fun e => by rw [e] at hl; cases hl
      rw [← List.dropLast_concat_getLast hne]
      exact h1 _ _ (ih _ (by simp [hl]))
  exact h _ l rfl
theorem numN_lt : ∀ l : List UInt8, numN l < 256 ^ l.length := by
  refine snocInduction (by decide) fun l c ih => ?_
  have := c.toNat_lt
  rw [numN_snoc, List.length_append, List.length_singleton, Nat.pow_succ]
  omega
theorem numU_toNat : ∀ l : List UInt8, (numU l).toNat = numN l % 18446744073709551616 := by
  refine snocInduction (by decide) fun l c ih => ?_
  have := c.toNat_lt
  rw [numU_snoc, numN_snoc, UInt64.toNat_add, UInt64.toNat_mul, ih]
  simp
  omega
theorem numU_short (l : List UInt8) (h : l.length ≤ 8) : (numU l).toNat = numN l := by
  rw [numU_toNat, Nat.mod_eq_of_lt]
  have h1 := numN_lt l
  have h2 : 256 ^ l.length ≤ 256 ^ 8 := Nat.pow_le_pow_right (by decide) h
  have h3 : 256 ^ 8 = 18446744073709551616 := by decide
  omega
theorem numN_be : ∀ n x, numN (be n x) = x % 256 ^ n
  | 0, x => by simp [be, numN, Nat.mod_one]
  | n + 1, x => by
    rw [be, numN_snoc, numN_be n, Nat.pow_succ, UInt8.toNat_ofNat', Nat.mul_comm (256 ^ n), Nat.mod_mul]
    omega
theorem be_numN : ∀ l : List UInt8, be l.length (numN l) = l := by
  refine snocInduction rfl fun l c ih => ?_
  have := c.toNat_lt
  rw [List.length_append, List.length_singleton, be, numN_snoc, show (numN l * 256 + c.toNat) / 256 = numN l by omega, ih]
  congr 1
  have e : UInt8.ofNat (numN l * 256 + c.toNat) = c := by
    apply UInt8.toNat_inj.1
    rw [UInt8.toNat_ofNat']
    omega
  rw [e]
theorem numU_be (x : UInt64) : numU (be 8 x.toNat) = x := by
  apply UInt64.toNat_inj.1
  rw [numU_short _ (by rw [be_length]; omega), numN_be, Nat.mod_eq_of_lt (by have := x.toNat_lt; simpa using this)]

/-- P5: the errors that do not depend on the fields. -/
def formD (l : List UInt8) : Int :=
  if l.length = 0 then 3 else if l.getD 0 0 ≠ 68 then 4 else if l.length < 2 then 3 else if l.length < 7 + 9 * (l.getD 1 0).toNat then 3 else if 7 + 9 * (l.getD 1 0).toNat < l.length then 4 else 0
/-- An In out of the bytes that begin with it. -/
def inOf (r : List UInt8) : InD := (numU (r.take 8), ((r.getD 8 0).toNat : Int))
def insOf (n : Nat) (r : List UInt8) : List InD := (List.range n).map fun i => inOf (r.drop (9 * i))
/-- The fields of bytes that are well formed. -/
def readD (l : List UInt8) : DeedD :=
  let n := (l.getD 1 0).toNat
  let r := l.drop (2 + 9 * n)
  ⟨insOf n (l.drop 2), ((r.getD 0 0).toNat : Int), ((numU ((r.drop 1).take 2)).toNat : Int), ((numU ((r.drop 3).take 2)).toNat : Int)⟩
/-- P5: the error of Decode. -/
def errD (l : List UInt8) : Int := if formD l ≠ 0 then formD l else checkD (readD l)
theorem insOf_length (n : Nat) (r : List UInt8) : (insOf n r).length = n := by simp [insOf]
theorem insOf_at (n : Nat) (r : List UInt8) (k : Nat) (h : k < (insOf n r).length) : (insOf n r)[k] = inOf (r.drop (9 * k)) := by simp [insOf]

theorem encL_cons (x : InD) (r : List InD) : encL (x :: r) = inB x ++ encL r := by simp [encL]
theorem drop_encL : ∀ (l : List InD) (k : Nat), (encL l).drop (9 * k) = encL (l.drop k)
  | [], k => by simp [encL]
  | x :: r, 0 => rfl
  | x :: r, k + 1 => by
    have e : encL (x :: r) = inB x ++ encL r := by simp [encL]
    have hl : (inB x).length = 9 := by simp [inB, be_length]
    rw [e, List.drop_append, hl, List.drop_of_length_le (by rw [hl]; omega), List.nil_append, show 9 * (k + 1) - 9 = 9 * k by omega, drop_encL r k]
    rfl
theorem inOf_inB (x : InD) (r : List UInt8) (h0 : 0 ≤ x.2) (h1 : x.2 ≤ 255) : inOf (inB x ++ r) = x := by
  have hb : (be 8 x.1.toNat).length = 8 := be_length _ _
  have e1 : (inB x ++ r).take 8 = be 8 x.1.toNat := by
    unfold inB
    rw [List.append_assoc, List.take_left' hb]
  have e2 : (inB x ++ r).getD 8 0 = UInt8.ofNat x.2.toNat := by
    unfold inB
    rw [List.append_assoc, List.getD_eq_getElem?_getD, List.getElem?_append_right (by omega), hb]
    rfl
  unfold inOf
  rw [e1, e2, numU_be]
  refine Prod.ext rfl ?_
  show ((UInt8.ofNat x.2.toNat).toNat : Int) = x.2
  rw [UInt8.toNat_ofNat']
  omega

theorem enc_shape (d : DeedD) : encB d = 68 :: UInt8.ofNat d.ins.length :: (encL d.ins ++ (UInt8.ofNat d.outs.toNat :: (be 2 d.weight.toNat ++ be 2 d.fee.toNat))) := by simp [encB]
theorem enc_second (d : DeedD) (h : d.ins.length ≤ 8) : ((encB d).getD 1 0).toNat = d.ins.length := by
  rw [enc_shape]
  show (UInt8.ofNat d.ins.length).toNat = _
  rw [UInt8.toNat_ofNat']
  omega
theorem form_enc (d : DeedD) (h : d.ins.length ≤ 8) : formD (encB d) = 0 := by
  have h1 := encB_length d
  have h2 := enc_second d h
  have h3 : (encB d).getD 0 0 = 68 := by rw [enc_shape]; rfl
  unfold formD
  rw [h1, h2, h3, if_neg (by omega), if_neg (by simp), if_neg (by omega), if_neg (by omega), if_neg (by omega)]
theorem read_enc (d : DeedD) (h : d.ins.length ≤ 8) (hat : ∀ k (hk : k < d.ins.length), 0 ≤ (d.ins[k]).2 ∧ (d.ins[k]).2 ≤ 15) (ho : 1 ≤ d.outs ∧ d.outs ≤ 16) (hw : 1 ≤ d.weight ∧ d.weight ≤ 1000) (hf : 0 ≤ d.fee ∧ d.fee ≤ 1000) :
    readD (encB d) = d := by
  have h2 := enc_second d h
  have e2 : (encB d).drop 2 = encL d.ins ++ (UInt8.ofNat d.outs.toNat :: (be 2 d.weight.toNat ++ be 2 d.fee.toNat)) := by rw [enc_shape]; rfl
  have e3 : (encB d).drop (2 + 9 * d.ins.length) = UInt8.ofNat d.outs.toNat :: (be 2 d.weight.toNat ++ be 2 d.fee.toNat) := by
    rw [← List.drop_drop, e2, List.drop_append, encL_length, List.drop_of_length_le (by rw [encL_length]; omega)]
    simp
  have hins : insOf d.ins.length ((encB d).drop 2) = d.ins := by
    apply List.ext_getElem (insOf_length _ _)
    intro k h1 h2
    rw [insOf_at, e2, List.drop_append, drop_encL, List.drop_eq_getElem_cons h2]
    rw [encL_cons, List.append_assoc]
    exact inOf_inB _ _ (hat k h2).1 (by have := (hat k h2).2; omega)
  have hb2 : ∀ x : Int, 0 ≤ x → x ≤ 1000 → ((numU (be 2 x.toNat)).toNat : Int) = x := fun x h0 h1 => by
    rw [numU_short _ (by rw [be_length]; omega), numN_be]
    omega
  unfold readD
  simp only []
  rw [h2, hins, e3]
  have t1 : ((UInt8.ofNat d.outs.toNat :: (be 2 d.weight.toNat ++ be 2 d.fee.toNat)).drop 1).take 2 = be 2 d.weight.toNat := by
    show (be 2 d.weight.toNat ++ be 2 d.fee.toNat).take 2 = _
    exact List.take_left' (be_length _ _)
  have t2 : ((UInt8.ofNat d.outs.toNat :: (be 2 d.weight.toNat ++ be 2 d.fee.toNat)).drop 3).take 2 = be 2 d.fee.toNat := by
    show ((be 2 d.weight.toNat ++ be 2 d.fee.toNat).drop 2).take 2 = _
    rw [List.drop_left' (be_length _ _), List.take_of_length_le (by rw [be_length]; omega)]
  rw [t1, t2, hb2 _ (by omega) hw.2, hb2 _ hf.1 hf.2]
  have t3 : (((UInt8.ofNat d.outs.toNat :: (be 2 d.weight.toNat ++ be 2 d.fee.toNat)).getD 0 0).toNat : Int) = d.outs := by
    show ((UInt8.ofNat d.outs.toNat).toNat : Int) = _
    rw [UInt8.toNat_ofNat']
    omega
  rw [t3]
theorem form_zero {l : List UInt8} (h : formD l = 0) : l.getD 0 0 = 68 ∧ l.length = 7 + 9 * (l.getD 1 0).toNat := by
  unfold formD at h
  split at h
  · cases h
  · split at h
    · cases h
    · split at h
      · cases h
      · split at h
        · cases h
        · split at h
          · cases h
          · rename_i h2 _ _ _
            exact ⟨by simpa using h2, by omega⟩
theorem inB_inOf (r : List UInt8) (h : 9 ≤ r.length) : inB (inOf r) = r.take 9 := by
  have hl : (r.take 8).length = 8 := by rw [List.length_take]; omega
  unfold inB inOf
  show be 8 (numU (r.take 8)).toNat ++ [UInt8.ofNat ((r.getD 8 0).toNat : Int).toNat] = _
  rw [numU_short _ (by omega)]
  have := be_numN (r.take 8)
  rw [hl] at this
  rw [this, Int.toNat_natCast, UInt8.ofNat_toNat, List.take_succ_eq_append_getElem (i := 8) (by omega), List.getD_eq_getElem?_getD, List.getElem?_eq_getElem (by omega)]
  rfl
theorem encL_insOf : ∀ (n : Nat) (r : List UInt8), 9 * n ≤ r.length → encL (insOf n r) = r.take (9 * n)
  | 0, r, _ => by simp [encL, insOf]
  | n + 1, r, h => by
    have e : insOf (n + 1) r = insOf n r ++ [inOf (r.drop (9 * n))] := by simp [insOf, List.range_succ]
    have e2 : encL (insOf n r ++ [inOf (r.drop (9 * n))]) = encL (insOf n r) ++ inB (inOf (r.drop (9 * n))) := by simp [encL]
    rw [e, e2, encL_insOf n r (by omega), inB_inOf _ (by rw [List.length_drop]; omega), show 9 * (n + 1) = 9 * n + 9 by omega, List.take_add]
theorem enc_read {l : List UInt8} (h : formD l = 0) : encB (readD l) = l := by
  obtain ⟨h0, hl⟩ := form_zero h
  obtain ⟨a, b, r, rfl⟩ : ∃ a b r, l = a :: b :: r := by
    match l, hl with
    | [], hl => simp at hl
    | [a], hl => simp at hl
    | a :: b :: r, _ => exact ⟨a, b, r, rfl⟩
  have h0 : a = 68 := h0
  have hb : (a :: b :: r).getD 1 0 = b := rfl
  rw [hb] at hl
  subst h0
  have hr : r.length = 5 + 9 * b.toNat := by simp at hl; omega
  have hn : UInt8.ofNat b.toNat = b := by simp
  have hd : (68 :: b :: r).drop (2 + 9 * b.toNat) = r.drop (9 * b.toNat) := by rw [← List.drop_drop]; rfl
  have hm : (r.drop (9 * b.toNat)).length = 5 := by rw [List.length_drop]; omega
  obtain ⟨c0, c1, c2, c3, c4, hc⟩ : ∃ c0 c1 c2 c3 c4, r.drop (9 * b.toNat) = [c0, c1, c2, c3, c4] := by
    generalize r.drop (9 * b.toNat) = q at hm
    match q, hm with
    | [c0, c1, c2, c3, c4], _ => exact ⟨c0, c1, c2, c3, c4, rfl⟩
  have hw : ∀ x y : UInt8, be 2 (numU [x, y]).toNat = [x, y] := fun x y => by
    rw [numU_short _ (by simp)]
    exact be_numN [x, y]
  unfold encB readD
  simp only [hb, hd, hc, insOf_length]
  rw [hn]
  have e1 : encL (insOf b.toNat ((68 :: b :: r).drop 2)) = r.take (9 * b.toNat) := encL_insOf b.toNat r (by omega)
  rw [e1]
  have w1 := hw c1 c2
  have w2 := hw c3 c4
  have t1 : (([c0, c1, c2, c3, c4].drop 1).take 2) = [c1, c2] := rfl
  have t2 : (([c0, c1, c2, c3, c4].drop 3).take 2) = [c3, c4] := rfl
  rw [t1, t2, Int.toNat_natCast, Int.toNat_natCast, Int.toNat_natCast, w1, w2]
  have t3 : UInt8.ofNat (([c0, c1, c2, c3, c4].getD 0 0)).toNat = c0 := by simp
  rw [t3]
  have := List.take_append_drop (9 * b.toNat) r
  rw [hc] at this
  simp only [List.append_assoc, List.cons_append, List.nil_append]
  rw [this]
theorem form_cut (d : DeedD) (h : d.ins.length ≤ 8) (k : Nat) (hk : k < (encB d).length) : formD ((encB d).take k) = 3 := by
  have h1 := encB_length d
  have h2 := enc_second d h
  have hl : ((encB d).take k).length = k := by rw [List.length_take]; omega
  unfold formD
  rw [hl]
  by_cases k0 : k = 0
  · rw [if_pos k0]
  · have g0 : ((encB d).take k).getD 0 0 = 68 := by
      rw [List.getD_eq_getElem?_getD, List.getElem?_take, if_pos (by omega), enc_shape]
      rfl
    rw [if_neg k0, g0, if_neg (by simp)]
    by_cases k1 : k < 2
    · rw [if_pos k1]
    · have g1 : ((encB d).take k).getD 1 0 = (encB d).getD 1 0 := by
        rw [List.getD_eq_getElem?_getD, List.getElem?_take, if_pos (by omega), List.getD_eq_getElem?_getD]
      rw [if_neg k1, g1, h2, if_pos (by omega)]
theorem form_more (d : DeedD) (h : d.ins.length ≤ 8) (m : List UInt8) (hm : 0 < m.length) : formD (encB d ++ m) = 4 := by
  have h1 := encB_length d
  have h2 := enc_second d h
  have hl : (encB d ++ m).length = 7 + 9 * d.ins.length + m.length := by rw [List.length_append]; omega
  have g0 : (encB d ++ m).getD 0 0 = 68 := by rw [enc_shape]; rfl
  have g1 : (encB d ++ m).getD 1 0 = (encB d).getD 1 0 := by rw [enc_shape]; rfl
  unfold formD
  rw [hl, g0, g1, h2, if_neg (by omega), if_neg (by simp), if_neg (by omega), if_neg (by omega), if_pos (by omega)]
end Go.Proofs.YtaaaplbjeknbkaaGreat
namespace Go.Proofs.YtaaaplbjeknbkaaGreat
open Go.RowKit

theorem rest_any (n m : Int) (w : World) (hm : 0 < m) (hm2 : m ≤ 9223372036854775807) :
    Calls Tryz.prog 39 #[.int .i64 n, .int .i64 m] w fun e w' => e = .returned (.int .i64 (n % m)) ∧ w = w' := by
  obtain ⟨hlo, hhi, hneg, hpos⟩ := tmod_cases n m hm
  by_cases h0 : n.tmod m < 0
  · have H := Lib.hid (hneg h0)
    clear hneg hpos
    have h1 : (0 : Int) ≤ n.tmod m + m := by omega
    go_enter Tryz.func39, Tryz.ntmps39
    go_wp2
    go_ret
    exact ⟨ret_i64 H.out, rfl⟩
  · have H := Lib.hid (hpos (by omega))
    clear hneg hpos
    go_enter Tryz.func39, Tryz.ntmps39
    go_wp2
    go_ret
    exact ⟨ret_i64 H.out, rfl⟩
theorem rest_is (n m k : Int) (w : World) (hm : 0 < m) (hm2 : m ≤ 9223372036854775807) (h : n % m = k) :
    Calls Tryz.prog 39 #[.int .i64 n, .int .i64 m] w fun e w' => e = .returned (.int .i64 k) ∧ w = w' := h ▸ rest_any n m w hm hm2
end Go.Proofs.YtaaaplbjeknbkaaGreat
namespace Go.Proofs.YtaaaplbjeknbkaaGreat
open Go.RowKit

end Go.Proofs.YtaaaplbjeknbkaaGreat
