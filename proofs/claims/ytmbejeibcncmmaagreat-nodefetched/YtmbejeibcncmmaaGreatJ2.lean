/-
  A slice of IDs that the call itself builds by append: what it owns, and one more ID.
  slices.IndexFunc and slices.DeleteFunc of IDs.
  The frame of a law's row, once for all laws: where the call returns true and nothing that was there has turned ('Below'), the row's step holds. No program is named here.
  The map of a tracker: from IDs to slices, whose values are known to the sign; perhaps with a range over it under way.
  A thing that lies inside a node's block.
  A tracker in memory.
  Contracts of package track that only look: New, isPeer, isTime, the functions that choose, find, held, flight.
-/
import Derived.Test.YtmbejeibcncmmaaGreatJ1
import Derived.Deep.AppendLies
import Derived.ProofKit
import Derived.OpenShut
import Derived.ShutString
import Derived.ChangeOld
import Derived.Below
import Derived.Carry
import Derived.SizedLaws
import Derived.Maps.OwnOps
import Derived.Maps.OwnSet
import Derived.Maps.RangeWalk
namespace Go.Proofs.YtmbejeibcncmmaaGreat
open Go.RowKit

def idV (x : UInt64) : Value := .int .u64 x.toNat
theorem owns_idsAt {w : World} {B : Nat} {v : Value} {l : List UInt64} (h : w.ownsRow B 22 1 v l.length (l.map idV)) : ∃ a cap, v = .slice a l.length cap ∧ l.length ≤ cap ∧ IdsAt w a l ∧ Fresh B a := by
  rcases h.2 with ⟨hv, hn⟩ | ⟨g, cap, cur, hv, hB, hg, hc, _, _, _⟩
  · refine ⟨none, 0, by rw [hn]; exact hv, by omega, fun i hi => absurd hi (by omega), fun _ _ _ e => by cases e⟩
  · refine ⟨some ⟨g, 0, none⟩, cap, hv, hc, fun i hi => ?_, fun b o sp e => by cases e; exact hB⟩
    have a0 := h.cells (g := g) (by rw [hv]; rfl) i (idV l[i]) (by rw [List.getElem?_map, List.getElem?_eq_getElem hi]; rfl)
    have f0 : (⟨g, 0, none⟩ : Addr).add i = ⟨g, 0 + i, none⟩ := by unfold Addr.add; split <;> simp_all
    rw [f0] at a0
    exact ⟨g, 0, rfl, (Array.getElem?_eq_some_iff.1 hg).1, a0⟩
/-- The slice v holds these IDs, in a block of its own from block B on. -/
abbrev OwnIds (w : World) (B : Nat) (v : Value) (d : List UInt64) : Prop := w.ownsRow B 22 1 v d.length (d.map idV)
theorem ownIds_nil (w : World) (B : Nat) : OwnIds w B (.slice none 0 0) [] := World.ownsRow_nil w B _ 1
theorem ownIds_below {w w' : World} {B : Nat} {v : Value} {d : List UInt64} (h : OwnIds w B v d) (hb : Below w.heap.size w w') : OwnIds w' B v d := owns_below h hb
theorem ownIds_block {w : World} {B : Nat} {v : Value} {d : List UInt64} (h : OwnIds w B v d) : ∀ k, v.ownBlock = some k → B ≤ k ∧ k < w.heap.size := fun k hk => h.lt k hk
theorem info_u64 : (Tryz.prog.info? 22).map (fun i => (i.zero, i.size, i.bytes)) = some (some (.int .u64 0), 1, 8) := by kernel_rfl
/-- 'append(s, x)': the new ID lies in a block of its own, laid just ahead. -/
theorem append_id {ops : Array Oper} {rest : List Oper} {o : Oper} {a : Act} {Q : Exit → Act → World → Prop} {w : World} (hgd : o.guard = none) (s x : Operand) (ho : o.op = .call { callee := .builtin .append, args := #[s, x], argTypes := #[37, 37] })
    {B : Nat} {v : Value} {d : List UInt64} (y : UInt64) (hs : a.eval s = v) (hx : a.eval x = .slice (some ⟨w.heap.size, 0, none⟩) 1 1) (hown : OwnIds w B v d) (hlen : d.length ≤ 1000000) (hB : B ≤ w.heap.size)
    (h : ∀ g cap w', OwnIds w' B (.slice (some ⟨g, 0, none⟩) (d.length + 1) cap) (d ++ [y]) → (w.alloc (.cells #[.int .u64 y.toNat] 22)).grownBy w' v.ownBlock → w.grownBy w' v.ownBlock → wpList Tryz.prog ops Q rest (a.put o.dst (.slice (some ⟨g, 0, none⟩) (d.length + 1) cap)) w') :
    wpList Tryz.prog ops Q (o :: rest) a (w.alloc (.cells #[.int .u64 y.toNat] 22)) := by
  obtain ⟨i0, hi0, hz0, hz1, hz2⟩ := info_parts info_u64
  refine wpList_append_lies _ hgd s x 37 ho B 22 i0 (.int .u64 0) 1 8 Tryz.underlying37 hi0 hz0 hz1 hz2 rfl (by decide) v d.length (d.map idV) hs (hown.alloc _) ⟨w.heap.size, 0, none⟩ 1 1 [.int .u64 y.toNat] hx rfl (cells_new w _ _) (by simp [Value.oneCell']) (by decide) (by unfold maxLen; omega) (by omega) (by simp; omega) _ rfl ?_
  intro g cap w1 hown' hgrow _ _
  refine h g cap w1 ?_ hgrow ((World.grownBy_alloc w _ _).trans hgrow)
  unfold OwnIds
  rw [List.length_append, List.map_append]
  exact hown'
end Go.Proofs.YtmbejeibcncmmaaGreat
namespace Go.Proofs.YtmbejeibcncmmaaGreat.Tr
open Go.RowKit

/-- A function value that says of an ID whether it is chosen, in every world that keeps K. -/
def PicksI (K : World → Prop) (f : FuncId) (cap : Array Value) (q : UInt64 → Bool) : Prop :=
  (∀ (args : Array Value) (w : World), (callFunc f args).run Tryz.prog w = .ok (.enter f args) w) ∧
  ∀ (x : UInt64) (w : World), K w → Calls Tryz.prog f (#[.int .u64 x.toNat] ++ cap) w fun e w' => e = .returned (.bool (q x)) ∧ Below w.heap.size w w'

set_option maxRecDepth 20000 in
theorem indexId_any (K : World → Prop) (hK : ∀ a b, K a → Below a.heap.size a b → K b) (f : FuncId) (cap : Array Value) (q : UInt64 → Bool) (hp : PicksI K f cap q) (l : List UInt64) (a : Option Addr) (cp : Nat) (w : World) (hw : K w) (hl : l.length ≤ 20) (hi : IdsAt w a l) :
    Calls Tryz.prog 149 #[.slice a l.length cp, .func (.func f) #[] cap] w fun e w' => e = .returned (.int .i64 (firstAt q l)) ∧ Below w.heap.size w w' := by
  have hcf := hp.1
  have HP := Lib.hid hp.2
  have HK := Lib.hid hK
  have HW := Lib.hid hw
  clear hp hK hw
  go_enter Tryz.func149, Tryz.ntmps149
  go_wp2
  go_loopw [8] (fun i wr => ∃ k : Nat, k ≤ l.length ∧ i = .int .i64 k ∧ Hid ((l.take k).findIdx? q = none) ∧ Below w.heap.size w wr) (fun i _ => l.length - (intOf i).toNat)
  case atStart => exact ⟨0, Nat.zero_le _, rfl, Lib.hid rfl, Below.refl _ _⟩
  case round =>
    obtain ⟨k, hk, rfl, NO, hbel⟩ := hrel
    by_cases hlt : k < l.length
    · obtain ⟨b, o, rfl, hb, c0⟩ := idsAt_kept hbel hi k hlt
      go_wp2_with fail
      refine (HP.out l[k] _ (HK.out _ _ HW.out hbel)).mono ?_
      rintro e w1 ⟨rfl, hb1⟩
      cases hq : q l[k] with
      | true =>
        have HQ := Lib.hid hq
        clear hq
        go_wp2
        go_ret
        refine ⟨ret_i64 ?_, kept_trans hbel hb1⟩
        exact (firstAt_hit hlt NO.out HQ.out).symm
      | false =>
        have HQ := Lib.hid hq
        clear hq
        go_wp2
        go_roundw
        case rel => exact ⟨k + 1, by omega, by go_num, Lib.hid (firstAt_miss hlt NO.out HQ.out), kept_trans hbel hb1⟩
        case measure => simp [intOf]; omega
    · go_wp2
      go_ret
      refine ⟨ret_i64 ?_, hbel⟩
      have := NO.out
      rw [List.take_of_length_le (by omega)] at this
      unfold firstAt
      rw [this]

theorem zero_u64 (w : World) : (zeroValue 22).run Tryz.prog w = .ok (.int .u64 0) w := by kernel_rfl
theorem ids_clear {w : World} {g cap i n : Nat} {m : List UInt64} (hi : i < n) (hn : m.length = n) (ho : OwnIds w 0 (.slice (some ⟨g, 0, none⟩) n cap) m) :
    ∃ w', (∀ ty, (Builtin.clear_ #[37] ty #[.slice (some ⟨g, i, none⟩) (n - i) (cap - i)]).run Tryz.prog w = .ok (.tuple #[]) w') ∧ OwnIds w' 0 (.slice (some ⟨g, 0, none⟩) i cap) (m.take i) ∧ Turn (fun k => k = g) (fun k => k = g) w w' := by
  subst hn
  obtain ⟨w', h1, h2, h3⟩ := clear_row (t := 37) (size := 1) _ Tryz.underlying37 zero_u64 rfl (by decide) (by decide) hi ho
  simp only [Nat.mul_one] at h1 h2
  refine ⟨w', h1, ?_, h3⟩
  unfold OwnIds
  rw [List.map_take, List.length_take, Nat.min_eq_left (Nat.le_of_lt hi)]
  exact h2
theorem id_stored {w : World} {g cap n : Nat} {m : List UInt64} (ho : OwnIds w 0 (.slice (some ⟨g, 0, none⟩) n cap) m) (hn : m.length = n) (i : Nat) (x : UInt64) : OwnIds (w.setCell ⟨g, i, none⟩ (.int .u64 x.toNat)) 0 (.slice (some ⟨g, 0, none⟩) n cap) (m.set i x) ∧ Turn (fun k => k = g) (fun k => k = g) w (w.setCell ⟨g, i, none⟩ (.int .u64 x.toNat)) := by
  subst hn
  refine ⟨?_, Turn.set (F := fun k => k = g) w ⟨g, i, none⟩ _ rfl⟩
  unfold OwnIds
  rw [List.map_set, List.length_set]
  exact (ho.stored i _).1
/-- The owned slice in the case that it is not nil. -/
theorem ownIds_some {w : World} {g cap n : Nat} {l : List UInt64} (h : OwnIds w 0 (.slice (some ⟨g, 0, none⟩) n cap) l) (i : Nat) (hi : i < l.length) : w.cell? ⟨g, i, none⟩ = some (.int .u64 l[i].toNat) ∧ w.frozen? ⟨g, i, none⟩ = false ∧ g < w.heap.size := by
  obtain ⟨a, c, e, _, hat, _⟩ := owns_idsAt h
  simp only [Value.slice.injEq] at e
  obtain ⟨rfl, rfl, rfl⟩ := e
  obtain ⟨b, o, e, hb, hc⟩ := hat i hi
  simp only [Option.some.injEq, Addr.mk.injEq, and_true] at e
  obtain ⟨rfl, rfl⟩ := e
  rw [Nat.zero_add] at hc
  exact ⟨hc, h.frozenAt i, hb⟩

set_option maxRecDepth 20000 in
theorem deleteId_any (K : World → Prop) (hK : ∀ a b, K a → Below a.heap.size a b → K b) (f : FuncId) (fc : Array Value) (q : UInt64 → Bool) (hp : PicksI K f fc q) (l : List UInt64) (g cap : Nat) (w : World) (hw : K w) (hKs : ∀ a j u, K a → K (a.setCell ⟨g, j, none⟩ u)) (hl : l.length ≤ 20)
    (ho : OwnIds w 0 (.slice (some ⟨g, 0, none⟩) l.length cap) l) :
    Calls Tryz.prog 113 #[.slice (some ⟨g, 0, none⟩) l.length cap, .func (.func f) #[] fc] w fun e w' => ∃ n c, e = .returned (.slice (some ⟨g, 0, none⟩) n c) ∧ OwnIds w' 0 (.slice (some ⟨g, 0, none⟩) n c) (l.filter fun e => !q e) ∧ Turn (fun k => k = g) (fun k => k = g) w w' := by
  have hcf := hp.1
  have HPP := Lib.hid hp
  have HP := Lib.hid hp.2
  have HK := Lib.hid hK
  have HKs := Lib.hid hKs
  have HW := Lib.hid hw
  clear hp hK hw hKs
  obtain ⟨a0, c0, e0, hc0, hat, _⟩ := owns_idsAt ho
  simp only [Value.slice.injEq, true_and] at e0
  obtain ⟨rfl, rfl⟩ := e0
  have HO := Lib.hid ho
  clear ho
  go_enter Tryz.func113, Tryz.ntmps113
  go_wp2_with fail
  refine (indexId_any K HK.out f fc q HPP.out l _ _ w HW.out hl hat).mono ?_
  rintro e w1 ⟨rfl, hb1⟩
  cases hx : l.findIdx? q with
  | none =>
    have e1 : firstAt q l = -1 := by unfold firstAt; rw [hx]
    have HX := Lib.hid hx
    rw [e1]
    clear hx e1
    go_wp2
    go_ret
    exact ⟨_, _, rfl, by rw [filter_none HX.out]; exact owns_below HO.out hb1, Turn.of_below hb1⟩
  | some i0 =>
    have e1 : firstAt q l = (i0 : Int) := by unfold firstAt; rw [hx]
    have hi0 : i0 < l.length := by have := List.findIdx?_eq_some_iff_getElem.1 hx; exact this.1
    have HX := Lib.hid hx
    have hne : ((i0 : Int) == -1) = false := by rw [beq_eq_false_iff_ne]; omega
    rw [e1]
    clear hx e1
    go_wp2
    go_loopw [5, 6] (fun vi vj wr => ∃ (i j : Nat) (m : List UInt64), vi = .int .i64 i ∧ vj = .int .i64 j ∧ i < j ∧ j ≤ l.length ∧ m.length = l.length ∧ Hid (OwnIds wr 0 (.slice (some ⟨g, 0, none⟩) l.length cap) m) ∧
      Hid (m.take i = (l.take j).filter (fun e => !q e)) ∧ Hid (m.drop j = l.drop j) ∧ Hid (Turn (fun k => k = g) (fun k => k = g) w wr) ∧ Hid (K wr)) (fun _ j _ => l.length - (intOf j).toNat)
    case atStart => exact ⟨i0, i0 + 1, l, rfl, by go_num, by omega, by omega, rfl, Lib.hid (owns_below HO.out hb1), Lib.hid (take_filter_start HX.out), Lib.hid rfl, Lib.hid (Turn.of_below hb1), Lib.hid (HK.out _ _ HW.out hb1)⟩
    case round =>
      obtain ⟨i, j, m, rfl, rfl, hij, hj, hml, HO, HT, HD, HU, HKw⟩ := hrel
      by_cases hlt : j < l.length
      · obtain ⟨c0, _, hgl⟩ := ownIds_some HO.out j (by omega)
        go_wp2_with fail
        refine (HP.out m[j] _ HKw.out).mono ?_
        rintro e w2 ⟨rfl, hb3⟩
        cases hq : q m[j] with
        | true =>
          have HQ := Lib.hid hq
          clear hq
          go_wp2
          go_roundw
          case rel =>
            obtain ⟨hm1, hm2⟩ := drop_at HD.out (by omega) hlt
            exact ⟨i, j + 1, m, rfl, by go_num, by omega, by omega, hml, Lib.hid (owns_below HO.out hb3), Lib.hid (take_filter_out hlt HT.out (by rw [← hm1, HQ.out]; rfl)), Lib.hid hm2, Lib.hid (HU.out.trans (Turn.of_below hb3)), Lib.hid (HK.out _ _ HKw.out hb3)⟩
          case measure => simp [intOf]; omega
        | false =>
          have HQ := Lib.hid hq
          clear hq
          obtain ⟨k0, f0, hgl2⟩ := ownIds_some (owns_below HO.out hb3) i (by omega)
          go_wp2
          go_roundw
          case rel =>
            obtain ⟨hm1, hm2⟩ := drop_at HD.out (by omega) hlt
            obtain ⟨r1, r2⟩ := id_stored (owns_below HO.out hb3) hml i m[j]
            exact ⟨i + 1, j + 1, m.set i m[j], by go_num, by go_num, by omega, by omega, by simpa using hml, Lib.hid r1, Lib.hid (by rw [hm1]; exact take_filter_in (by omega) hlt HT.out (by rw [← hm1, HQ.out]; rfl)), Lib.hid (by rw [drop_set _ (by omega)]; exact hm2), Lib.hid ((HU.out.trans (Turn.of_below hb3)).trans r2), Lib.hid (HKs.out _ _ _ (HK.out _ _ HKw.out hb3))⟩
          case measure => simp [intOf]; omega
      · obtain ⟨w3, hcl, ho3, ht3⟩ := ids_clear (i := i) (by omega) hml HO.out
        have HO3 := Lib.hid ho3
        have HT3 := Lib.hid ht3
        clear ho3 ht3
        go_wp2_with fail
        go_ret
        have hj' : j = l.length := by omega
        have h4 := HT.out
        rw [hj', List.take_of_length_le (Nat.le_refl _)] at h4
        exact ⟨_, _, rfl, by rw [← h4]; exact HO3.out, HU.out.trans HT3.out⟩
end Go.Proofs.YtmbejeibcncmmaaGreat.Tr
namespace Go.Proofs.YtmbejeibcncmmaaGreat
open Go.ChangeShapes Go.WideShapes Go.ChangeAt Go.RowKit

/-- All arguments read behind the call as they read before it, through the same places. -/
theorem trodAll_stays {H : Type} {enc : TypeId × Value → H} {P : Program} (hl : laidOutB P = true) {W W' : World} (hb : Below W.heap.size W W') :
    ∀ (ts : List TypeId) (vs : List Value) (ds : List (DataW H)) (ps : List MemPlace), (ts.all fun t => P.readableRec t && decide (t < P.types.size)) = true →
      DataW.TrodAll enc P W 0 (fun _ => true) true ts vs ds ps → DataW.TrodAll enc P W' 0 (fun b => decide (b < W.heap.size)) true ts vs ds ps
  | [], vs, ds, ps, _, h => by
    obtain ⟨rfl, rfl, rfl⟩ := trodAll_nil h
    exact trodAll_mk0
  | t :: ts, vs, ds, ps, hr, h => by
    obtain ⟨v, vs', d, ds', p, q, rfl, rfl, rfl, h0, r0⟩ := trodAll_cons h
    simp only [List.all_cons, Bool.and_eq_true, decide_eq_true_eq] at hr
    have lt0 : ∀ x ∈ p, x.block < W.heap.size := by obtain ⟨m, hm⟩ := h0; exact DataW.trod_lt m _ _ _ hm
    exact trodAll_cons_mk (Below.trod hl hr.1.1 hr.1.2 h0 hb lt0) (trodAll_stays hl hb ts vs' ds' q (by simpa using hr.2) r0)

theorem trodAll_length {H : Type} {enc : TypeId × Value → H} {P : Program} {W : World} {base : Nat} {spare : Nat → Bool} {held : Bool} :
    ∀ {ts : List TypeId} {vs : List Value} {ds : List (DataW H)} {ps : List MemPlace}, DataW.TrodAll enc P W base spare held ts vs ds ps → ds.length = ts.length
  | [], vs, ds, ps, h => by obtain ⟨rfl, rfl, rfl⟩ := trodAll_nil h; rfl
  | t :: ts, vs, ds, ps, h => by
    obtain ⟨v, vs', d, ds', p, q, rfl, rfl, rfl, h0, r0⟩ := trodAll_cons h
    simp [trodAll_length r0]

theorem wf_u64 {x : Int} (h : (Lit.int .u64 x).wf = true) : ∃ u : UInt64, x = (u.toNat : Int) := by
  have b := bounds_u64 h
  refine ⟨UInt64.ofNat x.toNat, ?_⟩
  rw [UInt64.toNat_ofNat_of_lt' (by show x.toNat < 18446744073709551616; omega)]
  omega
theorem wf_u8 {x : Int} (h : (Lit.int .u8 x).wf = true) : ∃ u : UInt8, x = (u.toNat : Int) := by
  have b := bounds_u8 h
  refine ⟨UInt8.ofNat x.toNat, ?_⟩
  rw [UInt8.toNat_ofNat_of_lt' (by show x.toNat < 256; omega)]
  omega

/-- THE ROW's STEP OF A LAW. -/
theorem law_lifted {C : Checked} {os : Os} {f : FuncId} {fn : Func} {s : ChangeSpec} {tb : TypeId} {H : Type} {enc : TypeId × Value → H}
    (own : ownKnob C.prog.godebug = none) (started : os.Started) (noInit : C.prog.inits.idxOf? f = none) (hfn : C.prog.funcs[f]? = some fn)
    (laid : laidOutB C.prog = true) (hread : (fn.params.toList.all fun t => C.prog.readableRec t && decide (t < C.prog.types.size)) = true)
    (hvars : s.vars = []) (hres : fn.resultTypes = #[tb]) (htb : C.prog.underlying tb = some .bool)
    (hspec : ∀ ds : List (DataW H), ds.length = fn.params.size → s.fn H ds = { results := [.lit (.bool true)], args := ds })
    (witness : ∃ (w : World) (tape : Tape) (i : Input), w.os = os ∧ (w.forCall tape i).Shaped C.prog ∧ i.vars = [] ∧ Input.okWide C.prog (w.forCall tape i) .any w.heap.size f i ∧
      s.pre6 enc C.prog fn [] false (w.forCall tape i).memory i.args ∧ ({} : Assume).holds C.prog (lone (Frame.enter C.prog f i.args .normal) [] (w.forCall tape i)))
    (walk : ∀ (W : World) (base : Nat) (args : Array Value) (ds : List (DataW H)) (p : List MemPlace),
      (∀ (j : Nat) t v, fn.params[j]? = some t → args[j]? = some v → Value.okWide C.prog W .any base t v) →
      DataW.TrodAll enc C.prog W 0 (fun _ => true) true fn.params.toList args.toList ds p →
      (DataW.weightsEach C.prog fn.params.toList ds).all (· ≤ reachBytes) = true →
      Calls C.prog f args W fun e W' => e = .returned (.bool true) ∧ Below W.heap.size W W') :
    ReturnsInHanded {} C os f .any (s.pre6 enc C.prog fn [] false) (s.post enc C.prog fn false true false false) := by
  refine returnsInHanded_of_change_sized (C := C) own started noInit hfn witness ?_
  intro W base args ds gs before hval hW _ hsz _
  have hW' := hW
  obtain ⟨p, q, hA, hV, rfl, hfz, hnd⟩ := hW
  rw [hvars] at hV
  obtain ⟨rfl, rfl⟩ := trodVars_none hV
  have hlen : ds.length = fn.params.size := by rw [trodAll_length hA]; simp
  have hsz' : (DataW.weightsEach C.prog fn.params.toList ds).all (· ≤ reachBytes) = true := by
    have e : s.plain.varTypes C.prog = [] := by
      simp [DataSpec.varTypes, ChangeSpec.plain, hvars]
    rw [e, List.append_nil, List.append_nil] at hsz
    exact hsz
  refine (walk W base args ds p hval hA hsz').mono fun e W' ⟨he, bel⟩ => ?_
  subst he
  have hs : s.fn H (ds ++ []) = { results := [.lit (.bool true)], args := ds } := by rw [List.append_nil]; exact hspec ds hlen
  refine ⟨_, rfl, ds, [], p ++ [], [], p, [], hW', ?_, ?_, ?_, bel.frame _, fun h => by cases h⟩
  · rw [hs, hres]
    exact trodAll_mk1 (shut_bool htb _)
  · rw [hs]
    exact trodAll_stays laid bel _ _ _ _ hread hA
  · rw [hvars, hs]
    exact rfl
end Go.Proofs.YtmbejeibcncmmaaGreat
namespace Go.Proofs.YtmbejeibcncmmaaGreat.Tr
open Go.RowKit Go.Maps

theorem u64_keyed : Maps.Keyed Tryz.prog 22 := int_keyed Tryz.underlying22
theorem u64_key (x : UInt64) : keyOf Tryz.prog 22 (.int .u64 x.toNat) = some (.int .u64 x.toNat) := keyOf_int_mk Tryz.underlying22 (wf_u64_of x)
theorem lit_ne {x y : UInt64} (h : x ≠ y) : Lit.int .u64 x.toNat ≠ Lit.int .u64 y.toNat := fun e => h (by simp only [Lit.int.injEq, true_and] at e; exact u64_inj e)
theorem same_lit (x y : UInt64) : (Lit.int .u64 x.toNat).sameKey (.int .u64 y.toNat) = (x == y) := by
  rw [Bool.eq_iff_iff]
  constructor
  · intro h
    have := WideAt.sameKey_eq h
    simp only [Lit.int.injEq, true_and] at this
    exact beq_iff_eq.2 (u64_inj this)
  · intro h
    rw [beq_iff_eq.1 h]
    exact WideAt.sameKey_self (u64_keyed.key (u64_key y))

/-- An element is its own reading. -/
def exactE (v : Value) : Option (DataW Value × List MemPlace) := some (.held v, [])
/-- A range over a map under way: its iterator, what is to come, how many. -/
structure It where
  r : Nat
  left : Lit → Bool
  cnt : Nat
/-- Block b is a map that reads as D, with a range over it under way or none. -/
def MapIs (w : World) (b : Nat) (it : Option It) (D : DataW Value) : Prop :=
  ∃ n, match it with
  | none => w.ownsMap Tryz.prog 22 exactE b n D
  | some i => w.ranges Tryz.prog 22 exactE b i.r n D i.left i.cnt
theorem mapIs_owns {w : World} {b : Nat} {it : Option It} {D : DataW Value} (h : MapIs w b it D) : ∃ n, w.ownsMap Tryz.prog 22 exactE b n D := by
  obtain ⟨n, h⟩ := h
  cases it with
  | none => exact ⟨n, h⟩
  | some i => exact ⟨n, World.ranges.owns h⟩
/-- The map holds these values under these IDs, and no others. -/
def TMap (w : World) (b : Nat) (it : Option It) (ev : UInt64 → Option Value) : Prop :=
  ∃ D, MapIs w b it D ∧ (∀ x v, ev x = some v → ∀ z, D.atKey (.int .u64 x.toNat) z = .held v) ∧ (∀ x, Maps.has D (.int .u64 x.toNat) = (ev x).isSome)
theorem tmap_lt {w : World} {b : Nat} {it : Option It} {ev : UInt64 → Option Value} (h : TMap w b it ev) : b < w.heap.size := by
  obtain ⟨D, hm, _⟩ := h
  obtain ⟨n, hn⟩ := mapIs_owns hm
  exact hn.lt
theorem tmap_same {w w' : World} {b : Nat} {it : Option It} {ev : UInt64 → Option Value} (h : TMap w b it ev) (e : w'.heap[b]? = w.heap[b]?) (er : ∀ i, it = some i → w'.heap[i.r]? = w.heap[i.r]?) : TMap w' b it ev := by
  obtain ⟨D, ⟨n, hm⟩, r2⟩ := h
  refine ⟨D, ⟨n, ?_⟩, r2⟩
  cases it with
  | none =>
    obtain ⟨es, clock, hb, r⟩ := hm
    exact ⟨es, clock, e.trans hb, r⟩
  | some i =>
    obtain ⟨es, clock, since, seen, c0, hb, q1, q2, q3, hr, r⟩ := hm
    exact ⟨es, clock, since, seen, c0, e.trans hb, q1, q2, q3, (er i rfl).trans hr, r⟩
theorem tmap_new (w : World) : TMap (w.alloc (.map #[] 0)) w.heap.size none (fun _ => none) := ⟨.map [], ⟨0, World.ownsMap_made w _ _ _⟩, fun x v h => by simp at h, fun x => rfl⟩
theorem zero_slice (w : World) : (zeroValue 155).run Tryz.prog w = .ok (.slice none 0 0) w := by kernel_rfl
theorem tmap_look {w : World} {b : Nat} {it : Option It} {ev : UInt64 → Option Value} (h : TMap w b it ev) (x : UInt64) :
    (Instr.lookup 87 (.map (some b)) (.int .u64 x.toNat) false).run Tryz.prog w = .ok ((ev x).getD (.slice none 0 0)) w := by
  obtain ⟨D, hm, hat, hhas⟩ := h
  obtain ⟨n, hD⟩ := mapIs_owns hm
  obtain ⟨u, ps, hrun, hu⟩ := hD.lookup u64_keyed Tryz.underlying87 (zero_slice w) (zd := .held (.slice none 0 0)) (zp := []) rfl (u64_key x)
  rw [hrun]
  unfold exactE at hu
  simp only [Option.some.injEq, Prod.mk.injEq] at hu
  cases hx : ev x with
  | some v =>
    rw [hat x v hx] at hu
    have := hu.1
    simp only [DataW.held.injEq] at this
    rw [this]
    rfl
  | none =>
    have h0 := hhas x
    rw [hx] at h0
    rw [atKey_of_not_has h0] at hu
    have := hu.1
    simp only [DataW.held.injEq] at this
    rw [this]
    rfl
/-- What is left where a key is taken out. -/
def It.drop (i : It) (x : UInt64) (n : Nat) : It := ⟨i.r, fun z => i.left z && !z.sameKey (.int .u64 x.toNat), n⟩
theorem mapTurned_turn {w w' : World} {b : Nat} (h : w.mapTurned w' b) : Turn (fun k => k = b) (fun k => k = b) w w' := Turn.of_grown h.grown (fun k hk => by cases hk; rfl)
theorem del_has {D : DataW Value} {ev : UInt64 → Option Value} (h : ∀ x : UInt64, Maps.has D (.int .u64 x.toNat) = (ev x).isSome) (x y : UInt64) : Maps.has (D.del (.int .u64 x.toNat)) (.int .u64 y.toNat) = (if y = x then none else ev y).isSome := by
  by_cases e : y = x
  · rw [e, if_pos rfl, has_del_same]; rfl
  · rw [if_neg e, has_del_other (lit_ne e), h y]
theorem del_at {D : DataW Value} {ev : UInt64 → Option Value} (h : ∀ x v, ev x = some v → ∀ z, D.atKey (.int .u64 x.toNat) z = .held v) (x y : UInt64) (v : Value) (hy : (if y = x then none else ev y) = some v) (z : DataW Value) : (D.del (.int .u64 x.toNat)).atKey (.int .u64 y.toNat) z = .held v := by
  by_cases e : y = x
  · rw [if_pos e] at hy; cases hy
  · rw [if_neg e] at hy
    rw [atKey_del_other (lit_ne e), h y v hy]
theorem tmap_delete {w : World} {b : Nat} {it : Option It} {ev : UInt64 → Option Value} (h : TMap w b it ev) (x : UInt64) :
    ∃ w', (∀ ty, (Builtin.delete_ #[87, 22] ty #[.map (some b), .int .u64 x.toNat]).run Tryz.prog w = .ok (.tuple #[]) w') ∧
      (∃ n, (∀ i, it = some i → n ≤ i.cnt) ∧ TMap w' b (it.map fun i => i.drop x n) (fun y => if y = x then none else ev y)) ∧ Turn (fun k => k = b) (fun k => k = b) w w' := by
  obtain ⟨D, ⟨n, hm⟩, hat, hhas⟩ := h
  cases it with
  | none =>
    obtain ⟨w', hrun, ho, ht⟩ := World.ownsMap.drop hm u64_keyed Tryz.underlying87 (u64_key x) 0
    exact ⟨w', fun ty => hrun, ⟨0, (fun i hi => by cases hi), _, ⟨n, ho⟩, fun y v hy z => del_at hat x y v hy z, fun y => del_has hhas x y⟩, mapTurned_turn ht⟩
  | some i =>
    obtain ⟨w', cnt', hrun, ho, hc, ht⟩ := World.ranges.drop hm u64_keyed Tryz.underlying87 (u64_key x) 0
    exact ⟨w', fun ty => hrun, ⟨cnt', (fun j hj => by cases hj; exact hc), _, ⟨n, ho⟩, fun y v hy z => del_at hat x y v hy z, fun y => del_has hhas x y⟩, mapTurned_turn ht⟩
/-- As many keys as there are entries. -/
theorem nodup_le : ∀ {a b : List UInt64}, a.Nodup → (∀ x ∈ a, x ∈ b) → a.length ≤ b.length
  | [], _, _, _ => Nat.zero_le _
  | x :: r, b, hn, hs => by
    obtain ⟨hx, hr⟩ := List.nodup_cons.1 hn
    have hxb : x ∈ b := hs x (by simp)
    have := nodup_le hr (b := b.erase x) (fun y hy => (List.mem_erase_of_ne (show y ≠ x from fun e => hx (e ▸ hy))).2 (hs y (by simp [hy])))
    rw [List.length_erase_of_mem hxb] at this
    have h1 : 0 < b.length := List.length_pos_of_mem hxb
    simp only [List.length_cons]
    omega
def litId : Lit → UInt64
  | .int _ a => UInt64.ofNat a.toNat
  | _ => 0
theorem litId_mk (x : UInt64) : litId (.int .u64 x.toNat) = x := by simp [litId]
theorem tmap_small {w : World} {b : Nat} {D : DataW Value} {n : Nat} (h : w.ownsMap Tryz.prog 22 exactE b n D) (ks : List UInt64) (hks : ∀ x : UInt64, Maps.has D (.int .u64 x.toNat) = true → x ∈ ks) : w.ownsMap Tryz.prog 22 exactE b ks.length D := by
  obtain ⟨es, clock, hb, F, hs, hD⟩ := h
  refine ⟨es, clock, hb, F, ?_, hD⟩
  have hkeys : ∀ p ∈ es.toList.map (WideElems.rg Tryz.prog 22 exactE), ∃ x : UInt64, p.1 = .int .u64 x.toNat := fun p hp => by
    obtain ⟨v, hv⟩ := fit_keys F p hp
    obtain ⟨a, _, e, hw⟩ := keyOf_int_inv Tryz.underlying22 hv
    obtain ⟨u, rfl⟩ := wf_u64 hw
    exact ⟨u, e⟩
  have hap := fit_apart u64_keyed F
  have hnd : ((es.toList.map (WideElems.rg Tryz.prog 22 exactE)).map fun p => litId p.1).Nodup := by
    unfold List.Nodup
    rw [List.pairwise_map]
    refine List.Pairwise.imp_of_mem (fun {p q} hp hq hne => ?_) hap
    obtain ⟨x, hx⟩ := hkeys p hp
    obtain ⟨y, hy⟩ := hkeys q hq
    rw [hx, hy, litId_mk, litId_mk]
    intro e
    exact hne (by rw [hx, hy, e])
  have hsub : ∀ x ∈ (es.toList.map (WideElems.rg Tryz.prog 22 exactE)).map (fun p => litId p.1), x ∈ ks := fun x hx => by
    obtain ⟨p, hp, rfl⟩ := List.mem_map.1 hx
    obtain ⟨y, hy⟩ := hkeys p hp
    rw [hy, litId_mk]
    refine hks y ?_
    rw [hD, has_eq, List.any_eq_true]
    exact ⟨p, mem_sorted.2 hp, by rw [hy, same_lit]; simp⟩
  have := nodup_le hnd hsub
  simpa using this
theorem tmap_put {w : World} {b : Nat} {ev : UInt64 → Option Value} (h : TMap w b none ev) (ks : List UInt64) (hks : ∀ x, (ev x).isSome = true → x ∈ ks) (hkl : ks.length ≤ 1000) (x : UInt64) (v : Value) :
    ∃ w', (Instr.mapUpdate 87 (.map (some b)) (.int .u64 x.toNat) v).run Tryz.prog w = .ok () w' ∧ TMap w' b none (fun y => if y = x then some v else ev y) ∧ Turn (fun k => k = b) (fun k => k = b) w w' := by
  obtain ⟨D, ⟨n, hm⟩, hat, hhas⟩ := h
  have hm2 := tmap_small hm ks (fun y hy => hks y (by rw [← hhas y]; exact hy))
  obtain ⟨w', hrun, ho, hg⟩ := hm2.update u64_keyed Tryz.underlying87 (by unfold maxLen; omega) (u64_key x) (val := v) (d := .held v) (ps := []) rfl
  refine ⟨w', hrun, ⟨_, ⟨_, ho⟩, fun y u hy z => ?_, fun y => ?_⟩, Turn.of_grown hg (fun k hk => by cases hk; rfl)⟩
  · replace hy : (if y = x then some v else ev y) = some u := hy
    by_cases e : y = x
    · rw [if_pos e] at hy
      cases hy
      rw [e, atKey_put_same hm2.isMap (u64_keyed.key (u64_key _))]
    · rw [if_neg e] at hy
      rw [atKey_put_other (lit_ne e), hat y u hy]
  · show _ = (if y = x then some v else ev y).isSome
    by_cases e : y = x
    · rw [e, if_pos rfl, has_put_same hm2.isMap (u64_keyed.key (u64_key _))]
      rfl
    · rw [if_neg e, has_put_other (lit_ne e), hhas y]
end Go.Proofs.YtmbejeibcncmmaaGreat.Tr
namespace Go.Proofs.YtmbejeibcncmmaaGreat
open Go.RowKit

/-- The block of a node, and the cells of it that are not the thing's own. -/
structure Loc where
  b : Nat
  oc : Nat → Value
end Go.Proofs.YtmbejeibcncmmaaGreat
namespace Go.Proofs.YtmbejeibcncmmaaGreat.Tr
open Go.RowKit Go.Maps

/-- A tracker as plain data: its salt, the entries of each ID that has some in the map, the IDs of each peer. -/
structure TS where
  salt : UInt64
  E : UInt64 → Option (List TEnt)
  I : Nat → List UInt64
/-- The entries of an ID. -/
def TS.ents (s : TS) (x : UInt64) : List TEnt := (s.E x).getD []
/-- A function with another value in one place. -/
def upd {α β : Type} [DecidableEq α] (f : α → β) (a : α) (v : β) : α → β := fun x => if x = a then v else f x
theorem upd_same {α β : Type} [DecidableEq α] (f : α → β) (a : α) (v : β) : upd f a v a = v := if_pos rfl
theorem upd_other {α β : Type} [DecidableEq α] (f : α → β) {a x : α} (v : β) (h : x ≠ a) : upd f a v x = f x := if_neg h
/-- The cells of a node, ten of them its tracker's. -/
def trackC (oc : Nat → Value) (salt : UInt64) (b : Nat) (pv : Nat → Value) : Array Value := #[oc 0, oc 1, oc 2, oc 3, oc 4, oc 5, oc 6, oc 7, oc 8, oc 9, oc 10, oc 11, oc 12, oc 13, oc 14, oc 15, oc 16, .int .u64 salt.toNat, .map (some b), pv 0, pv 1, pv 2, pv 3, pv 4, pv 5, pv 6, pv 7, oc 27, oc 28, oc 29, oc 30, oc 31, oc 32, oc 33]
/-- Block R.b is a tracker with the data s: its map lies in block b and holds the slices ev, the peers' slices are pv; F: the blocks that it owns. -/
structure TrackAt (w : World) (F : Nat → Prop) (R : Loc) (it : Option It) (s : TS) (b : Nat) (ev : UInt64 → Option Value) (pv : Nat → Value) : Prop where
  head : w.heap[R.b]? = some (.cells (trackC R.oc s.salt b pv) 107 (0, 0))
  map : TMap w b it ev
  ents : ∀ x, (ev x = none ∧ s.E x = none) ∨ ∃ v l, ev x = some v ∧ s.E x = some l ∧ OwnEnts w v l
  ids : ∀ p, p < 8 → OwnIds w 0 (pv p) (s.I p)
  eapart : ∀ x y u v g, ev x = some u → ev y = some v → u.ownBlock = some g → v.ownBlock = some g → x = y
  papart : ∀ p q g, p < 8 → q < 8 → (pv p).ownBlock = some g → (pv q).ownBlock = some g → p = q
  fR : F R.b
  fb : F b
  fe : ∀ x v g, ev x = some v → v.ownBlock = some g → F g
  fp : ∀ p g, p < 8 → (pv p).ownBlock = some g → F g
  there : There w F
  out : ∀ i, it = some i → ¬ F i.r ∧ i.r < w.heap.size

theorem own_at {w : World} {B : Nat} {e : TypeId} {size n : Nat} {v : Value} {xs : List Value} {g : Nat} (h : w.ownsRow B e size v n xs) (hg : v.ownBlock = some g) : ∃ cur, w.heap[g]? = some (.cells cur e (0, 0)) := by
  rcases h.2 with ⟨hv, _⟩ | ⟨g', cap, cur, hv, _, hh, _⟩
  · rw [hv] at hg; cases hg
  · rw [hv] at hg
    simp only [Value.ownBlock, Option.some.injEq] at hg
    subst hg
    exact ⟨cur, hh⟩
theorem own_same {w w' : World} {B : Nat} {e : TypeId} {size n : Nat} {v : Value} {xs : List Value} (h : w.ownsRow B e size v n xs) (hs : ∀ g, v.ownBlock = some g → w'.heap[g]? = w.heap[g]?) : w'.ownsRow B e size v n xs := by
  refine ⟨h.1, ?_⟩
  rcases h.2 with hv | ⟨g, cap, cur, hv, hb, hh, r⟩
  · exact .inl hv
  · exact .inr ⟨g, cap, cur, hv, hb, (hs g (by rw [hv]; rfl)).trans hh, r⟩
theorem own_turn {w w' : World} {G G' : Nat → Prop} {B : Nat} {e : TypeId} {size n : Nat} {v : Value} {xs : List Value} (h : w.ownsRow B e size v n xs) (ht : Turn G G' w w') (hn : ∀ g, v.ownBlock = some g → ¬ G g) : w'.ownsRow B e size v n xs :=
  own_same h fun g hg => ht.block g ((h.lt g hg).2) (hn g hg)

variable {w w' : World} {F : Nat → Prop} {R : Loc} {it : Option It} {s : TS} {b : Nat} {ev : UInt64 → Option Value} {pv : Nat → Value}

theorem TrackAt.row (h : TrackAt w F R it s b ev pv) {x : UInt64} {v : Value} (hv : ev x = some v) : ∃ l, s.E x = some l ∧ OwnEnts w v l := by
  rcases h.ents x with ⟨h1, _⟩ | ⟨v', l, h1, h2, h3⟩
  · rw [h1] at hv; cases hv
  · rw [h1] at hv; cases hv; exact ⟨l, h2, h3⟩
theorem TrackAt.same (h : TrackAt w F R it s b ev pv) (e : ∀ k, k < w.heap.size → F k → w'.heap[k]? = w.heap[k]?) (er : ∀ i, it = some i → w'.heap[i.r]? = w.heap[i.r]?) (hs : w.heap.size ≤ w'.heap.size) : TrackAt w' F R it s b ev pv where
  head := (e R.b (h.there R.b h.fR) h.fR).trans h.head
  map := tmap_same h.map (e b (h.there b h.fb) h.fb) er
  ents := fun x => (h.ents x).imp id fun ⟨v, l, h1, h2, h3⟩ => ⟨v, l, h1, h2, own_same h3 fun g hg => e g (h.there g (h.fe x v g h1 hg)) (h.fe x v g h1 hg)⟩
  ids := fun p hp => own_same (h.ids p hp) fun g hg => e g (h.there g (h.fp p g hp hg)) (h.fp p g hp hg)
  eapart := h.eapart
  papart := h.papart
  fR := h.fR
  fb := h.fb
  fe := h.fe
  fp := h.fp
  there := h.there.later hs
  out := fun i hi => ⟨(h.out i hi).1, Nat.lt_of_lt_of_le (h.out i hi).2 hs⟩
theorem TrackAt.kept (h : TrackAt w F R it s b ev pv) (hb : Below w.heap.size w w') : TrackAt w' F R it s b ev pv :=
  h.same (fun k hk _ => hb.block k hk) (fun i hi => hb.block i.r (h.out i hi).2) hb.size
theorem TrackAt.turn (h : TrackAt w F R it s b ev pv) {G G' : Nat → Prop} (ht : Turn G G' w w') (ha : Apart F G) (hr : ∀ i, it = some i → ¬ G i.r) : TrackAt w' F R it s b ev pv :=
  h.same (fun k hk hf => ht.block k hk (ha k hf)) (fun i hi => ht.block i.r (h.out i hi).2 (hr i hi)) ht.size
theorem TrackAt.lt (h : TrackAt w F R it s b ev pv) : R.b < w.heap.size := h.there R.b h.fR
theorem head_cell {w : World} {B : Nat} {cs : Array Value} {t : TypeId} {fr : Nat × Nat} (h : w.heap[B]? = some (.cells cs t fr)) (j : Nat) : w.cell? ⟨B, j, none⟩ = cs[j]? := by simp [World.cell?, h]
theorem TrackAt.salt (h : TrackAt w F R it s b ev pv) : w.cell? ⟨R.b, 17, none⟩ = some (.int .u64 s.salt.toNat) := head_cell h.head (17)
theorem TrackAt.mapc (h : TrackAt w F R it s b ev pv) : w.cell? ⟨R.b, 18, none⟩ = some (.map (some b)) := head_cell h.head (18)
theorem trackC_at (oc : Nat → Value) (salt : UInt64) (b : Nat) (pv : Nat → Value) (p : Nat) (hp : p < 8) : (trackC oc salt b pv)[19 + p]? = some (pv p) := by
  match p, hp with
  | 0, _ => rfl
  | 1, _ => rfl
  | 2, _ => rfl
  | 3, _ => rfl
  | 4, _ => rfl
  | 5, _ => rfl
  | 6, _ => rfl
  | 7, _ => rfl
theorem trackC_set (oc : Nat → Value) (salt : UInt64) (b : Nat) (pv : Nat → Value) (p : Nat) (hp : p < 8) (v : Value) : (trackC oc salt b pv).setIfInBounds (19 + p) v = trackC oc salt b (upd pv p v) := by
  match p, hp with
  | 0, _ => rfl
  | 1, _ => rfl
  | 2, _ => rfl
  | 3, _ => rfl
  | 4, _ => rfl
  | 5, _ => rfl
  | 6, _ => rfl
  | 7, _ => rfl
theorem TrackAt.idc (h : TrackAt w F R it s b ev pv) (p : Nat) (hp : p < 8) : w.cell? ⟨R.b, 19 + p, none⟩ = some (pv p) ∧ w.frozen? ⟨R.b, 19 + p, none⟩ = false :=
  ⟨(head_cell h.head (19 + p)).trans (trackC_at _ _ _ _ p hp), frozen_of_row w R.b (19 + p) _ _ h.head⟩
theorem TrackAt.look (h : TrackAt w F R it s b ev pv) (x : UInt64) : (Instr.lookup 87 (.map (some b)) (.int .u64 x.toNat) false).run Tryz.prog w = .ok ((ev x).getD (.slice none 0 0)) w := tmap_look h.map x
/-- The slice of an ID, as the map answers it. -/
theorem TrackAt.slice (h : TrackAt w F R it s b ev pv) (x : UInt64) : OwnEnts w ((ev x).getD (.slice none 0 0)) (s.ents x) := by
  rcases h.ents x with ⟨h1, h2⟩ | ⟨v, l, h1, h2, h3⟩
  · rw [h1]; unfold TS.ents; rw [h2]; exact World.ownsRow_nil _ _ _ _
  · rw [h1]; unfold TS.ents; rw [h2]; exact h3
/-- The kinds of blocks tell them apart. -/
theorem TrackAt.e_ne (h : TrackAt w F R it s b ev pv) {x : UInt64} {v : Value} {g : Nat} (hv : ev x = some v) (hg : v.ownBlock = some g) : g ≠ R.b ∧ g ≠ b ∧ ∀ p, p < 8 → (pv p).ownBlock ≠ some g := by
  obtain ⟨l, _, ho⟩ := h.row hv
  obtain ⟨cur, hc⟩ := own_at ho hg
  refine ⟨fun e => ?_, fun e => ?_, fun p hp e => ?_⟩
  · rw [e, h.head] at hc; simp at hc
  · obtain ⟨D, hm, _⟩ := h.map
    obtain ⟨n, es, clock, hb, _⟩ := mapIs_owns hm
    rw [e, hb] at hc; cases hc
  · obtain ⟨cur', hc'⟩ := own_at (h.ids p hp) e
    rw [hc'] at hc; simp at hc
theorem TrackAt.p_ne (h : TrackAt w F R it s b ev pv) {p g : Nat} (hp : p < 8) (hg : (pv p).ownBlock = some g) : g ≠ R.b ∧ g ≠ b ∧ ∀ x v, ev x = some v → v.ownBlock ≠ some g := by
  obtain ⟨cur, hc⟩ := own_at (h.ids p hp) hg
  refine ⟨fun e => ?_, fun e => ?_, fun x v hv e => (h.e_ne hv e).2.2 p hp hg⟩
  · rw [e, h.head] at hc; simp at hc
  · obtain ⟨D, hm, _⟩ := h.map
    obtain ⟨n, es, clock, hb, _⟩ := mapIs_owns hm
    rw [e, hb] at hc; cases hc
theorem TrackAt.R_ne (h : TrackAt w F R it s b ev pv) : R.b ≠ b := fun e => by
  obtain ⟨D, hm, _⟩ := h.map
  obtain ⟨n, es, clock, hb, _⟩ := mapIs_owns hm
  have := h.head
  rw [e, hb] at this; cases this

/-- The entries of an ID are written in their places. -/
theorem TrackAt.setEnts (h : TrackAt w F R it s b ev pv) {x : UInt64} {v : Value} {g : Nat} {l : List TEnt} (hv : ev x = some v) (hg : v.ownBlock = some g) (ht : Turn (fun k => k = g) (fun k => k = g) w w') (ho : OwnEnts w' v l) :
    TrackAt w' F R it { s with E := upd s.E x (some l) } b ev pv ∧ Turn F F w w' := by
  obtain ⟨n1, n2, n3⟩ := h.e_ne hv hg
  refine ⟨⟨(ht.block R.b h.lt (fun e => n1 e.symm)).trans h.head, tmap_same h.map (ht.block b (h.there b h.fb) (fun e => n2 e.symm)) (fun i hi => ht.block i.r (h.out i hi).2 (fun e => (h.out i hi).1 (by rw [e]; exact h.fe x v g hv hg))), fun y => ?_, fun p hp => own_turn (h.ids p hp) ht (fun k hk e => n3 p hp (by rw [← e]; exact hk)),
    h.eapart, h.papart, h.fR, h.fb, h.fe, h.fp, h.there.later ht.size, fun i hi => ⟨(h.out i hi).1, Nat.lt_of_lt_of_le (h.out i hi).2 ht.size⟩⟩, ?_⟩
  · by_cases hy : y = x
    · subst hy
      exact .inr ⟨v, l, hv, upd_same _ _ _, ho⟩
    · rcases h.ents y with ⟨h1, h2⟩ | ⟨u, m, h1, h2, h3⟩
      · exact .inl ⟨h1, (upd_other _ _ hy).trans h2⟩
      · exact .inr ⟨u, m, h1, (upd_other _ _ hy).trans h2, own_turn h3 ht (fun k hk e => hy (h.eapart y x u v g h1 hv (by rw [← e]; exact hk) hg))⟩
  · exact ⟨ht.os, ht.tape, ht.output, ht.size, fun k hk hn => ht.block k hk (fun e => hn (by rw [e]; exact h.fe x v g hv hg)), fun k hk => .inl hk⟩
/-- The IDs of a peer are written anew, in their block or a new one, and the slice is stored. -/
theorem TrackAt.setIds (h : TrackAt w F R it s b ev pv) {p : Nat} (hp : p < 8) {v : Value} {l : List UInt64} {G : Nat → Prop} (hG : ∀ k, G k → (pv p).ownBlock = some k) (ht : Turn G G w w') (ho : OwnIds w' 0 v l) (hv : ∀ k, v.ownBlock = some k → (pv p).ownBlock = some k ∨ w.heap.size ≤ k) :
    TrackAt (w'.setCell ⟨R.b, 19 + p, none⟩ v) (fun k => F k ∨ v.ownBlock = some k) R it { s with I := upd s.I p l } b ev (upd pv p v) ∧ Turn F (fun k => F k ∨ v.ownBlock = some k) w (w'.setCell ⟨R.b, 19 + p, none⟩ v) := by
  have hnR : ¬ G R.b := fun hg => (h.p_ne hp (hG R.b hg)).1 rfl
  have hnb : ¬ G b := fun hg => (h.p_ne hp (hG b hg)).2.1 rfl
  have hlt : ∀ k, k < w.heap.size → k < w'.heap.size := fun k hk => Nat.lt_of_lt_of_le hk ht.size
  have hset : ∀ k, k ≠ R.b → (w'.setCell ⟨R.b, 19 + p, none⟩ v).heap[k]? = w'.heap[k]? := fun k hk => Below.heap_setCell w' ⟨R.b, 19 + p, none⟩ v k hk
  have hold : ∀ k, k < w.heap.size → k ≠ R.b → ¬ G k → (w'.setCell ⟨R.b, 19 + p, none⟩ v).heap[k]? = w.heap[k]? := fun k hk hkR hn => (hset k hkR).trans (ht.block k hk hn)
  have hvR : ∀ k, v.ownBlock = some k → k ≠ R.b := fun k hk => (hv k hk).elim (fun e => (h.p_ne hp e).1) (fun hle e => by have := h.lt; omega)
  have hlater : ∀ k, F k ∨ v.ownBlock = some k → k < (w'.setCell ⟨R.b, 19 + p, none⟩ v).heap.size := fun k hk => by
    rw [World.size_setCell]
    exact hk.elim (fun hf => hlt k (h.there k hf)) (fun e => (ho.lt k e).2)
  refine ⟨⟨?_, tmap_same h.map (hold b (h.there b h.fb) (fun e => h.R_ne e.symm) hnb) (fun i hi => hold i.r (h.out i hi).2 (fun e => (h.out i hi).1 (by rw [e]; exact h.fR)) (fun hg => (h.out i hi).1 (h.fp p i.r hp (hG _ hg)))), fun x => (h.ents x).imp id fun ⟨u, m, h1, h2, h3⟩ => ⟨u, m, h1, h2, own_same h3 fun g hg => hold g (h.there g (h.fe x u g h1 hg)) (h.e_ne h1 hg).1 (fun hk => (h.e_ne h1 hg).2.2 p hp (hG g hk))⟩,
    fun q hq => ?_, h.eapart, fun q r g hq hr h1 h2 => ?_, .inl h.fR, .inl h.fb, fun x u g h1 h2 => .inl (h.fe x u g h1 h2), fun q g hq hg => ?_, hlater, fun i hi => ⟨fun hk => ?_, ?_⟩⟩, ?_⟩
  · rw [← trackC_set _ _ _ _ p hp]
    exact heap_setCell_same w' R.b (19 + p) _ _ v ((ht.block R.b h.lt hnR).trans h.head)
  · by_cases hqp : q = p
    · subst hqp
      show OwnIds _ 0 (upd pv q v q) (upd s.I q l q)
      rw [upd_same, upd_same]
      exact own_same ho fun g hg => hset g (hvR g hg)
    · show OwnIds _ 0 (upd pv p v q) (upd s.I p l q)
      rw [upd_other _ _ hqp, upd_other _ _ hqp]
      exact own_same (h.ids q hq) fun g hg => hold g (h.there g (h.fp q g hq hg)) (h.p_ne hq hg).1 (fun hk => hqp (h.papart q p g hq hp hg (hG g hk)))
  · have key : ∀ q g, q < 8 → q ≠ p → (upd pv p v q).ownBlock = some g → v.ownBlock ≠ some g := fun q g hq hqp h1 h2 => by
      rw [upd_other _ _ hqp] at h1
      exact (hv g h2).elim (fun e => hqp (h.papart q p g hq hp h1 e)) (fun hle => by have := h.there g (h.fp q g hq h1); omega)
    by_cases hqp : q = p
    · by_cases hrp : r = p
      · rw [hqp, hrp]
      · rw [hqp, upd_same] at h1
        exact absurd h1 (key r g hr hrp h2)
    · by_cases hrp : r = p
      · rw [hrp, upd_same] at h2
        exact absurd h2 (key q g hq hqp h1)
      · rw [upd_other _ _ hqp] at h1
        rw [upd_other _ _ hrp] at h2
        exact h.papart q r g hq hr h1 h2
  · by_cases hqp : q = p
    · rw [hqp, upd_same] at hg
      exact .inr hg
    · rw [upd_other _ _ hqp] at hg
      exact .inl (h.fp q g hq hg)
  · rcases hk with hk | hk
    · exact (h.out i hi).1 hk
    · exact (hv _ hk).elim (fun e => (h.out i hi).1 (h.fp p _ hp e)) (fun hle => by have := (h.out i hi).2; omega)
  · rw [World.size_setCell]
    exact hlt _ (h.out i hi).2
  · refine ⟨ht.os, ht.tape, ht.output, by rw [World.size_setCell]; exact ht.size, fun k hk hn => hold k hk (fun e => hn (by rw [e]; exact h.fR)) (fun hg => hn (h.fp p k hp (hG k hg))), fun k hk => hk.elim .inl (fun e => (hv k e).elim (fun e' => .inl (h.fp p k hp e')) .inr)⟩
end Go.Proofs.YtmbejeibcncmmaaGreat.Tr
namespace Go.Proofs.YtmbejeibcncmmaaGreat.Tr
open Go.RowKit Go.Maps

theorem isPeer_any (p : Int) (w : World) : Calls Tryz.prog 84 #[.int .i64 p] w fun e w' => e = .returned (.bool (decide (0 ≤ p ∧ p < 8))) ∧ w = w' := by
  by_cases h1 : 0 ≤ p
  · by_cases h2 : p < 8
    · have h3 : decide (0 ≤ p ∧ p < 8) = true := by simp [h1, h2]
      rw [h3]
      go_enter Tryz.func84, Tryz.ntmps84
      go_wp2
      go_ret
      exact ⟨rfl, rfl⟩
    · have h3 : decide (0 ≤ p ∧ p < 8) = false := by simp [h2]
      rw [h3]
      go_enter Tryz.func84, Tryz.ntmps84
      go_wp2
      go_ret
      exact ⟨rfl, rfl⟩
  · have h3 : decide (0 ≤ p ∧ p < 8) = false := by simp [h1]
    rw [h3]
    go_enter Tryz.func84, Tryz.ntmps84
    go_wp2
    go_ret
    exact ⟨rfl, rfl⟩
theorem isTime_any (p : Int) (w : World) : Calls Tryz.prog 125 #[.int .i64 p] w fun e w' => e = .returned (.bool (decide (0 ≤ p ∧ p ≤ 1099511627776))) ∧ w = w' := by
  by_cases h1 : 0 ≤ p
  · by_cases h2 : p ≤ 1099511627776
    · have h3 : decide (0 ≤ p ∧ p ≤ 1099511627776) = true := by simp [h1, h2]
      rw [h3]
      go_enter Tryz.func125, Tryz.ntmps125
      go_wp2
      go_ret
      exact ⟨rfl, rfl⟩
    · have h3 : decide (0 ≤ p ∧ p ≤ 1099511627776) = false := by simp [h2]
      rw [h3]
      go_enter Tryz.func125, Tryz.ntmps125
      go_wp2
      go_ret
      exact ⟨rfl, rfl⟩
  · have h3 : decide (0 ≤ p ∧ p ≤ 1099511627776) = false := by simp [h1]
    rw [h3]
    go_enter Tryz.func125, Tryz.ntmps125
    go_wp2
    go_ret
    exact ⟨rfl, rfl⟩

theorem beq_nat (a b : Nat) : ((a : Int) == (b : Int)) = (a == b) := by
  rw [Bool.eq_iff_iff, beq_iff_eq, beq_iff_eq]
  omega
theorem bne_nat (a b : Nat) : ((a : Int) != (b : Int)) = (a != b) := by simp only [bne, beq_nat]

theorem picks_flight : Picks (fun _ => True) 124 #[] (fun e => e.st == 2) := by
  refine ⟨fun _ _ => by kernel_rfl, fun e w _ => ?_⟩
  unfold entV
  have hq := beq_nat e.st 2
  go_enter Tryz.func124, Tryz.ntmps124
  go_wp2
  go_ret
  exact ⟨ret_bool hq, kept_new _ _⟩
theorem picks_open : Picks (fun _ => True) 127 #[] (fun e => e.st != 3) := by
  refine ⟨fun _ _ => by kernel_rfl, fun e w _ => ?_⟩
  unfold entV
  have hq := bne_nat e.st 3
  go_enter Tryz.func127, Tryz.ntmps127
  go_wp2
  go_ret
  exact ⟨ret_bool hq, kept_new _ _⟩
theorem picks_unready : Picks (fun _ => True) 158 #[] (fun e => e.st != 1) := by
  refine ⟨fun _ _ => by kernel_rfl, fun e w _ => ?_⟩
  unfold entV
  have hq := bne_nat e.st 1
  go_enter Tryz.func158, Tryz.ntmps158
  go_wp2
  go_ret
  exact ⟨ret_bool hq, kept_new _ _⟩
/-- A captured cell. -/
def CellIs (c : Nat) (v : Value) (w : World) : Prop := w.cell? ⟨c, 0, none⟩ = some v
theorem cellIs_kept (c : Nat) (v : Value) (a b : World) (h : CellIs c v a) (hb : Below a.heap.size a b) : CellIs c v b := kept_cell hb h
theorem cellIs_set {c g : Nat} (v : Value) (hc : c ≠ g) (a : World) (j : Nat) (u : Value) (h : CellIs c v a) : CellIs c v (a.setCell ⟨g, j, none⟩ u) := (World.cell?_of_block (a := ⟨c, 0, none⟩) (Below.heap_setCell a ⟨g, j, none⟩ u c hc)).trans h
theorem cellIs_new (w : World) (v : Value) (t : TypeId) : CellIs w.heap.size v (w.alloc (.cells #[v] t)) := by simp [CellIs, go_sem]
theorem picks_held (c p : Nat) : Picks (CellIs c (.int .i64 p)) 126 #[.pointer (some ⟨c, 0, none⟩)] (fun e => e.peer == p) := by
  refine ⟨fun _ _ => by kernel_rfl, fun e w hw => ?_⟩
  unfold entV
  have hc := cell_spot hw
  have hw : w.cell? ⟨c, 0, none⟩ = some (.int .i64 p) := hw
  have hlt : c < w.heap.size := hc.2
  clear hc
  have hq := beq_nat e.peer p
  show Calls Tryz.prog 126 #[.agg #[.int .i64 e.peer, .int .u64 e.id.toNat, .bool e.pref, .int .i64 e.st, .int .i64 e.till], .pointer (some ⟨c, 0, none⟩)] w _
  go_enter Tryz.func126, Tryz.ntmps126
  go_wp2
  go_ret
  exact ⟨rfl, kept_new _ _⟩
theorem picks_drop (c p : Nat) : Picks (CellIs c (.int .i64 p)) 100 #[.pointer (some ⟨c, 0, none⟩)] (fun e => e.peer == p) := by
  refine ⟨fun _ _ => by kernel_rfl, fun e w hw => ?_⟩
  unfold entV
  have hc := cell_spot hw
  have hw : w.cell? ⟨c, 0, none⟩ = some (.int .i64 p) := hw
  have hlt : c < w.heap.size := hc.2
  clear hc
  have hq := beq_nat e.peer p
  show Calls Tryz.prog 100 #[.agg #[.int .i64 e.peer, .int .u64 e.id.toNat, .bool e.pref, .int .i64 e.st, .int .i64 e.till], .pointer (some ⟨c, 0, none⟩)] w _
  go_enter Tryz.func100, Tryz.ntmps100
  go_wp2
  go_ret
  exact ⟨rfl, kept_new _ _⟩
theorem picks_forget (c : Nat) (x : UInt64) : PicksI (CellIs c (.int .u64 x.toNat)) 153 #[.pointer (some ⟨c, 0, none⟩)] (fun y => y == x) := by
  refine ⟨fun _ _ => by kernel_rfl, fun y w hw => ?_⟩
  have hc := cell_spot hw
  have hw : w.cell? ⟨c, 0, none⟩ = some (.int .u64 x.toNat) := hw
  have hlt : c < w.heap.size := hc.2
  clear hc
  have hq : ((y.toNat : Int) == (x.toNat : Int)) = (y == x) := u64_beq y x
  show Calls Tryz.prog 153 #[.int .u64 y.toNat, .pointer (some ⟨c, 0, none⟩)] w _
  go_enter Tryz.func153, Tryz.ntmps153
  go_wp2
  go_ret
  exact ⟨rfl, Below.refl _ _⟩

variable {F : Nat → Prop} {R : Loc} {it : Option It} {s : TS} {b : Nat} {ev : UInt64 → Option Value} {pv : Nat → Value}

/-- What is found among the entries of an ID: nothing, or the place of the first one that is chosen. -/
def Found (s : TS) (ev : UInt64 → Option Value) (x : UInt64) (q : TEnt → Bool) (r : Option Addr) : Prop :=
  (r = none ∧ (s.ents x).findIdx? q = none) ∨ ∃ g n cap i, ev x = some (.slice (some ⟨g, 0, none⟩) n cap) ∧ r = some ⟨g, i * 5, none⟩ ∧ (s.ents x).findIdx? q = some i
/-- No ID has more than eight entries, no peer more than twenty; the entries' peers are numbered from 0 to 7. -/
def TS.Fine (s : TS) : Prop := (∀ x, (s.ents x).length ≤ 8 ∧ ∀ e ∈ s.ents x, e.peer < 8) ∧ ∀ p, p < 8 → (s.I p).length ≤ 20

set_option maxRecDepth 20000 in
theorem find_any (K : World → Prop) (hK : ∀ a b, K a → Below a.heap.size a b → K b) (f : FuncId) (cap : Array Value) (q : TEnt → Bool) (hp : Picks K f cap q) (x : UInt64) (w : World) (hw : K w) (h : TrackAt w F R it s b ev pv) (hf : s.Fine) :
    Calls Tryz.prog 123 #[.pointer (some ⟨R.b, 17, none⟩), .int .u64 x.toNat, .func (.func f) #[] cap] w fun e w' => ∃ r, e = .returned (.pointer r) ∧ Found s ev x q r ∧ Below w.heap.size w w' := by
  have hmc := h.mapc
  have hlk := h.look x
  have hlt := h.lt
  obtain ⟨a, cp, hv, hcp, hat⟩ := ownEnts_form (h.slice x)
  have hl8 := (hf.1 x).1
  have HH := Lib.hid h
  have HV := Lib.hid hv
  rw [hv] at hlk
  have HP := Lib.hid hp
  have HK := Lib.hid hK
  have HW := Lib.hid hw
  clear h hp hK hw hf hv
  go_enter Tryz.func123, Tryz.ntmps123
  go_wp2_with fail
  refine (indexFunc_any K HK.out f cap q HP.out _ _ _ _ HW.out hl8 hat).mono ?_
  rintro e w1 ⟨rfl, hb1⟩
  cases hx : (s.ents x).findIdx? q with
  | none =>
    have e1 : firstAt q (s.ents x) = -1 := by unfold firstAt; rw [hx]
    have HX := Lib.hid hx
    rw [e1]
    clear hx e1
    go_wp2
    go_ret
    exact ⟨none, rfl, .inl ⟨rfl, HX.out⟩, hb1⟩
  | some i =>
    have e1 : firstAt q (s.ents x) = (i : Int) := by unfold firstAt; rw [hx]
    obtain ⟨hi, _⟩ := List.findIdx?_eq_some_iff_getElem.1 hx
    have HX := Lib.hid hx
    rw [e1]
    obtain ⟨g, o, rfl, hg, hc⟩ := hat i hi
    obtain ⟨c0, _⟩ := entAt_kept hb1 hc
    have hev : ev x = some (.slice (some ⟨g, 0, none⟩) (s.ents x).length cp) ∧ o = 0 := by
      have h1 := HV.out
      have h2 := HH.out.slice x
      rcases HH.out.ents x with ⟨h3, h4⟩ | ⟨v, l, h3, h4, h5⟩
      · rw [h3] at h1
        simp at h1
      · rw [h3] at h1
        have h1 : v = _ := h1
        obtain ⟨g', cap', h6, _⟩ := h5.form (by unfold TS.ents at hi; rw [h4] at hi; exact Nat.lt_of_le_of_lt (Nat.zero_le _) hi)
        rw [h6] at h1
        simp only [Value.slice.injEq, Option.some.injEq, Addr.mk.injEq, and_true] at h1
        obtain ⟨⟨rfl, rfl⟩, h7, rfl⟩ := h1
        exact ⟨by rw [h3, h6, h7], rfl⟩
    obtain ⟨hev, rfl⟩ := hev
    have HEV := Lib.hid hev
    have hii : ¬ ((i : Int) < 0) := by omega
    clear hx e1 hev hat hc c0 hlk hmc
    go_wp2
    go_ret
    exact ⟨_, rfl, .inr ⟨g, _, cp, i, HEV.out, by simp, HX.out⟩, hb1⟩
theorem flight_any (x : UInt64) (w : World) (h : TrackAt w F R it s b ev pv) (hf : s.Fine) :
    Calls Tryz.prog 85 #[.pointer (some ⟨R.b, 17, none⟩), .int .u64 x.toNat] w fun e w' => ∃ r, e = .returned (.pointer r) ∧ Found s ev x (fun e => e.st == 2) r ∧ Below w.heap.size w w' := by
  have H := Lib.hid h
  have HF := Lib.hid hf
  clear h hf
  go_enter Tryz.func85, Tryz.ntmps85
  go_wp2_with fail
  refine (find_any (fun _ => True) (fun _ _ _ _ => trivial) _ _ _ picks_flight x _ trivial H.out HF.out).mono ?_
  rintro e w1 ⟨r, rfl, hr, hb⟩
  have HR := Lib.hid hr
  clear hr
  go_wp2_with fail
  go_ret
  exact ⟨r, rfl, HR.out, hb⟩
theorem held_any (p : Nat) (x : UInt64) (w : World) (h : TrackAt w F R it s b ev pv) (hf : s.Fine) :
    Calls Tryz.prog 91 #[.pointer (some ⟨R.b, 17, none⟩), .int .i64 p, .int .u64 x.toNat] w fun e w' => ∃ r, e = .returned (.pointer r) ∧ Found s ev x (fun e => e.peer == p) r ∧ Below w.heap.size w w' := by
  have H := Lib.hid h
  have HF := Lib.hid hf
  clear h hf
  go_enter Tryz.func91, Tryz.ntmps91
  go_wp2_with fail
  refine (find_any (CellIs w.heap.size (.int .i64 p)) (cellIs_kept _ _) _ _ _ (picks_held w.heap.size p) x _ (cellIs_new _ _ _) (H.out.kept (kept_new _ _)) HF.out).mono ?_
  rintro e w1 ⟨r, rfl, hr, hb⟩
  have HR := Lib.hid hr
  clear hr
  go_wp2_with fail
  go_ret
  exact ⟨r, rfl, HR.out, kept_trans (kept_new _ _) hb⟩
end Go.Proofs.YtmbejeibcncmmaaGreat.Tr
