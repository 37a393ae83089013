/-
  Contracts of package judge: Deed, All, add.
-/
import Derived.Test.YtaaaplbjeknbkaaGreatSJW3
import Derived.Deep.RegionLaw
import Derived.RegionTactic
import Derived.BigRegion
set_option maxRecDepth 20000
namespace Go.Proofs.YtaaaplbjeknbkaaGreat.So.Ju
open Go.Proofs.YtaaaplbjeknbkaaGreat.Ju
open Go.RowKit Go.Maps

variable {w w' : World} {F : Nat → Prop} {R : Nat} {M : UInt64 → Option DeedD} {os : List UInt64} {sp : List InD} {b s n : Nat} {ev : UInt64 → Option Value} {v : Value}

set_option maxRecDepth 20000 in
theorem deedJ_none (x : UInt64) (w : World) (h : LedAt w F R M os sp b s n ev v) (hx : M x = none) :
    Calls Tryz.prog 119 #[.pointer (some ⟨R, 0, none⟩), .int .u64 x.toNat] w (DeedAns w none) := by
  have H := Lib.hid (h.kept (kept_new w (.cells #[.slice none 0 0, .int .i64 0, .int .i64 0, .int .i64 0] 50)))
  have HX := Lib.hid hx
  clear h hx
  go_enter Tryz.func119, Tryz.ntmps119
  go_wp2_with fail
  with_reducible refine (find_any x _ H.out).mono ?_
  rw [HX.out]
  rintro e w1 ⟨a1, c1, rfl, _, _, hb1⟩
  simp only [Option.getD_none, Option.isSome_none]
  have hB := (hb1.block w.heap.size (by simp)).trans (heap_alloc_new w _)
  have k0 := (head_cell hB 0).trans rfl
  have k1 := (head_cell hB 1).trans rfl
  have k2 := (head_cell hB 2).trans rfl
  have k3 := (head_cell hB 3).trans rfl
  have f0 := frozen_of_row w1 _ 0 _ _ hB
  have f1 := frozen_of_row w1 _ 1 _ _ hB
  have f2 := frozen_of_row w1 _ 2 _ _ hB
  have f3 := frozen_of_row w1 _ 3 _ _ hB
  have hs := (cell_spot k0).2
  have HB := Lib.hid (kept_trans (kept_new _ _) hb1)
  clear hB hb1
  simp only [nod, List.length_nil]
  go_wp2_with fail
  refine bodyPost_ret (v := .tuple #[.agg #[.slice none 0 0, .int .i64 0, .int .i64 0, .int .i64 0], .int .i64 5]) (by simp [results, Tryz.results119, go_sem, k0, k1, k2, k3, hs]) rfl ?_
  have ht := turn_set4 w1 w.heap.size (.slice none 0 0) (.int .i64 0) (.int .i64 0) (.int .i64 0)
  exact ⟨none, 0, rfl, Nat.zero_le _, Nat.zero_le _, fun i hi => absurd hi (by simp [nod]), kept_alloc (HB.out.trans (ht.below (fun k hk => by omega) HB.out.size)) _⟩
set_option maxRecDepth 20000 in
theorem deedJ_some (x : UInt64) (d : DeedD) (w : World) (h : LedAt w F R M os sp b s n ev v) (hx : M x = some d) :
    Calls Tryz.prog 119 #[.pointer (some ⟨R, 0, none⟩), .int .u64 x.toNat] w (DeedAns w (some d)) := by
  have H := Lib.hid (h.kept (kept_new w (.cells #[.slice none 0 0, .int .i64 0, .int .i64 0, .int .i64 0] 50)))
  have HX := Lib.hid hx
  have HF := Lib.hid (h.fine x d hx)
  clear h hx
  go_enter Tryz.func119, Tryz.ntmps119
  go_wp2_with fail
  with_reducible refine (find_any x _ H.out).mono ?_
  rw [HX.out]
  rintro e w1 ⟨a1, c1, rfl, hl1, hi1, hb1⟩
  simp only [Option.getD_some, Option.isSome_some] at hl1 hi1 ⊢
  obtain ⟨dl, dO, dg, df⟩ := d
  simp only at hl1 hi1 ⊢
  have hk := kept_new w1 (.cells #[.slice a1 dl.length c1, .int .i64 dO, .int .i64 dg, .int .i64 df] 50)
  have hB1 := (hk.block w.heap.size (by have := hb1.size; simp at this; omega)).trans ((hb1.block w.heap.size (by simp)).trans (heap_alloc_new w _))
  have HB1 := Lib.hid hB1
  have HI1 := Lib.hid (insAt_kept hk hi1)
  have HB := Lib.hid (kept_trans (kept_trans (kept_new _ _) hb1) hk)
  have HS1 : Hid (w.heap.size < w1.heap.size) := Lib.hid (by have := hb1.size; simp at this; omega)
  clear hB1 hb1 hk hi1
  go_wp2_with fail
  with_reducible refine (clone_any ⟨dl, dO, dg, df⟩ a1 c1 _ hl1 HI1.out).mono ?_
  rintro e w2 ⟨v2, rfl, a2, k2, rfl, ho2, hb2⟩
  have hB := (hb2.block w.heap.size (cell_spot (head_cell HB1.out 0)).2).trans HB1.out
  have c0 := (head_cell hB 0).trans rfl
  have c1 := (head_cell hB 1).trans rfl
  have c2 := (head_cell hB 2).trans rfl
  have c3 := (head_cell hB 3).trans rfl
  have f0 := frozen_of_row w2 _ 0 _ _ hB
  have f1 := frozen_of_row w2 _ 1 _ _ hB
  have f2 := frozen_of_row w2 _ 2 _ _ hB
  have f3 := frozen_of_row w2 _ 3 _ _ hB
  have hs := (cell_spot c0).2
  have HO := Lib.hid ho2
  have HB2 := Lib.hid (kept_trans HB.out hb2)
  clear hB hb2 ho2
  simp only
  go_wp2_with fail
  refine bodyPost_ret (v := .tuple #[.agg #[.slice a2 dl.length k2, .int .i64 dO, .int .i64 dg, .int .i64 df], .int .i64 0]) (by simp [results, Tryz.results119, go_sem, c0, c1, c2, c3]) rfl ?_
  have ht := turn_set4 w2 w.heap.size (.slice a2 dl.length k2) (.int .i64 dO) (.int .i64 dg) (.int .i64 df)
  have ho3 := own_turn HO.out ht (fun k hk e => by have h1 := (HO.out.lt k hk).1; have := HS1.out; simp at h1; omega)
  have ho4 : OwnIns _ _ dl := ⟨ho3.1, ho3.2.imp id fun ⟨g, cap, cur, q1, _, q3⟩ => ⟨g, cap, cur, q1, Nat.zero_le _, q3⟩⟩
  obtain ⟨_, hc4, hi4⟩ := ownIns_slice ho4 (ins_ok HF.out)
  exact ⟨a2, k2, rfl, hl1, hc4, hi4, HB2.out.trans (ht.below (fun k hk => by omega) HB2.out.size)⟩
theorem deedJ_any (x : UInt64) (w : World) (h : LedAt w F R M os sp b s n ev v) :
    Calls Tryz.prog 119 #[.pointer (some ⟨R, 0, none⟩), .int .u64 x.toNat] w (DeedAns w (M x)) := by
  cases hx : M x with
  | none => exact deedJ_none x w h hx
  | some d => exact deedJ_some x d w h hx
/-- All IDs, in new memory. -/
theorem append_noneI (a : Option Addr) (cap : Nat) (ty : TypeId) (w : World) : (Builtin.append_ #[36, 36] ty #[.slice none 0 0, .slice a 0 cap]).run Tryz.prog w = .ok (.slice none 0 0) w := by
  obtain ⟨iE, hiE, _, hz1, _⟩ := info_parts info_u64
  cases a with
  | none => simp [Builtin.append_, run_underlying Tryz.underlying36, Builtin.lenOf, Builtin.firstCells, sizeOf, typeInfo, hiE]
  | some ad => simp [Builtin.append_, run_underlying Tryz.underlying36, Builtin.lenOf, Builtin.firstCells, sizeOf, typeInfo, hiE, loadCells, loadCellsFrom]
theorem step_append_noneI {ops : Array Oper} {rest : List Oper} {o : Oper} {a : Act} {Q : Exit → Act → World → Prop} {w : World} (hgd : o.guard = none) (s x : Operand) (ho : o.op = .call { callee := .builtin .append, args := #[s, x], argTypes := #[36, 36] })
    (ad : Option Addr) (cap : Nat) (hs : a.eval s = .slice none 0 0) (hx : a.eval x = .slice ad 0 cap) (h : wpList Tryz.prog ops Q rest (a.put o.dst (.slice none 0 0)) w) : wpList Tryz.prog ops Q (o :: rest) a w := by
  refine wpList_plain hgd fun K' hK' => ?_
  unfold Oper.wp
  simp [execOp, ho, resolve, invoke, builtin, hs, hx, append_noneI, Result.andThen]
  exact hK' _ _ h
theorem idV_one (l : List UInt64) : ∀ u ∈ l.map idV, u.oneCell' = true := fun u hu => by
  obtain ⟨x, _, rfl⟩ := List.mem_map.1 hu
  rfl
set_option maxRecDepth 20000 in
theorem allJ_any (w : World) (h : LedAt w F R M os sp b s n ev v) (hl : os.length ≤ 10000000000000) :
    Calls Tryz.prog 64 #[.pointer (some ⟨R, 0, none⟩)] w (GaveIds w os) := by
  have hoc := h.orderc.1
  have hlt := h.lt
  have HO := Lib.hid h.order
  clear h
  obtain ⟨ia, icap, rfl, _, hids, _⟩ := owns_idsAt HO.out
  by_cases hnil : os = []
  · subst hnil
    simp only [List.length_nil] at hoc ⊢
    clear hids
    go_enter Tryz.func64, Tryz.ntmps64
    go_wp2_with (at_builtin; refine step_append_noneI rfl _ _ rfl ia icap rfl rfl ?_)
    go_ret
    exact ⟨none, 0, rfl, ownIds_nil _ _, Below.refl _ _⟩
  · have hpos : 0 < os.length := List.length_pos_iff.2 hnil
    obtain ⟨iE, hiE, hz0, hz1, hz2⟩ := info_parts info_u64
    obtain ⟨gg, oo, rfl, _, _⟩ := hids 0 hpos
    have HN : Hid (∀ j u, (os.map idV)[j]? = some u → w.cell? ((⟨gg, oo, none⟩ : Addr).add j) = some u) := Lib.hid fun j u hj => by
      obtain ⟨hj', e⟩ := List.getElem?_eq_some_iff.1 hj
      rw [List.getElem_map] at e
      have hj2 : j < os.length := by simpa using hj'
      obtain ⟨b', o', e', _, c⟩ := hids j hj2
      cases e'
      have f0 : (⟨gg, oo, none⟩ : Addr).add j = ⟨gg, oo + j, none⟩ := by unfold Addr.add; split <;> simp_all
      rw [f0, c, ← e]
      rfl
    have HL := Lib.hid hl
    clear hids hnil
    go_enter Tryz.func64, Tryz.ntmps64
    go_wp2_with (at_builtin; refine wpList_append_lies _ rfl _ _ 36 rfl w.heap.size 22 iE _ 1 8 Tryz.underlying36 hiE hz0 hz1 hz2 rfl (by decide) (.slice none 0 0) 0 [] rfl (World.ownsRow_nil _ _ _ _) ⟨gg, oo, none⟩ os.length icap (os.map idV) rfl (by simp) HN.out (idV_one os) hpos (by have := HL.out; unfold maxLen; omega) (by have := HL.out; omega) (Nat.le_refl _) _ rfl ?_; intro g2 cap2 w2 hown2 hgrow2 _ _)
    have HE : Hid (OwnIds w2 w.heap.size (.slice (some ⟨g2, 0, none⟩) os.length cap2) os) := Lib.hid (by rw [Nat.zero_add] at hown2; exact hown2)
    have HB := Lib.hid (grown_below hgrow2)
    clear hown2 hgrow2
    go_wp2_with fail
    go_ret
    exact ⟨_, _, rfl, HE.out, HB.out⟩
/-- 'append(s, x)' of an ID, to a slice of any length that there is. -/
theorem append_idN {ops : Array Oper} {rest : List Oper} {o : Oper} {a : Act} {Q : Exit → Act → World → Prop} {w : World} (hgd : o.guard = none) (s x : Operand) (ho : o.op = .call { callee := .builtin .append, args := #[s, x], argTypes := #[36, 36] })
    {B : Nat} {v : Value} {d : List UInt64} (y : UInt64) (hs : a.eval s = v) (hx : a.eval x = .slice (some ⟨w.heap.size, 0, none⟩) 1 1) (hown : OwnIds w B v d) (hlen : d.length ≤ 10000000000000) (hB : B ≤ w.heap.size)
    (h : ∀ g cap w', OwnIds w' B (.slice (some ⟨g, 0, none⟩) (d.length + 1) cap) (d ++ [y]) → w.grownBy w' v.ownBlock → (v.ownBlock = some g ∨ w.heap.size ≤ g) → wpList Tryz.prog ops Q rest (a.put o.dst (.slice (some ⟨g, 0, none⟩) (d.length + 1) cap)) w') :
    wpList Tryz.prog ops Q (o :: rest) a (w.alloc (.cells #[.int .u64 y.toNat] 22)) := by
  obtain ⟨i0, hi0, hz0, hz1, hz2⟩ := info_parts info_u64
  refine wpList_append_lies _ hgd s x 36 ho B 22 i0 (.int .u64 0) 1 8 Tryz.underlying36 hi0 hz0 hz1 hz2 rfl (by decide) v d.length (d.map idV) hs (hown.alloc _) ⟨w.heap.size, 0, none⟩ 1 1 [.int .u64 y.toNat] hx rfl (cells_new w _ _) (by simp [Value.oneCell']) (by decide) (by unfold maxLen; omega) (by omega) (by simp; omega) _ rfl ?_
  intro g cap w1 hown' hgrow hat _
  refine h g cap w1 ?_ ((World.grownBy_alloc w _ _).trans hgrow) (hat.imp id (fun e => by rw [e]; simp))
  unfold OwnIds
  rw [List.length_append, List.map_append]
  exact hown'
end Go.Proofs.YtaaaplbjeknbkaaGreat.So.Ju
