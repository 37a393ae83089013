/-
  The reference's ledger: rows of deeds; Copy of deeds; find, Has, All.
-/
import Derived.Test.YtihbcgdbennegaaJC
import Derived.Test.YtihbcgdbennegaaCopyIns
namespace Go.Proofs.Ytihbcgdbennegaa
open Go.RowKit Go.Maps

def dhC (q : DeedH) : List Value := [.slice q.ia q.d.ins.length q.ic, .int .i64 q.d.outs, .int .i64 q.d.weight, .int .i64 q.d.fee]
def dhsC (l : List DeedH) : List Value := l.flatMap dhC
theorem dhC_length (q : DeedH) : (dhC q).length = 4 := rfl
theorem dhsC_length (l : List DeedH) : (dhsC l).length = l.length * 4 := by
  induction l with
  | nil => rfl
  | cons a r ih => simp only [dhsC, List.flatMap_cons, List.length_append, dhC_length, List.length_cons] at ih ⊢; omega
theorem dhsC_append (a b : List DeedH) : dhsC (a ++ b) = dhsC a ++ dhsC b := by simp [dhsC]
theorem dhsC_at : ∀ (l : List DeedH) (i : Nat) (h : i < l.length) (j : Nat), j < 4 → (dhsC l)[i * 4 + j]? = (dhC l[i])[j]?
  | [], i, h, _, _ => absurd h (by simp)
  | a :: r, 0, _, j, hj => by
    show (dhC a ++ dhsC r)[0 * 4 + j]? = _
    rw [List.getElem?_append_left (by rw [dhC_length]; omega)]
    simp
  | a :: r, i + 1, h, j, hj => by
    show (dhC a ++ dhsC r)[(i + 1) * 4 + j]? = _
    rw [List.getElem?_append_right (by rw [dhC_length]; omega), dhC_length, show (i + 1) * 4 + j - 4 = i * 4 + j by omega, dhsC_at r i (by simpa using h) j hj]
    rfl
theorem dhsC_one (l : List DeedH) : ∀ u ∈ dhsC l, u.oneCell' = true := fun u hu => by
  unfold dhsC at hu
  obtain ⟨x, _, hx⟩ := List.mem_flatMap.1 hu
  simp only [dhC, List.mem_cons, List.not_mem_nil, or_false] at hx
  rcases hx with rfl | rfl | rfl | rfl <;> rfl
/-- The slice v holds these deeds, in a block of its own from block C on. -/
abbrev OwnD (w : World) (C : Nat) (v : Value) (l : List DeedH) : Prop := w.ownsRow C 30 4 v l.length (dhsC l)
theorem ownD_form {w : World} {C : Nat} {v : Value} {l : List DeedH} (h : OwnD w C v l) : ∃ a cap, v = .slice a l.length cap ∧ l.length ≤ cap ∧ RowOf w a l ∧ (∀ b o sp, a = some ⟨b, o, sp⟩ → C ≤ b) := by
  rcases h.2 with ⟨hv, hn⟩ | ⟨g, cap, cur, hv, hB, hg, hc, _, _, _⟩
  · exact ⟨none, 0, by rw [hn]; exact hv, by omega, fun i hi => absurd hi (by omega), fun _ _ _ e => by cases e⟩
  · refine ⟨some ⟨g, 0, none⟩, cap, hv, hc, fun i hi => ⟨g, 0, rfl, (Array.getElem?_eq_some_iff.1 hg).1, ?_⟩, fun _ _ _ e => by cases e; exact hB⟩
    have hh := h
    rw [hv] at hh
    have hat : ∀ j, j < 4 → w.cell? ⟨g, 0 + i * 4 + j, none⟩ = (dhC l[i])[j]? := fun j hj => by
      rw [Nat.zero_add, hh.cellAt (i * 4 + j) (by omega)]
      exact dhsC_at l i hi j hj
    exact ⟨hat 0 (by omega), hat 1 (by omega), hat 2 (by omega), hat 3 (by omega)⟩
theorem info_deed : (Try.prog.info? 30).map (fun i => (i.zero, i.size, i.bytes)) = some (some (.agg #[.slice none 0 0, .int .i64 0, .int .i64 0, .int .i64 0]), 4, 48) := by kernel_rfl
theorem append_noneD (a : Option Addr) (cap : Nat) (ty : TypeId) (w : World) : (Builtin.append_ #[22, 22] ty #[.slice none 0 0, .slice a 0 cap]).run Try.prog w = .ok (.slice none 0 0) w := by
  obtain ⟨iE, hiE, _, hz1, _⟩ := info_parts info_deed
  cases a with
  | none => simp [Builtin.append_, run_underlying Try.underlying22, Builtin.lenOf, Builtin.firstCells, sizeOf, typeInfo, hiE]
  | some ad => simp [Builtin.append_, run_underlying Try.underlying22, Builtin.lenOf, Builtin.firstCells, sizeOf, typeInfo, hiE, loadCells, loadCellsFrom]
theorem step_append_noneD {ops : Array Oper} {rest : List Oper} {o : Oper} {a : Act} {Q : Exit → Act → World → Prop} {w : World} (hgd : o.guard = none) (s x : Operand) (ho : o.op = .call { callee := .builtin .append, args := #[s, x], argTypes := #[22, 22] })
    (ad : Option Addr) (cap : Nat) (hs : a.eval s = .slice none 0 0) (hx : a.eval x = .slice ad 0 cap) (h : wpList Try.prog ops Q rest (a.put o.dst (.slice none 0 0)) w) : wpList Try.prog ops Q (o :: rest) a w := by
  refine wpList_plain hgd fun K' hK' => ?_
  unfold Oper.wp
  simp [execOp, ho, resolve, invoke, builtin, hs, hx, append_noneD, Result.andThen]
  exact hK' _ _ h
/-- A new slice of deeds is handed out. -/
def CopyD (w : World) (l : List DeedH) (e : Ending) (w' : World) : Prop := ∃ a cap, e = .returned (.slice a l.length cap) ∧ OwnD w' w.heap.size (.slice a l.length cap) l ∧ Below w.heap.size w w'
theorem dhs_cells {w : World} {bb o : Nat} {l : List DeedH} (h : RowOf w (some ⟨bb, o, none⟩) l) : ∀ j u, (dhsC l)[j]? = some u → w.cell? ((⟨bb, o, none⟩ : Addr).add j) = some u := fun j u hj => by
  have hl : j < (dhsC l).length := (List.getElem?_eq_some_iff.1 hj).1
  rw [dhsC_length] at hl
  have hi : j / 4 < l.length := by omega
  have e2 := dhsC_at l (j / 4) hi (j % 4) (by omega)
  rw [show j / 4 * 4 + j % 4 = j by omega, hj] at e2
  obtain ⟨b', o', e, _, c0, c1, c2, c3⟩ := h (j / 4) hi
  simp only [Option.some.injEq, Addr.mk.injEq, and_true] at e
  obtain ⟨rfl, rfl⟩ := e
  have e3 : (⟨bb, o, none⟩ : Addr).add j = ⟨bb, o + j, none⟩ := by unfold Addr.add; split <;> simp_all
  rw [e3]
  have hm : j % 4 = 0 ∨ j % 4 = 1 ∨ j % 4 = 2 ∨ j % 4 = 3 := by omega
  rcases hm with hm | hm | hm | hm
  · rw [hm] at e2
    rw [show o + j = o + j / 4 * 4 by omega, c0, e2]; rfl
  · rw [hm] at e2
    rw [show o + j = o + j / 4 * 4 + 1 by omega, c1, e2]; rfl
  · rw [hm] at e2
    rw [show o + j = o + j / 4 * 4 + 2 by omega, c2, e2]; rfl
  · rw [hm] at e2
    rw [show o + j = o + j / 4 * 4 + 3 by omega, c3, e2]; rfl
theorem copyDeeds_any (l : List DeedH) (a : Option Addr) (cap : Nat) (w : World) (hl : l.length ≤ 2932031007402) (hi : RowOf w a l) :
    Calls Try.prog 56 #[.slice a l.length cap] w (CopyD w l) := by
  by_cases hnil : l = []
  · subst hnil
    have HE : Hid (CopyD w [] (.returned (.slice none 0 0)) w) := Lib.hid ⟨none, 0, rfl, World.ownsRow_nil _ _ _ _, Below.refl _ _⟩
    clear hl hi
    simp only [List.length_nil]
    go_enter Try.func56, Try.ntmps56
    go_wp2_with (at_builtin; refine step_append_noneD rfl _ _ rfl a cap rfl rfl ?_)
    go_ret
    exact HE.out
  · have hpos : 0 < l.length := List.length_pos_iff.2 hnil
    obtain ⟨bb, oo, rfl, hbl, _⟩ := hi 0 hpos
    obtain ⟨iE, hiE, hz0, hz1, hz2⟩ := info_parts info_deed
    have HN := Lib.hid (dhs_cells hi)
    have HL := Lib.hid hl
    clear hnil hi
    go_enter Try.func56, Try.ntmps56
    go_wp2_with (at_builtin; refine wpList_append_lies _ rfl _ _ 22 rfl w.heap.size 30 iE _ 4 48 Try.underlying22 hiE hz0 hz1 hz2 rfl (by decide) (.slice none 0 0) 0 [] rfl (World.ownsRow_nil _ _ _ _) ⟨bb, oo, none⟩ l.length cap (dhsC l) rfl (dhsC_length l) HN.out (dhsC_one l) hpos (by have := HL.out; unfold maxLen; omega) (by have := HL.out; omega) (Nat.le_refl _) _ rfl ?_; intro g2 cap2 w2 hown2 hgrow2 hat2 hlt2)
    have HE : Hid (CopyD w l (.returned (.slice (some ⟨g2, 0, none⟩) l.length cap2)) w2) := Lib.hid (by
      rw [Nat.zero_add] at hown2
      exact ⟨_, _, rfl, hown2, (Below.refl _ _).grown hgrow2 (Nat.le_refl _) (fun j hj => by cases hj)⟩)
    clear hown2 hgrow2 hat2
    go_wp2
    go_ret
    exact HE.out

/-- The deeds of a row. -/
def dOf (l : List DeedH) : List DeedD := l.map fun q => q.d
theorem dOf_len (l : List DeedH) : (dOf l).length = l.length := List.length_map _
/-- A row of deeds that may be, with their Ins. -/
structure RowJ (w : World) (a : Option Addr) (l : List DeedH) : Prop where
  row : RowOf w a l
  ins : ∀ q ∈ l, InsAt w q.ia q.d.ins
  fine : ∀ q ∈ l, checkD q.d = 0
variable {w w' : World} {a : Option Addr} {l : List DeedH}
theorem RowJ.kept (h : RowJ w a l) (hb : Below w.heap.size w w') : RowJ w' a l := ⟨rowOf_kept h.row hb, fun q hq => insAt_kept hb (h.ins q hq), h.fine⟩
theorem find_take {l : List DeedH} {x : UInt64} {k : Nat} (hk : k < l.length) (hn : findL (dOf (l.take k)) x = none) (hx : idD l[k].d = x) : findL (dOf l) x = some l[k].d := by
  have e : dOf l = dOf (l.take k) ++ (l[k].d :: dOf (l.drop (k + 1))) := by
    unfold dOf
    conv => lhs; rw [← List.take_append_drop k l, List.map_append, List.drop_eq_getElem_cons hk]
    rfl
  unfold findL at hn ⊢
  rw [e, List.find?_append, hn]
  simp [hx]
theorem find_take_no {l : List DeedH} {x : UInt64} {k : Nat} (hk : k < l.length) (hn : findL (dOf (l.take k)) x = none) (hx : idD l[k].d ≠ x) : findL (dOf (l.take (k + 1))) x = none := by
  rw [findL_none] at hn ⊢
  intro d hd
  unfold dOf at hd
  rw [List.take_succ_eq_append_getElem hk, List.map_append] at hd
  rcases List.mem_append.1 hd with hd | hd
  · exact hn d hd
  · simp only [List.map_cons, List.map_nil, List.mem_singleton] at hd
    rw [hd]
    exact hx
set_option maxRecDepth 20000 in
theorem refFind_any (x : UInt64) (cap : Nat) (w : World) (h : RowJ w a l) (hl : l.length ≤ 2932031007402) :
    Calls Try.prog 43 #[.agg #[.slice a l.length cap], .int .u64 x.toNat] w (FindAns w (findL (dOf l) x)) := by
  obtain ⟨w0, hw0⟩ : ∃ y, y = (w.alloc (.cells #[.slice a l.length cap] 27)).alloc (.cells #[.slice none 0 0, .int .i64 0, .int .i64 0, .int .i64 0] 30) := ⟨_, rfl⟩
  have hk0 : Below w.heap.size w w0 := hw0 ▸ kept_alloc (kept_new _ _) _
  have hbx : w0.heap[w.heap.size + 1]? = some (.cells #[.slice none 0 0, .int .i64 0, .int .i64 0, .int .i64 0] 30 (0, 0)) := hw0 ▸ heap_alloc2_new _ _ _
  have H := Lib.hid (h.kept hk0)
  have HR := Lib.hid h
  have HK := Lib.hid hk0
  have HBX := Lib.hid hbx
  have hsz0 : w.heap.size + 1 < w0.heap.size := (cell_spot (head_cell hbx 0)).2
  have HW0 := Lib.hid hw0
  clear h hk0 hbx hw0
  go_enter Try.func43, Try.ntmps43
  go_wp2_with fail
  rw [← HW0.out]
  go_loopw [11] (fun i wr => ∃ k : Nat, k ≤ l.length ∧ i = .int .i64 k ∧ Hid (findL (dOf (l.take k)) x = none) ∧ Hid (Below w0.heap.size w0 wr)) (fun i _ => l.length - (intOf i).toNat)
  case atStart => exact ⟨0, Nat.zero_le _, rfl, Lib.hid rfl, Lib.hid (Below.refl _ _)⟩
  case round =>
    obtain ⟨k, hk, rfl, NO, HB⟩ := hrel
    by_cases hkl : k < l.length
    · have hr := H.out.kept HB.out
      obtain ⟨bb, oo, rfl, hbb, c0, c1, c2, c3⟩ := hr.row k hkl
      have hin := hr.ins _ (List.getElem_mem hkl)
      have hfi := hr.fine _ (List.getElem_mem hkl)
      have hyes := fun e => find_take hkl NO.out e
      have hno := fun e => find_take_no hkl NO.out e
      obtain ⟨⟨qa, qc, qd⟩, hq⟩ : ∃ q, l[k] = q := ⟨_, rfl⟩
      rw [hq] at c0 c1 c2 c3 hin hfi hyes hno
      simp only at c0 c1 c2 c3 hin hfi hyes hno
      obtain ⟨ix, hix⟩ : ∃ ix, idD qd = ix := ⟨_, rfl⟩
      have hk1 := kept_new wr (.cells #[.slice qa qd.ins.length qc, .int .i64 qd.outs, .int .i64 qd.weight, .int .i64 qd.fee] 30)
      rw [hix] at hyes hno
      have HYES := Lib.hid hyes
      have HNO := Lib.hid hno
      have HIX := Lib.hid hix
      have HFI := Lib.hid hfi
      have HIN := Lib.hid (insAt_kept hk1 hin)
      have HIN0 := Lib.hid (HR.out.ins _ (List.getElem_mem hkl))
      have HQ := Lib.hid hq
      have HK1 := Lib.hid hk1
      clear hr hyes hno hix hfi hin hq hk1
      go_wp2_with fail
      with_reducible refine (idOf_any qd qa qc _ HIN.out HFI.out ix HIX.out).mono ?_
      rintro e w2 ⟨rfl, hb2⟩
      have hbe : ((ix.toNat : Int) == (x.toNat : Int)) = (ix == x) := u64_beq ix x
      by_cases hx : ix = x
      · rw [beq_iff_eq.2 hx] at hbe
        obtain ⟨d0, d1, d2, d3, hs2⟩ := box_four hb2
        have hB := (hb2.block (w.heap.size + 1) (by have := HB.out.size; simp; omega)).trans ((HK1.out.block _ (by have := HB.out.size; omega)).trans ((HB.out.block _ hsz0).trans HBX.out))
        have e0 := (head_cell hB 0).trans rfl
        have e1 := (head_cell hB 1).trans rfl
        have e2 := (head_cell hB 2).trans rfl
        have e3 := (head_cell hB 3).trans rfl
        have f0 := frozen_of_row w2 _ 0 _ _ hB
        have f1 := frozen_of_row w2 _ 1 _ _ hB
        have f2 := frozen_of_row w2 _ 2 _ _ hB
        have f3 := frozen_of_row w2 _ 3 _ _ hB
        have hs := (cell_spot e0).2
        have HF := Lib.hid (HYES.out hx)
        have HB2 := Lib.hid (kept_trans HB.out (kept_trans HK1.out hb2))
        have HL8 := Lib.hid (check_ok HFI.out).1
        have HI0 := HIN0.out
        rw [HQ.out] at HI0
        have HIZ : Hid (InsAt w qa qd.ins) := Lib.hid HI0
        clear hx hB hb2 HI0
        go_wp2_with fail
        refine bodyPost_ret (v := .tuple #[.agg #[.slice qa qd.ins.length qc, .int .i64 qd.outs, .int .i64 qd.weight, .int .i64 qd.fee], .bool true]) (by simp [results, Try.results43, go_sem, e0, e1, e2, e3]) rfl ?_
        rw [HF.out]
        have ht := turn_set4 w2 (w.heap.size + 1) (.slice qa qd.ins.length qc) (.int .i64 qd.outs) (.int .i64 qd.weight) (.int .i64 qd.fee)
        have hbz := kept_trans HK.out HB2.out
        exact ⟨qa, qc, rfl, HL8.out, insAt_turn (insAt_kept hbz HIZ.out) ht (fun bb' o' hne e hk => by
          obtain ⟨b3, o3, e3', hb3, _⟩ := HIZ.out 0 (List.length_pos_iff.2 hne)
          rw [e] at e3'
          cases e3'
          omega), hbz.trans (ht.below (fun k hk => by omega) hbz.size)⟩
      · rw [beq_eq_false_iff_ne.2 hx] at hbe
        have HX := Lib.hid hx
        have HB2 := Lib.hid (kept_trans HB.out (kept_trans HK1.out hb2))
        clear hx hb2
        go_wp2_with fail
        go_roundw
        case rel => exact ⟨k + 1, by omega, by go_num, Lib.hid (HNO.out HX.out), HB2⟩
        case measure => simp [intOf]; omega
    · have he : l.take k = l := List.take_of_length_le (by omega)
      have hf := NO.out
      rw [he] at hf
      have HF := Lib.hid hf
      have hB := (HB.out.block _ (cell_spot (head_cell HBX.out 0)).2).trans HBX.out
      have e0 := (head_cell hB 0).trans rfl
      have e1 := (head_cell hB 1).trans rfl
      have e2 := (head_cell hB 2).trans rfl
      have e3 := (head_cell hB 3).trans rfl
      have f0 := frozen_of_row wr _ 0 _ _ hB
      have f1 := frozen_of_row wr _ 1 _ _ hB
      have f2 := frozen_of_row wr _ 2 _ _ hB
      have f3 := frozen_of_row wr _ 3 _ _ hB
      have hs := (cell_spot e0).2
      clear he hf hB
      go_wp2_with fail
      refine bodyPost_ret (v := .tuple #[.agg #[.slice none 0 0, .int .i64 0, .int .i64 0, .int .i64 0], .bool false]) (by simp [results, Try.results43, go_sem, e0, e1, e2, e3]) rfl ?_
      rw [HF.out]
      have ht := turn_set4 wr (w.heap.size + 1) (.slice none 0 0) (.int .i64 0) (.int .i64 0) (.int .i64 0)
      exact ⟨none, 0, rfl, Nat.zero_le _, fun i hi => absurd hi (by simp [nod]), (kept_trans HK.out HB.out).trans (ht.below (fun k hk => by omega) (kept_trans HK.out HB.out).size)⟩
set_option maxRecDepth 20000 in
theorem refHasJ_any (x : UInt64) (cap : Nat) (w : World) (h : RowJ w a l) (hl : l.length ≤ 2932031007402) (r : Bool) (hr : (findL (dOf l) x).isSome = r) :
    Calls Try.prog 22 #[.agg #[.slice a l.length cap], .int .u64 x.toNat] w fun e w' => e = .returned (.bool r) ∧ Below w.heap.size w w' := by
  have hk0 := kept_new w (.cells #[.slice a l.length cap] 27)
  have H := Lib.hid (h.kept hk0)
  have HR := Lib.hid hr
  clear h hr
  go_enter Try.func22, Try.ntmps22
  go_wp2_with fail
  with_reducible refine (refFind_any x cap _ H.out hl).mono ?_
  rintro e w1 ⟨a1, c1, rfl, _, _, hb1⟩
  rw [HR.out]
  obtain ⟨dd, hdd⟩ : ∃ d, (findL (dOf l) x).getD nod = d := ⟨_, rfl⟩
  rw [hdd]
  clear hdd
  go_wp2_with fail
  go_ret
  exact ⟨rfl, kept_alloc (kept_trans hk0 hb1) _⟩
set_option maxRecDepth 20000 in
theorem refAllJ_any (cap : Nat) (w : World) (h : RowJ w a l) (hl : l.length ≤ 2932031007402) :
    Calls Try.prog 17 #[.agg #[.slice a l.length cap]] w (GaveIds w ((dOf l).map idD)) := by
  have hk0 := kept_new w (.cells #[.slice a l.length cap] 27)
  have H := Lib.hid (h.kept hk0)
  have HK := Lib.hid hk0
  obtain ⟨w0, hw0⟩ : ∃ y, y = w.alloc (.cells #[.slice a l.length cap] 27) := ⟨_, rfl⟩
  rw [← hw0] at H HK
  have HW0 := Lib.hid hw0
  clear h hw0 hk0
  go_enter Try.func17, Try.ntmps17
  go_wp2_with fail
  rw [← HW0.out]
  go_loopw [3, 9] (fun vi i wr => ∃ k : Nat, k ≤ l.length ∧ i = .int .i64 k ∧ Hid (OwnIds wr w0.heap.size vi ((dOf (l.take k)).map idD)) ∧ Hid (Below w0.heap.size w0 wr)) (fun _ i _ => l.length - (intOf i).toNat)
  case atStart => exact ⟨0, Nat.zero_le _, rfl, Lib.hid (ownIds_nil _ _), Lib.hid (Below.refl _ _)⟩
  case round =>
    obtain ⟨k, hk, rfl, HO, HB⟩ := hrel
    rename_i u3
    by_cases hkl : k < l.length
    · have hr := H.out.kept HB.out
      obtain ⟨bb, oo, rfl, hbb, c0, c1, c2, c3⟩ := hr.row k hkl
      have hin := hr.ins _ (List.getElem_mem hkl)
      have hfi := hr.fine _ (List.getElem_mem hkl)
      have hst : (dOf (l.take (k + 1))).map idD = (dOf (l.take k)).map idD ++ [idD l[k].d] := by unfold dOf; rw [List.take_succ_eq_append_getElem hkl]; simp only [List.map_append, List.map_cons, List.map_nil]
      obtain ⟨⟨qa, qc, qd⟩, hq⟩ : ∃ q, l[k] = q := ⟨_, rfl⟩
      rw [hq] at c0 c1 c2 c3 hin hfi hst
      simp only at c0 c1 c2 c3 hin hfi hst
      obtain ⟨ix, hix⟩ : ∃ ix, idD qd = ix := ⟨_, rfl⟩
      rw [hix] at hst
      have hlen : ((dOf (l.take k)).map idD).length ≤ 10000000000000 := by rw [List.length_map, dOf_len, List.length_take]; omega
      have hk1 := kept_new wr (.cells #[.slice qa qd.ins.length qc, .int .i64 qd.outs, .int .i64 qd.weight, .int .i64 qd.fee] 30)
      have HIX := Lib.hid hix
      have HFI := Lib.hid hfi
      have HIN := Lib.hid (insAt_kept hk1 hin)
      have HK1 := Lib.hid hk1
      have HST := Lib.hid hst
      clear hr hix hfi hin hq hk1 hst
      go_wp2_with fail
      with_reducible refine (idOf_any qd qa qc _ HIN.out HFI.out ix HIX.out).mono ?_
      rintro e w2 ⟨rfl, hb2⟩
      have hb12 := kept_trans HK1.out hb2
      have HO2 := Lib.hid (owns_below HO.out hb12)
      have HB2 := Lib.hid (kept_trans HB.out hb12)
      have HLEN := Lib.hid hlen
      clear hb12 hb2 hlen
      go_wp2_with (at_builtin; refine append_idN rfl _ _ rfl ix rfl rfl HO2.out HLEN.out HB2.out.size ?_; intro g4 cap4 w4 ho4 hg4 _)
      have HO4 := Lib.hid ho4
      have HB4 := Lib.hid (HB2.out.grown hg4 HB2.out.size (fun j hj => (HO2.out.lt j hj).1))
      clear ho4 hg4
      go_wp2_with fail
      go_roundw
      case rel => exact ⟨k + 1, by omega, by go_num, Lib.hid (by rw [HST.out]; simpa using HO4.out), HB4⟩
      case measure => simp [intOf]; omega
    · have he : l.take k = l := List.take_of_length_le (by omega)
      have HO' := HO.out
      rw [he] at HO'
      obtain ⟨a6, cap6, e6, _, _, _⟩ := owns_idsAt HO'
      subst e6
      have HE := Lib.hid HO'
      clear HO' he
      go_wp2_with fail
      go_ret
      exact ⟨a6, cap6, rfl, own_mono HE.out HK.out.size, kept_trans HK.out HB.out⟩
end Go.Proofs.Ytihbcgdbennegaa
