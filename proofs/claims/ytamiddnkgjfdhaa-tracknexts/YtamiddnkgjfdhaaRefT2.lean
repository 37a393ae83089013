/-
  The reference's Copy, without, settle, Forget, Drop.
-/
import Derived.Test.YtamiddnkgjfdhaaRefT
namespace Go.Proofs.Ytamiddnkgjfdhaa
open Go.RowKit Go.Maps

variable {w w' : World} {G : Nat → Prop} {B : Nat} {salt : UInt64} {L : List TEnt} {v : Value}

theorem info_entR : (Try.prog.info? 80).map (fun i => (i.zero, i.size, i.bytes)) = some (some (.agg #[.int .i64 0, .int .u64 0, .bool false, .int .i64 0, .int .i64 0]), 5, 40) := by kernel_rfl
/-- 'append(s, e)' of the reference's entries. -/
theorem append_entR {ops : Array Oper} {rest : List Oper} {o : Oper} {a : Act} {Q : Exit → Act → World → Prop} {w : World} (hgd : o.guard = none) (s x : Operand) (ho : o.op = .call { callee := .builtin .append, args := #[s, x], argTypes := #[27, 27] })
    {C : Nat} {v : Value} {d : List TEnt} (y : TEnt) (hs : a.eval s = v) (hx : a.eval x = .slice (some ⟨w.heap.size, 0, none⟩) 1 1) (hown : OwnE w C v d) (hlen : d.length ≤ 1000000) (hC : C ≤ w.heap.size)
    (h : ∀ g cap w', OwnE w' C (.slice (some ⟨g, 0, none⟩) (d.length + 1) cap) (d ++ [y]) → w.grownBy w' v.ownBlock → wpList Try.prog ops Q rest (a.put o.dst (.slice (some ⟨g, 0, none⟩) (d.length + 1) cap)) w') :
    wpList Try.prog ops Q (o :: rest) a (w.alloc (.cells #[.int .i64 y.peer, .int .u64 y.id.toNat, .bool y.pref, .int .i64 y.st, .int .i64 y.till] 80)) := by
  obtain ⟨i0, hi0, hz0, hz1, hz2⟩ := info_parts info_entR
  refine wpList_append_lies _ hgd s x 27 ho C 80 i0 _ 5 40 Try.underlying27 hi0 hz0 hz1 hz2 rfl (by decide) v d.length (entsC d) hs (hown.alloc _) ⟨w.heap.size, 0, none⟩ 1 1 (entC y) hx rfl (cells_new w _ _) (by simp [entC, Value.oneCell']) (by decide) (by unfold maxLen; omega) (by omega) (by simp; omega) _ rfl ?_
  intro g cap w1 hown' hgrow _ _
  refine h g cap w1 ?_ ((World.grownBy_alloc w _ _).trans hgrow)
  unfold OwnE
  rw [List.length_append, entsC_append]
  have : entsC [y] = entC y := by simp [entsC]
  rw [this]
  exact hown'
/-- A new slice of entries is handed out. -/
def CopyOf (w : World) (l : List TEnt) (e : Ending) (w' : World) : Prop := ∃ v', e = .returned v' ∧ (∃ a cap, v' = .slice a l.length cap) ∧ OwnE w' w.heap.size v' l ∧ (l = [] → v' = .slice none 0 0) ∧ Below w.heap.size w w'
/-- A copy. -/
theorem copyR_any (l : List TEnt) (v : Value) (w : World) (hl : l.length ≤ 160) (ho : OwnE w 0 v l) (hn : l = [] → v = .slice none 0 0) :
    Calls Try.prog 56 #[v] w fun e w' => CopyOf w l e w' := by
  by_cases hnil : l = []
  · obtain rfl := hn hnil
    subst hnil
    have HE : Hid (CopyOf w [] (.returned (.slice none 0 0)) w) := Lib.hid ⟨_, rfl, ⟨none, 0, rfl⟩, World.ownsRow_nil _ _ _ _, fun _ => rfl, Below.refl _ _⟩
    clear hl ho hn
    go_enter Try.func56, Try.ntmps56
    go_wp2
    go_ret
    exact HE.out
  · have hpos : 0 < l.length := List.length_pos_iff.2 hnil
    obtain ⟨g, cap, rfl, _, _⟩ := ho.form hpos
    obtain ⟨iE, hiE, hz0, hz1, hz2⟩ := info_parts info_entR
    have HN : Hid (∀ j u, (entsC l)[j]? = some u → w.cell? ((⟨g, 0, none⟩ : Addr).add j) = some u) := Lib.hid (fun j u hj => ho.cells rfl j u hj)
    have HNE := Lib.hid hnil
    clear ho hn hnil
    go_enter Try.func56, Try.ntmps56
    go_wp2_with (at_builtin; refine wpList_append_lies _ rfl _ _ 27 rfl w.heap.size 80 iE _ 5 40 Try.underlying27 hiE hz0 hz1 hz2 rfl (by decide) (.slice none 0 0) 0 [] rfl (World.ownsRow_nil _ _ _ _) ⟨g, 0, none⟩ l.length cap (entsC l) rfl (entsC_length l) HN.out (entC_one l) hpos (by unfold maxLen; omega) (by omega) (Nat.le_refl _) _ rfl ?_; intro g2 cap2 w2 hown2 hgrow2 hat2 hlt2)
    have HE : Hid (CopyOf w l (.returned (.slice (some ⟨g2, 0, none⟩) l.length cap2)) w2) := Lib.hid (by
      rw [Nat.zero_add] at hown2
      exact ⟨_, rfl, ⟨_, _, rfl⟩, hown2, fun h => absurd h HNE.out, (Below.refl _ _).grown hgrow2 (Nat.le_refl _) (fun j hj => by cases hj)⟩)
    clear hown2 hgrow2 hat2
    go_wp2
    go_ret
    exact HE.out
set_option maxRecDepth 20000 in
/-- without: those that are not chosen. -/
theorem without_any (K : World → Prop) (hK : ∀ a b, K a → Below a.heap.size a b → K b) (f : FuncId) (fc : Array Value) (q : TEnt → Bool) (hp : Picks K f fc q) (l : List TEnt) (a : Option Addr) (cp : Nat) (w : World) (hw : K w) (hl : l.length ≤ 160) (hi : EntsAt w a l) :
    Calls Try.prog 58 #[.slice a l.length cp, .func (.func f) #[] fc] w fun e w' => CopyOf w (l.filter fun e => !q e) e w' := by
  have hcf := hp.1
  have HP := Lib.hid hp.2
  have HK := Lib.hid hK
  have HW := Lib.hid hw
  have HI := Lib.hid hi
  clear hp hK hw hi
  go_enter Try.func58, Try.ntmps58
  go_wp2
  go_loopw [5, 10] (fun v i wr => ∃ k : Nat, k ≤ l.length ∧ i = .int .i64 k ∧ Hid (OwnE wr w.heap.size v ((l.take k).filter fun e => !q e)) ∧ Hid (((l.take k).filter fun e => !q e) = [] → v = .slice none 0 0) ∧ Hid (Below w.heap.size w wr)) (fun _ i _ => l.length - (intOf i).toNat)
  case atStart => exact ⟨0, Nat.zero_le _, rfl, Lib.hid (World.ownsRow_nil _ _ _ _), Lib.hid (fun _ => rfl), Lib.hid (Below.refl _ _)⟩
  case round =>
    obtain ⟨k, hk, rfl, HO, HNI, HB⟩ := hrel
    rename_i u5
    by_cases hkl : k < l.length
    · obtain ⟨g, o, rfl, hg, hc5⟩ := entsAt_kept HB.out HI.out k hkl
      have hstep := filter_step (q := fun e => !q e) hkl
      obtain ⟨e0, he0⟩ : ∃ e0, l[k] = e0 := ⟨_, rfl⟩
      rw [he0] at hc5 hstep
      obtain ⟨c0, c1, c2, c3, c4⟩ := hc5
      have HST := Lib.hid hstep
      have hlen : ((l.take k).filter fun e => !q e).length ≤ 160 := Nat.le_trans (List.length_filter_le _ _) (Nat.le_trans (List.length_take_le _ _) (by omega))
      have hb1 := kept_new wr (.cells #[.int .i64 e0.peer, .int .u64 e0.id.toNat, .bool e0.pref, .int .i64 e0.st, .int .i64 e0.till] 80)
      clear hstep he0
      go_wp2_with fail
      refine (HP.out e0 _ (HK.out _ _ HW.out (kept_trans HB.out hb1))).mono ?_
      rintro e w2 ⟨rfl, hb2⟩
      have hb12 := kept_trans hb1 hb2
      obtain ⟨d0, d1, d2, d3, d4⟩ : EntAt w2 wr.heap.size 0 e0 := entAt_kept hb2 ⟨by simp [go_sem], by simp [go_sem], by simp [go_sem], by simp [go_sem], by simp [go_sem]⟩
      have hlt2 := (cell_spot d0).2
      have HO2 := Lib.hid (owns_below HO.out hb12)
      have HB2 := Lib.hid (kept_trans HB.out hb12)
      clear hb1 hb12
      cases hq : q e0 with
      | true =>
        rw [hq] at HST
        clear hq
        go_wp2_with fail
        go_roundw
        case rel => exact ⟨k + 1, by omega, by go_num, Lib.hid (by rw [HST.out]; simp only [Bool.not_true, Bool.false_eq_true, if_false, List.append_nil]; exact HO2.out), Lib.hid (by rw [HST.out]; simp only [Bool.not_true, Bool.false_eq_true, if_false, List.append_nil]; exact HNI.out), HB2⟩
        case measure => simp [intOf]; omega
      | false =>
        rw [hq] at HST
        clear hq
        go_wp2_with (at_builtin; refine append_entR rfl _ _ rfl e0 rfl rfl HO2.out (by omega) HB2.out.size ?_; intro g4 cap4 w4 ho4 hg4)
        have HO4 := Lib.hid ho4
        have HB4 := Lib.hid (HB2.out.grown hg4 HB2.out.size (fun j hj => (HO2.out.lt j hj).1))
        clear ho4 hg4
        go_wp2_with fail
        go_roundw
        case rel => exact ⟨k + 1, by omega, by go_num, Lib.hid (by rw [HST.out]; simp only [Bool.not_false, if_true]; exact HO4.out), Lib.hid (by rw [HST.out]; intro h; simp at h), HB4⟩
        case measure => simp [intOf]; omega
    · have he : l.take k = l := List.take_of_length_le (by omega)
      have HO' := HO.out
      have HN' := HNI.out
      rw [he] at HO' HN'
      obtain ⟨a6, cap6, e6, _, _, _⟩ := ownE_form HO'
      subst e6
      have HE := Lib.hid (And.intro HO' HN')
      clear HO' HN' he
      go_wp2_with fail
      go_ret
      exact ⟨_, rfl, ⟨_, _, rfl⟩, HE.out.1, HE.out.2, HB.out⟩

/-! ### settle -/
/-- What the functions of settle look at. -/
def Looks (B c1 : Nat) (a : Option Addr) (cp : Nat) (L : List TEnt) (w : World) : Prop := w.cell? ⟨c1, 0, none⟩ = some (.pointer (some ⟨B, 0, none⟩)) ∧ w.cell? ⟨B, 1, none⟩ = some (.slice a L.length cp) ∧ EntsAt w a L
theorem looks_kept {B c1 : Nat} {a : Option Addr} {cp : Nat} {L : List TEnt} (u w : World) (h : Looks B c1 a cp L u) (hb : Below u.heap.size u w) : Looks B c1 a cp L w := ⟨kept_cell hb h.1, kept_cell hb h.2.1, entsAt_kept hb h.2.2⟩
set_option maxRecDepth 20000 in
theorem open_fn (B c1 : Nat) (a : Option Addr) (cp : Nat) (L : List TEnt) (hl : L.length ≤ 160) (x : UInt64) (w : World) (h : Looks B c1 a cp L w) :
    Calls Try.prog 75 #[.int .u64 x.toNat, .pointer (some ⟨c1, 0, none⟩)] w fun e w' => e = .returned (.bool (openL L x)) ∧ Below w.heap.size w w' := by
  obtain ⟨c0, c1', hat⟩ := h
  have hl1 := (cell_spot c0).2
  have hl2 := (cell_spot c1').2
  have HA := Lib.hid hat
  obtain ⟨r, hr⟩ : ∃ r, openL L x = r := ⟨_, rfl⟩
  rw [hr]
  have HR : Hid (L.any (fun e => e.id == x && e.st != 3) = r) := Lib.hid hr
  clear hat hr
  go_enter Try.func75, Try.ntmps75
  go_wp2
  go_loopw [11] (fun i wr => ∃ k : Nat, k ≤ L.length ∧ i = .int .i64 k ∧ Hid ((L.take k).any (fun e => e.id == x && e.st != 3) = false) ∧ Hid (Below w.heap.size w wr)) (fun i _ => L.length - (intOf i).toNat)
  case atStart => exact ⟨0, Nat.zero_le _, rfl, Lib.hid rfl, Lib.hid (Below.refl _ _)⟩
  case round =>
    obtain ⟨k, hk, rfl, NO, HB⟩ := hrel
    by_cases hkl : k < L.length
    · obtain ⟨g, o, rfl, hg, d0, d1, d2, d3, d4⟩ := entsAt_kept HB.out HA.out k hkl
      have HB1 := Lib.hid (kept_alloc HB.out (.cells #[.int .i64 L[k].peer, .int .u64 L[k].id.toNat, .bool L[k].pref, .int .i64 L[k].st, .int .i64 L[k].till] 80))
      have hq1 := bne_nat L[k].st 3
      have hq2 : ((L[k].id.toNat : Int) == (x.toNat : Int)) = (L[k].id == x) := u64_beq _ _
      have hst : (L.take (k + 1)).any (fun e => e.id == x && e.st != 3) = ((L.take k).any (fun e => e.id == x && e.st != 3) || (L[k].id == x && L[k].st != 3)) := by rw [List.take_succ_eq_append_getElem hkl, List.any_append]; simp
      rw [NO.out, Bool.false_or] at hst
      have HST := Lib.hid hst
      clear hst
      cases e2 : L[k].id == x with
      | true =>
        cases e1 : L[k].st != 3 with
        | true =>
          rw [e1] at hq1
          rw [e2] at hq2
          have HQ : Hid (true = r) := Lib.hid (by
            rw [← HR.out]
            exact (List.any_eq_true.2 ⟨L[k], List.getElem_mem hkl, by rw [e1, e2]; rfl⟩).symm)
          clear e1 e2
          go_wp2
          go_ret
          exact ⟨ret_bool HQ.out, HB1.out⟩
        | false =>
          rw [e1, e2] at HST
          rw [e1] at hq1
          rw [e2] at hq2
          clear e1 e2
          go_wp2
          go_roundw
          case rel => exact ⟨k + 1, by omega, by go_num, HST, HB1⟩
          case measure => simp [intOf]; omega
      | false =>
        rw [e2] at HST hq2
        clear e2
        go_wp2
        go_roundw
        case rel => exact ⟨k + 1, by omega, by go_num, HST, HB1⟩
        case measure => simp [intOf]; omega
    · go_wp2
      go_ret
      refine ⟨ret_bool ?_, HB.out⟩
      have h1 := NO.out
      rw [List.take_of_length_le (by omega)] at h1
      exact h1.symm.trans HR.out
/-- .. behind the variable that holds the first of them. -/
def Looks2 (B c1 c2 : Nat) (a : Option Addr) (cp : Nat) (L : List TEnt) (w : World) : Prop := w.cell? ⟨c2, 0, none⟩ = some (.func (.func 75) #[] #[.pointer (some ⟨c1, 0, none⟩)]) ∧ Looks B c1 a cp L w
theorem looks2_kept {B c1 c2 : Nat} {a : Option Addr} {cp : Nat} {L : List TEnt} (u w : World) (h : Looks2 B c1 c2 a cp L u) (hb : Below u.heap.size u w) : Looks2 B c1 c2 a cp L w := ⟨kept_cell hb h.1, looks_kept u w h.2 hb⟩
theorem picks_shut (B c1 c2 : Nat) (a : Option Addr) (cp : Nat) (L : List TEnt) (hl : L.length ≤ 160) : Picks (Looks2 B c1 c2 a cp L) 76 #[.pointer (some ⟨c2, 0, none⟩)] (fun e => !openL L e.id) := by
  refine ⟨fun _ _ => by kernel_rfl, fun e w hw => ?_⟩
  unfold entV
  have hc := hw.1
  have hlt : c2 < w.heap.size := (cell_spot hc).2
  have HW := Lib.hid hw.2
  clear hw
  show Calls Try.prog 76 #[.agg #[.int .i64 e.peer, .int .u64 e.id.toNat, .bool e.pref, .int .i64 e.st, .int .i64 e.till], .pointer (some ⟨c2, 0, none⟩)] w _
  go_enter Try.func76, Try.ntmps76
  go_wp2_with fail
  with_reducible refine (open_fn B c1 a cp L hl e.id _ (looks_kept _ _ HW.out (kept_new _ _))).mono ?_
  rintro x w1 ⟨rfl, hb1⟩
  go_wp2_with fail
  go_ret
  exact ⟨rfl, kept_trans (kept_new _ _) hb1⟩
/-- Where a list is said otherwise. -/
theorem CopyOf.as {w w' : World} {l m : List TEnt} {e : Ending} (h : CopyOf w l e w') (he : l = m) : CopyOf w m e w' := he ▸ h
end Go.Proofs.Ytamiddnkgjfdhaa
