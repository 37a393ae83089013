/-
  The reference's Due, Answer, Ask.
  The reference's Answer and Ask.
-/
import Derived.Test.YtamiddnkgjfdhaaRefT3
namespace Go.Proofs.Ytamiddnkgjfdhaa
open Go.RowKit Go.Maps

variable {w w' : World} {G : Nat → Prop} {B : Nat} {salt : UInt64} {L : List TEnt} {v : Value}

/-- An entry of the reference's list, and what a store does. -/
theorem RefTr.entry (h : RefTr w G B salt L v) {i : Nat} (hi : i < L.length) : ∃ g cap, v = .slice (some ⟨g, 0, Option.none⟩) L.length cap ∧ L.length ≤ cap ∧ EntAt w g (i * 5) L[i] ∧ (∀ j, w.frozen? ⟨g, j, Option.none⟩ = false) ∧ g < w.heap.size ∧ G g ∧ g ≠ B := by
  rcases h.row.2 with ⟨_, hn⟩ | ⟨g, cap, cur, hv, hB, hg, hc, _, _, _⟩
  · omega
  · subst hv
    obtain ⟨a, c, e, _, hat, _⟩ := ownE_form h.row
    simp only [Value.slice.injEq] at e
    obtain ⟨rfl, _, rfl⟩ := e
    obtain ⟨b, o, e, hb, hc5⟩ := hat i hi
    simp only [Option.some.injEq, Addr.mk.injEq, and_true] at e
    obtain ⟨rfl, rfl⟩ := e
    rw [Nat.zero_add] at hc5
    refine ⟨g, cap, rfl, hc, hc5, fun j => h.row.frozenAt j, hb, h.gv g rfl, fun e => ?_⟩
    rw [e, h.head] at hg
    simp at hg
theorem RefTr.put_st {g cap n : Nat} (h : RefTr w G B salt L (.slice (some ⟨g, 0, Option.none⟩) n cap)) (hgB : g ≠ B) {i : Nat} (hi : i < L.length) (k : Nat) :
    RefTr (w.setCell ⟨g, i * 5 + 3, Option.none⟩ (.int .i64 k)) G B salt (L.set i { L[i] with st := k }) (.slice (some ⟨g, 0, Option.none⟩) n cap) ∧ Turn G G w (w.setCell ⟨g, i * 5 + 3, Option.none⟩ (.int .i64 k)) := by
  obtain ⟨g', cap', e, _⟩ := h.entry hi
  simp only [Value.slice.injEq] at e
  obtain rfl := e.2.1
  refine ⟨⟨(Below.heap_setCell w ⟨g, i * 5 + 3, Option.none⟩ _ B (fun e => hgB e.symm)).trans h.head, ?_, fun e => ?_, h.gB, h.gv, h.there.later (by simp)⟩, Turn.set w ⟨g, i * 5 + 3, Option.none⟩ _ (h.gv g rfl)⟩
  · unfold OwnE
    rw [entsC_st L i hi, List.length_set]
    exact (h.row.stored _ _).1
  · rw [List.set_eq_nil_iff] at e
    rw [e] at hi
    simp at hi
theorem RefTr.put_till {g cap n : Nat} (h : RefTr w G B salt L (.slice (some ⟨g, 0, Option.none⟩) n cap)) (hgB : g ≠ B) {i : Nat} (hi : i < L.length) (k : Int) :
    RefTr (w.setCell ⟨g, i * 5 + 4, Option.none⟩ (.int .i64 k)) G B salt (L.set i { L[i] with till := k }) (.slice (some ⟨g, 0, Option.none⟩) n cap) ∧ Turn G G w (w.setCell ⟨g, i * 5 + 4, Option.none⟩ (.int .i64 k)) := by
  obtain ⟨g', cap', e, _⟩ := h.entry hi
  simp only [Value.slice.injEq] at e
  obtain rfl := e.2.1
  refine ⟨⟨(Below.heap_setCell w ⟨g, i * 5 + 4, Option.none⟩ _ B (fun e => hgB e.symm)).trans h.head, ?_, fun e => ?_, h.gB, h.gv, h.there.later (by simp)⟩, Turn.set w ⟨g, i * 5 + 4, Option.none⟩ _ (h.gv g rfl)⟩
  · unfold OwnE
    rw [entsC_till L i hi, List.length_set]
    exact (h.row.stored _ _).1
  · rw [List.set_eq_nil_iff] at e
    rw [e] at hi
    simp at hi
/-- One of a list of pairwise different ones is turned. -/
theorem set_isE {L : List TEnt} (hn : L.Pairwise fun a b => ¬ (a.peer = b.peer ∧ a.id = b.id)) {p i : Nat} {x : UInt64} (hi : i < L.length) (hp : isE p x L[i] = true) (g : TEnt → TEnt) : L.set i (g L[i]) = L.map fun e => if isE p x e then g e else e := by
  apply List.ext_getElem
  · simp
  intro j h1 h2
  rw [List.length_set] at h1
  rw [List.getElem_set, List.getElem_map]
  by_cases hij : i = j
  · subst hij
    rw [if_pos rfl, if_pos hp]
  · rw [if_neg hij, if_neg]
    intro hq
    unfold isE at hp hq
    simp only [Bool.and_eq_true, beq_iff_eq] at hp hq
    have hpw := List.pairwise_iff_getElem.1 hn
    rcases Nat.lt_or_gt_of_ne hij with hlt | hlt
    · exact hpw i j hi h1 hlt ⟨hp.1.trans hq.1.symm, hp.2.trans hq.2.symm⟩
    · exact hpw j i h1 hi hlt ⟨hq.1.trans hp.1.symm, hq.2.trans hp.2.symm⟩
theorem ref_copied (h : RefTr w G B salt L v) {w1 : World} {L' : List TEnt} {v' : Value} (hb : Below w.heap.size w w') (hc : CopyOf w' L' (.returned v') w1) : ∃ G', RefTr (w1.setCell ⟨B, 1, none⟩ v') G' B salt L' v' ∧ Turn G G' w (w1.setCell ⟨B, 1, none⟩ v') := by
  obtain ⟨v2, h1, _, h2, h3, h4⟩ := hc
  obtain rfl : v' = v2 := by cases h1; rfl
  obtain ⟨h5, h6⟩ := h.stored (kept_trans hb h4) (own_low h2 hb.size) h3
  exact ⟨_, h5, h6⟩
theorem RefTr.as {L' : List TEnt} (h : RefTr w G B salt L v) (e : L = L') : RefTr w G B salt L' v := e ▸ h
set_option maxRecDepth 20000 in
theorem refDue_any (now : Int) (w : World) (h : RefTr w G B salt L v) (hl : L.length ≤ 160) (hs : ∀ e ∈ L, e.st ≤ 3) :
    Calls Try.prog 33 #[.pointer (some ⟨B, 0, none⟩), .int .i64 now] w fun e w' => e = .returned (.tuple #[]) ∧ RefTurned w w' G B salt (dueL now L) := by
  obtain ⟨c1, f1⟩ := h.slicec
  have hlt := h.lt
  have H := Lib.hid h
  have HS := Lib.hid hs
  obtain ⟨a, cp, hv, hcp, _, _⟩ := ownE_form h.row
  subst hv
  clear h hs
  go_enter Try.func33, Try.ntmps33
  go_wp2_with fail
  with_reducible refine (copyR_any L _ _ hl H.out.row H.out.none).mono ?_
  intro e w1 hc1
  obtain ⟨a1, cp1, rfl⟩ := copy_form hc1
  have hb1 := copy_below hc1
  have c2 := kept_cell hb1 c1
  have f2 := free_kept hb1 c1 f1
  have hlt1 := (cell_spot c2).2
  have HC1 := Lib.hid hc1
  clear hc1
  go_wp2_with fail
  obtain ⟨G1, h2, t2⟩ := ref_copied H.out (Below.refl _ _) HC1.out
  generalize w1.setCell ⟨B, 1, none⟩ (.slice a1 L.length cp1) = w2 at h2 t2 ⊢
  have H2 := Lib.hid h2
  have T2 := Lib.hid t2
  clear h2 t2 hb1 c2 f2 hlt1 HC1 c1 f1
  go_loopw [19] (fun i wr => ∃ k : Nat, k ≤ L.length ∧ i = .int .i64 k ∧ Hid (RefTr wr G1 B salt (dueK now L k) (.slice a1 L.length cp1)) ∧ Hid (Turn G G1 w wr)) (fun i _ => L.length - (intOf i).toNat)
  case atStart => exact ⟨0, Nat.zero_le _, rfl, Lib.hid H2.out, T2⟩
  case round =>
    obtain ⟨k, hk, rfl, HK, HT⟩ := hrel
    by_cases hkl : k < L.length
    · have hlk := dueK_length now L k
      obtain ⟨g, cap, e1, hcap, hc5, hfr, hg, hGg, hgB⟩ := HK.out.entry (i := k) (by omega)
      rw [hlk] at e1 hcap
      simp only [Value.slice.injEq, true_and] at e1
      obtain ⟨rfl, rfl⟩ := e1
      rw [dueK_at now L k hkl] at hc5
      have hst := HS.out _ (List.getElem_mem hkl)
      have hstep := dueK_step now L k hkl
      obtain ⟨e0, he0⟩ : ∃ e0, L[k] = e0 := ⟨_, rfl⟩
      have hsame : dueE now e0 = e0 → dueK now L k = dueK now L (k + 1) := fun hd => by
        rw [← hstep, he0, hd]
        have := dueK_at now L k hkl
        rw [he0] at this
        rw [← this, List.set_getElem_self]
      have hbX := kept_new wr (.cells #[.int .i64 e0.peer, .int .u64 e0.id.toNat, .bool e0.pref, .int .i64 e0.st, .int .i64 e0.till] 80)
      have HX := Lib.hid (HK.out.kept hbX)
      have HTX := Lib.hid (HT.out.trans (Turn.of_below (F := G1) hbX))
      have hpt := fun st => HK.out.put_st hgB (i := k) (by omega) st
      rw [dueK_at now L k hkl] at hpt
      rw [he0] at hc5 hst hpt hstep
      obtain ⟨d0, d1, d2, d3, d4⟩ := hc5
      obtain ⟨sc, sf⟩ := HK.out.slicec
      have hBl := HK.out.lt
      have hfr3 := hfr (k * 5 + 3)
      have HP := Lib.hid hpt
      have HST := Lib.hid hstep
      have HSA := Lib.hid hsame
      have HE0 := Lib.hid he0
      clear hpt hstep hsame he0 hfr hlk HK hbX
      by_cases ht : e0.till ≤ now
      · have hs4 : e0.st = 0 ∨ e0.st = 1 ∨ e0.st = 2 ∨ e0.st = 3 := by omega
        rcases hs4 with h0 | h0 | h0 | h0
        · have HD : Hid (dueE now e0 = { e0 with st := 1 }) := Lib.hid (by unfold dueE; rw [if_pos ht, if_pos h0])
          have HP1 := Lib.hid (HP.out 1)
          rw [h0] at d3
          clear HP HX HTX h0
          go_wp2_with fail
          go_roundw
          case rel => exact ⟨k + 1, by omega, by go_num, Lib.hid ((HP1.out.1.as (by rw [← HST.out, HD.out])).kept (kept_new _ _)), Lib.hid ((HT.out.trans HP1.out.2).trans (Turn.of_below (kept_new _ _)))⟩
          case measure => simp [intOf]; omega
        · have HD : Hid (dueE now e0 = e0) := Lib.hid (by unfold dueE; rw [if_pos ht, if_neg (by omega), if_neg (by omega)])
          rw [h0] at d3 HX HTX
          clear HP h0
          go_wp2_with fail
          go_roundw
          case rel => exact ⟨k + 1, by omega, by go_num, Lib.hid (HX.out.as (HSA.out HD.out)), HTX⟩
          case measure => simp [intOf]; omega
        · have HD : Hid (dueE now e0 = { e0 with st := 3 }) := Lib.hid (by unfold dueE; rw [if_pos ht, if_neg (by omega), if_pos h0])
          have HP1 := Lib.hid (HP.out 3)
          rw [h0] at d3
          clear HP HX HTX h0
          go_wp2_with fail
          go_roundw
          case rel => exact ⟨k + 1, by omega, by go_num, Lib.hid ((HP1.out.1.as (by rw [← HST.out, HD.out])).kept (kept_new _ _)), Lib.hid ((HT.out.trans HP1.out.2).trans (Turn.of_below (kept_new _ _)))⟩
          case measure => simp [intOf]; omega
        · have HD : Hid (dueE now e0 = e0) := Lib.hid (by unfold dueE; rw [if_pos ht, if_neg (by omega), if_neg (by omega)])
          rw [h0] at d3 HX HTX
          clear HP h0
          go_wp2_with fail
          go_roundw
          case rel => exact ⟨k + 1, by omega, by go_num, Lib.hid (HX.out.as (HSA.out HD.out)), HTX⟩
          case measure => simp [intOf]; omega
      · have HD : Hid (dueE now e0 = e0) := Lib.hid (by unfold dueE; rw [if_neg ht])
        go_wp2_with fail
        go_roundw
        case rel => exact ⟨k + 1, by omega, by go_num, Lib.hid (HX.out.as (HSA.out HD.out)), HTX⟩
        case measure => simp [intOf]; omega
    · have he := dueK_end now L k (by omega)
      have HK2 := Lib.hid (HK.out.as he)
      have hlm : (L.map (dueE now)).length ≤ 160 := by rw [List.length_map]; exact hl
      clear HK he
      go_wp2_with fail
      with_reducible refine (refSettle_any _ HK2.out hlm).mono ?_
      rintro e w3 ⟨rfl, h3⟩
      have H3 := Lib.hid h3
      clear h3
      go_wp2_with fail
      go_end0
      obtain ⟨G5, v5, h5, t5⟩ := H3.out
      exact ⟨rfl, G5, v5, h5, HT.out.trans t5⟩
end Go.Proofs.Ytamiddnkgjfdhaa

namespace Go.Proofs.Ytamiddnkgjfdhaa
open Go.RowKit Go.Maps

variable {w w' : World} {G : Nat → Prop} {B : Nat} {salt : UInt64} {L : List TEnt} {v : Value}

theorem refAnswer_bad (p : Int) (hp : ¬ goodP p) (x : UInt64) (w : World) : Calls Try.prog 36 #[.pointer (some ⟨B, 0, none⟩), .int .i64 p, .int .u64 x.toNat] w fun e w' => e = .returned (.int .i64 1) ∧ w = w' := by
  have HP := Lib.hid hp
  clear hp
  go_enter Try.func36, Try.ntmps36
  go_wp2_with fail
  with_reducible refine (badPeer_yes p HP.out _).mono ?_
  rintro e w1 ⟨rfl, rfl⟩
  go_wp2_with fail
  go_ret
  exact ⟨rfl, rfl⟩
/-- An entry of a copy. -/
theorem copy_entry {L : List TEnt} {a : Option Addr} {n cap : Nat} (h : CopyOf w L (.returned (.slice a n cap)) w') {i : Nat} (hi : i < L.length) : ∃ g, a = some ⟨g, 0, none⟩ ∧ n = L.length ∧ L.length ≤ cap ∧ EntAt w' g (i * 5) L[i] ∧ (∀ j, w'.frozen? ⟨g, j, none⟩ = false) ∧ g < w'.heap.size ∧ w.heap.size ≤ g := by
  obtain ⟨v2, e, _, ho, _, _⟩ := h
  obtain rfl : Value.slice a n cap = v2 := by cases e; rfl
  rcases ho.2 with ⟨_, hn⟩ | ⟨g, cap, cur, hv, hB, hg, hc, _, _, _⟩
  · omega
  · simp only [Value.slice.injEq] at hv
    obtain ⟨rfl, rfl, rfl⟩ := hv
    obtain ⟨a, c, e, _, hat, _⟩ := ownE_form ho
    simp only [Value.slice.injEq] at e
    obtain ⟨rfl, _, rfl⟩ := e
    obtain ⟨b, o, e, hb, hc5⟩ := hat i hi
    simp only [Option.some.injEq, Addr.mk.injEq, and_true] at e
    obtain ⟨rfl, rfl⟩ := e
    rw [Nat.zero_add] at hc5
    exact ⟨g, rfl, rfl, hc, hc5, fun j => ho.frozenAt j, hb, hB⟩
set_option maxRecDepth 20000 in
theorem refAnswer_any (p : Nat) (hp : p < 8) (x : UInt64) (w : World) (h : RefTr w G B salt L v) (hl : L.length ≤ 160) (hn : L.Pairwise fun a b => ¬ (a.peer = b.peer ∧ a.id = b.id)) :
    Calls Try.prog 36 #[.pointer (some ⟨B, 0, none⟩), .int .i64 p, .int .u64 x.toNat] w fun e w' => e = .returned (.int .i64 (answerL L p x).1) ∧ RefTurned w w' G B salt (answerL L p x).2 := by
  obtain ⟨c1, f1⟩ := h.slicec
  have hlt := h.lt
  obtain ⟨a, cp, hv, hcp, _, _⟩ := ownE_form h.row
  subst hv
  have H := Lib.hid h
  clear h
  cases hany : L.any (isE p x) with
  | false =>
    have HE : Hid (answerL L p x = (5, L)) := Lib.hid (by unfold answerL; rw [if_neg (by rw [hany]; decide)])
    have HF := Lib.hid (firstAt_none hany)
    clear hany hn
    go_enter Try.func36, Try.ntmps36
    go_wp2_with fail
    with_reducible refine (badPeer_no p hp _).mono ?_
    rintro e w1 ⟨rfl, rfl⟩
    go_wp2_with fail
    with_reducible refine (at_any p x _ H.out hl).mono ?_
    rintro e w1 ⟨rfl, hb1⟩
    rw [HF.out]
    go_wp2_with fail
    go_ret
    rw [HE.out]
    exact ⟨rfl, ref_still H.out hb1⟩
  | true =>
    have HE : Hid (answerL L p x = (0, settleL (L.map (doneE p x)))) := Lib.hid (by unfold answerL; rw [if_pos hany])
    obtain ⟨k, hk, hfk, _, hq⟩ := firstAt_some hany
    have HF := Lib.hid hfk
    have HM : Hid (L.set k { L[k] with st := 3 } = L.map (doneE p x)) := Lib.hid (set_isE hn hk hq (fun e => { e with st := 3 }))
    clear hany hfk hn hq
    go_enter Try.func36, Try.ntmps36
    go_wp2_with fail
    with_reducible refine (badPeer_no p hp _).mono ?_
    rintro e w1 ⟨rfl, rfl⟩
    go_wp2_with fail
    with_reducible refine (at_any p x _ H.out hl).mono ?_
    rintro e w1 ⟨rfl, hb1⟩
    rw [HF.out]
    have c2 := kept_cell hb1 c1
    have H2 := Lib.hid (H.out.kept hb1)
    have hlt2 := H2.out.lt
    have HB1 := Lib.hid hb1
    have hk0 : ¬ (k : Int) < 0 := by omega
    clear hb1
    go_wp2_with fail
    with_reducible refine (copyR_any L _ _ hl H2.out.row H2.out.none).mono ?_
    intro e w3 hc3
    obtain ⟨a3, cp3, rfl⟩ := copy_form hc3
    have hb3 := copy_below hc3
    have c3 := kept_cell hb3 c2
    have f3 := free_kept hb3 H2.out.slicec.1 H2.out.slicec.2
    have hlt3 := (cell_spot c3).2
    obtain ⟨G4, h4, t4⟩ := ref_copied H2.out (Below.refl _ _) hc3
    obtain ⟨g, rfl, _, hcap, ⟨_, _, _, q3, _⟩, hfr, hg, hgw⟩ := copy_entry hc3 hk
    have hgB : g ≠ B := by omega
    have hr3 := hfr (k * 5 + 3)
    have HP := Lib.hid (h4.put_st hgB hk 3)
    rw [HM.out, show ((3 : Nat) : Int) = 3 from rfl] at HP
    have HT4 := Lib.hid ((Turn.of_below (F := G) HB1.out).trans t4)
    have hlm : (L.map (doneE p x)).length ≤ 160 := by rw [List.length_map]; exact hl
    clear h4 t4 hfr hc3 hb3
    go_wp2_with fail
    with_reducible refine (refSettle_any _ HP.out.1 hlm).mono ?_
    rintro e w6 ⟨rfl, h6⟩
    have H6 := Lib.hid h6
    clear h6
    go_wp2_with fail
    go_ret
    obtain ⟨G7, v7, h7, t7⟩ := H6.out
    rw [HE.out]
    exact ⟨rfl, G7, v7, h7, (HT4.out.trans HP.out.2).trans t7⟩

theorem isE_only {L : List TEnt} (hn : L.Pairwise fun a b => ¬ (a.peer = b.peer ∧ a.id = b.id)) {p i : Nat} {x : UInt64} (hi : i < L.length) (hp : isE p x L[i] = true) {e : TEnt} (he : e ∈ L) (hq : isE p x e = true) : e = L[i] := by
  obtain ⟨j, hj, rfl⟩ := List.getElem_of_mem he
  by_cases hij : i = j
  · subst hij; rfl
  · exfalso
    unfold isE at hp hq
    simp only [Bool.and_eq_true, beq_iff_eq] at hp hq
    have hpw := List.pairwise_iff_getElem.1 hn
    rcases Nat.lt_or_gt_of_ne hij with hlt | hlt
    · exact hpw i j hi hj hlt ⟨hp.1.trans hq.1.symm, hp.2.trans hq.2.symm⟩
    · exact hpw j i hj hi hlt ⟨hq.1.trans hp.1.symm, hq.2.trans hp.2.symm⟩
theorem may_is {L : List TEnt} (hn : L.Pairwise fun a b => ¬ (a.peer = b.peer ∧ a.id = b.id)) {p i : Nat} {x : UInt64} (hi : i < L.length) (hp : isE p x L[i] = true) : mayAsk L p x = (L[i].st == 1 && !L.any (fun e => e.id == x && e.st == 2)) := by
  unfold mayAsk
  congr 1
  rw [Bool.eq_iff_iff, List.any_eq_true]
  constructor
  · rintro ⟨e, he, hq⟩
    rw [Bool.and_eq_true] at hq
    rw [← isE_only hn hi hp he hq.1]
    exact hq.2
  · intro h
    exact ⟨L[i], List.getElem_mem hi, by rw [hp, h]; rfl⟩
theorem refAsk_bad (p t : Int) (hp : ¬ goodP p ∨ ¬ goodT t) (x : UInt64) (w : World) : Calls Try.prog 34 #[.pointer (some ⟨B, 0, none⟩), .int .i64 p, .int .u64 x.toNat, .int .i64 t] w fun e w' => e = .returned (.int .i64 1) ∧ w = w' := by
  by_cases h1 : goodP p
  · have HT : Hid (¬ goodT t) := Lib.hid (hp.resolve_left (fun h => h h1))
    obtain ⟨n, rfl, hn, _⟩ := peer_nat h1
    clear hp h1
    go_enter Try.func34, Try.ntmps34
    go_wp2_with fail
    with_reducible refine (badPeer_no n hn _).mono ?_
    rintro e w1 ⟨rfl, rfl⟩
    go_wp2_with fail
    with_reducible refine (badTime_yes t HT.out _).mono ?_
    rintro e w1 ⟨rfl, rfl⟩
    go_wp2_with fail
    go_ret
    exact ⟨rfl, rfl⟩
  · have HP := Lib.hid h1
    clear hp h1
    go_enter Try.func34, Try.ntmps34
    go_wp2_with fail
    with_reducible refine (badPeer_yes p HP.out _).mono ?_
    rintro e w1 ⟨rfl, rfl⟩
    go_wp2_with fail
    go_ret
    exact ⟨rfl, rfl⟩
set_option maxRecDepth 20000 in
theorem refAsk_any (p : Nat) (hp : p < 8) (x : UInt64) (t : Int) (ht : goodT t) (w : World) (h : RefTr w G B salt L v) (hl : L.length ≤ 160) (hn : L.Pairwise fun a b => ¬ (a.peer = b.peer ∧ a.id = b.id)) :
    Calls Try.prog 34 #[.pointer (some ⟨B, 0, none⟩), .int .i64 p, .int .u64 x.toNat, .int .i64 t] w fun e w' => e = .returned (.int .i64 (askL L p x t).1) ∧ RefTurned w w' G B salt (askL L p x t).2 := by
  obtain ⟨c1, f1⟩ := h.slicec
  have hlt := h.lt
  have HT := Lib.hid ht
  cases hany : L.any (isE p x) with
  | false =>
    have HE : Hid (askL L p x t = (5, L)) := Lib.hid (by unfold askL; rw [if_neg (by rw [hany]; decide)])
    have HF := Lib.hid (firstAt_none hany)
    have H := Lib.hid h
    clear hany hn h ht c1
    go_enter Try.func34, Try.ntmps34
    go_wp2_with fail
    with_reducible refine (badPeer_no p hp _).mono ?_
    rintro e w1 ⟨rfl, rfl⟩
    go_wp2_with fail
    with_reducible refine (badTime_no t HT.out _).mono ?_
    rintro e w1 ⟨rfl, rfl⟩
    go_wp2_with fail
    with_reducible refine (at_any p x _ H.out hl).mono ?_
    rintro e w1 ⟨rfl, hb1⟩
    rw [HF.out]
    go_wp2_with fail
    go_ret
    rw [HE.out]
    exact ⟨rfl, ref_still H.out hb1⟩
  | true =>
    obtain ⟨k, hk, hfk, _, hq⟩ := firstAt_some hany
    have HF := Lib.hid hfk
    have HM : Hid (L.set k { L[k] with st := 2, till := t } = L.map (askE p x t)) := Lib.hid (set_isE hn hk hq (fun e => { e with st := 2, till := t }))
    have hmay := may_is hn hk hq
    have hk0 : ¬ (k : Int) < 0 := by omega
    obtain ⟨g0, cap0, rfl, hcap0, ⟨_, _, _, q0, _⟩, _, hg0, _, _⟩ := h.entry hk
    have H := Lib.hid h
    clear hfk hn hq h ht
    have hst : (((L[k].st : Nat) : Int) != 1) = (L[k].st != 1) := bne_nat L[k].st 1
    cases h1 : L[k].st != 1 with
    | true =>
      have HE : Hid (askL L p x t = (7, L)) := Lib.hid (by
        unfold askL
        rw [if_pos hany, if_neg]
        rw [hmay]
        have : (L[k].st == 1) = false := by simpa using h1
        rw [this]
        simp)
      rw [h1] at hst
      clear hany hmay h1
      go_enter Try.func34, Try.ntmps34
      go_wp2_with fail
      with_reducible refine (badPeer_no p hp _).mono ?_
      rintro e w1 ⟨rfl, rfl⟩
      go_wp2_with fail
      with_reducible refine (badTime_no t HT.out _).mono ?_
      rintro e w1 ⟨rfl, rfl⟩
      go_wp2_with fail
      with_reducible refine (at_any p x _ H.out hl).mono ?_
      rintro e w1 ⟨rfl, hb1⟩
      rw [HF.out]
      have c2 := kept_cell hb1 c1
      have q2 := kept_cell hb1 q0
      have hlt2 := (cell_spot c2).2
      have hlg2 := (cell_spot q2).2
      go_wp2_with fail
      go_ret
      rw [HE.out]
      exact ⟨rfl, ref_still H.out hb1⟩
    | false =>
      cases h2 : L.any (fun e => e.id == x && e.st == 2) with
      | true =>
        have HE : Hid (askL L p x t = (7, L)) := Lib.hid (by
          unfold askL
          rw [if_pos hany, if_neg]
          rw [hmay, h2]
          simp)
        have H2 := Lib.hid h2
        rw [h1] at hst
        clear hany hmay h1 h2
        go_enter Try.func34, Try.ntmps34
        go_wp2_with fail
        with_reducible refine (badPeer_no p hp _).mono ?_
        rintro e w1 ⟨rfl, rfl⟩
        go_wp2_with fail
        with_reducible refine (badTime_no t HT.out _).mono ?_
        rintro e w1 ⟨rfl, rfl⟩
        go_wp2_with fail
        with_reducible refine (at_any p x _ H.out hl).mono ?_
        rintro e w1 ⟨rfl, hb1⟩
        rw [HF.out]
        have c2 := kept_cell hb1 c1
        have q2 := kept_cell hb1 q0
        have hlt2 := (cell_spot c2).2
        have hlg2 := (cell_spot q2).2
        go_wp2_with fail
        with_reducible refine (refAsked_any x _ (H.out.kept hb1) hl true H2.out).mono ?_
        rintro e w2 ⟨rfl, hb2⟩
        go_wp2_with fail
        go_ret
        rw [HE.out]
        exact ⟨rfl, ref_still H.out (kept_trans hb1 hb2)⟩
      | false =>
        have HE : Hid (askL L p x t = (0, L.map (askE p x t))) := Lib.hid (by
          unfold askL
          rw [if_pos hany, if_pos]
          rw [hmay, h2]
          have : (L[k].st == 1) = true := by simpa using h1
          rw [this]
          rfl)
        have H2 := Lib.hid h2
        rw [h1] at hst
        clear hany hmay h1 h2
        go_enter Try.func34, Try.ntmps34
        go_wp2_with fail
        with_reducible refine (badPeer_no p hp _).mono ?_
        rintro e w1 ⟨rfl, rfl⟩
        go_wp2_with fail
        with_reducible refine (badTime_no t HT.out _).mono ?_
        rintro e w1 ⟨rfl, rfl⟩
        go_wp2_with fail
        with_reducible refine (at_any p x _ H.out hl).mono ?_
        rintro e w1 ⟨rfl, hb1⟩
        rw [HF.out]
        have c2 := kept_cell hb1 c1
        have q2 := kept_cell hb1 q0
        have hlt2 := (cell_spot c2).2
        have hlg2 := (cell_spot q2).2
        go_wp2_with fail
        with_reducible refine (refAsked_any x _ (H.out.kept hb1) hl false H2.out).mono ?_
        rintro e w2 ⟨rfl, hb2⟩
        have HB2 := Lib.hid (kept_trans hb1 hb2)
        have c3 := kept_cell hb2 c2
        have HR := Lib.hid (H.out.kept HB2.out)
        have hlt3 := (cell_spot c3).2
        clear hb1 hb2 c2 q2
        go_wp2_with fail
        with_reducible refine (copyR_any L _ _ hl HR.out.row HR.out.none).mono ?_
        intro e w3 hc3
        obtain ⟨a3, cp3, rfl⟩ := copy_form hc3
        have hb3 := copy_below hc3
        have c4 := kept_cell hb3 c3
        have f4 := free_kept hb3 HR.out.slicec.1 HR.out.slicec.2
        have hlt4 := (cell_spot c4).2
        obtain ⟨G4, h4, t4⟩ := ref_copied HR.out (Below.refl _ _) hc3
        obtain ⟨g, rfl, _, hcap, ⟨_, _, _, q3, q4⟩, hfr, hg, hgw⟩ := copy_entry hc3 hk
        have hgB : g ≠ B := by omega
        have hr3 := hfr (k * 5 + 3)
        have hr4 := hfr (k * 5 + 4)
        obtain ⟨h5, t5⟩ := h4.put_st hgB hk 2
        have hk2 : k < (L.set k { L[k] with st := 2 }).length := by rw [List.length_set]; exact hk
        obtain ⟨h6, t6⟩ := h5.put_till hgB hk2 t
        have he6 : (L.set k { L[k] with st := 2 }).set k { (L.set k { L[k] with st := 2 })[k] with till := t } = L.map (askE p x t) := by
          rw [← HM.out, List.getElem_set_self, List.set_set]
        have HP := Lib.hid (And.intro (h6.as he6) (((Turn.of_below (F := G) HB2.out).trans t4).trans (t5.trans t6)))
        rw [show ((2 : Nat) : Int) = 2 from rfl] at HP
        clear h4 t4 h5 t5 h6 t6 he6 hfr hc3 hb3
        go_wp2_with fail
        go_region
        go_wp2_with fail
        go_ret
        rw [HE.out]
        exact ⟨rfl, G4, _, HP.out.1.kept ((Below.refl _ _).drew), HP.out.2.trans (Turn.of_below ((Below.refl _ _).drew))⟩
end Go.Proofs.Ytamiddnkgjfdhaa
