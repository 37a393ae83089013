/-
  Slices of entries in blocks of their own: reading, storing, cutting, clearing; slices.DeleteFunc of entries.
-/
import Derived.Test.YtamiddnkgjfdhaaEnts
import Derived.Test.YtamiddnkgjfdhaaRows1
namespace Go.Proofs.Ytamiddnkgjfdhaa
open Go.RowKit

/-- The cells of entries, one after the other. -/
def entsC (l : List TEnt) : List Value := l.flatMap entC
theorem entC_length (e : TEnt) : (entC e).length = 5 := rfl
theorem entsC_length (l : List TEnt) : (entsC l).length = l.length * 5 := by
  induction l with
  | nil => rfl
  | cons a r ih => simp only [entsC, List.flatMap_cons, List.length_append, entC_length, List.length_cons] at ih ⊢; omega
theorem entsC_append (a b : List TEnt) : entsC (a ++ b) = entsC a ++ entsC b := by simp [entsC]
theorem entsC_at : ∀ (l : List TEnt) (i : Nat) (h : i < l.length) (j : Nat), j < 5 → (entsC l)[i * 5 + j]? = (entC l[i])[j]?
  | [], i, h, _, _ => absurd h (by simp)
  | a :: r, 0, _, j, hj => by
    show (entC a ++ entsC r)[0 * 5 + j]? = _
    rw [List.getElem?_append_left (by rw [entC_length]; omega)]
    simp
  | a :: r, i + 1, h, j, hj => by
    show (entC a ++ entsC r)[(i + 1) * 5 + j]? = _
    rw [List.getElem?_append_right (by rw [entC_length]; omega), entC_length, show (i + 1) * 5 + j - 5 = i * 5 + j by omega, entsC_at r i (by simpa using h) j hj]
    rfl
theorem entsC_take : ∀ (l : List TEnt) (i : Nat), entsC (l.take i) = (entsC l).take (i * 5)
  | [], i => by simp [entsC]
  | a :: r, 0 => by simp [entsC]
  | a :: r, i + 1 => by
    show entC a ++ entsC (r.take i) = (entC a ++ entsC r).take ((i + 1) * 5)
    rw [entsC_take r i, List.take_append, entC_length, show (i + 1) * 5 - 5 = i * 5 by omega, List.take_of_length_le (l := entC a) (by rw [entC_length]; omega)]
theorem entsC_set : ∀ (l : List TEnt) (i : Nat) (e : TEnt), entsC (l.set i e) = (((((entsC l).set (i * 5) (.int .i64 e.peer)).set (i * 5 + 1) (.int .u64 e.id.toNat)).set (i * 5 + 2) (.bool e.pref)).set (i * 5 + 3) (.int .i64 e.st)).set (i * 5 + 4) (.int .i64 e.till)
  | [], i, e => by simp [entsC]
  | a :: r, 0, e => by simp [entsC, entC]
  | a :: r, i + 1, e => by
    have h := entsC_set r i e
    have hs : ∀ (x : List Value) (n : Nat) (v : Value), (entC a ++ x).set ((i + 1) * 5 + n) v = entC a ++ x.set (i * 5 + n) v := fun x n v => by
      rw [List.set_append_right _ _ (by rw [entC_length]; omega), entC_length, show (i + 1) * 5 + n - 5 = i * 5 + n by omega]
    have hs0 := fun x v => hs x 0 v
    simp only [Nat.add_zero] at hs0
    show entC a ++ entsC (r.set i e) = _
    rw [h]
    show _ = (((((entC a ++ entsC r).set ((i + 1) * 5) (.int .i64 e.peer)).set ((i + 1) * 5 + 1) (.int .u64 e.id.toNat)).set ((i + 1) * 5 + 2) (.bool e.pref)).set ((i + 1) * 5 + 3) (.int .i64 e.st)).set ((i + 1) * 5 + 4) (.int .i64 e.till)
    rw [hs0, hs, hs, hs, hs]

/-- The slice v holds these entries, in a block of its own. -/
abbrev OwnEnts (w : World) (v : Value) (l : List TEnt) : Prop := w.ownsRow 0 73 5 v l.length (entsC l)
theorem ownEnts_form {w : World} {v : Value} {l : List TEnt} (h : OwnEnts w v l) : ∃ a cap, v = .slice a l.length cap ∧ l.length ≤ cap ∧ EntsAt w a l := by
  rcases h.2 with ⟨hv, hn⟩ | ⟨g, cap, cur, hv, hB, hg, hc, _, _, _⟩
  · exact ⟨none, 0, by rw [hn]; exact hv, by omega, fun i hi => absurd hi (by omega)⟩
  · refine ⟨some ⟨g, 0, none⟩, cap, hv, hc, fun i hi => ⟨g, 0, rfl, (Array.getElem?_eq_some_iff.1 hg).1, ?_⟩⟩
    have hh := h
    rw [hv] at hh
    have hat : ∀ j, j < 5 → w.cell? ⟨g, 0 + i * 5 + j, none⟩ = (entC l[i])[j]? := fun j hj => by
      rw [Nat.zero_add, hh.cellAt (i * 5 + j) (by omega)]
      exact entsC_at l i hi j hj
    exact ⟨hat 0 (by omega), hat 1 (by omega), hat 2 (by omega), hat 3 (by omega), hat 4 (by omega)⟩
/-- The owned slice in the case that it is not nil. -/
theorem ownEnts_some {w : World} {g cap n : Nat} {l : List TEnt} (h : OwnEnts w (.slice (some ⟨g, 0, none⟩) n cap) l) (i : Nat) (hi : i < l.length) : EntAt w g (i * 5) l[i] ∧ (∀ j, w.frozen? ⟨g, j, none⟩ = false) ∧ g < w.heap.size := by
  obtain ⟨a, c, e, _, hat⟩ := ownEnts_form h
  simp only [Value.slice.injEq] at e
  obtain ⟨rfl, rfl, rfl⟩ := e
  obtain ⟨b, o, e, hb, hc⟩ := hat i hi
  simp only [Option.some.injEq, Addr.mk.injEq, and_true] at e
  obtain ⟨rfl, rfl⟩ := e
  rw [Nat.zero_add] at hc
  exact ⟨hc, fun j => h.frozenAt j, hb⟩

theorem zero_ent (w : World) : (zeroValue 73).run Try.prog w = .ok (.agg #[.int .i64 0, .int .u64 0, .bool false, .int .i64 0, .int .i64 0]) w := by kernel_rfl
theorem ents_clear {w : World} {g cap i n : Nat} {m : List TEnt} (hi : i < n) (hn : m.length = n) (ho : OwnEnts w (.slice (some ⟨g, 0, none⟩) n cap) m) :
    ∃ w', (∀ ty, (Builtin.clear_ #[70] ty #[.slice (some ⟨g, i * 5, none⟩) (n - i) (cap - i)]).run Try.prog w = .ok (.tuple #[]) w') ∧ OwnEnts w' (.slice (some ⟨g, 0, none⟩) i cap) (m.take i) ∧ Turn (fun k => k = g) (fun k => k = g) w w' := by
  subst hn
  obtain ⟨w', h1, h2, h3⟩ := clear_row (t := 70) _ Try.underlying70 zero_ent rfl (by decide) (by decide) hi ho
  refine ⟨w', h1, ?_, h3⟩
  unfold OwnEnts
  rw [entsC_take, List.length_take, Nat.min_eq_left (Nat.le_of_lt hi)]
  exact h2
/-- An entry is stored in its place. -/
def set5 (w : World) (g i : Nat) (e : TEnt) : World :=
  ((((w.setCell ⟨g, i * 5, none⟩ (.int .i64 e.peer)).setCell ⟨g, i * 5 + 1, none⟩ (.int .u64 e.id.toNat)).setCell ⟨g, i * 5 + 2, none⟩ (.bool e.pref)).setCell ⟨g, i * 5 + 3, none⟩ (.int .i64 e.st)).setCell ⟨g, i * 5 + 4, none⟩ (.int .i64 e.till)
theorem set5_own {w : World} {g cap n : Nat} {m : List TEnt} (ho : OwnEnts w (.slice (some ⟨g, 0, none⟩) n cap) m) (hn : m.length = n) (i : Nat) (e : TEnt) : OwnEnts (set5 w g i e) (.slice (some ⟨g, 0, none⟩) n cap) (m.set i e) ∧ Turn (fun k => k = g) (fun k => k = g) w (set5 w g i e) := by
  subst hn
  refine ⟨?_, ((((Turn.set (F := fun k => k = g) w ⟨g, i * 5, none⟩ _ rfl).trans (Turn.set _ ⟨g, i * 5 + 1, none⟩ _ rfl)).trans (Turn.set _ ⟨g, i * 5 + 2, none⟩ _ rfl)).trans (Turn.set _ ⟨g, i * 5 + 3, none⟩ _ rfl)).trans (Turn.set _ ⟨g, i * 5 + 4, none⟩ _ rfl)⟩
  unfold OwnEnts
  rw [entsC_set, List.length_set]
  exact ((((((((ho.stored _ _).1).stored _ _).1).stored _ _).1).stored _ _).1.stored _ _).1
theorem set5_K {K : World → Prop} {g : Nat} (h : ∀ a j u, K a → K (a.setCell ⟨g, j, none⟩ u)) {w : World} (hw : K w) (i : Nat) (e : TEnt) : K (set5 w g i e) := h _ _ _ (h _ _ _ (h _ _ _ (h _ _ _ (h _ _ _ hw))))

theorem deleteFunc_any (K : World → Prop) (hK : ∀ a b, K a → Below a.heap.size a b → K b) (f : FuncId) (fc : Array Value) (q : TEnt → Bool) (hp : Picks K f fc q) (l : List TEnt) (g cap : Nat) (w : World) (hw : K w) (hKs : ∀ a j u, K a → K (a.setCell ⟨g, j, none⟩ u)) (hl : l.length ≤ 8)
    (ho : OwnEnts w (.slice (some ⟨g, 0, none⟩) l.length cap) l) :
    Calls Try.prog 51 #[.slice (some ⟨g, 0, none⟩) l.length cap, .func (.func f) #[] fc] w fun e w' => ∃ n c, e = .returned (.slice (some ⟨g, 0, none⟩) n c) ∧ OwnEnts w' (.slice (some ⟨g, 0, none⟩) n c) (l.filter fun e => !q e) ∧ Turn (fun k => k = g) (fun k => k = g) w w' := by
  have hcf := hp.1
  have HPP := Lib.hid hp
  have HP := Lib.hid hp.2
  have HK := Lib.hid hK
  have HKs := Lib.hid hKs
  have HW := Lib.hid hw
  clear hp hK hw hKs
  obtain ⟨a0, c0, e0, hc0, hat⟩ := ownEnts_form ho
  simp only [Value.slice.injEq, true_and] at e0
  obtain ⟨rfl, rfl⟩ := e0
  have HO := Lib.hid ho
  clear ho
  go_enter Try.func51, Try.ntmps51
  go_wp2_with fail
  refine (indexFunc_any K HK.out f fc q HPP.out l _ _ w HW.out hl hat).mono ?_
  rintro e w1 ⟨rfl, hb1⟩
  cases hx : l.findIdx? q with
  | none =>
    have e1 : firstAt q l = -1 := by unfold firstAt; rw [hx]
    have HX := Lib.hid hx
    rw [e1]
    clear hx e1
    go_wp2
    go_ret
    exact ⟨_, _, rfl, by rw [filter_none HX.out]; exact owns_below HO.out hb1, Turn.of_below hb1⟩
  | some i0 =>
    have e1 : firstAt q l = (i0 : Int) := by unfold firstAt; rw [hx]
    have hi0 : i0 < l.length := by have := List.findIdx?_eq_some_iff_getElem.1 hx; exact this.1
    have HX := Lib.hid hx
    have hne : ((i0 : Int) == -1) = false := by rw [beq_eq_false_iff_ne]; omega
    rw [e1]
    clear hx e1
    go_wp2
    go_loopw [5, 6] (fun vi vj wr => ∃ (i j : Nat) (m : List TEnt), vi = .int .i64 i ∧ vj = .int .i64 j ∧ i < j ∧ j ≤ l.length ∧ m.length = l.length ∧ Hid (OwnEnts wr (.slice (some ⟨g, 0, none⟩) l.length cap) m) ∧
      Hid (m.take i = (l.take j).filter (fun e => !q e)) ∧ Hid (m.drop j = l.drop j) ∧ Hid (Turn (fun k => k = g) (fun k => k = g) w wr) ∧ Hid (K wr)) (fun _ j _ => l.length - (intOf j).toNat)
    case atStart => exact ⟨i0, i0 + 1, l, rfl, by go_num, by omega, by omega, rfl, Lib.hid (owns_below HO.out hb1), Lib.hid (take_filter_start HX.out), Lib.hid rfl, Lib.hid (Turn.of_below hb1), Lib.hid (HK.out _ _ HW.out hb1)⟩
    case round =>
      obtain ⟨i, j, m, rfl, rfl, hij, hj, hml, HO, HT, HD, HU, HKw⟩ := hrel
      by_cases hlt : j < l.length
      · obtain ⟨⟨c0, c1, c2, c3, c4⟩, _, hgl⟩ := ownEnts_some HO.out j (by omega)
        go_wp2_with fail
        refine (HP.out m[j] _ (HK.out _ _ HKw.out (kept_new _ _))).mono ?_
        rintro e w2 ⟨rfl, hb2⟩
        have hb3 := kept_trans (kept_new _ _) hb2
        cases hq : q m[j] with
        | true =>
          have HQ := Lib.hid hq
          clear hq
          go_wp2
          go_roundw
          case rel =>
            obtain ⟨hm1, hm2⟩ := drop_at HD.out (by omega) hlt
            exact ⟨i, j + 1, m, rfl, by go_num, by omega, by omega, hml, Lib.hid (owns_below HO.out hb3), Lib.hid (take_filter_out hlt HT.out (by rw [← hm1, HQ.out]; rfl)), Lib.hid hm2, Lib.hid (HU.out.trans (Turn.of_below hb3)), Lib.hid (HK.out _ _ HKw.out hb3)⟩
          case measure => simp [intOf]; omega
        | false =>
          have HQ := Lib.hid hq
          clear hq
          obtain ⟨d0, d1, d2, d3, d4⟩ : EntAt w2 wr.heap.size 0 m[j] := entAt_kept hb2 ⟨by simp [go_sem], by simp [go_sem], by simp [go_sem], by simp [go_sem], by simp [go_sem]⟩
          obtain ⟨⟨k0, k1, k2, k3, k4⟩, kf, hgl2⟩ := ownEnts_some (owns_below HO.out hb3) i (by omega)
          have f0 := kf (i * 5)
          have f1 := kf (i * 5 + 1)
          have f2 := kf (i * 5 + 2)
          have f3 := kf (i * 5 + 3)
          have f4 := kf (i * 5 + 4)
          clear kf
          go_wp2
          go_roundw
          case rel =>
            obtain ⟨hm1, hm2⟩ := drop_at HD.out (by omega) hlt
            obtain ⟨r1, r2⟩ := set5_own (owns_below HO.out hb3) hml i m[j]
            exact ⟨i + 1, j + 1, m.set i m[j], by go_num, by go_num, by omega, by omega, by simpa using hml, Lib.hid r1, Lib.hid (by rw [hm1]; exact take_filter_in (by omega) hlt HT.out (by rw [← hm1, HQ.out]; rfl)), Lib.hid (by rw [drop_set _ (by omega)]; exact hm2), Lib.hid ((HU.out.trans (Turn.of_below hb3)).trans r2), Lib.hid (set5_K HKs.out (HK.out _ _ HKw.out hb3) i m[j])⟩
          case measure => simp [intOf]; omega
      · obtain ⟨w3, hcl, ho3, ht3⟩ := ents_clear (i := i) (by omega) hml HO.out
        have HO3 := Lib.hid ho3
        have HT3 := Lib.hid ht3
        clear ho3 ht3
        go_wp2_with fail
        go_ret
        have hj' : j = l.length := by omega
        have h4 := HT.out
        rw [hj', List.take_of_length_le (Nat.le_refl _)] at h4
        exact ⟨_, _, rfl, by rw [← h4]; exact HO3.out, HU.out.trans HT3.out⟩
end Go.Proofs.Ytamiddnkgjfdhaa
