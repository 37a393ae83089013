/-
  The contracts of the reference's Put, Has and Count.
-/
import Derived.Test.YtagbcgbngdfapaaRingRef
namespace Go.Proofs.Ytagbcgbngdfapaa
open Go.RowKit Go.Maps

theorem ref_has (G : Nat → Prop) (B : Nat) (s : RingS) (x : UInt64) (r : Bool) (hr : s.has x = r) (w : World) (h : RefAt w G B s) (hg : s.Good) :
    Calls Try.prog 15 #[.pointer (some ⟨B, 0, none⟩), .int .u64 x.toNat] w fun e w' => e = .returned (.bool r) ∧ w = w' := by
  obtain ⟨y, o, h1, h2, h3, h4, h5⟩ := h
  obtain ⟨⟨c0, c1, c2⟩, _⟩ := boxR_cells h1
  obtain ⟨ya, yc, rfl, yi⟩ := rowAt_form h2
  obtain ⟨oa, oc, rfl, oi⟩ := rowAt_form h3
  obtain ⟨_, g2, g3, g4, _⟩ := hg
  have hl1 : s.cur.length ≤ maxLen := by unfold maxLen; omega
  have hl2 : s.prev.length ≤ maxLen := by unfold maxLen; omega
  clear h1 h2 h3 h4 h5 g2 g3 g4
  unfold RingS.has at hr
  cases hx : s.cur.contains x with
  | true =>
    have HR : Hid (true = r) := Lib.hid (by rw [← hr, hx]; rfl)
    clear hr
    go_enter Try.func15, Try.ntmps15
    go_wp2_with fail
    with_reducible refine (hasID_any s.cur x true (Lib.hid hx) _ _ _ hl1 yi).mono ?_
    rintro e w1 ⟨rfl, rfl⟩
    clear hx
    go_wp2_with fail
    go_ret
    exact ⟨ret_bool HR.out, rfl⟩
  | false =>
    have HR : Hid (s.prev.contains x = r) := Lib.hid (by rw [← hr, hx]; rfl)
    clear hr
    go_enter Try.func15, Try.ntmps15
    go_wp2_with fail
    with_reducible refine (hasID_any s.cur x false (Lib.hid hx) _ _ _ hl1 yi).mono ?_
    rintro e w1 ⟨rfl, rfl⟩
    clear hx
    go_wp2_with fail
    with_reducible refine (hasID_any s.prev x r HR _ _ _ hl2 oi).mono ?_
    rintro e w1 ⟨rfl, rfl⟩
    go_wp2_with fail
    go_ret
    exact ⟨rfl, rfl⟩

/-- How many of the first k are not in the other list. -/
def fewer (ks cs : List UInt64) (k : Nat) : Nat := ((ks.take k).filter fun x => !cs.contains x).length
theorem fewer_le (ks cs : List UInt64) (k : Nat) : fewer ks cs k ≤ ks.length := Nat.le_trans (List.length_filter_le _ _) (by rw [List.length_take]; omega)
theorem fewer_step {ks cs : List UInt64} {k : Nat} (h : k < ks.length) : fewer ks cs (k + 1) = fewer ks cs k + (if cs.contains ks[k] = true then 0 else 1) := by
  unfold fewer
  rw [List.take_succ_eq_append_getElem h, List.filter_append, List.length_append, List.filter_cons, List.filter_nil]
  cases cs.contains ks[k] <;> rfl

theorem ref_count (G : Nat → Prop) (B : Nat) (s : RingS) (k : Nat) (hk : s.count = k) (w : World) (h : RefAt w G B s) (hg : s.Good) :
    Calls Try.prog 13 #[.pointer (some ⟨B, 0, none⟩)] w fun e w' => e = .returned (.int .i64 k) ∧ w = w' := by
  obtain ⟨y, o, h1, h2, h3, h4, h5⟩ := h
  obtain ⟨⟨c0, c1, c2⟩, _⟩ := boxR_cells h1
  obtain ⟨ya, yc, rfl, yi⟩ := rowAt_form h2
  obtain ⟨oa, oc, rfl, oi⟩ := rowAt_form h3
  obtain ⟨_, g2, g3, g4, _⟩ := hg
  have hl1 : s.cur.length ≤ maxLen := by unfold maxLen; omega
  have HK := Lib.hid hk
  clear h1 h2 h3 h4 h5 c0 hk
  go_enter Try.func13, Try.ntmps13
  go_wp2_with fail
  go_loop [3, 16] (fun n i => ∃ j : Nat, j ≤ s.prev.length ∧ i = .int .i64 j ∧ n = .int .i64 ((s.cur.length + fewer s.prev s.cur j : Nat) : Int)) (fun _ i => s.prev.length - (intOf i).toNat)
  case atStart => exact ⟨0, Nat.zero_le _, rfl, rfl⟩
  case round =>
    obtain ⟨j, hj, rfl, rfl⟩ := hrel
    have hf := fewer_le s.prev s.cur j
    by_cases hlt : j < s.prev.length
    · obtain ⟨b, oo, rfl, hb, hd⟩ := oi j hlt
      have HS := Lib.hid (fewer_step (cs := s.cur) hlt)
      cases hx : s.cur.contains s.prev[j] with
      | true =>
        rw [hx] at HS
        go_wp2_with fail
        with_reducible refine (hasID_any s.cur _ true (Lib.hid hx) _ _ _ hl1 yi).mono ?_
        rintro e w1 ⟨rfl, rfl⟩
        clear hx
        go_wp2_with fail
        go_round
        case rel => exact ⟨j + 1, by omega, by go_num, by rw [HS.out]; rfl⟩
        case measure => simp [intOf]; omega
      | false =>
        rw [hx] at HS
        go_wp2_with fail
        with_reducible refine (hasID_any s.cur _ false (Lib.hid hx) _ _ _ hl1 yi).mono ?_
        rintro e w1 ⟨rfl, rfl⟩
        clear hx
        go_wp2_with fail
        go_round
        case rel => exact ⟨j + 1, by omega, by go_num, by rw [HS.out]; simp only [Bool.false_eq_true, if_false]; go_num⟩
        case measure => simp [intOf]; omega
    · go_wp2_with fail
      go_ret
      refine ⟨ret_i64 ?_, rfl⟩
      rw [← HK.out]
      unfold RingS.count fewer
      rw [List.take_of_length_le (by omega)]
      rfl

/-- The current generation becomes the previous one, and a new one begins. -/
theorem ref_turned {w : World} {G : Nat → Prop} {B : Nat} {s : RingS} {y o : Value} (h1 : w.rowIs B 30 3 (boxR s.size y o)) (h2 : RowAt w G B y s.cur) (h4 : G B) (h5 : There w G) :
    RefAt ((w.setCell ⟨B, 2, none⟩ y).setCell ⟨B, 1, none⟩ (.slice none 0 0)) G B ⟨s.size, [], s.cur⟩ ∧ Turn G G w ((w.setCell ⟨B, 2, none⟩ y).setCell ⟨B, 1, none⟩ (.slice none 0 0)) := by
  refine ⟨⟨_, _, boxR_set1 (boxR_set2 h1), .inl ⟨rfl, rfl⟩, rowAt_same h2 (fun k _ hk => ?_) (fun _ hk => hk) (by simp), h4, fun k hk => by simpa using h5 k hk⟩, (Turn.set w ⟨B, 2, none⟩ y h4).trans (Turn.set _ ⟨B, 1, none⟩ _ h4)⟩
  exact (Below.heap_setCell _ _ _ _ hk).trans (Below.heap_setCell _ _ _ _ hk)
/-- One ID more in the current generation. -/
theorem ref_stored {w w4 : World} {G : Nat → Prop} {B g cap : Nat} {s : RingS} {x : UInt64} (h : RefAt w G B s) (hb : Below w.heap.size w w4) (ho : OwnIds w4 w.heap.size (.slice (some ⟨g, 0, none⟩) (s.cur.length + 1) cap) (s.cur ++ [x])) :
    ∃ G', RefAt (w4.setCell ⟨B, 1, none⟩ (.slice (some ⟨g, 0, none⟩) (s.cur.length + 1) cap)) G' B ⟨s.size, s.cur ++ [x], s.prev⟩ ∧ Turn G G' w (w4.setCell ⟨B, 1, none⟩ (.slice (some ⟨g, 0, none⟩) (s.cur.length + 1) cap)) := by
  have hgb := ownIds_block ho g rfl
  obtain ⟨a, c, hv, _, hi, _⟩ := owns_idsAt ho
  obtain ⟨y, o, h1, h2, h3, h4, h5⟩ := refAt_kept h hb
  obtain ⟨_, _, _, _, _, _, h5w⟩ := h
  have hBlt := h5w B h4
  simp only [Value.slice.injEq] at hv
  obtain ⟨rfl, _, _⟩ := hv
  refine ⟨fun k => G k ∨ k = g, ⟨_, _, boxR_set1 h1, .inr ⟨g, cap, by simp, by simp, .inr rfl, by omega, idsAt_block hi (Below.heap_setCell _ _ _ _ (by show g ≠ B; omega)) (by simp)⟩, rowAt_same h3 (fun k _ hk => Below.heap_setCell _ _ _ _ hk) (fun k hk => .inl hk) (by simp), .inl h4, fun k hk => ?_⟩, ?_⟩
  · rw [World.size_setCell]
    rcases hk with hk | hk
    · exact h5 k hk
    · omega
  · exact ((Turn.of_below hb).trans (Turn.set w4 ⟨B, 1, none⟩ _ h4)).more (fun k hk => hk.imp id (fun e => by omega))

theorem ref_put (G : Nat → Prop) (B : Nat) (s s' : RingS) (x : UInt64) (hs : s.put x = s') (w : World) (h : RefAt w G B s) (hg : s.Good) :
    Calls Try.prog 11 #[.pointer (some ⟨B, 0, none⟩), .int .u64 x.toNat] w fun e w' => e = .returned (.tuple #[]) ∧ ∃ G', RefAt w' G' B s' ∧ Turn G G' w w' := by
  have H := Lib.hid h
  obtain ⟨y, o, h1, h2, h3, h4, h5⟩ := h
  obtain ⟨⟨c0, c1, c2⟩, f0, f1, f2⟩ := boxR_cells h1
  obtain ⟨ya, yc, rfl, yi⟩ := rowAt_form h2
  have hlen := hg.2.2.1
  have hlen2 := hg.2.1
  have hl1 : s.cur.length ≤ maxLen := by unfold maxLen; omega
  have hBlt := h5 B h4
  cases hx : s.cur.contains x with
  | true =>
    have HE : Hid (∃ G', RefAt w G' B s' ∧ Turn G G' w w) := Lib.hid ⟨G, by rw [← hs, put_there hx]; exact H.out, Turn.refl G w⟩
    clear h1 h2 h3 h4 h5 hs hg
    go_enter Try.func11, Try.ntmps11
    go_wp2_with fail
    with_reducible refine (hasID_any s.cur x true (Lib.hid hx) _ _ _ hl1 yi).mono ?_
    rintro e w1 ⟨rfl, rfl⟩
    clear hx
    go_wp2_with fail
    refine bodyPost_ret (results_none rfl _ _ _) rfl ?_
    exact ⟨rfl, HE.out⟩
  | false =>
    have HX := Lib.hid hx
    have HS := Lib.hid hs
    clear hs
    by_cases hfull : s.size ≤ s.cur.length
    · go_enter Try.func11, Try.ntmps11
      go_wp2_with fail
      with_reducible refine (hasID_any s.cur x false (Lib.hid hx) _ _ _ hl1 yi).mono ?_
      rintro e w1 ⟨rfl, rfl⟩
      have H1 := Lib.hid h1
      have H2 := Lib.hid h2
      clear hx h1 h2 h3
      go_wp2_with fail
      go_quiet (fail)
      generalize hw2 : World.drewN w nq = w2
      have hb2 : Below w.heap.size w w2 := hw2 ▸ below_drewN (Below.refl _ _) _
      obtain ⟨k1, k2⟩ := ref_turned (G := G) (w := w2) (H1.out.of_block (hb2.block B hBlt)) (rowAt_same H2.out (fun k hk _ => hb2.block k (h5 k hk)) (fun _ hk => hk) hb2.size) h4 (h5.later hb2.size)
      obtain ⟨⟨d0, d1, d2⟩, g0, g1, g2⟩ := boxR_cells (H1.out.of_block (hb2.block B hBlt))
      have hB2 : B < w2.heap.size := Nat.lt_of_lt_of_le hBlt hb2.size
      have K1 := Lib.hid k1
      have K2 := Lib.hid k2
      clear hw2 c0 c1 c2 f0 f1 f2 k1 k2
      go_wp2_with fail
      clear d0 d1 d2 g0 g1 g2
      generalize (w2.setCell ⟨B, 2, none⟩ (.slice ya s.cur.length yc)).setCell ⟨B, 1, none⟩ (.slice none 0 0) = wA at K1 K2 ⊢
      with_reducible refine (copy_any G B _ [] wA (rowAt_nil wA G B) (by decide)).mono ?_
      rintro e w3 ⟨v3, rfl, ho3, hb3⟩
      go_wp2_with (at_builtin; refine append_id rfl _ _ rfl x rfl rfl ho3 (by decide) hb3.size ?_; intro g cap w4 ho4 hg4 hg4'; have hb4 : Below wA.heap.size wA w4 := hb3.grown hg4' hb3.size (fun k hk => (ownIds_block ho3 k hk).1); obtain ⟨_, _, q1, _⟩ := refAt_kept K1.out hb4; obtain ⟨⟨_, q2, _⟩, _, q3, _⟩ := boxR_cells q1)
      go_end0
      obtain ⟨G', z1, z2⟩ := ref_stored (x := x) K1.out hb4 ho4
      exact ⟨rfl, G', by rw [← HS.out, put_full HX.out hfull]; exact z1, ((Turn.of_below hb2).trans K2.out).trans z2⟩
    · go_enter Try.func11, Try.ntmps11
      go_wp2_with fail
      with_reducible refine (hasID_any s.cur x false (Lib.hid hx) _ _ _ hl1 yi).mono ?_
      rintro e w1 ⟨rfl, rfl⟩
      have H1 := Lib.hid h1
      have H2 := Lib.hid h2
      clear hx h1 h2 h3
      go_wp2_with fail
      go_quiet (fail)
      generalize hw2 : World.drewN w nq = w2
      have hb2 : Below w.heap.size w w2 := hw2 ▸ below_drewN (Below.refl _ _) _
      obtain ⟨⟨d0, d1, d2⟩, g0, g1, g2⟩ := boxR_cells (H1.out.of_block (hb2.block B hBlt))
      have HRow := Lib.hid (rowAt_same H2.out (fun k hk _ => hb2.block k (h5 k hk)) (fun _ hk => hk) hb2.size)
      have K1 := Lib.hid (refAt_kept H.out hb2)
      clear hw2 c0 c1 c2 f0 f1 f2
      go_wp2_with fail
      with_reducible refine (copy_any G B _ s.cur w2 HRow.out (by omega)).mono ?_
      rintro e w3 ⟨v3, rfl, ho3, hb3⟩
      clear d0 d1 d2 g0 g1 g2
      go_wp2_with (at_builtin; refine append_id rfl _ _ rfl x rfl rfl ho3 (by omega) hb3.size ?_; intro g cap w4 ho4 hg4 hg4'; have hb4 : Below w2.heap.size w2 w4 := hb3.grown hg4' hb3.size (fun k hk => (ownIds_block ho3 k hk).1); obtain ⟨_, _, q1, _⟩ := refAt_kept K1.out hb4; obtain ⟨⟨_, q2, _⟩, _, q3, _⟩ := boxR_cells q1)
      go_end0
      obtain ⟨G', z1, z2⟩ := ref_stored (x := x) K1.out hb4 ho4
      exact ⟨rfl, G', by rw [← HS.out, put_room HX.out (by omega)]; exact z1, (Turn.of_below hb2).trans z2⟩
end Go.Proofs.Ytagbcgbngdfapaa
