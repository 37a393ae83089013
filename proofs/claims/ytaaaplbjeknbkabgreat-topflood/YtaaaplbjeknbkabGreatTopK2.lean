/-
  The top laws' closed fact.
-/
import Derived.Test.YtaaaplbjeknbkabGreatTopK
import Derived.Test.YtaaaplbjeknbkabGreatNLaws12
set_option maxRecDepth 20000
namespace Go.Proofs.YtaaaplbjeknbkabGreat
open Go.RowKit Go.Maps

variable {w w' : World} {F : Nat → Prop} {R : Nat} {s : NS}

theorem new3 (w : World) : Calls Tryz.prog 8 #[.int .u64 3] w fun e w' => ∃ R F, e = .returned (.pointer (some ⟨R, 0, none⟩)) ∧ Mine w w' F R (NS.new 3) ∧ (∀ k, F k → w.heap.size ≤ k) ∧ Below w.heap.size w w' := mine_new 3 w (Below.refl _ _)
theorem join4 (w : World) (h : NodeAt w F R (NS.new 3)) : Calls Tryz.prog 9 #[.pointer (some ⟨R, 0, none⟩), .int .i64 4, .bool false] w (TurnsN w F R (.int .i64 0) nw1) := join_any 4 false _ (join_new 3 4 (by decide) false) w h
/-- What is accepted, by a list that is known. -/
theorem accepted_is (L : List UInt64) (n : Nat) (hL : s.A.map Ju.idD = L) (hn : L.length = n) (hl : n ≤ 10000000000000) (w : World) (h : NodeAt w F R s) : Calls Tryz.prog 15 #[.pointer (some ⟨R, 0, none⟩)] w fun e w' => ∃ a c, e = .returned (.slice a n c) ∧ IdsAt w' a L ∧ Below w.heap.size w w' := by
  have h1 : s.A.length = n := by rw [← hn, ← hL, List.length_map]
  refine (accepted_any (by omega) w h).mono ?_
  rintro e w' ⟨a, c, rfl, ho, hb⟩
  obtain ⟨a', c', e', _, hat, _⟩ := owns_idsAt ho
  simp only [Value.slice.injEq, true_and] at e'
  obtain ⟨rfl, rfl⟩ := e'
  refine ⟨a, c, ?_, hL ▸ hat, hb⟩
  rw [hL, hn]
set_option maxRecDepth 20000 in
set_option maxHeartbeats 2000000 in
theorem works_any (w : World) : Calls Tryz.prog 6 #[] w fun e w' => e = .returned (.bool true) ∧ Below w.heap.size w w' := by
  obtain ⟨x, hx⟩ : ∃ x, Ju.idD simD = x := ⟨_, rfl⟩
  obtain ⟨B, hB⟩ : ∃ B, bringB simD = B := ⟨_, rfl⟩
  obtain ⟨BA, hBA⟩ : ∃ B, bytesM ⟨1, [x], ⟨#[]⟩⟩ = B := ⟨_, rfl⟩
  obtain ⟨B2, hB2⟩ : ∃ B, bytesM ⟨2, [x], ⟨#[]⟩⟩ = B := ⟨_, rfl⟩
  obtain ⟨u1, hu1⟩ : ∃ u, nw1 = u := ⟨_, rfl⟩
  obtain ⟨u2, hu2⟩ : ∃ u : NS, { nw1 with T := entsP 4 false 0 3 [x] } = u := ⟨_, rfl⟩
  obtain ⟨u3, hu3⟩ : ∃ u : NS, { nw1 with now := 3, T := entsP 4 false 2 13 [x] } = u := ⟨_, rfl⟩
  obtain ⟨u4, hu4⟩ : ∃ u, u3.bring 4 simD = u := ⟨_, rfl⟩
  have ht1 : nw1.thereE (4 : Nat) = 0 := new_there 3 4 (by decide) false
  have HSA : Hid (u1.send (4 : Nat) BA = (u2, [], 0)) := Lib.hid (by rw [← hu1, ← hBA, send_ann (bytes_ann x) ht1, nw_ann, hu2])
  have HPS : Hid (u2.pass 3 = (u3, [⟨4, B2⟩], 0)) := Lib.hid (by rw [← hu2, nw_pass, hu3, hB2])
  have HSB : Hid (u3.send (4 : Nat) B = (u4, [], 0)) := Lib.hid (by rw [← hB, ← hu4]; exact send_brought (by decide) (by rw [← hu3]; exact ht1))
  have HA4 : Hid (u4.A.map Ju.idD = [x]) := Lib.hid (by rw [← hu4, ← hu3, ← hx, nw_A]; rfl)
  have HL4 : Hid (u4.A.length ≤ 10000000000000) := Lib.hid (by rw [← hu4, ← hu3, ← hx, nw_A]; decide)
  have HL1 : Hid (u1.A.length ≤ 2950000000000) := Lib.hid (by rw [← hu1]; exact Nat.zero_le _)
  have HL3 : Hid (u3.A.length ≤ 2950000000000) := Lib.hid (by rw [← hu3]; exact Nat.zero_le _)
  have HFL : Hid (Fly u2) := Lib.hid fun p _ => by
    rw [← hu2]
    show flies (entsP 4 false 0 3 [x]) p ≤ 4
    unfold flies
    exact Nat.le_trans (List.length_filter_le _ _) (by simp [entsP])
  have HBS : Hid (B.size ≤ maxLen) := Lib.hid (by rw [← hB]; exact bring_small (by decide))
  have HBAS : Hid (BA.size ≤ maxLen) := Lib.hid (by rw [← hBA]; exact bytes_small _)
  have HX := Lib.hid hx
  have HB := Lib.hid hB
  have HBA := Lib.hid hBA
  have HU1 := Lib.hid hu1
  clear hx hB hBA hB2 hu1 hu2 hu3 hu4 ht1
  go_enter Tryz.func6, Tryz.ntmps6
  go_wp2_with fail
  with_reducible refine (new3 _).mono ?_
  rintro e w1 ⟨R, F, rfl, h1, _, _⟩
  have H1 := Lib.hid h1
  have HD1 := Lib.hid (lawDeed_new (w := w1) H1.out.node.there 1 10 1)
  have H2 := Lib.hid (H1.out.kept (kept_new w1 (.cells #[.slice none 0 0, .int .i64 1, .int .i64 10, .int .i64 1] 35)))
  obtain ⟨wd, hwd⟩ : ∃ wd, w1.alloc (.cells #[.slice none 0 0, .int .i64 1, .int .i64 10, .int .i64 1] 35) = wd := ⟨_, rfl⟩
  obtain ⟨D, hD⟩ : ∃ D, w1.heap.size = D := ⟨_, rfl⟩
  rw [hwd, hD] at HD1
  rw [hwd] at H2
  clear h1
  go_wp2_with fail
  with_reducible refine (join4 _ H2.out.node).mono ?_
  rintro e w3 ⟨rfl, F3, h3, t3⟩
  have H3 := Lib.hid (H2.out.turned h3 t3)
  rw [HU1.out] at H3
  have HD3 := Lib.hid (HD1.out.turned t3)
  obtain ⟨d0, d1, d2, d3⟩ := HD3.out.box
  have l3 := HD3.out.lt
  simp only [List.length_nil] at d0 d1 d2 d3
  clear h3 t3
  go_wp2_with fail
  with_reducible refine (tidOf_simple x HX.out _).mono ?_
  rintro e w4 ⟨rfl, hb4⟩
  have hk := kept_new w4 (.cells #[.int .u64 x.toNat] 22)
  have H4 := Lib.hid (H3.out.kept (kept_trans hb4 hk))
  have HD4 := Lib.hid (HD3.out.kept (kept_trans hb4 hk))
  have HI4 := Lib.hid (ids_new w4 x)
  clear hb4 hk d0 d1 d2 d3 l3
  go_wp2_with fail
  with_reducible refine (tbytesOf_one x _ _ BA HBA.out _ HI4.out).mono ?_
  rintro e w5 ⟨rfl, hb5⟩
  have H5 := Lib.hid (H4.out.kept hb5)
  have HD5 := Lib.hid (HD4.out.kept hb5)
  clear hb5
  go_wp2_with fail
  with_reducible refine (send_any 4 BA HBAS.out HL1.out _ HSA.out _ H5.out.node).mono ?_
  rintro e w6 ⟨v6, F6, rfl, ho6, h6, t6, _⟩
  simp only at ho6 h6 ⊢
  obtain ⟨a6, c6, rfl, _⟩ := outs_form ho6
  have H6 := Lib.hid (H5.out.turned h6 t6)
  have HD6 := Lib.hid (HD5.out.turned t6)
  clear ho6 h6 t6
  go_wp2_with fail
  with_reducible refine (wait_any 3 HFL.out _ HPS.out _ H6.out.node).mono ?_
  rintro e w7 ⟨v7, F7, rfl, ho7, h7, t7, _⟩
  simp only at ho7 h7 ⊢
  obtain ⟨a7, c7, rfl, _, hat7⟩ := owns_outsAt ho7
  obtain ⟨g, o, rfl, hg, o0, o1⟩ := hat7 0 (by simp)
  simp only [List.getElem_cons_zero, Nat.zero_mul, Nat.add_zero, List.length_cons, List.length_nil, Nat.zero_add] at o0 o1 ⊢
  have H7 := Lib.hid (H6.out.turned h7 t7)
  have HD7 := Lib.hid (HD6.out.turned t7)
  obtain ⟨d0, d1, d2, d3⟩ := HD7.out.box
  have l3 := HD7.out.lt
  have l4 := (cell_spot o0).2
  simp only [List.length_nil] at d0 d1 d2 d3
  clear ho7 h7 t7 hat7
  go_wp2_with fail
  with_reducible refine (tbringB_simple _ B HB.out).mono ?_
  rintro e w8 ⟨rfl, hb8⟩
  have H8 := Lib.hid (H7.out.kept hb8)
  have HD8 := Lib.hid (HD7.out.kept hb8)
  clear hb8 d0 d1 d2 d3 l3 l4 o0 o1
  go_wp2_with fail
  with_reducible refine (send_any 4 B HBS.out HL3.out _ HSB.out _ H8.out.node).mono ?_
  rintro e w9 ⟨v9, F9, rfl, ho9, h9, t9, _⟩
  simp only at ho9 h9 ⊢
  obtain ⟨a9, c9, rfl, _⟩ := outs_form ho9
  have H9 := Lib.hid (H8.out.turned h9 t9)
  have HD9 := Lib.hid (HD8.out.turned t9)
  clear ho9 h9 t9
  have HD9d := Lib.hid (HD9.out.kept ((Below.refl w9.heap.size w9).drew))
  have H9d := Lib.hid (H9.out.kept ((Below.refl w9.heap.size w9).drew))
  obtain ⟨d0, d1, d2, d3⟩ := HD9d.out.box
  have l3 := HD9d.out.lt
  simp only [List.length_nil] at d0 d1 d2 d3
  go_wp2_with fail
  go_region_law (first
    | (go_simp; go_at_call 15; (with_reducible refine (accepted_is [x] 1 HA4.out rfl (by decide) _ H9d.out.node).mono ?_); rintro e w10 ⟨a10, c10, rfl, hat10, hb10⟩; have d0 := kept_cell hb10 d0; have d1 := kept_cell hb10 d1; have d2 := kept_cell hb10 d2; have d3 := kept_cell hb10 d3; have l3 := (cell_spot d0).2; have HA10 := Lib.hid hat10; have H10 := Lib.hid (H9d.out.kept hb10); clear hat10 hb10)
    | (go_simp; go_at_call 13; (with_reducible refine (tidOf_simple x HX.out _).mono ?_); rintro e w11 ⟨rfl, hb11⟩; have HA11 := Lib.hid (idsAt_kept (kept_trans hb11 (kept_new w11 (.cells #[.int .u64 x.toNat] 22))) HA10.out); have H11 := Lib.hid (H10.out.kept (kept_trans hb11 (kept_new w11 (.cells #[.int .u64 x.toNat] 22)))); have HIX := Lib.hid (ids_new w11 x); clear hb11)
    | (go_simp; go_at_call 14; (with_reducible refine (eqID_one x _ _ _ _ _ HA11.out HIX.out).mono ?_); rintro e w12 ⟨rfl, rfl⟩))
  all_goals
    go_wp2_with fail
    go_ret
    exact ⟨rfl, H11.out.below⟩
end Go.Proofs.YtaaaplbjeknbkabGreat
