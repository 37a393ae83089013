/-
  Run's map of actions, its functions, and what Run holds in a round.
-/
import Derived.Test.YtaaaplbjeknbkabGreatPlayMath
import Derived.Test.YtaaaplbjeknbkabGreatPlayMap
set_option maxRecDepth 20000
namespace Go.Proofs.YtaaaplbjeknbkabGreat
open Go.RowKit Go.Maps

variable {w w' wr : World} {F F' G : Nat → Prop} {R c m e n k : Nat} {s u u' : NS} {v v' : Value} {os os' : List OutD} {f : Nat → Int}

/-- A function value that captured the block c. -/
def fnV (g c : Nat) : Value := .func (.func g) #[] #[.pointer (some ⟨c, 0, none⟩)]
/-- The map of actions. -/
def actF (c : Nat) : Int → Option Value := fun y => if y = 4 then some (fnV 81 c) else if y = 3 then some (fnV 80 c) else if y = 2 then some (fnV 78 c) else if y = 1 then some (fnV 77 c) else none
set_option maxRecDepth 20000 in
theorem actions_any (R : Nat) (w : World) : Calls Tryz.prog 47 #[.pointer (some ⟨R, 0, none⟩)] w fun e w' => ∃ c m, e = .returned (.map (some m)) ∧ w'.cell? ⟨c, 0, none⟩ = some (.pointer (some ⟨R, 0, none⟩)) ∧ FMap w' m 4 (actF c) ∧ Below w.heap.size w w' ∧ w.heap.size ≤ c ∧ w.heap.size ≤ m := by
  have hmm := @run_makeMap Tryz.prog
  obtain ⟨wb, hwb⟩ : ∃ wb, w.alloc (.cells #[.pointer (some ⟨R, 0, none⟩)] 27) = wb := ⟨_, rfl⟩
  have hk0 : Below w.heap.size w wb := hwb ▸ kept_new _ _
  have hs0 : wb.heap.size = w.heap.size + 1 := by rw [← hwb]; simp
  have b0 : wb.cell? ⟨w.heap.size, 0, none⟩ = some (.pointer (some ⟨R, 0, none⟩)) := by rw [← hwb]; simp [go_sem]
  obtain ⟨c, hc⟩ : ∃ c, w.heap.size = c := ⟨_, rfl⟩
  obtain ⟨wm, hwm⟩ : ∃ wm, wb.alloc (.map #[] 0) = wm := ⟨_, rfl⟩
  have hk1 : Below wb.heap.size wb wm := hwm ▸ kept_new _ _
  have hf0 := fmap_new wb
  rw [hwm] at hf0
  obtain ⟨m, hm⟩ : ∃ m, wb.heap.size = m := ⟨_, rfl⟩
  rw [hm] at hf0
  have hml : maxLen = 9223372036854775807 := rfl
  obtain ⟨w1, hr1, hf1, hg1⟩ := hf0.put 1 (fnV 77 c) (by decide) (by omega)
  obtain ⟨w2, hr2, hf2, hg2⟩ := hf1.put 2 (fnV 78 c) (by decide) (by omega)
  obtain ⟨w3, hr3, hf3, hg3⟩ := hf2.put 3 (fnV 80 c) (by decide) (by omega)
  obtain ⟨w4, hr4, hf4, hg4⟩ := hf3.put 4 (fnV 81 c) (by decide) (by omega)
  have hb4 : Below wb.heap.size wb w4 := by
    have h1 := below_grown hk1 hg1 (fun g hg => by cases hg; omega) hk1.size
    have h2 := below_grown h1 hg2 (fun g hg => by cases hg; omega) h1.size
    have h3 := below_grown h2 hg3 (fun g hg => by cases hg; omega) h2.size
    exact below_grown h3 hg4 (fun g hg => by cases hg; omega) h3.size
  rw [hc] at b0
  have HB := Lib.hid (kept_trans hk0 hb4)
  have HC := Lib.hid ((World.cell?_of_block (w := wb) (a := ⟨c, 0, none⟩) (hb4.block c (by omega))).trans b0)
  have HM := Lib.hid hf4
  have hcm : c ≤ m := by omega
  clear hf0 hf1 hf2 hf3 hf4 hg1 hg2 hg3 hg4 hb4 hk0 hk1 hs0 b0
  unfold fnV at hr1 hr2 hr3 hr4
  go_enter Tryz.func47, Tryz.ntmps47
  go_wp2_with fail
  go_ret
  exact ⟨c, m, rfl, HC.out, HM.out, HB.out, by omega, by omega⟩

/-- An act as an argument. -/
abbrev actV (a : ActD) : Value := .agg #[.int .i64 a.kind, .int .i64 a.peer, .int .i64 a.n, .bool a.flag, .string a.bytes]
set_option maxRecDepth 20000 in
theorem play1_any (a : ActD) (q : NS × List OutD × Int) (hq : ((s.join a.peer a.flag).1, [], (s.join a.peer a.flag).2) = q) (c : Nat) (w : World) (hc : w.cell? ⟨c, 0, none⟩ = some (.pointer (some ⟨R, 0, none⟩))) (h : NodeAt w F R s) :
    Calls Tryz.prog 77 #[actV a, .pointer (some ⟨c, 0, none⟩)] w (SentN w F R q) := by
  obtain ⟨kd, pe, nn, fl, by'⟩ := a
  simp only at hq ⊢
  obtain ⟨wb, hwb⟩ : ∃ wb, w.alloc (.cells #[.int .i64 kd, .int .i64 pe, .int .i64 nn, .bool fl, .string by'] 109) = wb := ⟨_, rfl⟩
  have hk0 : Below w.heap.size w wb := hwb ▸ kept_new _ _
  have b0 : wb.cell? ⟨w.heap.size, 0, none⟩ = some (.int .i64 kd) := by rw [← hwb]; simp [go_sem]
  have b1 : wb.cell? ⟨w.heap.size, 1, none⟩ = some (.int .i64 pe) := by rw [← hwb]; simp [go_sem]
  have b2 : wb.cell? ⟨w.heap.size, 2, none⟩ = some (.int .i64 nn) := by rw [← hwb]; simp [go_sem]
  have b3 : wb.cell? ⟨w.heap.size, 3, none⟩ = some (.bool fl) := by rw [← hwb]; simp [go_sem]
  have b4 : wb.cell? ⟨w.heap.size, 4, none⟩ = some (.string by') := by rw [← hwb]; simp [go_sem]
  have l0 := (cell_spot b0).2
  have e0 := kept_cell hk0 hc
  have l1 := (cell_spot e0).2
  have H := Lib.hid (h.kept hk0)
  have HB : Hid (∀ (q : NS × List OutD × Int) (v : Value) (w' : World), SentN wb F R q (.returned v) w' → SentN w F R q (.returned v) w') := Lib.hid fun q v w' ⟨u, F', h1, h2, h3, h4, h5⟩ => ⟨u, F', h1, ⟨h2.1, h2.2.imp id fun ⟨g, cap, cur, q1, q2, q3⟩ => ⟨g, cap, cur, q1, Nat.le_trans hk0.size q2, q3⟩⟩, h3, (Turn.of_below hk0).trans h4, h5⟩
  have HQ := Lib.hid hq
  clear h hk0 hq hc
  go_enter Tryz.func77, Tryz.ntmps77
  go_wp2_with fail
  with_reducible refine (join_any pe fl _ rfl _ H.out).mono ?_
  rintro e w1 h1
  obtain ⟨rfl, h2⟩ := turns_sent h1
  have H2 := Lib.hid h2
  clear h1 h2
  go_wp2_with fail
  go_ret2
  rw [← HQ.out]
  exact HB.out _ _ _ H2.out
set_option maxRecDepth 20000 in
theorem play2_any (a : ActD) (q : NS × List OutD × Int) (hq : ((s.leave a.peer).1, [], (s.leave a.peer).2) = q) (c : Nat) (w : World) (hc : w.cell? ⟨c, 0, none⟩ = some (.pointer (some ⟨R, 0, none⟩))) (h : NodeAt w F R s) :
    Calls Tryz.prog 78 #[actV a, .pointer (some ⟨c, 0, none⟩)] w (SentN w F R q) := by
  obtain ⟨kd, pe, nn, fl, by'⟩ := a
  simp only at hq ⊢
  obtain ⟨wb, hwb⟩ : ∃ wb, w.alloc (.cells #[.int .i64 kd, .int .i64 pe, .int .i64 nn, .bool fl, .string by'] 109) = wb := ⟨_, rfl⟩
  have hk0 : Below w.heap.size w wb := hwb ▸ kept_new _ _
  have b0 : wb.cell? ⟨w.heap.size, 0, none⟩ = some (.int .i64 kd) := by rw [← hwb]; simp [go_sem]
  have b1 : wb.cell? ⟨w.heap.size, 1, none⟩ = some (.int .i64 pe) := by rw [← hwb]; simp [go_sem]
  have b2 : wb.cell? ⟨w.heap.size, 2, none⟩ = some (.int .i64 nn) := by rw [← hwb]; simp [go_sem]
  have b3 : wb.cell? ⟨w.heap.size, 3, none⟩ = some (.bool fl) := by rw [← hwb]; simp [go_sem]
  have b4 : wb.cell? ⟨w.heap.size, 4, none⟩ = some (.string by') := by rw [← hwb]; simp [go_sem]
  have l0 := (cell_spot b0).2
  have e0 := kept_cell hk0 hc
  have l1 := (cell_spot e0).2
  have H := Lib.hid (h.kept hk0)
  have HB : Hid (∀ (q : NS × List OutD × Int) (v : Value) (w' : World), SentN wb F R q (.returned v) w' → SentN w F R q (.returned v) w') := Lib.hid fun q v w' ⟨u, F', h1, h2, h3, h4, h5⟩ => ⟨u, F', h1, ⟨h2.1, h2.2.imp id fun ⟨g, cap, cur, q1, q2, q3⟩ => ⟨g, cap, cur, q1, Nat.le_trans hk0.size q2, q3⟩⟩, h3, (Turn.of_below hk0).trans h4, h5⟩
  have HQ := Lib.hid hq
  clear h hk0 hq hc
  go_enter Tryz.func78, Tryz.ntmps78
  go_wp2_with fail
  with_reducible refine (leave_any pe _ rfl _ H.out).mono ?_
  rintro e w1 h1
  obtain ⟨rfl, h2⟩ := turns_sent h1
  have H2 := Lib.hid h2
  clear h1 h2
  go_wp2_with fail
  go_ret2
  rw [← HQ.out]
  exact HB.out _ _ _ H2.out
set_option maxRecDepth 20000 in
theorem play3_any (a : ActD) (hs : a.bytes.size ≤ maxLen) (hA : s.A.length ≤ 2950000000000) (q : NS × List OutD × Int) (hq : s.send a.peer a.bytes = q) (c : Nat) (w : World) (hc : w.cell? ⟨c, 0, none⟩ = some (.pointer (some ⟨R, 0, none⟩))) (h : NodeAt w F R s) :
    Calls Tryz.prog 80 #[actV a, .pointer (some ⟨c, 0, none⟩)] w (SentN w F R q) := by
  obtain ⟨kd, pe, nn, fl, by'⟩ := a
  simp only at hs
  simp only at hq ⊢
  obtain ⟨wb, hwb⟩ : ∃ wb, w.alloc (.cells #[.int .i64 kd, .int .i64 pe, .int .i64 nn, .bool fl, .string by'] 109) = wb := ⟨_, rfl⟩
  have hk0 : Below w.heap.size w wb := hwb ▸ kept_new _ _
  have b0 : wb.cell? ⟨w.heap.size, 0, none⟩ = some (.int .i64 kd) := by rw [← hwb]; simp [go_sem]
  have b1 : wb.cell? ⟨w.heap.size, 1, none⟩ = some (.int .i64 pe) := by rw [← hwb]; simp [go_sem]
  have b2 : wb.cell? ⟨w.heap.size, 2, none⟩ = some (.int .i64 nn) := by rw [← hwb]; simp [go_sem]
  have b3 : wb.cell? ⟨w.heap.size, 3, none⟩ = some (.bool fl) := by rw [← hwb]; simp [go_sem]
  have b4 : wb.cell? ⟨w.heap.size, 4, none⟩ = some (.string by') := by rw [← hwb]; simp [go_sem]
  have l0 := (cell_spot b0).2
  have e0 := kept_cell hk0 hc
  have l1 := (cell_spot e0).2
  have H := Lib.hid (h.kept hk0)
  have HB : Hid (∀ (q : NS × List OutD × Int) (v : Value) (w' : World), SentN wb F R q (.returned v) w' → SentN w F R q (.returned v) w') := Lib.hid fun q v w' ⟨u, F', h1, h2, h3, h4, h5⟩ => ⟨u, F', h1, ⟨h2.1, h2.2.imp id fun ⟨g, cap, cur, q1, q2, q3⟩ => ⟨g, cap, cur, q1, Nat.le_trans hk0.size q2, q3⟩⟩, h3, (Turn.of_below hk0).trans h4, h5⟩
  have HQ := Lib.hid hq
  clear h hk0 hq hc
  go_enter Tryz.func80, Tryz.ntmps80
  go_wp2_with fail
  with_reducible refine (send_any pe by' hs hA _ HQ.out _ H.out).mono ?_
  rintro e w1 h1
  have h1' := h1
  obtain ⟨v, F', rfl, ho, _, _, _⟩ := h1
  obtain ⟨a5, c5, rfl, _⟩ := outs_form ho
  have H2 := Lib.hid h1'
  clear h1' ho
  obtain ⟨m, hm⟩ : ∃ m, q.2.1.length = m := ⟨_, rfl⟩
  obtain ⟨r, hr⟩ : ∃ r, q.2.2 = r := ⟨_, rfl⟩
  rw [hm, hr] at H2 ⊢
  clear hm hr
  go_wp2_with fail
  go_ret2
  exact HB.out _ _ _ H2.out
set_option maxRecDepth 20000 in
theorem play4_any (a : ActD) (hfl : Fly s) (q : NS × List OutD × Int) (hq : s.pass a.n = q) (c : Nat) (w : World) (hc : w.cell? ⟨c, 0, none⟩ = some (.pointer (some ⟨R, 0, none⟩))) (h : NodeAt w F R s) :
    Calls Tryz.prog 81 #[actV a, .pointer (some ⟨c, 0, none⟩)] w (SentN w F R q) := by
  obtain ⟨kd, pe, nn, fl, by'⟩ := a
  have HFL := Lib.hid hfl
  clear hfl
  simp only at hq ⊢
  obtain ⟨wb, hwb⟩ : ∃ wb, w.alloc (.cells #[.int .i64 kd, .int .i64 pe, .int .i64 nn, .bool fl, .string by'] 109) = wb := ⟨_, rfl⟩
  have hk0 : Below w.heap.size w wb := hwb ▸ kept_new _ _
  have b0 : wb.cell? ⟨w.heap.size, 0, none⟩ = some (.int .i64 kd) := by rw [← hwb]; simp [go_sem]
  have b1 : wb.cell? ⟨w.heap.size, 1, none⟩ = some (.int .i64 pe) := by rw [← hwb]; simp [go_sem]
  have b2 : wb.cell? ⟨w.heap.size, 2, none⟩ = some (.int .i64 nn) := by rw [← hwb]; simp [go_sem]
  have b3 : wb.cell? ⟨w.heap.size, 3, none⟩ = some (.bool fl) := by rw [← hwb]; simp [go_sem]
  have b4 : wb.cell? ⟨w.heap.size, 4, none⟩ = some (.string by') := by rw [← hwb]; simp [go_sem]
  have l0 := (cell_spot b0).2
  have e0 := kept_cell hk0 hc
  have l1 := (cell_spot e0).2
  have H := Lib.hid (h.kept hk0)
  have HB : Hid (∀ (q : NS × List OutD × Int) (v : Value) (w' : World), SentN wb F R q (.returned v) w' → SentN w F R q (.returned v) w') := Lib.hid fun q v w' ⟨u, F', h1, h2, h3, h4, h5⟩ => ⟨u, F', h1, ⟨h2.1, h2.2.imp id fun ⟨g, cap, cur, q1, q2, q3⟩ => ⟨g, cap, cur, q1, Nat.le_trans hk0.size q2, q3⟩⟩, h3, (Turn.of_below hk0).trans h4, h5⟩
  have HQ := Lib.hid hq
  clear h hk0 hq hc
  go_enter Tryz.func81, Tryz.ntmps81
  go_wp2_with fail
  with_reducible refine (wait_any nn HFL.out _ HQ.out _ H.out).mono ?_
  rintro e w1 h1
  have h1' := h1
  obtain ⟨v, F', rfl, ho, _, _, _⟩ := h1
  obtain ⟨a5, c5, rfl, _⟩ := outs_form ho
  have H2 := Lib.hid h1'
  clear h1' ho
  obtain ⟨m, hm⟩ : ∃ m, q.2.1.length = m := ⟨_, rfl⟩
  obtain ⟨r, hr⟩ : ∃ r, q.2.2 = r := ⟨_, rfl⟩
  rw [hm, hr] at H2 ⊢
  clear hm hr
  go_wp2_with fail
  go_ret2
  exact HB.out _ _ _ H2.out
end Go.Proofs.YtaaaplbjeknbkabGreat
