/-
  The top laws' did.
-/
import Derived.Test.YtaaaplbjeknbkaaGreatJ32
set_option maxRecDepth 20000
namespace Go.Proofs.YtaaaplbjeknbkaaGreat
open Go.RowKit Go.Maps

variable {w w' : World} {F : Nat → Prop} {R : Nat} {s : NS}

set_option maxRecDepth 20000 in
set_option maxHeartbeats 1000000 in
theorem tdid_any (a : ActD) (n : Nat) (hn : n ≤ 2950000000000) (hi : NInv n s) (hs : a.bytes.size ≤ maxLen) (q : NS × List OutD × Int) (hq : s.did a = q) (w : World) (h : NodeAt w F R s) :
    Calls Tryz.prog 49 #[.pointer (some ⟨R, 0, none⟩), .agg #[.int .i64 a.kind, .int .i64 a.peer, .int .i64 a.n, .bool a.flag, .string a.bytes]] w (SentN w F R q) := by
  obtain ⟨kd, pe, nn, fl, by'⟩ := a
  simp only at hs
  unfold NS.did at hq
  simp only at hq ⊢
  obtain ⟨wb, hwb⟩ : ∃ wb, w.alloc (.cells #[.int .i64 kd, .int .i64 pe, .int .i64 nn, .bool fl, .string by'] 29) = wb := ⟨_, rfl⟩
  have hk0 : Below w.heap.size w wb := hwb ▸ kept_new _ _
  have b0 : wb.cell? ⟨w.heap.size, 0, none⟩ = some (.int .i64 kd) := by rw [← hwb]; simp [go_sem]
  have b1 : wb.cell? ⟨w.heap.size, 1, none⟩ = some (.int .i64 pe) := by rw [← hwb]; simp [go_sem]
  have b2 : wb.cell? ⟨w.heap.size, 2, none⟩ = some (.int .i64 nn) := by rw [← hwb]; simp [go_sem]
  have b3 : wb.cell? ⟨w.heap.size, 3, none⟩ = some (.bool fl) := by rw [← hwb]; simp [go_sem]
  have b4 : wb.cell? ⟨w.heap.size, 4, none⟩ = some (.string by') := by rw [← hwb]; simp [go_sem]
  have l0 := (cell_spot b0).2
  have HK := Lib.hid hk0
  have H := Lib.hid (h.kept hk0)
  have HB : Hid (∀ (q : NS × List OutD × Int) (v : Value) (w' : World), SentN wb F R q (.returned v) w' → SentN w F R q (.returned v) w') := Lib.hid fun q v w' ⟨u, F', h1, h2, h3, h4, h5⟩ => ⟨u, F', h1, ⟨h2.1, h2.2.imp id fun ⟨g, cap, cur, q1, q2, q3⟩ => ⟨g, cap, cur, q1, Nat.le_trans hk0.size q2, q3⟩⟩, h3, (Turn.of_below hk0).trans h4, h5⟩
  have HFL := Lib.hid hi.fly
  have hA : s.A.length ≤ 2950000000000 := by have := hi.sum; omega
  clear h hk0 hi
  by_cases h1 : kd = 1
  · subst h1
    rw [if_pos rfl] at hq
    have HQ := Lib.hid hq
    clear hq
    go_enter Tryz.func49, Tryz.ntmps49
    go_wp2_with fail
    with_reducible refine (join_any pe fl _ rfl _ H.out).mono ?_
    rintro e w1 h1
    obtain ⟨rfl, h2⟩ := turns_sent h1
    have H2 := Lib.hid h2
    clear h1 h2
    go_wp2_with fail
    go_ret2
    rw [← HQ.out]
    exact HB.out _ _ _ H2.out
  · rw [if_neg h1] at hq
    by_cases h2 : kd = 2
    · subst h2
      rw [if_pos rfl] at hq
      have HQ := Lib.hid hq
      clear hq
      go_enter Tryz.func49, Tryz.ntmps49
      go_wp2_with fail
      with_reducible refine (leave_any pe _ rfl _ H.out).mono ?_
      rintro e w1 h1
      obtain ⟨rfl, h2⟩ := turns_sent h1
      have H2 := Lib.hid h2
      clear h1 h2
      go_wp2_with fail
      go_ret2
      rw [← HQ.out]
      exact HB.out _ _ _ H2.out
    · rw [if_neg h2] at hq
      by_cases h3 : kd = 3
      · subst h3
        rw [if_pos rfl] at hq
        have HQ := Lib.hid hq
        clear hq
        go_enter Tryz.func49, Tryz.ntmps49
        go_wp2_with fail
        with_reducible refine (send_any pe by' hs hA _ HQ.out _ H.out).mono ?_
        rintro e w1 h1
        have h1' := h1
        obtain ⟨v, F', rfl, ho, _, _, _⟩ := h1
        obtain ⟨a5, c5, rfl, _⟩ := outs_form ho
        have H2 := Lib.hid h1'
        clear h1' ho
        obtain ⟨m, hm⟩ : ∃ m, q.2.1.length = m := ⟨_, rfl⟩
        obtain ⟨r, hr⟩ : ∃ r, q.2.2 = r := ⟨_, rfl⟩
        rw [hm, hr] at H2 ⊢
        clear hm hr
        go_wp2_with fail
        go_ret2
        exact HB.out _ _ _ H2.out
      · rw [if_neg h3] at hq
        by_cases h4 : kd = 4
        · subst h4
          rw [if_pos rfl] at hq
          have HQ := Lib.hid hq
          clear hq
          go_enter Tryz.func49, Tryz.ntmps49
          go_wp2_with fail
          with_reducible refine (wait_any nn HFL.out _ HQ.out _ H.out).mono ?_
          rintro e w1 h1
          have h1' := h1
          obtain ⟨v, F', rfl, ho, _, _, _⟩ := h1
          obtain ⟨a5, c5, rfl, _⟩ := outs_form ho
          have H2 := Lib.hid h1'
          clear h1' ho
          obtain ⟨m, hm⟩ : ∃ m, q.2.1.length = m := ⟨_, rfl⟩
          obtain ⟨r, hr⟩ : ∃ r, q.2.2 = r := ⟨_, rfl⟩
          rw [hm, hr] at H2 ⊢
          clear hm hr
          go_wp2_with fail
          go_ret2
          exact HB.out _ _ _ H2.out
        · rw [if_neg h4] at hq
          have HQ := Lib.hid hq
          clear hq
          go_enter Tryz.func49, Tryz.ntmps49
          go_wp2_with fail
          go_ret2
          rw [← HQ.out]
          exact sent_none (H.out) (Turn.of_below HK.out)
end Go.Proofs.YtaaaplbjeknbkaaGreat
