/-
  The laws of filters that need no reference: RingLate.
-/
import Derived.Test.YtagbcgbngdfapaaRingLaws1
import Derived.Test.YtagbcgbngdfapaaIdsOwn
namespace Go.Proofs.Ytagbcgbngdfapaa
open Go.RowKit Go.Maps

/-- One ID more of a tail: the list of its IDs holds it already, or takes it. -/
theorem tail_step {l d : List UInt64} {t : Nat} (h : t < l.length) (hd : ∀ y ∈ l.drop (t + 1), y ∈ d) {d' : List UInt64} (hs : ∀ y ∈ d, y ∈ d') (hx : l[t] ∈ d') : ∀ y ∈ l.drop t, y ∈ d' := fun y hy => by
  rw [List.drop_eq_getElem_cons h] at hy
  rcases List.mem_cons.1 hy with rfl | hy
  · exact hx
  · exact hs y (hd y hy)

theorem late_cell {w : World} {b o t : Nat} {l : List UInt64} (h : IdsAt w (some ⟨b, o, none⟩) l) (ht : t < l.length) : w.cell? ⟨b, o + t, none⟩ = some (.int .u64 l[t].toNat) := by
  obtain ⟨b', o', e, _, hc⟩ := h t ht
  cases e
  exact hc

set_option maxHeartbeats 1000000 in
theorem ringLate_walk (n : Int) (l : List UInt64) (a : Option Addr) (cap : Nat) (_hn : -9223372036854775808 ≤ n ∧ n ≤ 9223372036854775807) (hl : l.length ≤ maxLen) (w : World) (hi : IdsAt w a l) :
    Calls Try.prog 4 #[.int .i64 n, .slice a l.length cap] w fun e w' => e = .returned (.bool true) ∧ Below w.heap.size w w' := by
  obtain ⟨m, hm, hm2⟩ := rest50 n
  have HM := Lib.hid hm
  clear hm _hn
  unfold maxLen at hl
  go_enter Try.func4, Try.ntmps4
  go_wp2_with fail
  with_reducible refine (ringed_any _).mono ?_
  rintro e w1 ⟨rfl, hb1⟩
  go_wp2_with fail
  with_reducible refine (rest_is n 50 m _ (by decide) (by decide) HM.out).mono ?_
  rintro e w2 ⟨rfl, rfl⟩
  go_wp2_with fail
  with_reducible refine (held_new w _ (m + 1) (by simp) _ hb1 (by omega) (by omega)).mono ?_
  rintro e w3 ⟨R, rfl, h3⟩
  clear hb1
  go_wp2_with fail
  go_loopw [29] (fun i wr => ∃ k : Nat, k ≤ l.length ∧ i = .int .i64 k ∧ Hid (Held w wr R ((RingS.none (m + 1)).puts (l.take k)))) (fun i _ => l.length - (intOf i).toNat)
  case atStart => exact ⟨0, Nat.zero_le _, rfl, Lib.hid h3⟩
  case round =>
    obtain ⟨k, hk, rfl, HR⟩ := hrel
    by_cases hlt : k < l.length
    · obtain ⟨b, o, rfl, hb, hd⟩ := idsAt_kept (held_below HR.out) hi k hlt
      go_wp2_with fail
      with_reducible refine (held_put w R _ _ l[k] (puts_take _ hlt).symm _ HR.out (puts_good (none_good (by omega) (by omega)) _)).mono ?_
      rintro e w4 ⟨rfl, h4⟩
      go_wp2_with fail
      go_roundw
      case rel => exact ⟨k + 1, by omega, by go_num, Lib.hid h4⟩
      case measure => simp [intOf]; omega
    · have he : l.take k = l := List.take_of_length_le (by omega)
      have h4 := HR.out
      rw [he] at h4
      clear HR he
      obtain rfl : k = l.length := by omega
      have hgood : ((RingS.none (m + 1)).puts l).Good := puts_good (none_good (by omega) (by omega)) _
      have hcount := count_le hgood
      rw [puts_size] at hcount
      replace hcount : ((RingS.none (m + 1)).puts l).count ≤ 2 * (m + 1) := hcount
      have LATE := Lib.hid (late_has (n := m + 1) l (by omega) (by omega))
      generalize hs : (RingS.none (m + 1)).puts l = s at h4 hgood LATE hcount
      have H4 := Lib.hid h4
      have hi4 := idsAt_kept (held_below h4) hi
      clear hs h4 hi hlt hk
      obtain ⟨wB, hwB⟩ : ∃ x, x = wr := ⟨_, rfl⟩
      subst hwB
      go_wp2_with fail
      go_loopw [9, 10] (fun v i w5 => ∃ (d : List UInt64) (j : Nat) (q : Int), j ≤ l.length ∧ i = .int .i64 q ∧ Hid ((j : Int) = q + 1) ∧ Hid (OwnIds w5 wB.heap.size v d) ∧ Hid (∀ y ∈ l.drop j, y ∈ d) ∧ d.length ≤ m + 1 ∧ Below wB.heap.size wB w5) (fun _ i _ => (intOf i + 1).toNat)
      case atStart =>
        exact ⟨[], l.length, _, Nat.le_refl _, rfl, Lib.hid (by omega), Lib.hid (ownIds_nil _ _), Lib.hid (fun y hy => by rw [List.drop_length] at hy; cases hy), Nat.zero_le _, Below.refl _ _⟩
      case round =>
        obtain ⟨d, j, q, hj, rfl, HJ, HO, HD, hdl, hbel⟩ := hrel
        obtain ⟨va, vc, rfl, hvc, hva, _⟩ := owns_idsAt HO.out
        have hjj := HJ.out
        by_cases hq : q < 0
        · go_wp2_with fail
          with_reducible refine (held_count w R s _ rfl _ (held_kept H4.out hbel) hgood).mono ?_
          rintro e w6 ⟨rfl, h6⟩
          go_wp2_with fail
          go_ret
          exact ⟨ret_bool (decide_eq_true (by omega)), held_below h6⟩
        · obtain ⟨t, rfl⟩ : ∃ t : Nat, q = t := ⟨q.toNat, by omega⟩
          obtain rfl : j = t + 1 := by omega
          by_cases hfull : d.length < m + 1
          · have ht : t < l.length := by omega
            obtain ⟨b, o, rfl, hb, hcell⟩ := idsAt_kept hbel hi4 t ht
            have hfi : (d.length : Int) < (m : Int) + 1 := by omega
            have hd1 : d.length ≤ maxLen := by unfold maxLen; omega
            have hmem : l[t] ∈ l.drop t := by rw [List.drop_eq_getElem_cons ht]; exact List.mem_cons_self
            clear hjj
            cases hc : d.contains l[t] with
            | true =>
              have HD' := Lib.hid (tail_step ht HD.out (fun y hy => hy) (List.contains_iff_mem.1 hc))
              have hhas := LATE.out t d HD'.out hdl l[t] hmem
              go_wp2_with fail
              with_reducible refine (hasID_any d l[t] true (Lib.hid hc) _ _ _ hd1 hva).mono ?_
              rintro e w6 ⟨rfl, rfl⟩
              go_wp2_with fail
              with_reducible refine (held_has w R s l[t] true hhas _ (held_kept H4.out hbel)).mono ?_
              rintro e w6 ⟨rfl, rfl⟩
              clear hhas hc
              go_wp2_with fail
              go_roundw
              case rel => exact ⟨d, t, (t : Int) - 1, by omega, by go_num, Lib.hid (by omega), HO, HD', hdl, hbel⟩
              case measure => simp [intOf]
            | false =>
              have HD' := Lib.hid (tail_step (d' := d ++ [l[t]]) ht HD.out (fun y hy => List.mem_append.2 (.inl hy)) (List.mem_append.2 (.inr (List.mem_singleton.2 rfl))))
              have hhas := LATE.out t _ HD'.out (by simp; omega) l[t] hmem
              go_wp2_with fail
              with_reducible refine (hasID_any d l[t] false (Lib.hid hc) _ _ _ hd1 hva).mono ?_
              rintro e w6 ⟨rfl, rfl⟩
              clear hc
              have hcellB := late_cell hi4 ht
              go_wp2_with (at_builtin; refine append_id rfl _ _ rfl l[t] rfl rfl HO.out (by omega) hbel.size ?_; intro g vc2 w6 ho6 hg6 hg6'; have hb6 : Below wB.heap.size wB w6 := hbel.grown hg6' hbel.size (fun k hk => (ownIds_block HO.out k hk).1); have hcell6 := kept_cell hb6 hcellB)
              with_reducible refine (held_has w R s l[t] true hhas _ (held_kept H4.out hb6)).mono ?_
              rintro e w7 ⟨rfl, rfl⟩
              clear hhas
              go_wp2_with fail
              go_roundw
              case rel => exact ⟨d ++ [l[t]], t, (t : Int) - 1, by omega, by go_num, Lib.hid (by omega), Lib.hid ho6, HD', by simp; omega, hb6⟩
              case measure => simp [intOf]
          · have hfi : ¬ (d.length : Int) < (m : Int) + 1 := by omega
            clear hjj
            go_wp2_with fail
            with_reducible refine (held_count w R s _ rfl _ (held_kept H4.out hbel) hgood).mono ?_
            rintro e w6 ⟨rfl, h6⟩
            go_wp2_with fail
            go_ret
            exact ⟨ret_bool (decide_eq_true (by omega)), held_below h6⟩
end Go.Proofs.Ytagbcgbngdfapaa
