/-
  The contracts of package ring that write: maps.Clone, turn, Put, Reset.
-/
import Derived.Test.YtagbcgbngdfapaaRingWalks
namespace Go.Proofs.Ytagbcgbngdfapaa
open Go.RowKit Go.Maps

theorem eql_nil (w : World) (b : Nat) : (binOp .eql 47 (.map (some b)) (.map none)).run Try.prog w = .ok (.bool false) w := run_eql_map_nil_sl (P := Try.prog) w 47 _ _ (some b) Try.underlying47
theorem clone_any (b : Nat) (es : Array MapEntry) (clock : Nat) (w : World) (hb : w.heap[b]? = some (.map es clock)) :
    Calls Try.prog 21 #[.map (some b)] w fun e w' => e = .returned (.map (some w.heap.size)) ∧ w' = w.alloc (.map es clock) := by
  have hq := eql_nil
  go_enter Try.func21, Try.ntmps21
  go_wp2
  rw [run_callFunc_extern Try.func22 (by kernel_rfl) (by kernel_rfl) (by kernel_rfl) (e := Extern.MapsClone.clone) (by kernel_rfl), run_maps_clone_sl w 47 hb]
  simp only [Result.andThen]
  rw [Oper.upon_value]
  go_wp2
  rw [run_typeAssert_map_sl _ 47 20 _ _ _ Try.underlying47]
  simp only [Result.andThen]
  rw [Oper.upon_value]
  go_wp2
  go_ret
  exact ⟨rfl, rfl⟩

theorem ring_turn (F : Nat → Prop) (R : Nat) (s : RingS) (w : World) (h : RingAt w F R s) :
    Calls Try.prog 19 #[.pointer (some ⟨R, 0, none⟩)] w fun e w' => e = .returned (.tuple #[]) ∧ ∃ F', RingAt w' F' R ⟨s.size, [], s.cur⟩ ∧ Turn F F' w w' := by
  obtain ⟨c, p, ⟨c0, c1, c2, f2⟩, hc, hp, ⟨hcR, hpn⟩, ⟨hFR, hFc, hFp⟩, ht⟩ := h
  obtain ⟨es, clock, hb, hcl⟩ := map_clone hc
  have hlt : R < w.heap.size := ht R hFR
  have hclt : c < w.heap.size := ht c hFc
  -- behind the copy and the store
  have hcs : MapAt ((w.alloc (.map es clock)).setCell ⟨R, 2, none⟩ (.map (some w.heap.size))) c s.cur := map_same hc ((Below.heap_setCell _ _ _ _ hcR).trans (Below.heap_alloc _ _ _ hclt))
  have hps : MapAt ((w.alloc (.map es clock)).setCell ⟨R, 2, none⟩ (.map (some w.heap.size))) w.heap.size s.cur := map_same hcl (Below.heap_setCell _ _ _ _ (by show w.heap.size ≠ R; omega))
  have d0 : ((w.alloc (.map es clock)).setCell ⟨R, 2, none⟩ (.map (some w.heap.size))).cell? ⟨R, 0, none⟩ = some (.int .i64 s.size) := by simp [go_sem, c0, hlt]
  have d1 : ((w.alloc (.map es clock)).setCell ⟨R, 2, none⟩ (.map (some w.heap.size))).cell? ⟨R, 1, none⟩ = some (.map (some c)) := by simp [go_sem, c1, hlt]
  have d2 : ((w.alloc (.map es clock)).setCell ⟨R, 2, none⟩ (.map (some w.heap.size))).cell? ⟨R, 2, none⟩ = some (.map (some w.heap.size)) := by simp [go_sem, c2, hlt]
  have g2 : ((w.alloc (.map es clock)).setCell ⟨R, 2, none⟩ (.map (some w.heap.size))).frozen? ⟨R, 2, none⟩ = false := by simp [go_sem, f2, hlt]
  rw [World.setCell_alloc_past _ _ _ _ hlt] at hcs hps d0 d1 d2 g2
  obtain ⟨w3, hrun, h3, hg3⟩ := map_clear hcs
  have hsz : ((w.setCell ⟨R, 2, none⟩ (.map (some w.heap.size))).alloc (.map es clock)).heap.size = w.heap.size + 1 := by simp
  have hR3 : w3.heap[R]? = ((w.setCell ⟨R, 2, none⟩ (.map (some w.heap.size))).alloc (.map es clock)).heap[R]? := hg3.block R (by omega) (fun e => hcR (Option.some.inj e).symm)
  have c1' : w3.cell? ⟨R, 1, none⟩ = some (.map (some c)) := (World.cell?_of_block (a := ⟨R, 1, none⟩) hR3).trans d1
  have HE : Hid (∃ F', RingAt w3 F' R ⟨s.size, [], s.cur⟩ ∧ Turn F F' w w3) := Lib.hid (by
    refine ⟨fun k => F k ∨ k = w.heap.size, ⟨c, some w.heap.size, ⟨?_, c1', ?_, ?_⟩, h3, .inr ⟨_, rfl, map_same hps (hg3.block _ (by omega) (fun e => by have := Option.some.inj e; omega))⟩, ⟨hcR, fun b hb => ?_⟩, ⟨.inl hFR, .inl hFc, fun b hb => ?_⟩, fun k hk => ?_⟩, ?_⟩
    · exact (World.cell?_of_block (a := ⟨R, 0, none⟩) hR3).trans d0
    · exact (World.cell?_of_block (a := ⟨R, 2, none⟩) hR3).trans d2
    · exact (World.frozen?_of_block (a := ⟨R, 2, none⟩) hR3).trans g2
    · cases hb; exact ⟨by omega, by omega⟩
    · cases hb; exact .inr rfl
    · have := hg3.size
      rcases hk with hk | hk
      · have := ht k hk; omega
      · omega
    · have t1 : Turn F F w (w.setCell ⟨R, 2, none⟩ (.map (some w.heap.size))) := Turn.set _ _ _ hFR
      have t2 : Turn F F (w.setCell ⟨R, 2, none⟩ (.map (some w.heap.size))) ((w.setCell ⟨R, 2, none⟩ (.map (some w.heap.size))).alloc (.map es clock)) := Turn.of_below (kept_new _ _)
      have t3 : Turn F F ((w.setCell ⟨R, 2, none⟩ (.map (some w.heap.size))).alloc (.map es clock)) w3 := Turn.of_grown hg3 (fun k hk => by cases hk; exact hFc)
      exact ((t1.trans t2).trans t3).more (fun k hk => hk.imp id (fun e => by omega)))
  have hq := eql_nil
  clear hc hp hcl hcs hps d0 d2 g2 h3 hg3 hsz hR3 hpn hFp
  go_enter Try.func19, Try.ntmps19
  go_wp2_with (first | (go_at_call 21; refine (clone_any c es clock _ hb).mono ?_; rintro e w1 ⟨rfl, rfl⟩) | go_in)
  go_end0
  exact ⟨rfl, HE.out⟩

/-- What a store into the current map makes of a filter. -/
theorem ring_stored {w w' : World} {F : Nat → Prop} {R c : Nat} {p : Option Nat} {s : RingS} {x : UInt64} (hcell : w.cell? ⟨R, 0, none⟩ = some (.int .i64 s.size) ∧ w.cell? ⟨R, 1, none⟩ = some (.map (some c)) ∧ w.cell? ⟨R, 2, none⟩ = some (.map p) ∧ w.frozen? ⟨R, 2, none⟩ = false)
    (hp : GenAt w p s.prev) (hn : c ≠ R ∧ ∀ b, p = some b → b ≠ R ∧ b ≠ c) (hF : F R ∧ F c ∧ ∀ b, p = some b → F b) (ht : There w F) (hm : MapAt w' c (s.cur ++ [x])) (hg : w.grownBy w' (some c)) :
    RingAt w' F R ⟨s.size, s.cur ++ [x], s.prev⟩ ∧ Turn F F w w' := by
  obtain ⟨c0, c1, c2, f2⟩ := hcell
  have hR := hg.block R (ht R hF.1) (fun e => hn.1 (Option.some.inj e).symm)
  refine ⟨⟨c, p, ⟨?_, ?_, ?_, ?_⟩, hm, gen_same hp (fun b hb => hg.block b (ht b (hF.2.2 b hb)) (fun e => (hn.2 b hb).2 (Option.some.inj e))), hn, hF, ht.later hg.size⟩, Turn.of_grown hg (fun k hk => by cases hk; exact hF.2.1)⟩
  · exact (World.cell?_of_block (a := ⟨R, 0, none⟩) hR).trans c0
  · exact (World.cell?_of_block (a := ⟨R, 1, none⟩) hR).trans c1
  · exact (World.cell?_of_block (a := ⟨R, 2, none⟩) hR).trans c2
  · exact (World.frozen?_of_block (a := ⟨R, 2, none⟩) hR).trans f2

theorem ring_put (F : Nat → Prop) (R : Nat) (s : RingS) (x : UInt64) (w : World) (h : RingAt w F R s) (hg : s.Good) :
    Calls Try.prog 10 #[.pointer (some ⟨R, 0, none⟩), .int .u64 x.toNat] w fun e w' => e = .returned (.tuple #[]) ∧ ∃ F', RingAt w' F' R (s.put x) ∧ Turn F F' w w' := by
  have hlen := hg.2.2.1
  have hlen2 := hg.2.1
  cases hx : s.cur.contains x with
  | true =>
    have HE : Hid (∃ F', RingAt w F' R (s.put x) ∧ Turn F F' w w) := Lib.hid ⟨F, by rw [put_there hx]; exact h, Turn.refl F w⟩
    obtain ⟨c, p, ⟨c0, c1, c2, f2⟩, hc, hp, hn, hF, ht⟩ := h
    have l1 := map_look hc x
    rw [hx] at l1
    clear hc hp hn hF ht hg hx hlen hlen2
    go_enter Try.func10, Try.ntmps10
    go_wp2
    refine bodyPost_ret (results_none rfl _ _ _) rfl ?_
    exact ⟨rfl, HE.out⟩
  | false =>
    have H := Lib.hid h
    obtain ⟨c, p, ⟨c0, c1, c2, f2⟩, hc, hp, hn, hF, ht⟩ := h
    have l1 := map_look hc x
    have l2 := fun n ty => map_len (map_same hc (w' := w.drewN n) rfl) ty
    rw [hx] at l1
    have HC := Lib.hid hc
    have HP := Lib.hid hp
    have HN := Lib.hid hn
    have HF := Lib.hid hF
    have HT := Lib.hid ht
    have HX := Lib.hid hx
    have HG := Lib.hid hg
    clear hc hp hn hF ht hx hg
    by_cases hfull : s.size ≤ s.cur.length
    · go_enter Try.func10, Try.ntmps10
      go_wp2_with fail
      go_quiet (fail)
      generalize hw2 : World.drewN w nq = w2
      have hb2 : Below w.heap.size w w2 := hw2 ▸ below_drewN (Below.refl _ _) _
      have H2 := ringAt_kept H.out hb2
      clear hw2
      go_wp2_with fail
      with_reducible refine (ring_turn F R s _ H2).mono ?_
      rintro e w3 ⟨rfl, F', h3, t3⟩
      obtain ⟨c', p', ⟨k0, k1, k2, g2⟩, hc', hp', hn', hF', ht'⟩ := h3
      obtain ⟨w4, hput, hm4, hg4⟩ := map_put hc' x (by simp) (by unfold maxLen; simp)
      have HE : Hid (∃ F'', RingAt w4 F'' R (s.put x) ∧ Turn F F'' w w4) := Lib.hid (by
        obtain ⟨r1, r2⟩ := ring_stored (s := ⟨s.size, [], s.cur⟩) ⟨k0, k1, k2, g2⟩ hp' hn' hF' ht' hm4 hg4
        exact ⟨F', by rw [put_full HX.out hfull]; exact r1, ((Turn.of_below hb2).trans t3).trans r2⟩)
      clear hc' hp' hn' hF' ht' hm4 hg4 k2 g2 H2 t3
      go_wp2_with fail
      go_end0
      exact ⟨rfl, HE.out⟩
    · go_enter Try.func10, Try.ntmps10
      go_wp2_with fail
      go_quiet (fail)
      generalize hw2 : World.drewN w nq = w2
      have hb2 : Below w.heap.size w w2 := hw2 ▸ below_drewN (Below.refl _ _) _
      have H2 := ringAt_kept H.out hb2
      clear hw2
      obtain ⟨c', p', ⟨k0, k1, k2, g2⟩, hc', hp', hn', hF', ht'⟩ := H2
      obtain ⟨w4, hput, hm4, hg4⟩ := map_put hc' x HX.out (by unfold maxLen; omega)
      have HE : Hid (∃ F'', RingAt w4 F'' R (s.put x) ∧ Turn F F'' w w4) := Lib.hid (by
        obtain ⟨r1, r2⟩ := ring_stored ⟨k0, k1, k2, g2⟩ hp' hn' hF' ht' hm4 hg4
        exact ⟨F, by rw [put_room HX.out (by omega)]; exact r1, (Turn.of_below hb2).trans r2⟩)
      clear hc' hp' hn' hF' ht' hm4 hg4 k2 g2
      go_wp2_with fail
      go_end0
      exact ⟨rfl, HE.out⟩

theorem ring_reset (F : Nat → Prop) (R : Nat) (s : RingS) (w : World) (h : RingAt w F R s) :
    Calls Try.prog 9 #[.pointer (some ⟨R, 0, none⟩)] w fun e w' => e = .returned (.tuple #[]) ∧ RingAt w' F R (RingS.none s.size) ∧ Turn F F w w' := by
  obtain ⟨c, p, ⟨c0, c1, c2, f2⟩, hc, hp, hn, hF, ht⟩ := h
  obtain ⟨w1, r1, m1, g1⟩ := map_clear hc
  have hR := g1.block R (ht R hF.1) (fun e => hn.1 (Option.some.inj e).symm)
  have hp1 : GenAt w1 p s.prev := gen_same hp (fun b hb => g1.block b (ht b (hF.2.2 b hb)) (fun e => (hn.2 b hb).2 (Option.some.inj e)))
  obtain ⟨w2, r2, m2, g2⟩ := gen_clear hp1
  have hR2 := g2.block R (Nat.lt_of_lt_of_le (ht R hF.1) g1.size) (fun e => (hn.2 R e.symm).1 rfl)
  have hc2 := g2.block c (Nat.lt_of_lt_of_le (ht c hF.2.1) g1.size) (fun e => (hn.2 c e.symm).2 rfl)
  have k2 : w1.cell? ⟨R, 2, none⟩ = some (.map p) := (World.cell?_of_block (a := ⟨R, 2, none⟩) hR).trans c2
  have HE : Hid (RingAt w2 F R (RingS.none s.size) ∧ Turn F F w w2) := Lib.hid (by
    refine ⟨⟨c, p, ⟨?_, ?_, ?_, ?_⟩, map_same m1 hc2, m2, hn, hF, (ht.later g1.size).later g2.size⟩, (Turn.of_grown g1 (fun k hk => by cases hk; exact hF.2.1)).trans (Turn.of_grown g2 (fun k hk => hF.2.2 k hk))⟩
    · exact (World.cell?_of_block (a := ⟨R, 0, none⟩) (hR2.trans hR)).trans c0
    · exact (World.cell?_of_block (a := ⟨R, 1, none⟩) (hR2.trans hR)).trans c1
    · exact (World.cell?_of_block (a := ⟨R, 2, none⟩) (hR2.trans hR)).trans c2
    · exact (World.frozen?_of_block (a := ⟨R, 2, none⟩) (hR2.trans hR)).trans f2)
  clear hc hp hn hF ht m1 g1 hR hp1 m2 g2 hR2 hc2
  go_enter Try.func9, Try.ntmps9
  go_wp2
  go_end0
  exact ⟨rfl, HE.out⟩
end Go.Proofs.Ytagbcgbngdfapaa
