/-
  The law that holds a pool against the reference's: HomeDoes.
-/
import Derived.Test.YtodhkphjlcjdoaaHomed
namespace Go.Proofs.Ytodhkphjlcjdoaa
open Go.RowKit Go.Maps

theorem ids_self (l : List UInt64) : (l == l) = true := beq_self_eq_true l
set_option maxRecDepth 20000 in
set_option maxHeartbeats 2000000 in
theorem homeDoes_walk (l : List OpH) (a : Option Addr) (cap : Nat) (hl : l.length ≤ maxLen) (w : World) (hi : OpsHAt w a l) :
    Calls Try.prog 3 #[.slice a l.length cap] w fun e w' => e = .returned (.bool true) ∧ Below w.heap.size w w' := by
  unfold maxLen at hl
  have HI := Lib.hid hi
  clear hi
  go_enter Try.func3, Try.ntmps3
  go_wp2_with fail
  with_reducible refine (hd_new w w (Below.refl _ _) noZ (there_no w)).mono ?_
  rintro e w1 ⟨R, rfl, hr1, -⟩
  have HP := Lib.hid (pairH_made hr1)
  clear hr1
  go_wp2_with fail
  go_loopw [20] (fun i wr => ∃ (k : Nat) (L : List LinkD), k ≤ l.length ∧ i = .int .i64 k ∧ Hid (PairH w wr noZ R w1.heap.size L L)) (fun i _ => l.length - (intOf i).toNat)
  case atStart => exact ⟨0, _, Nat.zero_le _, rfl, HP⟩
  case round =>
    clear HP
    obtain ⟨k, L, hk, rfl, HS⟩ := hrel
    by_cases hlt : k < l.length
    · obtain ⟨b, o, rfl, hb, c0, c1, c2, c3, c4, c5, c6, c7, c8⟩ := opsH_at HI.out HS.out.below k hlt
      have hfc := (HI.out k hlt).2.1
      have hfi := (HI.out k hlt).2.2.1
      generalize l[k] = q at c0 c1 c2 c3 c4 c5 c6 c7 c8 hfc hfi
      have HFC := Lib.hid hfc
      have HFI := Lib.hid hfi
      have HX := Lib.hid (HS.out.beside (.cells #[.int .i64 q.kind, .int .i64 q.peer, .int .i64 q.n, .int .u64 q.id.toNat, .bool q.flag, .slice q.ia q.d.ins.length q.ic, .int .i64 q.d.outs, .int .i64 q.d.weight, .int .i64 q.d.fee] 34))
      have HN := Lib.hid (opH_new wr q)
      clear hfc hfi
      go_wp2_with fail
      clear c0 c1 c2 c3 c4 c5 c6 c7 c8
      generalize hwX : wr.alloc (.cells #[.int .i64 q.kind, .int .i64 q.peer, .int .i64 q.n, .int .u64 q.id.toNat, .bool q.flag, .slice q.ia q.d.ins.length q.ic, .int .i64 q.d.outs, .int .i64 q.d.weight, .int .i64 q.d.fee] 34) = wX at HX HN ⊢
      obtain ⟨k0, k1, k2, k3, k4, k5, k6, k7, k8⟩ := HN.out
      rw [Nat.zero_add] at k1 k2 k3 k4 k5 k6 k7 k8
      have HD := Lib.hid (HX.out.kept (w' := wX.drew) ((Below.refl _ _).drew))
      have HND := Lib.hid (opHCells_kept (w' := wX.drew) ((Below.refl _ _).drew) HN.out)
      obtain ⟨L', hL'⟩ : ∃ L', stepC L q = L' := ⟨_, rfl⟩
      obtain ⟨hs, hhs⟩ : ∃ hs, allL L' = hs := ⟨_, rfl⟩
      obtain ⟨hb, hhb⟩ : ∃ hb, (deedOf L' q.id).isSome = hb := ⟨_, rfl⟩
      have HO := Lib.hid hL'
      have HH := Lib.hid hhs
      have HHB := Lib.hid hhb
      clear hwX hL' hhs hhb
      go_region_held3 (fun w' => w'.cell? ⟨wr.heap.size, 0, none⟩ = some (.int .i64 q.kind) ∧ w'.cell? ⟨wr.heap.size, 1, none⟩ = some (.int .i64 q.peer) ∧ w'.cell? ⟨wr.heap.size, 2, none⟩ = some (.int .i64 q.n) ∧ w'.cell? ⟨wr.heap.size, 3, none⟩ = some (.int .u64 q.id.toNat) ∧ w'.cell? ⟨wr.heap.size, 4, none⟩ = some (.bool q.flag) ∧ w'.cell? ⟨wr.heap.size, 5, none⟩ = some (.slice q.ia q.d.ins.length q.ic) ∧ w'.cell? ⟨wr.heap.size, 6, none⟩ = some (.int .i64 q.d.outs) ∧ w'.cell? ⟨wr.heap.size, 7, none⟩ = some (.int .i64 q.d.weight) ∧ w'.cell? ⟨wr.heap.size, 8, none⟩ = some (.int .i64 q.d.fee))
        (first | exact ⟨k0, k1, k2, k3, k4, k5, k6, k7, k8⟩ | assumption | exact kk.out)
        (first
          | (go_at_call 12; ((with_reducible refine (homed_any _ _ R _ L q HFC.out HFI.out _ HD.out).mono ?_); rintro e w2 ⟨rfl, h2, s2⟩; rw [HO.out] at h2; have kk := Lib.hid (opH_same s2 (.inr rfl) HND.out); have H2 := Lib.hid h2; have HF : Hid (hs.length ≤ maxLen) := Lib.hid (by rw [← HH.out]; exact Nat.le_trans (allL_len L') (Nat.le_trans h2.len (by unfold maxLen; omega))); clear h2 s2))
          | (go_at_call 14; ((with_reducible refine (pairH_all _ _ R _ L' L' _ H2.out hs HH.out).mono ?_); rintro e w3 ⟨a3, cp3, rfl, i3, b3⟩; have kk := Lib.hid (opHCells_kept b3 kk.out); have H3 := Lib.hid (H2.out.kept b3); have I3 := Lib.hid i3; clear i3 b3))
          | (go_at_call 15; ((with_reducible refine (pairH_refall _ _ R _ L' L' _ H3.out hs HH.out).mono ?_); rintro e w4 ⟨a4, cp4, rfl, i4, b4⟩; have kk := Lib.hid (opHCells_kept b4 kk.out); have H4 := Lib.hid (H3.out.kept b4); have I34 := Lib.hid (idsAt_kept b4 I3.out); have I4 := Lib.hid (ids_of i4); clear i4 b4))
          | (go_at_call 13; ((with_reducible refine (eqID_is hs hs a3 a4 cp3 cp4 _ true HF.out I34.out I4.out (ids_self hs)).mono ?_); rintro e w5 ⟨rfl, rfl⟩))
          | (go_at_call 16; ((with_reducible refine (pairH_has _ _ R _ L' L' _ H4.out q.id hb HHB.out).mono ?_); rintro e w6 ⟨rfl, b6⟩; have kk := Lib.hid (opHCells_kept b6 kk.out); have H6 := Lib.hid (H4.out.kept b6); clear b6))
          | (go_at_call 17; ((with_reducible refine (pairH_refhas _ _ R _ L' L' _ H6.out q.id hb HHB.out).mono ?_); rintro e w7 ⟨rfl, b7⟩; have kk := Lib.hid (opHCells_kept b7 kk.out); have H7 := Lib.hid (H6.out.kept b7); clear b7)))
      go_split_ands
      obtain ⟨⟨n1, n2, n3⟩, hn⟩ : ∃ y, usageC L' q.peer = y := ⟨_, rfl⟩
      have HC := Lib.hid hn
      have hz4 := (cell_spot kk.out.1).2
      clear hn
      go_wp2_with fail
      with_reducible refine (pairH_usage _ _ R _ L' L' _ H7.out q.peer n1 n2 n3 HC.out).mono ?_
      rintro e w8 ⟨rfl, b8⟩
      have H8 := Lib.hid (H7.out.kept b8)
      obtain ⟨_, k61, _⟩ := opHCells_kept b8 kk.out
      rw [Nat.zero_add] at k61
      have hz6 := (cell_spot k61).2
      clear b8
      go_wp2_with fail
      with_reducible refine (pairH_refusage _ _ R _ L' L' _ H8.out q.peer n1 n2 n3 HC.out).mono ?_
      rintro e w9 ⟨rfl, b9⟩
      have H9 := Lib.hid ((H8.out.kept b9).less (Z' := noZ) (fun _ h => h.elim))
      clear b9
      go_wp2_with fail
      go_roundw
      case rel => exact ⟨k + 1, L', by omega, by go_num, H9⟩
      case measure => simp [intOf]; omega
    · go_wp2_with fail
      with_reducible refine (pairH_last _ _ R _ L L _ HS.out).mono ?_
      rintro e w2 ⟨rfl, h2⟩
      have HB := Lib.hid h2
      clear h2
      go_wp2_with fail
      go_ret
      exact ⟨rfl, HB.out⟩
end Go.Proofs.Ytodhkphjlcjdoaa
