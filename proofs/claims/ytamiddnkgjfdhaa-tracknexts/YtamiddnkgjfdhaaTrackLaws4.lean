/-
  The law that holds a tracker against the reference's: TrackDoes.
-/
import Derived.Test.YtamiddnkgjfdhaaTrackedT
import Derived.Test.YtamiddnkgjfdhaaIntList
namespace Go.Proofs.Ytamiddnkgjfdhaa
open Go.RowKit Go.Maps

theorem nine_same {Z : Nat → Prop} {w w' : World} {c : Nat} {d : OpD} (hs : SameOn Z w w') (hz : Z c) (h : OpCells w c 0 d) : OpCells w' c 0 d := by
  have e := hs c hz
  obtain ⟨c0, c1, c2, c3, c4, c5, c6, c7, c8⟩ := h
  exact ⟨(World.cell?_of_block (a := ⟨c, 0, none⟩) e).trans c0, (World.cell?_of_block (a := ⟨c, 1, none⟩) e).trans c1, (World.cell?_of_block (a := ⟨c, 2, none⟩) e).trans c2, (World.cell?_of_block (a := ⟨c, 3, none⟩) e).trans c3, (World.cell?_of_block (a := ⟨c, 4, none⟩) e).trans c4, (World.cell?_of_block (a := ⟨c, 5, none⟩) e).trans c5, (World.cell?_of_block (a := ⟨c, 6, none⟩) e).trans c6, (World.cell?_of_block (a := ⟨c, 7, none⟩) e).trans c7, (World.cell?_of_block (a := ⟨c, 8, none⟩) e).trans c8⟩
theorem nine_kept {w w' : World} {c o : Nat} {d : OpD} (hb : Below w.heap.size w w') (h : OpCells w c o d) : OpCells w' c o d := by
  obtain ⟨c0, c1, c2, c3, c4, c5, c6, c7, c8⟩ := h
  exact ⟨kept_cell hb c0, kept_cell hb c1, kept_cell hb c2, kept_cell hb c3, kept_cell hb c4, kept_cell hb c5, kept_cell hb c6, kept_cell hb c7, kept_cell hb c8⟩
theorem nine_new (w : World) (d : OpD) : OpCells (w.alloc (.cells #[.int .i64 d.kind, .int .i64 d.peer, .int .i64 d.n, .int .u64 d.id.toNat, .bool d.flag, .slice d.ia d.il d.ic, .int .i64 d.outs, .int .i64 d.weight, .int .i64 d.fee] 34)) w.heap.size 0 d :=
  ⟨by simp [go_sem], by simp [go_sem], by simp [go_sem], by simp [go_sem], by simp [go_sem], by simp [go_sem], by simp [go_sem], by simp [go_sem], by simp [go_sem]⟩
theorem holdersL_few (L : List TEnt) (x : UInt64) : (holdersL L x).length ≤ 8 := holdersUp_few L x 8
/-- The laws' last question. -/
theorem pairT_last (w0 : World) (Z : Nat → Prop) (R B : Nat) (salt : UInt64) (L M : List TEnt) (w : World) (h : PairT w0 w Z R B salt L M) : Calls Try.prog 19 #[.pointer (some ⟨R, 0, none⟩), .int .i64 0, .int .u64 1, .int .i64 (-1), .bool true] w fun e w' => e = .returned (.int .i64 1) ∧ Below w0.heap.size w0 w' := by
  have ha : annC L 0 1 (-1) true = (1, L) := by
    unfold annC
    rw [if_neg (fun h => absurd h.2 (by unfold goodT; omega))]
  refine (pairT_announce w0 Z R B salt L M w h 0 1 (-1) true 1 L ha).mono ?_
  rintro e w2 ⟨rfl, h2, _⟩
  exact ⟨rfl, h2.below⟩
theorem ints_self (l : List Int) : (l == l) = true := beq_self_eq_true l
set_option maxRecDepth 20000 in
set_option maxHeartbeats 2000000 in
theorem trackDoes_walk (salt : UInt64) (l : List OpD) (a : Option Addr) (cap : Nat) (hl : l.length ≤ maxLen) (w : World) (hi : OpsAt w a l) :
    Calls Try.prog 3 #[.int .u64 salt.toNat, .slice a l.length cap] w fun e w' => e = .returned (.bool true) ∧ Below w.heap.size w w' := by
  unfold maxLen at hl
  have HI := Lib.hid hi
  clear hi
  go_enter Try.func3, Try.ntmps3
  go_wp2_with fail
  with_reducible refine (trk_new w salt _ (Below.refl _ _)).mono ?_
  rintro e w1 ⟨R, rfl, hr1⟩
  have HP := Lib.hid (pairT_made hr1)
  clear hr1
  go_wp2_with fail
  go_loopw [24] (fun i wr => ∃ (k : Nat) (L : List TEnt), k ≤ l.length ∧ i = .int .i64 k ∧ Hid (PairT w wr (fun _ => False) R w1.heap.size salt L L)) (fun i _ => l.length - (intOf i).toNat)
  case atStart => exact ⟨0, _, Nat.zero_le _, rfl, HP⟩
  case round =>
    clear HP
    obtain ⟨k, L, hk, rfl, HS⟩ := hrel
    by_cases hlt : k < l.length
    · obtain ⟨b, o, rfl, hb, c0, c1, c2, c3, c4, c5, c6, c7, c8⟩ := opsAt_kept HS.out.below HI.out k hlt
      generalize l[k] = d at c0 c1 c2 c3 c4 c5 c6 c7 c8
      have hX := HS.out.beside (.cells #[.int .i64 d.kind, .int .i64 d.peer, .int .i64 d.n, .int .u64 d.id.toNat, .bool d.flag, .slice d.ia d.il d.ic, .int .i64 d.outs, .int .i64 d.weight, .int .i64 d.fee] 34)
      have HX := Lib.hid hX
      have HN := Lib.hid (nine_new wr d)
      clear hX
      go_wp2_with fail
      clear c0 c1 c2 c3 c4 c5 c6 c7 c8
      generalize hwX : wr.alloc (.cells #[.int .i64 d.kind, .int .i64 d.peer, .int .i64 d.n, .int .u64 d.id.toNat, .bool d.flag, .slice d.ia d.il d.ic, .int .i64 d.outs, .int .i64 d.weight, .int .i64 d.fee] 34) = wX at HX HN ⊢
      obtain ⟨k0, k1, k2, k3, k4, k5, k6, k7, k8⟩ := HN.out
      rw [Nat.zero_add] at k1 k2 k3 k4 k5 k6 k7 k8
      have HD := Lib.hid (HX.out.kept (w' := wX.drew) ((Below.refl _ _).drew))
      have HND := Lib.hid (nine_kept (w' := wX.drew) ((Below.refl _ _).drew) HN.out)
      obtain ⟨L', hL'⟩ : ∃ L', opL d L = L' := ⟨_, rfl⟩
      obtain ⟨hs, hhs⟩ : ∃ hs, holdersL L' d.id = hs := ⟨_, rfl⟩
      have HO := Lib.hid hL'
      have HH := Lib.hid hhs
      have hfew : hs.length ≤ maxLen := by rw [← hhs]; exact Nat.le_trans (holdersL_few L' d.id) (by unfold maxLen; omega)
      have HF := Lib.hid hfew
      clear hwX hL' hhs hfew
      go_region_held3 (fun w' => w'.cell? ⟨wr.heap.size, 0, none⟩ = some (.int .i64 d.kind) ∧ w'.cell? ⟨wr.heap.size, 1, none⟩ = some (.int .i64 d.peer) ∧ w'.cell? ⟨wr.heap.size, 2, none⟩ = some (.int .i64 d.n) ∧ w'.cell? ⟨wr.heap.size, 3, none⟩ = some (.int .u64 d.id.toNat) ∧ w'.cell? ⟨wr.heap.size, 4, none⟩ = some (.bool d.flag) ∧ w'.cell? ⟨wr.heap.size, 5, none⟩ = some (.slice d.ia d.il d.ic) ∧ w'.cell? ⟨wr.heap.size, 6, none⟩ = some (.int .i64 d.outs) ∧ w'.cell? ⟨wr.heap.size, 7, none⟩ = some (.int .i64 d.weight) ∧ w'.cell? ⟨wr.heap.size, 8, none⟩ = some (.int .i64 d.fee))
        (first | exact ⟨k0, k1, k2, k3, k4, k5, k6, k7, k8⟩ | assumption | exact kk.out)
        (first
          | (go_at_call 13; ((with_reducible refine (tracked_any _ _ R _ salt L d _ HD.out).mono ?_); rintro e w2 ⟨rfl, h2, s2⟩; rw [HO.out] at h2; have kk := Lib.hid (nine_same s2 (.inr rfl) HND.out); have H2 := Lib.hid h2; clear h2 s2))
          | (go_at_call 15; ((with_reducible refine (pairT_holders _ _ R _ salt L' L' _ H2.out d.id hs HH.out).mono ?_); rintro e w3 ⟨a3, cp3, rfl, i3, b3⟩; have kk := Lib.hid (nine_kept b3 kk.out); have H3 := Lib.hid (H2.out.kept b3); have I3 := Lib.hid i3; clear i3 b3))
          | (go_at_call 16; ((with_reducible refine (pairT_refholders _ _ R _ salt L' L' _ H3.out d.id hs HH.out).mono ?_); rintro e w4 ⟨a4, cp4, rfl, i4, b4⟩; have kk := Lib.hid (nine_kept b4 kk.out); have H4 := Lib.hid (H3.out.kept b4); have I34 := Lib.hid (intsAt_kept b4 I3.out); have I4 := Lib.hid i4; clear i4 b4))
          | (go_at_call 14; ((with_reducible refine (eqInt_is hs hs a3 a4 cp3 cp4 _ true HF.out I34.out I4.out (ints_self hs)).mono ?_); rintro e w5 ⟨rfl, rfl⟩)))
      go_split_ands
      obtain ⟨⟨n1, n2, n3⟩, hn⟩ : ∃ y, (if goodP d.peer then (((L'.filter fun e => e.peer == d.peer.toNat).length : Int), ((L'.filter fun e => e.peer == d.peer.toNat && e.st == 2).length : Int), (0 : Int)) else (0, 0, 1)) = y := ⟨_, rfl⟩
      have HC := Lib.hid hn
      have hz4 := (cell_spot kk.out.1).2
      clear hn
      go_wp2_with fail
      with_reducible refine (pairT_counts _ _ R _ salt L' L' _ H4.out d.peer n1 n2 n3 HC.out).mono ?_
      rintro e w6 ⟨rfl, b6⟩
      have H6 := Lib.hid (H4.out.kept b6)
      obtain ⟨_, k61, _⟩ := nine_kept b6 kk.out
      rw [Nat.zero_add] at k61
      have hz6 := (cell_spot k61).2
      clear b6
      go_wp2_with fail
      with_reducible refine (pairT_refcounts _ _ R _ salt L' L' _ H6.out d.peer n1 n2 n3 HC.out).mono ?_
      rintro e w7 ⟨rfl, b7⟩
      have H7 := Lib.hid ((H6.out.kept b7).less (Z' := fun _ => False) (fun _ h => h.elim))
      clear b7
      go_wp2_with fail
      go_roundw
      case rel => exact ⟨k + 1, L', by omega, by go_num, H7⟩
      case measure => simp [intOf]; omega
    · go_wp2_with fail
      with_reducible refine (pairT_last _ _ R _ salt L L _ HS.out).mono ?_
      rintro e w2 ⟨rfl, h2⟩
      have HB := Lib.hid h2
      clear h2
      go_wp2_with fail
      go_ret
      exact ⟨rfl, HB.out⟩
end Go.Proofs.Ytamiddnkgjfdhaa
