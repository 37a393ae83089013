/-
  The reference's settle, Forget, Drop.
-/
import Derived.Test.YtamiddnkgjfdhaaRefT2
import Derived.Deep.RegionLaw
import Derived.Laws.EntriesVeiled
namespace Go.Proofs.Ytamiddnkgjfdhaa
open Go.RowKit Go.Maps

variable {w w' : World} {G : Nat → Prop} {B : Nat} {salt : UInt64} {L : List TEnt} {v : Value}

theorem own_low {w : World} {B C : Nat} {e : TypeId} {size n : Nat} {v : Value} {xs : List Value} (h : w.ownsRow B e size v n xs) (hC : C ≤ B) : w.ownsRow C e size v n xs := ⟨h.1, h.2.imp id fun ⟨g, cap, cur, h1, h2, h3⟩ => ⟨g, cap, cur, h1, Nat.le_trans hC h2, h3⟩⟩
/-- The reference's tracker has turned into one with these entries. -/
def RefTurned (w w' : World) (G : Nat → Prop) (B : Nat) (salt : UInt64) (L : List TEnt) : Prop := ∃ G' v', RefTr w' G' B salt L v' ∧ Turn G G' w w'
theorem ref_settled (h : RefTr w G B salt L v) {w1 : World} {L' : List TEnt} {v' : Value} (hb : Below w.heap.size w w') (hc : CopyOf w' L' (.returned v') w1) : RefTurned w (w1.setCell ⟨B, 1, none⟩ v') G B salt L' := by
  obtain ⟨v2, h1, _, h2, h3, h4⟩ := hc
  obtain rfl : v' = v2 := by cases h1; rfl
  obtain ⟨h5, h6⟩ := h.stored (kept_trans hb h4) (own_low h2 hb.size) h3
  exact ⟨_, _, h5, h6⟩
theorem copy_form {l : List TEnt} {e : Ending} (h : CopyOf w l e w') : ∃ a cap, e = .returned (.slice a l.length cap) := by
  obtain ⟨v, rfl, ⟨a, cap, rfl⟩, _⟩ := h
  exact ⟨a, cap, rfl⟩
theorem copy_below {l : List TEnt} {e : Ending} (h : CopyOf w l e w') : Below w.heap.size w w' := by
  obtain ⟨v, _, _, _, _, h⟩ := h
  exact h
theorem shut_eq (L : List TEnt) : (L.filter fun e => !!openL L e.id) = settleL L := by
  unfold settleL
  exact List.filter_congr fun e _ => Bool.not_not _
theorem free_kept {a : Addr} {u : Value} (hb : Below w.heap.size w w') (hc : w.cell? a = some u) (hf : w.frozen? a = false) : w'.frozen? a = false := (hb.frozen (cell_spot hc).2).trans hf
theorem looks2_ents {B c1 c2 : Nat} {a : Option Addr} {cp : Nat} {L : List TEnt} {w : World} (h : Looks2 B c1 c2 a cp L w) : EntsAt w a L := h.2.2.2
theorem cell_put_other {w : World} {B c o o' : Nat} (h : c ≠ B) (v : Value) (u : Option Value) (hu : w.cell? ⟨c, o, none⟩ = u) : (w.setCell ⟨B, o', none⟩ v).cell? ⟨c, o, none⟩ = u := by rw [World.cell?_of_block (Below.heap_setCell w ⟨B, o', none⟩ v c h)]; exact hu
theorem refSettle_any (w : World) (h : RefTr w G B salt L v) (hl : L.length ≤ 160) :
    Calls Try.prog 57 #[.pointer (some ⟨B, 0, none⟩)] w fun e w' => e = .returned (.tuple #[]) ∧ RefTurned w w' G B salt (settleL L) := by
  obtain ⟨c1, f1⟩ := h.slicec
  have hlt := h.lt
  obtain ⟨a, cp, hv, hcp, hat, _⟩ := ownE_form h.row
  rw [hv] at c1
  have HA := Lib.hid hat
  have H := Lib.hid h
  clear h hat hv
  go_enter Try.func57, Try.ntmps57
  go_wp2_with fail
  obtain ⟨wX, hwX⟩ : ∃ x, x = (w.alloc (.cells #[.pointer (some ⟨B, 0, none⟩)] 26)).alloc (.cells #[.func (.func 75) #[] #[.pointer (some ⟨w.heap.size, 0, none⟩)]] 84) := ⟨_, rfl⟩
  have hbX : Below w.heap.size w wX := hwX ▸ kept_alloc (kept_new _ _) _
  have q0 : wX.cell? ⟨w.heap.size, 0, none⟩ = some (.pointer (some ⟨B, 0, none⟩)) := by rw [hwX]; simp [go_sem]
  have q1 : wX.cell? ⟨w.heap.size + 1, 0, none⟩ = some (.func (.func 75) #[] #[.pointer (some ⟨w.heap.size, 0, none⟩)]) := by rw [hwX]; simp [go_sem]
  have q2 := kept_cell hbX c1
  have q3 := free_kept hbX c1 f1
  have HL : Hid (Looks2 B w.heap.size (w.heap.size + 1) a cp L wX) := Lib.hid ⟨q1, q0, q2, entsAt_kept hbX HA.out⟩
  have hne : w.heap.size ≠ B := by omega
  rw [← hwX]
  clear hwX
  go_region_law (first
      | (go_simp; go_at_call 58; (with_reducible refine (without_any (Looks2 B w.heap.size (w.heap.size + 1) a cp L) looks2_kept _ _ _ (picks_shut B w.heap.size (w.heap.size + 1) a cp L hl) L a cp _ (looks2_kept _ _ HL.out ((Below.refl _ _).drew)) hl (looks2_ents (looks2_kept _ _ HL.out ((Below.refl _ _).drew)))).mono ?_); intro e w2 hc2; replace hc2 := hc2.as (shut_eq L); obtain ⟨a2, cp2, rfl⟩ := copy_form hc2; have hb2 := copy_below hc2; have q6 := kept_cell hb2 q0; have q4 := kept_cell hb2 q2; have q5 := free_kept hb2 q2 q3; have HC2 := Lib.hid hc2; clear hc2))
  all_goals
    go_end0
    exact ⟨rfl, ref_settled H.out (kept_trans hbX ((Below.refl _ _).drew)) HC2.out⟩

/-! ### Forget, Drop -/
theorem picks_idR (c : Nat) (x : UInt64) : Picks (CellIs c (.int .u64 x.toNat)) 59 #[.pointer (some ⟨c, 0, none⟩)] (fun e => e.id == x) := by
  refine ⟨fun _ _ => by kernel_rfl, fun e w hw => ?_⟩
  unfold entV
  have hc := cell_spot hw
  have hw : w.cell? ⟨c, 0, none⟩ = some (.int .u64 x.toNat) := hw
  have hlt : c < w.heap.size := hc.2
  clear hc
  have hq : ((e.id.toNat : Int) == (x.toNat : Int)) = (e.id == x) := u64_beq e.id x
  show Calls Try.prog 59 #[.agg #[.int .i64 e.peer, .int .u64 e.id.toNat, .bool e.pref, .int .i64 e.st, .int .i64 e.till], .pointer (some ⟨c, 0, none⟩)] w _
  go_enter Try.func59, Try.ntmps59
  go_wp2
  go_ret
  exact ⟨rfl, kept_new _ _⟩
theorem picks_peerR (c p : Nat) : Picks (CellIs c (.int .i64 p)) 60 #[.pointer (some ⟨c, 0, none⟩)] (fun e => e.peer == p) := by
  refine ⟨fun _ _ => by kernel_rfl, fun e w hw => ?_⟩
  unfold entV
  have hc := cell_spot hw
  have hw : w.cell? ⟨c, 0, none⟩ = some (.int .i64 p) := hw
  have hlt : c < w.heap.size := hc.2
  clear hc
  have hq := beq_nat e.peer p
  show Calls Try.prog 60 #[.agg #[.int .i64 e.peer, .int .u64 e.id.toNat, .bool e.pref, .int .i64 e.st, .int .i64 e.till], .pointer (some ⟨c, 0, none⟩)] w _
  go_enter Try.func60, Try.ntmps60
  go_wp2
  go_ret
  exact ⟨rfl, kept_new _ _⟩
theorem RefTurned.trans {w1 w2 : World} {L1 L2 : List TEnt} (h : RefTurned w w1 G B salt L1) (k : ∀ G' v', RefTr w1 G' B salt L1 v' → RefTurned w1 w2 G' B salt L2) : RefTurned w w2 G B salt L2 := by
  obtain ⟨G1, v1, h1, h2⟩ := h
  obtain ⟨G2, v2, h3, h4⟩ := k G1 v1 h1
  exact ⟨G2, v2, h3, h2.trans h4⟩
theorem refForget_any (x : UInt64) (w : World) (h : RefTr w G B salt L v) (hl : L.length ≤ 160) :
    Calls Try.prog 37 #[.pointer (some ⟨B, 0, none⟩), .int .u64 x.toNat] w fun e w' => e = .returned (.tuple #[]) ∧ RefTurned w w' G B salt (forgetL L x) := by
  obtain ⟨c1, f1⟩ := h.slicec
  have hlt := h.lt
  obtain ⟨a, cp, hv, hcp, hat, _⟩ := ownE_form h.row
  rw [hv] at c1
  have HA := Lib.hid hat
  have H := Lib.hid h
  clear h hat hv
  go_enter Try.func37, Try.ntmps37
  go_wp2_with fail
  with_reducible refine (without_any (CellIs w.heap.size (.int .u64 x.toNat)) (cellIs_kept _ _) _ _ _ (picks_idR w.heap.size x) L a cp _ (cellIs_new _ _ _) hl (entsAt_kept (kept_new _ _) HA.out)).mono ?_
  intro e w2 hc2
  obtain ⟨a2, cp2, rfl⟩ := copy_form hc2
  have hb2 := copy_below hc2
  have q4 := kept_cell (kept_trans (kept_new _ _) hb2) c1
  have q5 := free_kept (kept_trans (kept_new _ _) hb2) c1 f1
  have HC2 := Lib.hid hc2
  clear hc2
  go_wp2_with fail
  go_end0
  exact ⟨rfl, ref_settled H.out (kept_new _ _) HC2.out⟩
theorem refDrop_bad (p : Int) (hp : ¬ goodP p) (w : World) : Calls Try.prog 38 #[.pointer (some ⟨B, 0, none⟩), .int .i64 p] w fun e w' => e = .returned (.int .i64 1) ∧ Below w.heap.size w w' := by
  have HP := Lib.hid hp
  clear hp
  go_enter Try.func38, Try.ntmps38
  go_wp2_with fail
  with_reducible refine (badPeer_yes p HP.out _).mono ?_
  rintro e w1 ⟨rfl, rfl⟩
  go_wp2_with fail
  go_ret
  exact ⟨rfl, kept_new _ _⟩
theorem refDrop_any (p : Nat) (hp : p < 8) (w : World) (h : RefTr w G B salt L v) (hl : L.length ≤ 160) :
    Calls Try.prog 38 #[.pointer (some ⟨B, 0, none⟩), .int .i64 p] w fun e w' => e = .returned (.int .i64 0) ∧ RefTurned w w' G B salt (dropL L p) := by
  obtain ⟨c1, f1⟩ := h.slicec
  have hlt := h.lt
  obtain ⟨a, cp, hv, hcp, hat, _⟩ := ownE_form h.row
  rw [hv] at c1
  have HA := Lib.hid hat
  have H := Lib.hid h
  clear h hat hv
  go_enter Try.func38, Try.ntmps38
  go_wp2_with fail
  with_reducible refine (badPeer_no p hp _).mono ?_
  rintro e w1 ⟨rfl, rfl⟩
  go_wp2_with fail
  with_reducible refine (without_any (CellIs w.heap.size (.int .i64 p)) (cellIs_kept _ _) _ _ _ (picks_peerR w.heap.size p) L a cp _ (cellIs_new _ _ _) hl (entsAt_kept (kept_new _ _) HA.out)).mono ?_
  intro e w2 hc2
  obtain ⟨a2, cp2, rfl⟩ := copy_form hc2
  have hb2 := copy_below hc2
  have q4 := kept_cell (kept_trans (kept_new _ _) hb2) c1
  have q5 := free_kept (kept_trans (kept_new _ _) hb2) c1 f1
  have HC2 := Lib.hid hc2
  clear hc2
  go_wp2_with fail
  obtain ⟨G3, v3, h3, t3⟩ := ref_settled H.out (kept_new _ _) HC2.out
  have T3 := Lib.hid t3
  with_reducible refine (refSettle_any _ h3 (Nat.le_trans (List.length_filter_le _ _) hl)).mono ?_
  rintro e w4 ⟨rfl, h4⟩
  have H4 := Lib.hid h4
  clear h3 t3 h4
  go_wp2_with fail
  go_ret
  obtain ⟨G5, v5, h5, t5⟩ := H4.out
  exact ⟨rfl, G5, v5, h5, T3.out.trans t5⟩
end Go.Proofs.Ytamiddnkgjfdhaa
