/-
  The reference's settle, Forget, Drop.
  The reference's Announce and Holders.
-/
import Derived.Test.YtamiddnkgjfdhaaRefT
import Derived.Deep.RegionLaw
import Derived.Laws.EntriesVeiled
namespace Go.Proofs.Ytamiddnkgjfdhaa
open Go.RowKit Go.Maps

variable {w w' : World} {G : Nat → Prop} {B : Nat} {salt : UInt64} {L : List TEnt} {v : Value}

theorem own_low {w : World} {B C : Nat} {e : TypeId} {size n : Nat} {v : Value} {xs : List Value} (h : w.ownsRow B e size v n xs) (hC : C ≤ B) : w.ownsRow C e size v n xs := ⟨h.1, h.2.imp id fun ⟨g, cap, cur, h1, h2, h3⟩ => ⟨g, cap, cur, h1, Nat.le_trans hC h2, h3⟩⟩
/-- The reference's tracker has turned into one with these entries. -/
def RefTurned (w w' : World) (G : Nat → Prop) (B : Nat) (salt : UInt64) (L : List TEnt) : Prop := ∃ G' v', RefTr w' G' B salt L v' ∧ Turn G G' w w'
theorem ref_settled (h : RefTr w G B salt L v) {w1 : World} {L' : List TEnt} {v' : Value} (hb : Below w.heap.size w w') (hc : CopyOf w' L' (.returned v') w1) : RefTurned w (w1.setCell ⟨B, 1, none⟩ v') G B salt L' := by
  obtain ⟨v2, h1, _, h2, h3, h4⟩ := hc
  obtain rfl : v' = v2 := by cases h1; rfl
  obtain ⟨h5, h6⟩ := h.stored (kept_trans hb h4) (own_low h2 hb.size) h3
  exact ⟨_, _, h5, h6⟩
theorem copy_form {l : List TEnt} {e : Ending} (h : CopyOf w l e w') : ∃ a cap, e = .returned (.slice a l.length cap) := by
  obtain ⟨v, rfl, ⟨a, cap, rfl⟩, _⟩ := h
  exact ⟨a, cap, rfl⟩
theorem copy_below {l : List TEnt} {e : Ending} (h : CopyOf w l e w') : Below w.heap.size w w' := by
  obtain ⟨v, _, _, _, _, h⟩ := h
  exact h
theorem shut_eq (L : List TEnt) : (L.filter fun e => !!openL L e.id) = settleL L := by
  unfold settleL
  exact List.filter_congr fun e _ => Bool.not_not _
theorem free_kept {a : Addr} {u : Value} (hb : Below w.heap.size w w') (hc : w.cell? a = some u) (hf : w.frozen? a = false) : w'.frozen? a = false := (hb.frozen (cell_spot hc).2).trans hf
theorem looks2_ents {B c1 c2 : Nat} {a : Option Addr} {cp : Nat} {L : List TEnt} {w : World} (h : Looks2 B c1 c2 a cp L w) : EntsAt w a L := h.2.2.2
theorem cell_put_other {w : World} {B c o o' : Nat} (h : c ≠ B) (v : Value) (u : Option Value) (hu : w.cell? ⟨c, o, none⟩ = u) : (w.setCell ⟨B, o', none⟩ v).cell? ⟨c, o, none⟩ = u := by rw [World.cell?_of_block (Below.heap_setCell w ⟨B, o', none⟩ v c h)]; exact hu
theorem refSettle_any (w : World) (h : RefTr w G B salt L v) (hl : L.length ≤ 160) :
    Calls Try.prog 57 #[.pointer (some ⟨B, 0, none⟩)] w fun e w' => e = .returned (.tuple #[]) ∧ RefTurned w w' G B salt (settleL L) := by
  obtain ⟨c1, f1⟩ := h.slicec
  have hlt := h.lt
  obtain ⟨a, cp, hv, hcp, hat, _⟩ := ownE_form h.row
  rw [hv] at c1
  have HA := Lib.hid hat
  have H := Lib.hid h
  clear h hat hv
  go_enter Try.func57, Try.ntmps57
  go_wp2_with fail
  obtain ⟨wX, hwX⟩ : ∃ x, x = (w.alloc (.cells #[.pointer (some ⟨B, 0, none⟩)] 26)).alloc (.cells #[.func (.func 75) #[] #[.pointer (some ⟨w.heap.size, 0, none⟩)]] 84) := ⟨_, rfl⟩
  have hbX : Below w.heap.size w wX := hwX ▸ kept_alloc (kept_new _ _) _
  have q0 : wX.cell? ⟨w.heap.size, 0, none⟩ = some (.pointer (some ⟨B, 0, none⟩)) := by rw [hwX]; simp [go_sem]
  have q1 : wX.cell? ⟨w.heap.size + 1, 0, none⟩ = some (.func (.func 75) #[] #[.pointer (some ⟨w.heap.size, 0, none⟩)]) := by rw [hwX]; simp [go_sem]
  have q2 := kept_cell hbX c1
  have q3 := free_kept hbX c1 f1
  have HL : Hid (Looks2 B w.heap.size (w.heap.size + 1) a cp L wX) := Lib.hid ⟨q1, q0, q2, entsAt_kept hbX HA.out⟩
  have hne : w.heap.size ≠ B := by omega
  rw [← hwX]
  clear hwX
  go_region_law (first
      | (go_simp; go_at_call 58; (with_reducible refine (without_any (Looks2 B w.heap.size (w.heap.size + 1) a cp L) looks2_kept _ _ _ (picks_shut B w.heap.size (w.heap.size + 1) a cp L hl) L a cp _ (looks2_kept _ _ HL.out ((Below.refl _ _).drew)) hl (looks2_ents (looks2_kept _ _ HL.out ((Below.refl _ _).drew)))).mono ?_); intro e w2 hc2; replace hc2 := hc2.as (shut_eq L); obtain ⟨a2, cp2, rfl⟩ := copy_form hc2; have hb2 := copy_below hc2; have q6 := kept_cell hb2 q0; have q4 := kept_cell hb2 q2; have q5 := free_kept hb2 q2 q3; have HC2 := Lib.hid hc2; clear hc2))
  all_goals
    go_end0
    exact ⟨rfl, ref_settled H.out (kept_trans hbX ((Below.refl _ _).drew)) HC2.out⟩

/-! ### Forget, Drop -/
theorem picks_idR (c : Nat) (x : UInt64) : Picks (CellIs c (.int .u64 x.toNat)) 59 #[.pointer (some ⟨c, 0, none⟩)] (fun e => e.id == x) := by
  refine ⟨fun _ _ => by kernel_rfl, fun e w hw => ?_⟩
  unfold entV
  have hc := cell_spot hw
  have hw : w.cell? ⟨c, 0, none⟩ = some (.int .u64 x.toNat) := hw
  have hlt : c < w.heap.size := hc.2
  clear hc
  have hq : ((e.id.toNat : Int) == (x.toNat : Int)) = (e.id == x) := u64_beq e.id x
  show Calls Try.prog 59 #[.agg #[.int .i64 e.peer, .int .u64 e.id.toNat, .bool e.pref, .int .i64 e.st, .int .i64 e.till], .pointer (some ⟨c, 0, none⟩)] w _
  go_enter Try.func59, Try.ntmps59
  go_wp2
  go_ret
  exact ⟨rfl, kept_new _ _⟩
theorem picks_peerR (c p : Nat) : Picks (CellIs c (.int .i64 p)) 60 #[.pointer (some ⟨c, 0, none⟩)] (fun e => e.peer == p) := by
  refine ⟨fun _ _ => by kernel_rfl, fun e w hw => ?_⟩
  unfold entV
  have hc := cell_spot hw
  have hw : w.cell? ⟨c, 0, none⟩ = some (.int .i64 p) := hw
  have hlt : c < w.heap.size := hc.2
  clear hc
  have hq := beq_nat e.peer p
  show Calls Try.prog 60 #[.agg #[.int .i64 e.peer, .int .u64 e.id.toNat, .bool e.pref, .int .i64 e.st, .int .i64 e.till], .pointer (some ⟨c, 0, none⟩)] w _
  go_enter Try.func60, Try.ntmps60
  go_wp2
  go_ret
  exact ⟨rfl, kept_new _ _⟩
theorem RefTurned.trans {w1 w2 : World} {L1 L2 : List TEnt} (h : RefTurned w w1 G B salt L1) (k : ∀ G' v', RefTr w1 G' B salt L1 v' → RefTurned w1 w2 G' B salt L2) : RefTurned w w2 G B salt L2 := by
  obtain ⟨G1, v1, h1, h2⟩ := h
  obtain ⟨G2, v2, h3, h4⟩ := k G1 v1 h1
  exact ⟨G2, v2, h3, h2.trans h4⟩
theorem refForget_any (x : UInt64) (w : World) (h : RefTr w G B salt L v) (hl : L.length ≤ 160) :
    Calls Try.prog 37 #[.pointer (some ⟨B, 0, none⟩), .int .u64 x.toNat] w fun e w' => e = .returned (.tuple #[]) ∧ RefTurned w w' G B salt (forgetL L x) := by
  obtain ⟨c1, f1⟩ := h.slicec
  have hlt := h.lt
  obtain ⟨a, cp, hv, hcp, hat, _⟩ := ownE_form h.row
  rw [hv] at c1
  have HA := Lib.hid hat
  have H := Lib.hid h
  clear h hat hv
  go_enter Try.func37, Try.ntmps37
  go_wp2_with fail
  with_reducible refine (without_any (CellIs w.heap.size (.int .u64 x.toNat)) (cellIs_kept _ _) _ _ _ (picks_idR w.heap.size x) L a cp _ (cellIs_new _ _ _) hl (entsAt_kept (kept_new _ _) HA.out)).mono ?_
  intro e w2 hc2
  obtain ⟨a2, cp2, rfl⟩ := copy_form hc2
  have hb2 := copy_below hc2
  have q4 := kept_cell (kept_trans (kept_new _ _) hb2) c1
  have q5 := free_kept (kept_trans (kept_new _ _) hb2) c1 f1
  have HC2 := Lib.hid hc2
  clear hc2
  go_wp2_with fail
  go_end0
  exact ⟨rfl, ref_settled H.out (kept_new _ _) HC2.out⟩
theorem refDrop_bad (p : Int) (hp : ¬ goodP p) (w : World) : Calls Try.prog 38 #[.pointer (some ⟨B, 0, none⟩), .int .i64 p] w fun e w' => e = .returned (.int .i64 1) ∧ Below w.heap.size w w' := by
  have HP := Lib.hid hp
  clear hp
  go_enter Try.func38, Try.ntmps38
  go_wp2_with fail
  with_reducible refine (badPeer_yes p HP.out _).mono ?_
  rintro e w1 ⟨rfl, rfl⟩
  go_wp2_with fail
  go_ret
  exact ⟨rfl, kept_new _ _⟩
theorem refDrop_any (p : Nat) (hp : p < 8) (w : World) (h : RefTr w G B salt L v) (hl : L.length ≤ 160) :
    Calls Try.prog 38 #[.pointer (some ⟨B, 0, none⟩), .int .i64 p] w fun e w' => e = .returned (.int .i64 0) ∧ RefTurned w w' G B salt (dropL L p) := by
  obtain ⟨c1, f1⟩ := h.slicec
  have hlt := h.lt
  obtain ⟨a, cp, hv, hcp, hat, _⟩ := ownE_form h.row
  rw [hv] at c1
  have HA := Lib.hid hat
  have H := Lib.hid h
  clear h hat hv
  go_enter Try.func38, Try.ntmps38
  go_wp2_with fail
  with_reducible refine (badPeer_no p hp _).mono ?_
  rintro e w1 ⟨rfl, rfl⟩
  go_wp2_with fail
  with_reducible refine (without_any (CellIs w.heap.size (.int .i64 p)) (cellIs_kept _ _) _ _ _ (picks_peerR w.heap.size p) L a cp _ (cellIs_new _ _ _) hl (entsAt_kept (kept_new _ _) HA.out)).mono ?_
  intro e w2 hc2
  obtain ⟨a2, cp2, rfl⟩ := copy_form hc2
  have hb2 := copy_below hc2
  have q4 := kept_cell (kept_trans (kept_new _ _) hb2) c1
  have q5 := free_kept (kept_trans (kept_new _ _) hb2) c1 f1
  have HC2 := Lib.hid hc2
  clear hc2
  go_wp2_with fail
  obtain ⟨G3, v3, h3, t3⟩ := ref_settled H.out (kept_new _ _) HC2.out
  have T3 := Lib.hid t3
  with_reducible refine (refSettle_any _ h3 (Nat.le_trans (List.length_filter_le _ _) hl)).mono ?_
  rintro e w4 ⟨rfl, h4⟩
  have H4 := Lib.hid h4
  clear h3 t3 h4
  go_wp2_with fail
  go_ret
  obtain ⟨G5, v5, h5, t5⟩ := H4.out
  exact ⟨rfl, G5, v5, h5, T3.out.trans t5⟩
end Go.Proofs.Ytamiddnkgjfdhaa

namespace Go.Proofs.Ytamiddnkgjfdhaa
open Go.RowKit Go.Maps

variable {w w' : World} {G : Nat → Prop} {B : Nat} {salt : UInt64} {L : List TEnt} {v : Value}

theorem firstAt_some {α : Type} {q : α → Bool} {l : List α} (h : l.any q = true) : ∃ k, k < l.length ∧ firstAt q l = (k : Int) ∧ ∃ hk : k < l.length, q l[k] = true := by
  unfold firstAt
  cases hf : l.findIdx? q with
  | none =>
    obtain ⟨x, hx, hq⟩ := List.any_eq_true.1 h
    rw [List.findIdx?_eq_none_iff.1 hf x hx] at hq
    cases hq
  | some k =>
    obtain ⟨hk, h1, _⟩ := List.findIdx?_eq_some_iff_getElem.1 hf
    exact ⟨k, hk, rfl, hk, h1⟩
theorem firstAt_none {α : Type} {q : α → Bool} {l : List α} (h : l.any q = false) : firstAt q l = -1 := by
  unfold firstAt
  rw [List.findIdx?_eq_none_iff.2 (fun x hx => by
    cases hq : q x with
    | false => rfl
    | true => rw [List.any_eq_true.2 ⟨x, hx, hq⟩] at h; cases h)]
theorem ref_still (h : RefTr w G B salt L v) (hb : Below w.heap.size w w') : RefTurned w w' G B salt L := ⟨G, v, h.kept hb, Turn.of_below hb⟩
theorem refAnn_bad (p t : Int) (hp : ¬ goodP p ∨ ¬ goodT t) (x : UInt64) (f : Bool) (w : World) : Calls Try.prog 32 #[.pointer (some ⟨B, 0, none⟩), .int .i64 p, .int .u64 x.toNat, .int .i64 t, .bool f] w fun e w' => e = .returned (.int .i64 1) ∧ w = w' := by
  by_cases h1 : goodP p
  · have HT : Hid (¬ goodT t) := Lib.hid (hp.resolve_left (fun h => h h1))
    obtain ⟨n, rfl, hn, _⟩ := peer_nat h1
    clear hp h1
    go_enter Try.func32, Try.ntmps32
    go_wp2_with fail
    with_reducible refine (badPeer_no n hn _).mono ?_
    rintro e w1 ⟨rfl, rfl⟩
    go_wp2_with fail
    with_reducible refine (badTime_yes t HT.out _).mono ?_
    rintro e w1 ⟨rfl, rfl⟩
    go_wp2_with fail
    go_ret
    exact ⟨rfl, rfl⟩
  · have HP := Lib.hid h1
    clear hp h1
    go_enter Try.func32, Try.ntmps32
    go_wp2_with fail
    with_reducible refine (badPeer_yes p HP.out _).mono ?_
    rintro e w1 ⟨rfl, rfl⟩
    go_wp2_with fail
    go_ret
    exact ⟨rfl, rfl⟩
set_option maxRecDepth 20000 in
theorem refAnn_any (p : Nat) (hp : p < 8) (x : UInt64) (t : Int) (ht : goodT t) (f : Bool) (w : World) (h : RefTr w G B salt L v) (hl : L.length ≤ 160) :
    Calls Try.prog 32 #[.pointer (some ⟨B, 0, none⟩), .int .i64 p, .int .u64 x.toNat, .int .i64 t, .bool f] w fun e w' => e = .returned (.int .i64 (annL L p x t f).1) ∧ RefTurned w w' G B salt (annL L p x t f).2 := by
  obtain ⟨c1, f1⟩ := h.slicec
  have hlt := h.lt
  obtain ⟨a, cp, hv, hcp, _, _⟩ := ownE_form h.row
  subst hv
  have HT := Lib.hid ht
  have H := Lib.hid h
  clear h ht
  cases hany : L.any (isE p x) with
  | true =>
    have HE : Hid (annL L p x t f = (6, L)) := Lib.hid (by unfold annL; rw [if_pos hany])
    obtain ⟨k, hk, hfk, _⟩ := firstAt_some hany
    have HF := Lib.hid hfk
    clear hany hfk
    go_enter Try.func32, Try.ntmps32
    go_wp2_with fail
    with_reducible refine (badPeer_no p hp _).mono ?_
    rintro e w1 ⟨rfl, rfl⟩
    go_wp2_with fail
    with_reducible refine (badTime_no t HT.out _).mono ?_
    rintro e w1 ⟨rfl, rfl⟩
    go_wp2_with fail
    with_reducible refine (at_any p x _ H.out hl).mono ?_
    rintro e w1 ⟨rfl, hb1⟩
    rw [HF.out]
    go_wp2_with fail
    go_ret
    rw [HE.out]
    exact ⟨rfl, ref_still H.out hb1⟩
  | false =>
    have HF := Lib.hid (firstAt_none hany)
    by_cases h20 : 20 ≤ (L.filter fun e => e.peer == p).length
    · have HE : Hid (annL L p x t f = (2, L)) := Lib.hid (by unfold annL; rw [if_neg (by rw [hany]; decide), if_pos h20])
      clear hany
      go_enter Try.func32, Try.ntmps32
      go_wp2_with fail
      with_reducible refine (badPeer_no p hp _).mono ?_
      rintro e w1 ⟨rfl, rfl⟩
      go_wp2_with fail
      with_reducible refine (badTime_no t HT.out _).mono ?_
      rintro e w1 ⟨rfl, rfl⟩
      go_wp2_with fail
      with_reducible refine (at_any p x _ H.out hl).mono ?_
      rintro e w1 ⟨rfl, hb1⟩
      rw [HF.out]
      go_wp2_with fail
      with_reducible refine (refCounts_any p hp _ (H.out.kept hb1) hl).mono ?_
      rintro e w2 ⟨rfl, hb2⟩
      go_wp2_with fail
      go_ret
      rw [HE.out]
      exact ⟨rfl, ref_still H.out (kept_trans hb1 hb2)⟩
    · have HE : Hid (annL L p x t f = (0, L ++ [⟨p, x, f, 0, t⟩])) := Lib.hid (by unfold annL; rw [if_neg (by rw [hany]; decide), if_neg h20])
      clear hany
      go_enter Try.func32, Try.ntmps32
      go_wp2_with fail
      with_reducible refine (badPeer_no p hp _).mono ?_
      rintro e w1 ⟨rfl, rfl⟩
      go_wp2_with fail
      with_reducible refine (badTime_no t HT.out _).mono ?_
      rintro e w1 ⟨rfl, rfl⟩
      go_wp2_with fail
      with_reducible refine (at_any p x _ H.out hl).mono ?_
      rintro e w1 ⟨rfl, hb1⟩
      rw [HF.out]
      go_wp2_with fail
      with_reducible refine (refCounts_any p hp _ (H.out.kept hb1) hl).mono ?_
      rintro e w2 ⟨rfl, hb2⟩
      have hb12 := kept_trans hb1 hb2
      have c2 := kept_cell hb12 c1
      have H2 := Lib.hid (H.out.kept hb12)
      have hlt2 := H2.out.lt
      clear hb1 hb2
      go_wp2_with fail
      with_reducible refine (copyR_any L _ _ hl H2.out.row H2.out.none).mono ?_
      intro e w3 hc3
      obtain ⟨a3, cp3, rfl⟩ := copy_form hc3
      have hb3 := copy_below hc3
      have c3 := kept_cell hb3 c2
      have f3 := free_kept (kept_trans hb12 hb3) c1 f1
      obtain ⟨v3, e3, _, ho3, _, _⟩ := hc3
      obtain rfl : Value.slice a3 L.length cp3 = v3 := by cases e3; rfl
      have HO3 := Lib.hid ho3
      have HB3 := Lib.hid hb3
      have HB12 := Lib.hid hb12
      have hlt3 := (cell_spot c3).2
      clear hb3 hb12 e3 ho3 c2 c1 f1
      go_wp2_with (at_builtin; refine append_entR rfl _ _ rfl ⟨p, x, f, 0, t⟩ rfl rfl HO3.out (by omega) HB3.out.size ?_; intro g4 cap4 w4 ho4 hg4; have hb4 := HB3.out.grown hg4 HB3.out.size (fun j hj => (HO3.out.lt j hj).1); have c4 := kept_cell hb4 H2.out.slicec.1; have f4 := free_kept hb4 H2.out.slicec.1 H2.out.slicec.2; have hlt4 := (cell_spot c4).2; have HO4 := Lib.hid ho4; have HB4 := Lib.hid hb4; clear ho4 hg4 hb4)
      go_ret
      rw [HE.out]
      obtain ⟨h5, t5⟩ := H2.out.stored HB4.out HO4.out (fun h => by simp at h)
      exact ⟨rfl, _, _, h5, (Turn.of_below HB12.out).trans t5⟩
/-- The peers below k that have an entry of an ID. -/
def holdersUp (L : List TEnt) (x : UInt64) (k : Nat) : List Int := ((List.range k).filter fun p => L.any (isE p x)).map fun p : Nat => (p : Int)
theorem holdersUp_step (L : List TEnt) (x : UInt64) (k : Nat) : holdersUp L x (k + 1) = holdersUp L x k ++ if L.any (isE k x) then [(k : Int)] else [] := by
  unfold holdersUp
  rw [List.range_succ, List.filter_append, List.map_append]
  congr 1
  cases h : L.any (isE k x) <;> simp [h]
theorem holdersUp_few (L : List TEnt) (x : UInt64) (k : Nat) : (holdersUp L x k).length ≤ k := by
  unfold holdersUp
  rw [List.length_map]
  exact Nat.le_trans (List.length_filter_le _ _) (by simp)
set_option maxRecDepth 20000 in
theorem refHolders_any (x : UInt64) (w : World) (h : RefTr w G B salt L v) (hl : L.length ≤ 160) :
    Calls Try.prog 16 #[.pointer (some ⟨B, 0, none⟩), .int .u64 x.toNat] w fun e w' => GaveInts w (holdersL L x) e w' ∧ Below w.heap.size w w' := by
  have H := Lib.hid h
  clear h
  go_enter Try.func16, Try.ntmps16
  go_wp2_with fail
  go_loopw [5, 7] (fun v i wr => ∃ k : Nat, k ≤ 8 ∧ i = .int .i64 k ∧ Hid (OwnInts wr w.heap.size v (holdersUp L x k)) ∧ Hid (Below w.heap.size w wr)) (fun _ i _ => 8 - (intOf i).toNat)
  case atStart => exact ⟨0, Nat.zero_le _, rfl, Lib.hid (ownInts_nil _ _), Lib.hid (Below.refl _ _)⟩
  case round =>
    obtain ⟨k, hk, rfl, HO, HB⟩ := hrel
    by_cases hkl : k < 8
    · have hki : (k : Int) < 8 := by omega
      have hfew := holdersUp_few L x k
      have HST := Lib.hid (holdersUp_step L x k)
      go_wp2_with fail
      with_reducible refine (at_any k x _ (H.out.kept HB.out) hl).mono ?_
      rintro e w2 ⟨rfl, hb2⟩
      have HO2 := Lib.hid (owns_below HO.out hb2)
      have HB2 := Lib.hid (kept_trans HB.out hb2)
      clear hb2
      cases hany : L.any (isE k x) with
      | true =>
        obtain ⟨i, hi, hfi, _⟩ := firstAt_some hany
        rw [hfi]
        rw [hany] at HST
        have hge : (i : Int) ≥ 0 := by omega
        clear hfi hany
        go_wp2_with (at_builtin; refine append_int rfl _ _ rfl k rfl rfl HO2.out (by omega) HB2.out.size ?_; intro g4 cap4 w4 ho4 hg4 hg4' hat4)
        have HO4 := Lib.hid ho4
        have HB4 := Lib.hid (HB2.out.grown hg4' HB2.out.size (fun j hj => (ownInts_block HO2.out j hj).1))
        clear ho4 hg4 hg4' hat4
        go_wp2_with fail
        go_roundw
        case rel => exact ⟨k + 1, by omega, by go_num, Lib.hid (by rw [HST.out]; exact HO4.out), HB4⟩
        case measure => simp [intOf]; omega
      | false =>
        rw [firstAt_none hany]
        rw [hany] at HST
        clear hany
        go_wp2_with fail
        go_roundw
        case rel => exact ⟨k + 1, by omega, by go_num, Lib.hid (by rw [HST.out]; simp only [Bool.false_eq_true, if_false, List.append_nil]; exact HO2.out), HB2⟩
        case measure => simp [intOf]; omega
    · have hk8 : k = 8 := by omega
      have hki : ¬ (k : Int) < 8 := by omega
      have HO' := HO.out
      obtain ⟨a6, cap6, e6, h1, h2, h3⟩ := ownInts_at HO'
      subst e6
      have HE : Hid (GaveInts w (holdersL L x) (.returned (.slice a6 (holdersUp L x k).length cap6)) wr) := Lib.hid (by
        subst hk8
        exact ⟨a6, cap6, rfl, h1, h2, h3⟩)
      clear HO' h1 h2 h3 hk8
      go_wp2_with fail
      go_ret
      exact ⟨HE.out, HB.out⟩
end Go.Proofs.Ytamiddnkgjfdhaa
