/-
  A ledger that a law made: the contracts of all calls, as a law's walk uses them; the laws' closed fact.
-/
import Derived.Test.YtaaaplbjeknbkaaGreatSJW6
import Derived.Test.YtaaaplbjeknbkaaGreatJ5
set_option maxRecDepth 20000
namespace Go.Proofs.YtaaaplbjeknbkaaGreat.So.Ju
open Go.Proofs.YtaaaplbjeknbkaaGreat.Ju
open Go.RowKit Go.Maps

/-- Since world w0 a ledger was made in block R; it has the deeds L, and owns the blocks F. -/
structure HeldJ (w0 w : World) (F : Nat → Prop) (R : Nat) (L : List DeedD) : Prop where
  below : Below w0.heap.size w0 w
  above : ∀ k, F k → w0.heap.size ≤ k
  led : LedL w F R L
  good : GoodJ L

variable {w0 w w' : World} {F : Nat → Prop} {R : Nat} {L : List DeedD}

theorem HeldJ.kept (h : HeldJ w0 w F R L) (hb : Below w.heap.size w w') : HeldJ w0 w' F R L := ⟨kept_trans h.below hb, h.above, h.led.kept hb, h.good⟩
theorem HeldJ.turned (h : HeldJ w0 w F R L) {F' : Nat → Prop} {L' : List DeedD} (hl : LedL w' F' R L') (hg : GoodJ L') (ht : Turn F F' w w') : HeldJ w0 w' F' R L' :=
  ⟨h.below.trans (ht.below h.above h.below.size), ht.above h.above h.below.size, hl, hg⟩
/-- Another thing turned. -/
theorem HeldJ.beside (h : HeldJ w0 w F R L) {G G' : Nat → Prop} (ht : Turn G G' w w') (ha : Apart F G) (hG : ∀ k, G k → w0.heap.size ≤ k) : HeldJ w0 w' F R L :=
  ⟨h.below.trans (ht.below hG h.below.size), h.above, h.led.turn ht ha, h.good⟩
theorem hj_new (w0 w : World) (hb : Below w0.heap.size w0 w) : Calls Tryz.prog 54 #[] w fun e w' => ∃ R F, e = .returned (.pointer (some ⟨R, 0, none⟩)) ∧ HeldJ w0 w' F R [] ∧ (∀ k, F k → w.heap.size ≤ k) ∧ Below w.heap.size w w' :=
  (newJ_any w).mono fun _ _ ⟨R, F, h1, h2, h3, h4⟩ => ⟨R, F, h1, ⟨kept_trans hb h4, fun k hk => Nat.le_trans hb.size (h2 k hk), h3, ⟨fun d hd => by simp at hd, by simp⟩⟩, h2, h4⟩
/-- Accept of a deed whose Ins lie where the ledger does not. -/
theorem hj_acceptG (w0 : World) (F : Nat → Prop) (R : Nat) (L : List DeedD) (w : World) (h : HeldJ w0 w F R L) (hl : L.length ≤ 5000000000000) (d : DeedD) (a : Option Addr) (cap : Nat) (hi : InsAt w a d.ins) (hout : ∀ bb o, d.ins ≠ [] → a = some ⟨bb, o, none⟩ → ¬ F bb) (r : Int) (L' : List DeedD) (hr : acceptL L d = (r, L')) :
    Calls Tryz.prog 68 #[.pointer (some ⟨R, 0, none⟩), .agg #[.slice a d.ins.length cap, .int .i64 d.outs, .int .i64 d.weight, .int .i64 d.fee]] w fun e w' => e = .returned (.int .i64 r) ∧ ∃ F', HeldJ w0 w' F' R L' ∧ Turn F F' w w' :=
  (acceptL_any d a cap hl w h.led hi hout r L' hr).mono fun e w' ⟨h1, F', h2, h3⟩ => ⟨h1, F', h.turned h2 (by have := acceptL_good h.good d; rw [hr] at this; exact this) h3, h3⟩
theorem low_out {F : Nat → Prop} {a : Option Addr} {l : List InD} (hi : InsAt w0 a l) (hF : ∀ k, F k → w0.heap.size ≤ k) : ∀ bb o, l ≠ [] → a = some ⟨bb, o, none⟩ → ¬ F bb := fun bb o hne e hf => by
  obtain ⟨b', o', e', hb', _⟩ := hi 0 (List.length_pos_iff.2 hne)
  rw [e] at e'
  cases e'
  have := hF bb hf
  omega
/-- Accept of a deed that was there ahead of the ledger. -/
theorem hj_accept (w0 : World) (F : Nat → Prop) (R : Nat) (L : List DeedD) (w : World) (h : HeldJ w0 w F R L) (hl : L.length ≤ 5000000000000) (d : DeedD) (a : Option Addr) (cap : Nat) (hi : InsAt w0 a d.ins) (r : Int) (L' : List DeedD) (hr : acceptL L d = (r, L')) :
    Calls Tryz.prog 68 #[.pointer (some ⟨R, 0, none⟩), .agg #[.slice a d.ins.length cap, .int .i64 d.outs, .int .i64 d.weight, .int .i64 d.fee]] w fun e w' => e = .returned (.int .i64 r) ∧ ∃ F', HeldJ w0 w' F' R L' ∧ Turn F F' w w' :=
  hj_acceptG w0 F R L w h hl d a cap (insAt_kept h.below hi) (low_out hi h.above) r L' hr
theorem hj_judge (w0 : World) (F : Nat → Prop) (R : Nat) (L : List DeedD) (w : World) (h : HeldJ w0 w F R L) (d : DeedD) (a : Option Addr) (cap : Nat) (hi : InsAt w a d.ins) (k : Int) (m : List UInt64) (r : Int) (hr : judgeL L d = (k, m, r)) :
    Calls Tryz.prog 69 #[.pointer (some ⟨R, 0, none⟩), .agg #[.slice a d.ins.length cap, .int .i64 d.outs, .int .i64 d.weight, .int .i64 d.fee]] w (GaveJ w (k, m, r)) := hr ▸ judgeL_any d a cap w h.led hi
theorem hj_has (w0 : World) (F : Nat → Prop) (R : Nat) (L : List DeedD) (w : World) (h : HeldJ w0 w F R L) (x : UInt64) (r : Bool) (hr : (findL L x).isSome = r) :
    Calls Tryz.prog 107 #[.pointer (some ⟨R, 0, none⟩), .int .u64 x.toNat] w fun e w' => e = .returned (.bool r) ∧ Below w.heap.size w w' := hasL_any x w h.led r hr
theorem hj_all (w0 : World) (F : Nat → Prop) (R : Nat) (L : List DeedD) (w : World) (h : HeldJ w0 w F R L) (hl : L.length ≤ 10000000000000) : Calls Tryz.prog 64 #[.pointer (some ⟨R, 0, none⟩)] w (GaveIds w (L.map idD)) := allL_any w h.led hl
/-- What a list of deeds makes of a ledger. -/
def runJ (l : List DeedH) : List DeedD := acceptAll (l.map fun q => q.d)
theorem runJ_step {l : List DeedH} {k : Nat} (h : k < l.length) : runJ (l.take (k + 1)) = (acceptL (runJ (l.take k)) l[k].d).2 := by
  unfold runJ
  rw [List.map_take, acceptAll_step (by simpa using h), List.map_take]
  simp
theorem runJ_len (l : List DeedH) (k : Nat) : (runJ (l.take k)).length ≤ l.length := by
  have := (acceptAll_facts ((l.take k).map fun q => q.d)).2
  rw [List.length_map, List.length_take] at this
  unfold runJ
  omega
theorem deedsJ_at {a : Option Addr} {l : List DeedH} (h : DeedsAt w0 a l) (hb : Below w0.heap.size w0 w) (k : Nat) (hk : k < l.length) : ∃ b o, a = some ⟨b, o, none⟩ ∧ b < w.heap.size ∧ DeedHCells w b (o + k * 4) l[k] := by
  obtain ⟨⟨b, o, e, hlt, hc⟩, _⟩ := h k hk
  exact ⟨b, o, e, Nat.lt_of_lt_of_le hlt hb.size, deedH_kept hb hc⟩
theorem deedsAt_kept {a : Option Addr} {l : List DeedH} (h : DeedsAt w0 a l) (hb : Below w0.heap.size w0 w) : DeedsAt w a l := fun i hi => ⟨deedsJ_at h hb i hi, insAt_kept hb (h i hi).2.1, (h i hi).2.2⟩

/-- The deeds of the closed fact. -/
def dS (fee : Int) : DeedD := ⟨[], 1, 10, fee⟩
def d7 : DeedD := ⟨[(7, 0)], 1, 1, 0⟩
theorem acc1 : acceptL [] (dS 1) = (0, [dS 1]) := by
  unfold acceptL
  rw [if_neg (by decide), if_neg (by decide +kernel), if_neg (by decide)]
  rfl
theorem judge7 : judgeL [dS 1] d7 = (2, [7], 0) := by decide +kernel
theorem insAt_new1 (w : World) (x : UInt64) : InsAt (w.alloc (.cells #[.int .u64 x.toNat, .int .i64 0] 62)) (some ⟨w.heap.size, 0, none⟩) [(x, 0)] := fun i hi => by
  have hi : i < 1 := hi
  obtain rfl : i = 0 := by omega
  exact ⟨w.heap.size, 0, rfl, by simp, by simp [go_sem], by simp [go_sem], rfl⟩
set_option maxRecDepth 20000 in
theorem judged_any (w : World) : Calls Tryz.prog 28 #[] w fun e w' => e = .returned (.bool true) ∧ Below w.heap.size w w' := by
  go_enter Tryz.func28, Tryz.ntmps28
  go_wp2_with fail
  with_reducible refine (hj_new w w (Below.refl _ _)).mono ?_
  rintro e w1 ⟨R, F, rfl, h1, _, _⟩
  have H1 := Lib.hid h1
  clear h1
  go_wp2_with fail
  with_reducible refine (simple_any 1 _).mono ?_
  rintro e w2 ⟨rfl, hb2⟩
  have H2 := Lib.hid (H1.out.kept hb2)
  clear hb2
  go_wp2_with fail
  refine (hj_acceptG w F R [] _ H2.out (by simp) (dS 1) none 0 (fun i hi => absurd hi (by simp [dS])) (fun bb o hne => absurd rfl hne) _ _ acc1).mono ?_
  rintro e w3 ⟨rfl, F3, h3, _⟩
  have H3 := Lib.hid h3
  have HI3 := Lib.hid (insAt_new1 w3 7)
  have H4 := Lib.hid (h3.kept (kept_new w3 (.cells #[.int .u64 7, .int .i64 0] 62)))
  clear h3
  go_wp2_with fail
  refine (hj_judge w F3 R [dS 1] _ H4.out d7 (some ⟨w3.heap.size, 0, none⟩) 1 HI3.out _ _ _ judge7).mono ?_
  rintro e w5 ⟨a5, c5, rfl, ho5, hb5⟩
  obtain ⟨a6, c6, e6, _, hids, _⟩ := owns_idsAt ho5
  have hk6 := kept_new w5 (.cells #[.int .u64 7] 22)
  have HI5 : Hid (IdsAt (w5.alloc (.cells #[.int .u64 7] 22)) a5 [7]) := Lib.hid (by
    simp only [Value.slice.injEq] at e6
    rw [e6.1]
    exact idsAt_kept hk6 hids)
  have HI6 : Hid (IdsAt (w5.alloc (.cells #[.int .u64 7] 22)) (some ⟨w5.heap.size, 0, none⟩) [7]) := Lib.hid (fun i hi => by
    have hi : i < 1 := hi
    obtain rfl : i = 0 := by omega
    exact ⟨w5.heap.size, 0, rfl, by simp, by simp [go_sem]⟩)
  have H6 := Lib.hid (H4.out.kept (kept_trans hb5 hk6))
  clear ho5 hb5 e6 hids hk6
  simp only [List.length_cons, List.length_nil]
  go_wp2_with fail
  refine (eqID_is [7] [7] _ _ _ _ _ true (by decide) HI5.out HI6.out rfl).mono ?_
  rintro e w7 ⟨rfl, rfl⟩
  go_wp2_with fail
  refine (hj_all w F3 R [dS 1] _ H6.out (by simp)).mono ?_
  rintro e w8 ⟨a8, c8, rfl, _, hb8⟩
  simp only [List.map_cons, List.map_nil, List.length_cons, List.length_nil]
  go_wp2_with fail
  go_ret
  exact ⟨rfl, kept_trans H6.out.below hb8⟩
end Go.Proofs.YtaaaplbjeknbkaaGreat.So.Ju
