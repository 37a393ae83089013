/-
  The contract of Children; an addition's first steps.
-/
import Derived.Test.YtaaaplbjeknbkaaGreatSHomeW9
set_option maxRecDepth 20000
namespace Go.Proofs.YtaaaplbjeknbkaaGreat.So.Ho
open Go.Proofs.YtaaaplbjeknbkaaGreat.Ho
open Go.RowKit Go.Maps

variable {w w' : World} {F : Nat → Prop} {R : Nat} {it : Option It} {ls : List LD} {M : UInt64 → Option DeedD} {b : Nat} {ev : UInt64 → Option Value} {v : Value}

/-- What the function that chooses children looks at. -/
def ChildK (F : Nat → Prop) (R : Nat) (ls : List LD) (M : UInt64 → Option DeedD) (b : Nat) (ev : UInt64 → Option Value) (v : Value) (c : Nat) (x : UInt64) (w : World) : Prop := HomeAt w F R none ls M b ev v ∧ CellIs c (.pointer (some ⟨R, 0, none⟩)) w ∧ CellIs (c + 1) (.int .u64 x.toNat) w
theorem childK_kept {c : Nat} {x : UInt64} (w w' : World) (h : ChildK F R ls M b ev v c x w) (hb : Below w.heap.size w w') : ChildK F R ls M b ev v c x w' := ⟨h.1.kept hb, cellIs_kept _ _ _ _ h.2.1 hb, cellIs_kept _ _ _ _ h.2.2 hb⟩
theorem childK_set {c : Nat} {x : UInt64} {g : Nat} (hg : ¬ F g) (hc : c + 1 < g) (w : World) (j : Nat) (u : Value) (h : ChildK F R ls M b ev v c x w) : ChildK F R ls M b ev v c x (w.setCell ⟨g, j, none⟩ u) :=
  ⟨h.1.turn (G := fun k => k = g) (Turn.set w ⟨g, j, none⟩ u rfl) (fun k hk e => hg (by rw [← e]; exact hk)) (fun i hi => by cases hi), cellIs_set _ (by omega) _ _ _ h.2.1, cellIs_set _ (by omega) _ _ _ h.2.2⟩
set_option maxRecDepth 20000 in
theorem picks_child (c : Nat) (x : UInt64) : PicksI (ChildK F R ls M b ev v c x) 105 #[.pointer (some ⟨c, 0, none⟩), .pointer (some ⟨c + 1, 0, none⟩)] (fun y => !spendsD ((M y).getD nod) x) := by
  refine ⟨fun _ _ => by kernel_rfl, fun y w hw => ?_⟩
  obtain ⟨h, hc, hx⟩ := hw
  obtain ⟨wd, hwd⟩ : ∃ wd, w.drew = wd := ⟨_, rfl⟩
  have hbd : Below w.heap.size w wd := hwd ▸ (Below.refl _ _).drew
  have HD := h.kept hbd
  have hc : wd.cell? ⟨c, 0, none⟩ = some (.pointer (some ⟨R, 0, none⟩)) := kept_cell hbd hc
  have hx : wd.cell? ⟨c + 1, 0, none⟩ = some (.int .u64 x.toNat) := kept_cell hbd hx
  have hs0 := (cell_spot hc).2
  have hs1 := (cell_spot hx).2
  have hmc := HD.mapc
  have hlt := HD.lt
  have hlk := HD.look y
  obtain ⟨a, cp, hv, hl8, _, hi⟩ := HD.deed y
  rw [hv] at hlk
  unfold deedV at hlk
  have HI := Lib.hid hi
  have HB := Lib.hid hbd
  have HWD := Lib.hid hwd
  obtain ⟨d, hd⟩ : ∃ d, (M y).getD nod = d := ⟨_, rfl⟩
  show Calls Tryz.prog 105 #[.int .u64 y.toNat, .pointer (some ⟨c, 0, none⟩), .pointer (some ⟨c + 1, 0, none⟩)] w fun e w' => e = .returned (.bool (!spendsD ((M y).getD nod) x)) ∧ Below w.heap.size w w'
  rw [hd] at hlk hl8 HI ⊢
  clear h hv hi hbd hwd HD hd
  go_enter Tryz.func105, Tryz.ntmps105
  go_wp2_with fail
  refine region_tail 7 (by kernel_rfl) (by kernel_rfl) HWD.out ?_
  simp only [List.take_succ_cons, List.take_zero, List.drop_succ_cons, List.drop_zero]
  repeat still_step
  refine wpStill_nil ?_
  go_wp2_with fail
  with_reducible refine (spends_any d x a cp _ (by omega) HI.out).mono ?_
  rintro e w1 ⟨rfl, hb1⟩
  go_wp2_with fail
  go_ret
  exact ⟨rfl, kept_trans HB.out hb1⟩
set_option maxRecDepth 20000 in
theorem children_any (x : UInt64) (w : World) (h : HomeAt w F R none ls M b ev v) (hl : ls.length ≤ 1000) :
    Calls Tryz.prog 67 #[.pointer (some ⟨R, 0, none⟩), .int .u64 x.toNat] w (GaveIds w ((allI ls).filter fun y => spendsD ((M y).getD nod) x)) := by
  have hk : Below w.heap.size w ((w.alloc (.cells #[.pointer (some ⟨R, 0, none⟩)] 103)).alloc (.cells #[.int .u64 x.toNat] 22)) := kept_alloc (kept_new _ _) _
  have HK := Lib.hid hk
  have H := Lib.hid (h.kept hk)
  have HC : Hid (ChildK F R ls M b ev v w.heap.size x ((w.alloc (.cells #[.pointer (some ⟨R, 0, none⟩)] 103)).alloc (.cells #[.int .u64 x.toNat] 22))) := Lib.hid ⟨H.out, cellIs_kept _ _ _ _ (cellIs_new w _ _) (kept_new _ _), by
    have := cellIs_new (w.alloc (.cells #[.pointer (some ⟨R, 0, none⟩)] 103)) (.int .u64 x.toNat) 22
    simpa using this⟩
  have HNB : Hid (∀ g, F g → g < w.heap.size) := Lib.hid h.there
  have hal : (allI ls).length ≤ 1000 := by
    have := allI_len ls ls.length
    rw [List.take_of_length_le (Nat.le_refl _)] at this
    omega
  clear h hk
  go_enter Tryz.func67, Tryz.ntmps67
  go_wp2_with fail
  with_reducible refine (all_any _ H.out hl).mono ?_
  rintro e w1 ⟨a1, cp1, rfl, ho1, hb1⟩
  have HC1 := Lib.hid (childK_kept _ _ HC.out hb1)
  have HO1 := Lib.hid ho1
  have HB1 := Lib.hid (kept_trans HK.out hb1)
  have hsz : ((w.alloc (.cells #[.pointer (some ⟨R, 0, none⟩)] 103)).alloc (.cells #[.int .u64 x.toNat] 22)).heap.size = w.heap.size + 2 := by simp
  have HLT : Hid (∀ g, (Value.slice a1 (allI ls).length cp1).ownBlock = some g → w.heap.size + 1 < g) := Lib.hid (fun g hg => by
    have := (ho1.lt g hg).1
    omega)
  clear ho1 hb1 hsz
  go_wp2_with fail
  refine (deleteId_own _ childK_kept _ _ _ (picks_child w.heap.size x) (allI ls) _ _ HC1.out (fun g hg a j u hk => childK_set (fun hF => by have := HNB.out g hF; have := HLT.out g hg; omega) (HLT.out g hg) a j u hk) hal (owns_low HO1.out)).mono ?_
  rintro e w2 ⟨a2, n2, c2, rfl, ho2, hob, ht2⟩
  have HE : Hid (GaveIds w ((allI ls).filter fun y => spendsD ((M y).getD nod) x) (.returned (.slice a2 n2 c2)) w2) := Lib.hid (by
    have e1 : ((allI ls).filter fun y => !(!spendsD ((M y).getD nod) x)) = (allI ls).filter fun y => spendsD ((M y).getD nod) x := by simp
    rw [e1] at ho2
    have hb2 : Below w.heap.size w1 w2 := ht2.below (fun k hk => by have := HLT.out k hk; omega) HB1.out.size
    obtain ⟨a3, c3, e3, _, _, _⟩ := owns_idsAt ho2
    simp only [Value.slice.injEq] at e3
    obtain ⟨rfl, rfl, rfl⟩ := e3
    refine ⟨a2, c2, rfl, ⟨ho2.1, ho2.2.imp id fun ⟨g, cap, cur, q1, _, q3⟩ => ⟨g, cap, cur, q1, ?_, q3⟩⟩, HB1.out.trans hb2⟩
    have := HLT.out g (by rw [← hob, q1]; rfl)
    omega)
  clear ho2 hob ht2
  go_wp2_with fail
  go_ret
  exact HE.out
end Go.Proofs.YtaaaplbjeknbkaaGreat.So.Ho
