/-
  Contracts of package orphan that take links away: unlink, removeOldest, Remove, Drop.
-/
import Derived.Test.YtaaaplbjeknbkaaGreatSHomeW5
set_option maxRecDepth 20000
namespace Go.Proofs.YtaaaplbjeknbkaaGreat.So.Ho
open Go.Proofs.YtaaaplbjeknbkaaGreat.Ho
open Go.RowKit Go.Maps

variable {w w' : World} {F : Nat → Prop} {R : Nat} {it : Option It} {ls : List LD} {M : UInt64 → Option DeedD} {b : Nat} {ev : UInt64 → Option Value} {v : Value}

theorem picks_id (f : FuncId) (hf : f = 161) (c : Nat) (x : UInt64) : PicksL (CellIs c (.int .u64 x.toNat)) f #[.pointer (some ⟨c, 0, none⟩)] (fun l => l.id == x) := by
  subst hf
  refine ⟨fun _ _ => by kernel_rfl, fun e w hw => ?_⟩
  unfold linkV
  have hc := cell_spot hw
  have hw : w.cell? ⟨c, 0, none⟩ = some (.int .u64 x.toNat) := hw
  have hlt : c < w.heap.size := hc.2
  clear hc
  have hq : ((e.id.toNat : Int) == (x.toNat : Int)) = (e.id == x) := u64_beq e.id x
  show Calls Tryz.prog 161 #[.agg #[.int .i64 e.peer, .int .u64 e.id.toNat], .pointer (some ⟨c, 0, none⟩)] w _
  go_enter Tryz.func161, Tryz.ntmps161
  go_wp2
  go_ret
  exact ⟨rfl, kept_new _ _⟩
theorem picks_remove (c : Nat) (x : UInt64) : PicksL (CellIs c (.int .u64 x.toNat)) 172 #[.pointer (some ⟨c, 0, none⟩)] (fun l => l.id == x) := by
  refine ⟨fun _ _ => by kernel_rfl, fun e w hw => ?_⟩
  unfold linkV
  have hc := cell_spot hw
  have hw : w.cell? ⟨c, 0, none⟩ = some (.int .u64 x.toNat) := hw
  have hlt : c < w.heap.size := hc.2
  clear hc
  have hq : ((e.id.toNat : Int) == (x.toNat : Int)) = (e.id == x) := u64_beq e.id x
  show Calls Tryz.prog 172 #[.agg #[.int .i64 e.peer, .int .u64 e.id.toNat], .pointer (some ⟨c, 0, none⟩)] w _
  go_enter Tryz.func172, Tryz.ntmps172
  go_wp2
  go_ret
  exact ⟨rfl, kept_new _ _⟩
theorem picks_drop (c p : Nat) : PicksL (CellIs c (.int .i64 p)) 130 #[.pointer (some ⟨c, 0, none⟩)] (fun l => l.peer == p) := by
  refine ⟨fun _ _ => by kernel_rfl, fun e w hw => ?_⟩
  unfold linkV
  have hc := cell_spot hw
  have hw : w.cell? ⟨c, 0, none⟩ = some (.int .i64 p) := hw
  have hlt : c < w.heap.size := hc.2
  clear hc
  have hq := beq_nat e.peer p
  show Calls Tryz.prog 130 #[.agg #[.int .i64 e.peer, .int .u64 e.id.toNat], .pointer (some ⟨c, 0, none⟩)] w _
  go_enter Tryz.func130, Tryz.ntmps130
  go_wp2
  go_ret
  exact ⟨rfl, kept_new _ _⟩
theorem picks_peer (c p : Nat) : PicksL (CellIs c (.int .i64 p)) 138 #[.pointer (some ⟨c, 0, none⟩)] (fun l => l.peer == p) := by
  refine ⟨fun _ _ => by kernel_rfl, fun e w hw => ?_⟩
  unfold linkV
  have hc := cell_spot hw
  have hw : w.cell? ⟨c, 0, none⟩ = some (.int .i64 p) := hw
  have hlt : c < w.heap.size := hc.2
  clear hc
  have hq := beq_nat e.peer p
  show Calls Tryz.prog 138 #[.agg #[.int .i64 e.peer, .int .u64 e.id.toNat], .pointer (some ⟨c, 0, none⟩)] w _
  go_enter Tryz.func138, Tryz.ntmps138
  go_wp2
  go_ret
  exact ⟨rfl, kept_new _ _⟩
/-- A captured link. -/
def LinkIs (c : Nat) (l : LD) (w : World) : Prop := LinkAt w c 0 l
theorem linkIs_kept (c : Nat) (l : LD) (a b : World) (h : LinkIs c l a) (hb : Below a.heap.size a b) : LinkIs c l b := linkAt_kept hb h
theorem linkIs_set {c g : Nat} (l : LD) (hc : c ≠ g) (a : World) (j : Nat) (u : Value) (h : LinkIs c l a) : LinkIs c l (a.setCell ⟨g, j, none⟩ u) :=
  ⟨(World.cell?_of_block (a := ⟨c, 0, none⟩) (Below.heap_setCell a ⟨g, j, none⟩ u c hc)).trans h.1, (World.cell?_of_block (a := ⟨c, 1, none⟩) (Below.heap_setCell a ⟨g, j, none⟩ u c hc)).trans h.2⟩
theorem picks_same (c : Nat) (x : LD) : PicksL (LinkIs c x) 139 #[.pointer (some ⟨c, 0, none⟩)] (fun l => decide (l = x)) := by
  refine ⟨fun _ _ => by kernel_rfl, fun e w hw => ?_⟩
  unfold linkV
  obtain ⟨c0, c1⟩ := hw
  have hlt : c < w.heap.size := (cell_spot c0).2
  have hq := fun wx => run_eq_link e x wx
  show Calls Tryz.prog 139 #[.agg #[.int .i64 e.peer, .int .u64 e.id.toNat], .pointer (some ⟨c, 0, none⟩)] w _
  go_enter Tryz.func139, Tryz.ntmps139
  go_wp2
  go_ret
  exact ⟨rfl, kept_new _ _⟩

/-- An ID that no link has is to go. -/
theorem unlinkPick_any (c : Nat) (x : UInt64) (d : DeedD) (a : Option Addr) (n cap : Nat) (w : World) (h : HomeAt w F R it ls M b ev v) (hl : ls.length ≤ 1000) (hc : CellIs c (.pointer (some ⟨R, 0, none⟩)) w) :
    Calls Tryz.prog 159 #[.int .u64 x.toNat, .agg #[.slice a n cap, .int .i64 d.outs, .int .i64 d.weight, .int .i64 d.fee], .pointer (some ⟨c, 0, none⟩)] w fun e w' => e = .returned (.bool (!(ls.any fun l => l.id == x))) ∧ Below w.heap.size w w' := by
  have hc : w.cell? ⟨c, 0, none⟩ = some (.pointer (some ⟨R, 0, none⟩)) := hc
  have hclt := (cell_spot hc).2
  obtain ⟨la, lcap, rfl, hcap, hat⟩ := h.linkForm
  have hlc := h.linkc.1
  have hlt := h.lt
  have hk : Below w.heap.size w ((w.alloc (.cells #[.int .u64 x.toNat] 22)).alloc (.cells #[.slice a n cap, .int .i64 d.outs, .int .i64 d.weight, .int .i64 d.fee] 50)) := kept_alloc (kept_new _ _) _
  have HI := Lib.hid (linksAt_kept hk hat)
  have HC : Hid (CellIs w.heap.size (.int .u64 x.toNat) ((w.alloc (.cells #[.int .u64 x.toNat] 22)).alloc (.cells #[.slice a n cap, .int .i64 d.outs, .int .i64 d.weight, .int .i64 d.fee] 50))) := Lib.hid (cellIs_kept _ _ _ _ (cellIs_new w _ _) (kept_new _ _))
  clear h hat
  go_enter Tryz.func159, Tryz.ntmps159
  go_wp2_with fail
  refine (linkContains_any _ (cellIs_kept _ _) _ _ _ (picks_id _ rfl w.heap.size x) ls _ _ _ HC.out hl HI.out).mono ?_
  rintro e w1 ⟨rfl, hb1⟩
  go_wp2
  go_ret
  exact ⟨rfl, kept_trans hk hb1⟩
/-- The deeds that remain while a range goes on. -/
def partM (M : UInt64 → Option DeedD) (left : Lit → Bool) (keep : UInt64 → Bool) : UInt64 → Option DeedD := fun y => if left (.int .u64 y.toNat) || keep y then M y else none
theorem partM_keep {M : UInt64 → Option DeedD} {left : Lit → Bool} {keep : UInt64 → Bool} {x : UInt64} (h : keep x = true) (y : UInt64) : partM M left keep y = partM M (fun z => left z && !z.sameKey (.int .u64 x.toNat)) keep y := by
  unfold partM
  simp only [same_lit]
  by_cases e : y = x
  · subst e
    rw [h]
    simp
  · rw [show (y == x) = false from beq_eq_false_iff_ne.2 e]
    simp
theorem partM_drop {M : UInt64 → Option DeedD} {left : Lit → Bool} {keep : UInt64 → Bool} {x : UInt64} (h : keep x = false) (y : UInt64) : upd (partM M left keep) x none y = partM M (fun z => left z && !z.sameKey (.int .u64 x.toNat)) keep y := by
  by_cases e : y = x
  · subst e
    rw [upd_same]
    unfold partM
    simp only [same_lit, h]
    simp
  · rw [upd_other _ _ e]
    unfold partM
    simp only [same_lit]
    rw [show (y == x) = false from beq_eq_false_iff_ne.2 e]
    simp
theorem HomeAt.as {M' : UInt64 → Option DeedD} (h : HomeAt w F R it ls M b ev v) (e : ∀ x, M x = M' x) : HomeAt w F R it ls M' b ev v := by
  have : M = M' := funext e
  exact this ▸ h
set_option maxRecDepth 20000 in
theorem mapDelete_any (c : Nat) (w : World) (h : HomeAt w F R none ls M b ev v) (hl : ls.length ≤ 1000) (hc : CellIs c (.pointer (some ⟨R, 0, none⟩)) w) (hcF : ¬ F c) :
    Calls Tryz.prog 158 #[.map (some b), .func (.func 159) #[] #[.pointer (some ⟨c, 0, none⟩)]] w fun e w' => e = .returned (.tuple #[]) ∧ ∃ ev', HomeAt w' F R none ls (fun y => if ls.any (fun l => l.id == y) then M y else none) b ev' v ∧ Turn F F w w' := by
  have hcf : ∀ (args : Array Value) (w : World), (callFunc 159 args).run Tryz.prog w = .ok (.enter 159 args) w := fun _ _ => by kernel_rfl
  obtain ⟨D, ⟨n, hown⟩, hat, hhas⟩ := h.map
  have HAT := Lib.hid (And.intro hat hhas)
  have H := Lib.hid h
  have HC := Lib.hid hc
  have HCF := Lib.hid hcF
  have hclt : c < w.heap.size := (cell_spot hc).2
  clear h hat hhas hc hcF
  go_enter Tryz.func158, Tryz.ntmps158
  go_wp2_with (first
    | (at_range; refine wpList_range_own _ rfl _ 47 rfl 22 50 u64_keyed Tryz.underlying47 _ b n D rfl hown ?_; intro w0 hrg0 hg0 hs0)
    | go_in)
  try go_frame
  have hb0 : Below w.heap.size w w0 := grown_below hg0
  have HR0 := Lib.hid (H.out.ranged HAT.out.1 HAT.out.2 hrg0 hg0 hs0)
  clear hrg0 hg0 hs0 hown
  go_loopw [4] (fun _ wr => ∃ (left : Lit → Bool) (cnt : Nat) (ev' : UInt64 → Option Value), Hid (HomeAt wr F R (some ⟨w.heap.size, left, cnt⟩) ls (partM M left fun y => ls.any fun l => l.id == y) b ev' v) ∧ Hid (CellIs c (.pointer (some ⟨R, 0, none⟩)) wr) ∧ Hid (Turn F F w wr))
    (fun _ wr => wr.rangeLeft b w.heap.size)
  case atStart =>
    refine ⟨_, _, ev, Lib.hid (HR0.out.as fun x => ?_), Lib.hid (cellIs_kept _ _ _ _ HC.out hb0), Lib.hid (Turn.of_below hb0)⟩
    unfold partM
    rw [HAT.out.2 x, H.out.there_is x]
    cases M x with
    | none => simp
    | some d => simp
  case round =>
    obtain ⟨left, cnt, ev', HT, HCC, HU⟩ := hrel
    have hm := HT.out.map
    go_wp2_with (first
      | (at_next; refine next_tmap _ rfl _ rfl rfl b w.heap.size left cnt ev' rfl hm ?_ ?_)
      | go_in)
    · intro hc0 hl0
      have HE : Hid (∃ ev', HomeAt wr F R none ls (fun y => if ls.any (fun l => l.id == y) then M y else none) b ev' v ∧ Turn F F w wr) := Lib.hid ⟨ev', HT.out.ended.as fun x => by unfold partM; rw [hl0]; simp, HU.out⟩
      clear hm hc0 hl0
      go_wp2
      go_end0
      exact ⟨rfl, HE.out⟩
    · intro x vx w1 cnt1 hlx hvx hm1 hlt1 hg1 hs1 hen
      have hrlt := (HT.out.out _ rfl).2
      have H1 := HT.out.stepped hm1 hg1
      have HU1 : Hid (Turn F F w w1) := Lib.hid (by
        refine ⟨hg1.os.trans HU.out.os, hg1.tape.trans HU.out.tape, hg1.output.trans HU.out.output, Nat.le_trans HU.out.size hg1.size, fun k hk hn => (hg1.block k (Nat.lt_of_lt_of_le hk HU.out.size) (fun e => by cases e; omega)).trans (HU.out.block k hk hn), HU.out.own⟩)
      have HC1 : Hid (CellIs c (.pointer (some ⟨R, 0, none⟩)) w1) := Lib.hid ((World.cell?_of_block (a := ⟨c, 0, none⟩) (hg1.block c (cell_spot HCC.out).2 (fun e => by cases e; omega))).trans HCC.out)
      rcases H1.deeds x with ⟨h1, _⟩ | ⟨a, cp, d, h1, h2, _, _⟩
      · rw [h1] at hvx
        cases hvx
      · rw [h1] at hvx
        cases hvx
        unfold deedV at hen ⊢
        have HH1 := Lib.hid H1
        have HLT := Lib.hid hlt1
        have HLX := Lib.hid hlx
        have hb2 := kept_new w1 (.cells #[.slice a d.ins.length cp, .int .i64 d.outs, .int .i64 d.weight, .int .i64 d.fee] 50)
        have HB2 := Lib.hid hb2
        clear H1 h1 h2 hm1 hg1 hlx hlt1 hm hb2
        go_wp2_with fail
        with_reducible refine (unlinkPick_any c x d a _ cp _ (HH1.out.kept HB2.out) hl (cellIs_kept _ _ _ _ HC1.out HB2.out)).mono ?_
        rintro e w3 ⟨rfl, hb3⟩
        have H3 := Lib.hid (HH1.out.kept (kept_trans HB2.out hb3))
        have HC3 : Hid (CellIs c (.pointer (some ⟨R, 0, none⟩)) w3) := Lib.hid (cellIs_kept _ _ _ _ HC1.out (kept_trans HB2.out hb3))
        have HU3 : Hid (Turn F F w w3) := Lib.hid (HU1.out.trans (Turn.of_below (kept_trans HB2.out hb3)))
        have hrlt3 : w.heap.size < w3.heap.size := Nat.lt_of_lt_of_le hrlt (by have := (kept_trans HB2.out hb3).size; omega)
        clear hb3
        cases hq : ls.any fun l => l.id == x with
        | true =>
          have HQ := Lib.hid hq
          clear hq
          go_wp2_with fail
          go_roundw
          case rel =>
            exact ⟨_, cnt1, ev', Lib.hid (H3.out.as (partM_keep HQ.out)), HC3, HU3⟩
          case measure =>
            rw [tmap_left H3.out.map, tmap_left HT.out.map]
            exact HLT.out
        | false =>
          have HQ := Lib.hid hq
          obtain ⟨w4, hdel, n4, hn4, h4, t4⟩ := H3.out.deleted x
          have H4 := Lib.hid h4
          have T4 := Lib.hid t4
          have HN4 := Lib.hid (hn4 _ rfl)
          clear hq h4 t4 hn4
          go_wp2_with fail
          go_roundw
          case rel =>
            have h5 := H4.out
            unfold It.drop at h5
            simp only [Option.map_some] at h5
            rw [Maps.strike_twice] at h5
            refine ⟨_, n4, _, Lib.hid (h5.as fun y => ?_), Lib.hid ((World.cell?_of_block (a := ⟨c, 0, none⟩) (T4.out.block c (Nat.lt_trans hclt hrlt3) HCF.out)).trans HC3.out), Lib.hid (HU3.out.trans T4.out)⟩
            exact partM_drop HQ.out y
          case measure =>
            have h5 := H4.out
            unfold It.drop at h5
            simp only [Option.map_some] at h5
            rw [tmap_left h5.map, tmap_left HT.out.map]
            exact Nat.lt_of_le_of_lt HN4.out HLT.out
end Go.Proofs.YtaaaplbjeknbkaaGreat.So.Ho
