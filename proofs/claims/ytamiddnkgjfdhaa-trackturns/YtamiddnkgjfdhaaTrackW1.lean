/-
  Contracts of package track that only look: New, isPeer, isTime, the functions that choose, find, held, flight.
-/
import Derived.Test.YtamiddnkgjfdhaaTracker
namespace Go.Proofs.Ytamiddnkgjfdhaa
open Go.RowKit Go.Maps

theorem isPeer_any (p : Int) (w : World) : Calls Try.prog 41 #[.int .i64 p] w fun e w' => e = .returned (.bool (decide (0 ≤ p ∧ p < 8))) ∧ w = w' := by
  by_cases h1 : 0 ≤ p
  · by_cases h2 : p < 8
    · have h3 : decide (0 ≤ p ∧ p < 8) = true := by simp [h1, h2]
      rw [h3]
      go_enter Try.func41, Try.ntmps41
      go_wp2
      go_ret
      exact ⟨rfl, rfl⟩
    · have h3 : decide (0 ≤ p ∧ p < 8) = false := by simp [h2]
      rw [h3]
      go_enter Try.func41, Try.ntmps41
      go_wp2
      go_ret
      exact ⟨rfl, rfl⟩
  · have h3 : decide (0 ≤ p ∧ p < 8) = false := by simp [h1]
    rw [h3]
    go_enter Try.func41, Try.ntmps41
    go_wp2
    go_ret
    exact ⟨rfl, rfl⟩
theorem isTime_any (p : Int) (w : World) : Calls Try.prog 44 #[.int .i64 p] w fun e w' => e = .returned (.bool (decide (0 ≤ p ∧ p ≤ 1099511627776))) ∧ w = w' := by
  by_cases h1 : 0 ≤ p
  · by_cases h2 : p ≤ 1099511627776
    · have h3 : decide (0 ≤ p ∧ p ≤ 1099511627776) = true := by simp [h1, h2]
      rw [h3]
      go_enter Try.func44, Try.ntmps44
      go_wp2
      go_ret
      exact ⟨rfl, rfl⟩
    · have h3 : decide (0 ≤ p ∧ p ≤ 1099511627776) = false := by simp [h2]
      rw [h3]
      go_enter Try.func44, Try.ntmps44
      go_wp2
      go_ret
      exact ⟨rfl, rfl⟩
  · have h3 : decide (0 ≤ p ∧ p ≤ 1099511627776) = false := by simp [h1]
    rw [h3]
    go_enter Try.func44, Try.ntmps44
    go_wp2
    go_ret
    exact ⟨rfl, rfl⟩

theorem beq_nat (a b : Nat) : ((a : Int) == (b : Int)) = (a == b) := by
  rw [Bool.eq_iff_iff, beq_iff_eq, beq_iff_eq]
  omega
theorem bne_nat (a b : Nat) : ((a : Int) != (b : Int)) = (a != b) := by simp only [bne, beq_nat]

theorem picks_flight : Picks (fun _ => True) 64 #[] (fun e => e.st == 2) := by
  refine ⟨fun _ _ => by kernel_rfl, fun e w _ => ?_⟩
  unfold entV
  have hq := beq_nat e.st 2
  go_enter Try.func64, Try.ntmps64
  go_wp2
  go_ret
  exact ⟨ret_bool hq, kept_new _ _⟩
theorem picks_open : Picks (fun _ => True) 74 #[] (fun e => e.st != 3) := by
  refine ⟨fun _ _ => by kernel_rfl, fun e w _ => ?_⟩
  unfold entV
  have hq := bne_nat e.st 3
  go_enter Try.func74, Try.ntmps74
  go_wp2
  go_ret
  exact ⟨ret_bool hq, kept_new _ _⟩
theorem picks_unready : Picks (fun _ => True) 68 #[] (fun e => e.st != 1) := by
  refine ⟨fun _ _ => by kernel_rfl, fun e w _ => ?_⟩
  unfold entV
  have hq := bne_nat e.st 1
  go_enter Try.func68, Try.ntmps68
  go_wp2
  go_ret
  exact ⟨ret_bool hq, kept_new _ _⟩
/-- A captured cell. -/
def CellIs (c : Nat) (v : Value) (w : World) : Prop := w.cell? ⟨c, 0, none⟩ = some v
theorem cellIs_kept (c : Nat) (v : Value) (a b : World) (h : CellIs c v a) (hb : Below a.heap.size a b) : CellIs c v b := kept_cell hb h
theorem cellIs_set {c g : Nat} (v : Value) (hc : c ≠ g) (a : World) (j : Nat) (u : Value) (h : CellIs c v a) : CellIs c v (a.setCell ⟨g, j, none⟩ u) := (World.cell?_of_block (a := ⟨c, 0, none⟩) (Below.heap_setCell a ⟨g, j, none⟩ u c hc)).trans h
theorem cellIs_new (w : World) (v : Value) (t : TypeId) : CellIs w.heap.size v (w.alloc (.cells #[v] t)) := by simp [CellIs, go_sem]
theorem picks_held (c p : Nat) : Picks (CellIs c (.int .i64 p)) 66 #[.pointer (some ⟨c, 0, none⟩)] (fun e => e.peer == p) := by
  refine ⟨fun _ _ => by kernel_rfl, fun e w hw => ?_⟩
  unfold entV
  have hc := cell_spot hw
  have hw : w.cell? ⟨c, 0, none⟩ = some (.int .i64 p) := hw
  have hlt : c < w.heap.size := hc.2
  clear hc
  have hq := beq_nat e.peer p
  show Calls Try.prog 66 #[.agg #[.int .i64 e.peer, .int .u64 e.id.toNat, .bool e.pref, .int .i64 e.st, .int .i64 e.till], .pointer (some ⟨c, 0, none⟩)] w _
  go_enter Try.func66, Try.ntmps66
  go_wp2
  go_ret
  exact ⟨rfl, kept_new _ _⟩
theorem picks_drop (c p : Nat) : Picks (CellIs c (.int .i64 p)) 52 #[.pointer (some ⟨c, 0, none⟩)] (fun e => e.peer == p) := by
  refine ⟨fun _ _ => by kernel_rfl, fun e w hw => ?_⟩
  unfold entV
  have hc := cell_spot hw
  have hw : w.cell? ⟨c, 0, none⟩ = some (.int .i64 p) := hw
  have hlt : c < w.heap.size := hc.2
  clear hc
  have hq := beq_nat e.peer p
  show Calls Try.prog 52 #[.agg #[.int .i64 e.peer, .int .u64 e.id.toNat, .bool e.pref, .int .i64 e.st, .int .i64 e.till], .pointer (some ⟨c, 0, none⟩)] w _
  go_enter Try.func52, Try.ntmps52
  go_wp2
  go_ret
  exact ⟨rfl, kept_new _ _⟩
theorem picks_forget (c : Nat) (x : UInt64) : PicksI (CellIs c (.int .u64 x.toNat)) 50 #[.pointer (some ⟨c, 0, none⟩)] (fun y => y == x) := by
  refine ⟨fun _ _ => by kernel_rfl, fun y w hw => ?_⟩
  have hc := cell_spot hw
  have hw : w.cell? ⟨c, 0, none⟩ = some (.int .u64 x.toNat) := hw
  have hlt : c < w.heap.size := hc.2
  clear hc
  have hq : ((y.toNat : Int) == (x.toNat : Int)) = (y == x) := u64_beq y x
  show Calls Try.prog 50 #[.int .u64 y.toNat, .pointer (some ⟨c, 0, none⟩)] w _
  go_enter Try.func50, Try.ntmps50
  go_wp2
  go_ret
  exact ⟨rfl, Below.refl _ _⟩

variable {F : Nat → Prop} {R : Nat} {it : Option It} {s : TS} {b : Nat} {ev : UInt64 → Option Value} {pv : Nat → Value}

/-- What is found among the entries of an ID: nothing, or the place of the first one that is chosen. -/
def Found (s : TS) (ev : UInt64 → Option Value) (x : UInt64) (q : TEnt → Bool) (r : Option Addr) : Prop :=
  (r = none ∧ (s.ents x).findIdx? q = none) ∨ ∃ g n cap i, ev x = some (.slice (some ⟨g, 0, none⟩) n cap) ∧ r = some ⟨g, i * 5, none⟩ ∧ (s.ents x).findIdx? q = some i
/-- No ID has more than eight entries, no peer more than twenty; the entries' peers are numbered from 0 to 7. -/
def TS.Fine (s : TS) : Prop := (∀ x, (s.ents x).length ≤ 8 ∧ ∀ e ∈ s.ents x, e.peer < 8) ∧ ∀ p, p < 8 → (s.I p).length ≤ 20

set_option maxRecDepth 20000 in
theorem find_any (K : World → Prop) (hK : ∀ a b, K a → Below a.heap.size a b → K b) (f : FuncId) (cap : Array Value) (q : TEnt → Bool) (hp : Picks K f cap q) (x : UInt64) (w : World) (hw : K w) (h : TrackAt w F R it s b ev pv) (hf : s.Fine) :
    Calls Try.prog 63 #[.pointer (some ⟨R, 0, none⟩), .int .u64 x.toNat, .func (.func f) #[] cap] w fun e w' => ∃ r, e = .returned (.pointer r) ∧ Found s ev x q r ∧ Below w.heap.size w w' := by
  have hmc := h.mapc
  have hlk := h.look x
  have hlt := h.lt
  obtain ⟨a, cp, hv, hcp, hat⟩ := ownEnts_form (h.slice x)
  have hl8 := (hf.1 x).1
  have HH := Lib.hid h
  have HV := Lib.hid hv
  rw [hv] at hlk
  have HP := Lib.hid hp
  have HK := Lib.hid hK
  have HW := Lib.hid hw
  clear h hp hK hw hf hv
  go_enter Try.func63, Try.ntmps63
  go_wp2_with fail
  refine (indexFunc_any K HK.out f cap q HP.out _ _ _ _ HW.out hl8 hat).mono ?_
  rintro e w1 ⟨rfl, hb1⟩
  cases hx : (s.ents x).findIdx? q with
  | none =>
    have e1 : firstAt q (s.ents x) = -1 := by unfold firstAt; rw [hx]
    have HX := Lib.hid hx
    rw [e1]
    clear hx e1
    go_wp2
    go_ret
    exact ⟨none, rfl, .inl ⟨rfl, HX.out⟩, hb1⟩
  | some i =>
    have e1 : firstAt q (s.ents x) = (i : Int) := by unfold firstAt; rw [hx]
    obtain ⟨hi, _⟩ := List.findIdx?_eq_some_iff_getElem.1 hx
    have HX := Lib.hid hx
    rw [e1]
    obtain ⟨g, o, rfl, hg, hc⟩ := hat i hi
    obtain ⟨c0, _⟩ := entAt_kept hb1 hc
    have hev : ev x = some (.slice (some ⟨g, 0, none⟩) (s.ents x).length cp) ∧ o = 0 := by
      have h1 := HV.out
      have h2 := HH.out.slice x
      rcases HH.out.ents x with ⟨h3, h4⟩ | ⟨v, l, h3, h4, h5⟩
      · rw [h3] at h1
        simp at h1
      · rw [h3] at h1
        have h1 : v = _ := h1
        obtain ⟨g', cap', h6, _⟩ := h5.form (by unfold TS.ents at hi; rw [h4] at hi; exact Nat.lt_of_le_of_lt (Nat.zero_le _) hi)
        rw [h6] at h1
        simp only [Value.slice.injEq, Option.some.injEq, Addr.mk.injEq, and_true] at h1
        obtain ⟨⟨rfl, rfl⟩, h7, rfl⟩ := h1
        exact ⟨by rw [h3, h6, h7], rfl⟩
    obtain ⟨hev, rfl⟩ := hev
    have HEV := Lib.hid hev
    have hii : ¬ ((i : Int) < 0) := by omega
    clear hx e1 hev hat hc c0 hlk hmc
    go_wp2
    go_ret
    exact ⟨_, rfl, .inr ⟨g, _, cp, i, HEV.out, by simp, HX.out⟩, hb1⟩
theorem flight_any (x : UInt64) (w : World) (h : TrackAt w F R it s b ev pv) (hf : s.Fine) :
    Calls Try.prog 42 #[.pointer (some ⟨R, 0, none⟩), .int .u64 x.toNat] w fun e w' => ∃ r, e = .returned (.pointer r) ∧ Found s ev x (fun e => e.st == 2) r ∧ Below w.heap.size w w' := by
  have H := Lib.hid h
  have HF := Lib.hid hf
  clear h hf
  go_enter Try.func42, Try.ntmps42
  go_wp2_with fail
  refine (find_any (fun _ => True) (fun _ _ _ _ => trivial) _ _ _ picks_flight x _ trivial H.out HF.out).mono ?_
  rintro e w1 ⟨r, rfl, hr, hb⟩
  have HR := Lib.hid hr
  clear hr
  go_wp2_with fail
  go_ret
  exact ⟨r, rfl, HR.out, hb⟩
theorem held_any (p : Nat) (x : UInt64) (w : World) (h : TrackAt w F R it s b ev pv) (hf : s.Fine) :
    Calls Try.prog 45 #[.pointer (some ⟨R, 0, none⟩), .int .i64 p, .int .u64 x.toNat] w fun e w' => ∃ r, e = .returned (.pointer r) ∧ Found s ev x (fun e => e.peer == p) r ∧ Below w.heap.size w w' := by
  have H := Lib.hid h
  have HF := Lib.hid hf
  clear h hf
  go_enter Try.func45, Try.ntmps45
  go_wp2_with fail
  refine (find_any (CellIs w.heap.size (.int .i64 p)) (cellIs_kept _ _) _ _ _ (picks_held w.heap.size p) x _ (cellIs_new _ _ _) (H.out.kept (kept_new _ _)) HF.out).mono ?_
  rintro e w1 ⟨r, rfl, hr, hb⟩
  have HR := Lib.hid hr
  clear hr
  go_wp2_with fail
  go_ret
  exact ⟨r, rfl, HR.out, kept_trans (kept_new _ _) hb⟩
end Go.Proofs.Ytamiddnkgjfdhaa
