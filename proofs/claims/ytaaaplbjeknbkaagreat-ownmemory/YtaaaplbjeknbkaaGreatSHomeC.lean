/-
  A pool that a law made, with memory of the law's own beside it (the blocks Z): the contracts of all calls, as a law's walk uses them.
-/
import Derived.Test.YtaaaplbjeknbkaaGreatSHomeW13
set_option maxRecDepth 20000
namespace Go.Proofs.YtaaaplbjeknbkaaGreat.So.Ho
open Go.Proofs.YtaaaplbjeknbkaaGreat.Ho
open Go.RowKit Go.Maps

/-- Since world w0 a pool was made in block R; it has the links L; Z: blocks that it does not own. -/
structure Held (w0 w : World) (Z : Nat → Prop) (R : Nat) (L : List LinkD) : Prop where
  below : Below w0.heap.size w0 w
  home : ∃ F, (∀ k, F k → w0.heap.size ≤ k) ∧ (∀ k, F k → ¬ Z k) ∧ HomeL w F R L
  good : GoodL 24 L
  there : There w Z
/-- The blocks Z are as they were. -/
def SameZ (Z : Nat → Prop) (w w' : World) : Prop := ∀ k, Z k → w'.heap[k]? = w.heap[k]?

variable {w0 w w' : World} {Z : Nat → Prop} {R : Nat} {L : List LinkD} {F : Nat → Prop}

theorem SameZ.trans {a b c : World} (h : SameZ Z a b) (k : SameZ Z b c) : SameZ Z a c := fun j hj => (k j hj).trans (h j hj)
theorem Held.same (h : Held w0 w Z R L) (hb : Below w.heap.size w w') : SameZ Z w w' := fun k hk => hb.block k (h.there k hk)
theorem SameZ.cell {p : Addr} {u : Value} (h : SameZ Z w w') (hz : Z p.block) (hc : w.cell? p = some u) : w'.cell? p = some u := (World.cell?_of_block (a := p) (h _ hz)).trans hc
theorem Held.kept (h : Held w0 w Z R L) (hb : Below w.heap.size w w') : Held w0 w' Z R L := by
  obtain ⟨F, h1, h2, h3⟩ := h.home
  exact ⟨kept_trans h.below hb, ⟨F, h1, h2, h3.kept hb⟩, h.good, h.there.later hb.size⟩
/-- One more block beside the pool. -/
theorem Held.new (h : Held w0 w Z R L) (o : Obj) : Held w0 (w.alloc o) (fun k => Z k ∨ k = w.heap.size) R L := by
  have hk := h.kept (kept_new w o)
  obtain ⟨F, h1, h2, h3⟩ := h.home
  refine ⟨hk.below, ⟨F, h1, fun k hF hZ => ?_, h3.kept (kept_new w o)⟩, h.good, fun k hZ => ?_⟩
  · rcases hZ with hZ | hZ
    · exact h2 k hF hZ
    · obtain ⟨b, ev, v, h4⟩ := h3
      have := h4.there k hF
      omega
  · rcases hZ with hZ | hZ
    · exact hk.there k hZ
    · rw [hZ]; simp
/-- Fewer blocks beside it. -/
theorem Held.less (h : Held w0 w Z R L) {Z' : Nat → Prop} (hz : ∀ k, Z' k → Z k) : Held w0 w Z' R L := by
  obtain ⟨F, h1, h2, h3⟩ := h.home
  exact ⟨h.below, ⟨F, h1, fun k hF hZ => h2 k hF (hz k hZ), h3⟩, h.good, fun k hk => h.there k (hz k hk)⟩
/-- A turn of the pool alone. -/
theorem Held.turned (h : Held w0 w Z R L) {F F' : Nat → Prop} (h1 : ∀ k, F k → w0.heap.size ≤ k) (h2 : ∀ k, F k → ¬ Z k) {L' : List LinkD} (hL : HomeL w' F' R L') (hg : GoodL 24 L') (ht : Turn F F' w w') : Held w0 w' Z R L' ∧ SameZ Z w w' := by
  refine ⟨⟨h.below.trans (ht.below h1 h.below.size), ⟨F', ht.above h1 h.below.size, fun k hF hZ => ?_, hL⟩, hg, h.there.later ht.size⟩, fun k hZ => ht.block k (h.there k hZ) (fun hF => h2 k hF hZ)⟩
  rcases ht.own k hF with hF | hF
  · exact h2 k hF hZ
  · have := h.there k hZ
    omega
theorem room_good {p : Nat} {x : UInt64} {d : DeedD} (hg : GoodL 24 L) (hp : p < 8) (hd : checkD d = 0) (ht : ¬ ∃ l ∈ L, l.peer = p ∧ l.id = x) : GoodL 24 (room (newL L p x d)) := by
  have h1 := newL_good hg hp hd ht
  have h2 := h1.sub (room_sub _)
  have h3 := room_fine _ _ rfl h1
  unfold fullL fullF at h3
  rw [Bool.or_eq_false_iff] at h3
  have h4 := of_decide_eq_false h3.2
  rw [lsOf_len] at h4
  exact ⟨by omega, h2.peer, h2.fine, h2.one, h2.nodup⟩
/-- Add: the answers, and what the pool is then. -/
def addC (L : List LinkD) (p : Int) (x : UInt64) (d : DeedD) : (Bool × Int) × List LinkD :=
  if ¬ goodP p then ((false, 1), L) else if checkD d ≠ 0 then ((false, checkD d), L) else if L.any (fun l => l.peer == p.toNat && l.id == x) then ((false, 6), L) else (((deedOf (room (newL L p.toNat x d)) x).isSome, 0), room (newL L p.toNat x d))
theorem any_twice {p : Nat} {x : UInt64} : L.any (fun l => l.peer == p && l.id == x) = true ↔ ∃ l ∈ L, l.peer = p ∧ l.id = x := by
  rw [List.any_eq_true]
  constructor
  · rintro ⟨l, hl, e⟩
    simp only [Bool.and_eq_true, beq_iff_eq] at e
    exact ⟨l, hl, e⟩
  · rintro ⟨l, hl, e⟩
    exact ⟨l, hl, by simpa using e⟩
theorem addC_good (hg : GoodL 24 L) (p : Int) (x : UInt64) (d : DeedD) : GoodL 24 (addC L p x d).2 := by
  unfold addC
  split
  · exact hg
  · split
    · exact hg
    · split
      · exact hg
      · rename_i h1 h2 h3
        obtain ⟨n, rfl, hn, hnn⟩ := peer_nat (Classical.not_not.1 h1)
        rw [hnn] at h3 ⊢
        exact room_good hg hn (Classical.not_not.1 h2) (fun h => h3 (any_twice.2 h))
theorem hd_addG (w0 : World) (Z : Nat → Prop) (R : Nat) (L : List LinkD) (w : World) (h : Held w0 w Z R L) (p : Int) (x : UInt64) (d : DeedD) (a : Option Addr) (cap : Nat) (hi' : InsAt w a d.ins) (hout : ∀ bb o, d.ins ≠ [] → a = some ⟨bb, o, none⟩ → bb < w0.heap.size ∨ Z bb) :
    Calls Tryz.prog 66 #[.pointer (some ⟨R, 0, none⟩), .int .i64 p, .int .u64 x.toNat, .agg #[.slice a d.ins.length cap, .int .i64 d.outs, .int .i64 d.weight, .int .i64 d.fee]] w fun e w' =>
      e = .returned (.tuple #[.bool (addC L p x d).1.1, .int .i64 (addC L p x d).1.2]) ∧ Held w0 w' Z R (addC L p x d).2 ∧ SameZ Z w w' := by
  unfold addC
  by_cases hp : goodP p
  · rw [if_neg (not_not_intro hp)]
    obtain ⟨n, rfl, hn, hnn⟩ := peer_nat hp
    rw [hnn]
    by_cases hd : checkD d = 0
    · rw [if_neg (not_not_intro hd)]
      by_cases ht : ∃ l ∈ L, l.peer = n ∧ l.id = x
      · rw [if_pos (any_twice.2 ht)]
        obtain ⟨F, h1, h2, h3⟩ := h.home
        refine (add_twice n hn x d hd ht a cap w hi' h3 h.good).mono ?_
        rintro e w' ⟨rfl, hb⟩
        exact ⟨rfl, h.kept hb, h.same hb⟩
      · rw [if_neg (fun hh => ht (any_twice.1 hh))]
        obtain ⟨F, h1, h2, h3⟩ := h.home
        refine (add_new n hn x d hd ht a cap w hi' (fun bb o hne e hF => ?_) h3 h.good).mono ?_
        · rcases hout bb o hne e with hlt | hz
          · have := h1 bb hF
            omega
          · exact h2 bb hF hz
        · rintro e w' ⟨rfl, F', h4, h5⟩
          exact ⟨rfl, h.turned h1 h2 h4 (room_good h.good hn hd ht) h5⟩
    · rw [if_pos hd]
      refine (add_check n hn x d _ rfl hd a cap w hi').mono ?_
      rintro e w' ⟨rfl, hb⟩
      exact ⟨rfl, h.kept hb, h.same hb⟩
  · rw [if_pos hp]
    refine (add_arg p hp x d a cap w).mono ?_
    rintro e w' ⟨rfl, hb⟩
    exact ⟨rfl, h.kept hb, h.same hb⟩
theorem hd_add (w0 : World) (Z : Nat → Prop) (R : Nat) (L : List LinkD) (w : World) (h : Held w0 w Z R L) (p : Int) (x : UInt64) (d : DeedD) (a : Option Addr) (cap : Nat) (hi : InsAt w0 a d.ins) :
    Calls Tryz.prog 66 #[.pointer (some ⟨R, 0, none⟩), .int .i64 p, .int .u64 x.toNat, .agg #[.slice a d.ins.length cap, .int .i64 d.outs, .int .i64 d.weight, .int .i64 d.fee]] w fun e w' =>
      e = .returned (.tuple #[.bool (addC L p x d).1.1, .int .i64 (addC L p x d).1.2]) ∧ Held w0 w' Z R (addC L p x d).2 ∧ SameZ Z w w' :=
  hd_addG w0 Z R L w h p x d a cap (insAt_kept h.below hi) (fun bb o hne e => by
    obtain ⟨b', o', e', hb', _⟩ := hi 0 (List.length_pos_iff.2 hne)
    rw [e] at e'
    cases e'
    exact .inl hb')
theorem hd_add_is (w0 : World) (Z : Nat → Prop) (R : Nat) (L : List LinkD) (w : World) (h : Held w0 w Z R L) (p : Int) (x : UInt64) (d : DeedD) (a : Option Addr) (cap : Nat) (hi : InsAt w0 a d.ins) (s : Bool) (r : Int) (L' : List LinkD) (hr : addC L p x d = ((s, r), L')) :
    Calls Tryz.prog 66 #[.pointer (some ⟨R, 0, none⟩), .int .i64 p, .int .u64 x.toNat, .agg #[.slice a d.ins.length cap, .int .i64 d.outs, .int .i64 d.weight, .int .i64 d.fee]] w fun e w' =>
      e = .returned (.tuple #[.bool s, .int .i64 r]) ∧ Held w0 w' Z R L' ∧ SameZ Z w w' := by
  have := hd_add w0 Z R L w h p x d a cap hi
  rw [hr] at this
  exact this
/-- Remove. -/
def removeL (L : List LinkD) (x : UInt64) : List LinkD := L.filter fun l => !(l.id == x)
theorem hd_remove (w0 : World) (Z : Nat → Prop) (R : Nat) (L : List LinkD) (w : World) (h : Held w0 w Z R L) (x : UInt64) (r : Bool) (hr : (deedOf L x).isSome = r) :
    Calls Tryz.prog 165 #[.pointer (some ⟨R, 0, none⟩), .int .u64 x.toNat] w fun e w' => e = .returned (.bool r) ∧ Held w0 w' Z R (removeL L x) ∧ SameZ Z w w' := by
  subst hr
  obtain ⟨F, h1, h2, b, ev, v, h3⟩ := h.home
  refine (remove_any x w h3 (by rw [lsOf_len]; have := h.good.len; omega)).mono ?_
  rintro e w' ⟨rfl, F', ev', v', h4, h5⟩
  rw [lsOf_filter] at h4
  have hs : (removeL L x).Sublist L := List.filter_sublist
  rw [show (L.filter fun l => !((ldOf l).id == x)) = removeL L x from rfl, deedOf_sub h.good hs] at h4
  exact ⟨rfl, h.turned h1 h2 ⟨b, ev', v', h4⟩ (h.good.sub hs) h5⟩
/-- Drop. -/
def dropL (L : List LinkD) (p : Nat) : List LinkD := L.filter fun l => !(l.peer == p)
def dropC (L : List LinkD) (p : Int) : Int × List LinkD := if goodP p then (0, dropL L p.toNat) else (1, L)
theorem hd_drop (w0 : World) (Z : Nat → Prop) (R : Nat) (L : List LinkD) (w : World) (h : Held w0 w Z R L) (p : Int) (r : Int) (L' : List LinkD) (hr : dropC L p = (r, L')) :
    Calls Tryz.prog 87 #[.pointer (some ⟨R, 0, none⟩), .int .i64 p] w fun e w' => e = .returned (.int .i64 r) ∧ Held w0 w' Z R L' ∧ SameZ Z w w' := by
  unfold dropC at hr
  by_cases hp : goodP p
  · rw [if_pos hp] at hr
    cases hr
    obtain ⟨n, rfl, hn, hnn⟩ := peer_nat hp
    rw [hnn]
    obtain ⟨F, h1, h2, b, ev, v, h3⟩ := h.home
    refine (drop_yes n hn w h3 (by rw [lsOf_len]; have := h.good.len; omega)).mono ?_
    rintro e w' ⟨rfl, F', ev', v', h4, h5⟩
    rw [lsOf_filter] at h4
    have hs : (dropL L n).Sublist L := List.filter_sublist
    rw [show (L.filter fun l => !((ldOf l).peer == n)) = dropL L n from rfl, deedOf_sub h.good hs] at h4
    exact ⟨rfl, h.turned h1 h2 ⟨b, ev', v', h4⟩ (h.good.sub hs) h5⟩
  · rw [if_neg hp] at hr
    cases hr
    refine (drop_no p hp w).mono ?_
    rintro e w' ⟨rfl, hb⟩
    exact ⟨rfl, h.kept hb, h.same hb⟩
theorem dropC_good (hg : GoodL 24 L) (p : Int) : GoodL 24 (dropC L p).2 := by
  unfold dropC
  split
  · exact hg.sub List.filter_sublist
  · exact hg
theorem hd_has (w0 : World) (Z : Nat → Prop) (R : Nat) (L : List LinkD) (w : World) (h : Held w0 w Z R L) (x : UInt64) (r : Bool) (hr : (deedOf L x).isSome = r) :
    Calls Tryz.prog 99 #[.pointer (some ⟨R, 0, none⟩), .int .u64 x.toNat] w fun e w' => e = .returned (.bool r) ∧ Below w.heap.size w w' := by
  obtain ⟨F, _, _, b, ev, v, h3⟩ := h.home
  exact has_home_is x w h3 r hr
theorem hd_deed (w0 : World) (Z : Nat → Prop) (R : Nat) (L : List LinkD) (w : World) (h : Held w0 w Z R L) (x : UInt64) :
    Calls Tryz.prog 154 #[.pointer (some ⟨R, 0, none⟩), .int .u64 x.toNat] w (DeedAns w (deedOf L x)) := by
  obtain ⟨F, _, _, b, ev, v, h3⟩ := h.home
  exact deed_any x w h3
theorem hd_all (w0 : World) (Z : Nat → Prop) (R : Nat) (L : List LinkD) (w : World) (h : Held w0 w Z R L) :
    Calls Tryz.prog 65 #[.pointer (some ⟨R, 0, none⟩)] w (GaveIds w (allL L)) := by
  obtain ⟨F, _, _, b, ev, v, h3⟩ := h.home
  exact all_any w h3 (by rw [lsOf_len]; have := h.good.len; omega)
/-- Children. -/
def childL (L : List LinkD) (x : UInt64) : List UInt64 := (allL L).filter fun y => spendsD ((deedOf L y).getD nod) x
theorem hd_children (w0 : World) (Z : Nat → Prop) (R : Nat) (L : List LinkD) (w : World) (h : Held w0 w Z R L) (x : UInt64) :
    Calls Tryz.prog 67 #[.pointer (some ⟨R, 0, none⟩), .int .u64 x.toNat] w (GaveIds w (childL L x)) := by
  obtain ⟨F, _, _, b, ev, v, h3⟩ := h.home
  exact children_any x w h3 (by rw [lsOf_len]; have := h.good.len; omega)
/-- Usage. -/
def usageC (L : List LinkD) (p : Int) : Int × Int × Int := if goodP p then ((usageL L p.toNat).1, (usageL L p.toNat).2, 0) else (0, 0, 1)
theorem hd_new (w0 w : World) (hb0 : Below w0.heap.size w0 w) (Z : Nat → Prop) (hZ : There w Z) : Calls Tryz.prog 53 #[] w fun e w' => ∃ R, e = .returned (.pointer (some ⟨R, 0, none⟩)) ∧ Held w0 w' Z R [] ∧ Below w.heap.size w w' := by
  refine (home_new w).mono ?_
  rintro e w' ⟨R, F, rfl, hR, hF, h, hb⟩
  refine ⟨R, rfl, ⟨kept_trans hb0 hb, ⟨F, fun k hk => Nat.le_trans hb0.size (hF k hk), fun k hk hz => ?_, ⟨_, _, _, h⟩⟩, ⟨by simp, fun l hl => by simp at hl, fun l hl => by simp at hl, fun l hl => by simp at hl, by simp [lsOf]⟩, hZ.later hb.size⟩, hb⟩
  have := hF k hk
  have := hZ k hz
  omega
end Go.Proofs.YtaaaplbjeknbkaaGreat.So.Ho
