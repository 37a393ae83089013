/-
  A pool and the reference's, side by side: the contracts of all calls, as the laws that compare the two use them.
-/
import Derived.Test.YtodhkphjlcjdoaaRefH7
import Derived.Test.YtodhkphjlcjdoaaHomeK
namespace Go.Proofs.Ytodhkphjlcjdoaa
open Go.RowKit Go.Maps

section
variable {w w' : World} {G : Nat → Prop} {B : Nat} {M : List LinkD}
theorem RefL.same (h : RefL w G B M) (e : ∀ k, k < w.heap.size → G k → w'.heap[k]? = w.heap[k]?) (hs : w.heap.size ≤ w'.heap.size) : RefL w' G B M := by
  obtain ⟨rs, v, h, rfl⟩ := h
  exact ⟨rs, v, h.same e hs, rfl⟩
/-- The like, where the blocks are said to be there. -/
theorem RefL.still (h : RefL w G B M) (e : ∀ k, G k → w'.heap[k]? = w.heap[k]?) (ht : There w' G) : RefL w' G B M := by
  obtain ⟨rs, v, h, rfl⟩ := h
  refine ⟨rs, v, ⟨(e B h.gB).trans h.head, own_same h.row fun g hg => e g (h.gv g hg), fun x hx => ⟨fun i hi => ?_, (h.ins x hx).2⟩, h.gB, h.gv, ht⟩, rfl⟩
  obtain ⟨bb, o, ea, hb, c0, c1, c2⟩ := (h.ins x hx).1 i hi
  have hG := (h.ins x hx).2 bb o (fun e => by rw [e] at hi; simp at hi) ea
  exact ⟨bb, o, ea, ht bb hG, (World.cell?_of_block (a := ⟨bb, o + i * 2, none⟩) (e bb hG)).trans c0, (World.cell?_of_block (a := ⟨bb, o + i * 2 + 1, none⟩) (e bb hG)).trans c1, c2⟩
theorem RefL.there (h : RefL w G B M) : ∀ k, G k → k < w.heap.size := by
  obtain ⟨rs, v, h, rfl⟩ := h
  exact h.there
/-- The reference's Add. -/
theorem ref_add (h : RefL w G B M) (hg : GoodL 24 M) (p : Int) (x : UInt64) (d : DeedD) (a : Option Addr) (cap : Nat) (hc : d.ins.length ≤ cap) (hi : InsAt w a d.ins) (s : Bool) (r : Int) (M' : List LinkD) (hr : addC M p x d = ((s, r), M')) :
    Calls Try.prog 34 #[.pointer (some ⟨B, 0, none⟩), .int .i64 p, .int .u64 x.toNat, .agg #[.slice a d.ins.length cap, .int .i64 d.outs, .int .i64 d.weight, .int .i64 d.fee]] w fun e w' =>
      e = .returned (.tuple #[.bool s, .int .i64 r]) ∧ ∃ G', RefL w' G' B M' ∧ Turn G G' w w' := by
  unfold addC at hr
  obtain ⟨rs, v, h, rfl⟩ := h
  have hl : rs.length ≤ 24 := by have := hg.len; rw [lOf_len] at this; exact this
  by_cases hp : goodP p
  · rw [if_neg (not_not_intro hp)] at hr
    obtain ⟨n, rfl, hn, hnn⟩ := peer_nat hp
    rw [hnn] at hr
    by_cases hd : checkD d = 0
    · rw [if_neg (not_not_intro hd)] at hr
      by_cases ht : ∃ l ∈ lOf rs, l.peer = n ∧ l.id = x
      · rw [if_pos (any_twice.2 ht)] at hr
        cases hr
        refine (refAdd_twice n hn x d hd ht a cap hc w hi h (by omega)).mono ?_
        rintro e w' ⟨rfl, hb⟩
        exact ⟨rfl, G, ⟨rs, v, h.kept hb, rfl⟩, Turn.of_below hb⟩
      · rw [if_neg (fun hh => ht (any_twice.1 hh))] at hr
        cases hr
        exact refAdd_new n hn x d hd ht a cap hc w hi h hg
    · rw [if_pos hd] at hr
      cases hr
      refine (refAdd_check (B := B) n hn x d _ rfl hd a cap hc w hi).mono ?_
      rintro e w' ⟨rfl, hb⟩
      exact ⟨rfl, G, ⟨rs, v, h.kept hb, rfl⟩, Turn.of_below hb⟩
  · rw [if_pos hp] at hr
    cases hr
    refine (refAdd_arg (B := B) p hp x d a cap w).mono ?_
    rintro e w' ⟨rfl, hb⟩
    exact ⟨rfl, G, ⟨rs, v, h.kept hb, rfl⟩, Turn.of_below hb⟩
end
theorem ids_of {w : World} {C : Nat} {l : List UInt64} {a : Option Addr} {cap : Nat} (h : OwnIds w C (.slice a l.length cap) l) : IdsAt w a l := by
  obtain ⟨a', c', e, _, hi, _⟩ := owns_idsAt h
  simp only [Value.slice.injEq] at e
  rw [e.1]
  exact hi
/-- A pool with the links L and the reference's with the links M, both made since the world w0; they share nothing, and the blocks Z lie beside them. -/
def PairH (w0 w : World) (Z : Nat → Prop) (R B : Nat) (L M : List LinkD) : Prop :=
  ∃ G : Nat → Prop, Held w0 w (fun k => Z k ∨ G k) R L ∧ RefL w G B M ∧ GoodL 24 M ∧ (∀ k, G k → w0.heap.size ≤ k) ∧ ∀ k, Z k → ¬ G k
section
variable {w0 w w' : World} {Z : Nat → Prop} {R B : Nat} {L M : List LinkD}
theorem PairH.below (h : PairH w0 w Z R B L M) : Below w0.heap.size w0 w := by
  obtain ⟨G, h1, _⟩ := h
  exact h1.below
theorem PairH.there (h : PairH w0 w Z R B L M) : There w Z := by
  obtain ⟨G, h1, _⟩ := h
  exact fun k hk => h1.there k (.inl hk)
theorem PairH.len (h : PairH w0 w Z R B L M) : M.length ≤ 24 := by
  obtain ⟨G, h1, h2, h3, _⟩ := h
  exact h3.len
theorem PairH.kept (h : PairH w0 w Z R B L M) (hb : Below w.heap.size w w') : PairH w0 w' Z R B L M := by
  obtain ⟨G, h1, h2, h3, h4, h5⟩ := h
  exact ⟨G, h1.kept hb, h2.kept hb, h3, h4, h5⟩
theorem PairH.less (h : PairH w0 w Z R B L M) {Z' : Nat → Prop} (hz : ∀ k, Z' k → Z k) : PairH w0 w Z' R B L M := by
  obtain ⟨G, h1, h2, h3, h4, h5⟩ := h
  exact ⟨G, h1.less (fun k hk => hk.imp (hz k) id), h2, h3, h4, fun k hk => h5 k (hz k hk)⟩
/-- One block more beside them. -/
theorem PairH.beside (h : PairH w0 w Z R B L M) (o : Obj) : PairH w0 (w.alloc o) (fun k => Z k ∨ k = w.heap.size) R B L M := by
  obtain ⟨G, h1, h2, h3, h4, h5⟩ := h
  refine ⟨G, (h1.new o).less (fun k hk => ?_), h2.kept (kept_new w o), h3, h4, fun k hk hG => ?_⟩
  · rcases hk with (hk | hk) | hk
    · exact .inl (.inl hk)
    · exact .inr hk
    · exact .inl (.inr hk)
  · rcases hk with hk | hk
    · exact h5 k hk hG
    · have := h2.there k hG
      omega
/-- The pool has turned. -/
theorem PairH.left {G : Nat → Prop} {L' : List LinkD} (h1 : Held w0 w' (fun k => Z k ∨ G k) R L') (hs : SameZ (fun k => Z k ∨ G k) w w') (h2 : RefL w G B M) (h3 : GoodL 24 M) (h4 : ∀ k, G k → w0.heap.size ≤ k) (h5 : ∀ k, Z k → ¬ G k) : PairH w0 w' Z R B L' M ∧ SameZ Z w w' :=
  ⟨⟨G, h1, h2.still (fun k hk => hs k (.inr hk)) (fun k hk => h1.there k (.inr hk)), h3, h4, h5⟩, fun k hk => hs k (.inl hk)⟩
/-- The reference's has turned. -/
theorem PairH.right {G G' : Nat → Prop} {M' : List LinkD} (h1 : Held w0 w (fun k => Z k ∨ G k) R L) (h4 : ∀ k, G k → w0.heap.size ≤ k) (h5 : ∀ k, Z k → ¬ G k) (h2 : RefL w' G' B M') (ht : Turn G G' w w') (h3 : GoodL 24 M') : PairH w0 w' Z R B L M' ∧ SameZ Z w w' := by
  have hZ : ∀ k, Z k → ¬ G' k := fun k hk hG => by
    rcases ht.own k hG with hG | hG
    · exact h5 k hk hG
    · have := h1.there k (.inl hk)
      omega
  refine ⟨⟨G', ⟨h1.below.trans (ht.below h4 h1.below.size), ?_, h1.good, fun k hk => ?_⟩, h2, h3, ht.above h4 h1.below.size, hZ⟩, fun k hk => ht.block k (h1.there k (.inl hk)) (h5 k hk)⟩
  · obtain ⟨F, q1, q2, b, ev, v, q3⟩ := h1.home
    refine ⟨F, q1, fun k hF hk => ?_, b, ev, v, q3.turn ht (fun k hF hG => q2 k hF (.inr hG)) (fun i hi => by cases hi)⟩
    rcases hk with hk | hk
    · exact q2 k hF (.inl hk)
    · rcases ht.own k hk with hG | hG
      · exact q2 k hF (.inr hG)
      · have := q3.there k hF
        omega
  · rcases hk with hk | hk
    · exact Nat.lt_of_lt_of_le (h1.there k (.inl hk)) ht.size
    · exact h2.there k hk
end
section
variable (w0 : World) (Z : Nat → Prop) (R B : Nat) (L M : List LinkD) (w : World) (h : PairH w0 w Z R B L M)
include h
theorem pairH_add (p : Int) (x : UInt64) (d : DeedD) (a : Option Addr) (cap : Nat) (hi : InsAt w0 a d.ins) (s : Bool) (r : Int) (L' : List LinkD) (hr : addC L p x d = ((s, r), L')) :
    Calls Try.prog 28 #[.pointer (some ⟨R, 0, none⟩), .int .i64 p, .int .u64 x.toNat, .agg #[.slice a d.ins.length cap, .int .i64 d.outs, .int .i64 d.weight, .int .i64 d.fee]] w fun e w' =>
      e = .returned (.tuple #[.bool s, .int .i64 r]) ∧ PairH w0 w' Z R B L' M ∧ SameZ Z w w' := by
  obtain ⟨G, h1, h2, h3, h4, h5⟩ := h
  refine Calls.mono (hd_add_is w0 _ R L w h1 p x d a cap hi s r L' hr) ?_
  rintro e w' ⟨rfl, q1, q2⟩
  exact ⟨rfl, PairH.left q1 q2 h2 h3 h4 h5⟩
theorem pairH_remove (x : UInt64) (r : Bool) (hr : (deedOf L x).isSome = r) :
    Calls Try.prog 31 #[.pointer (some ⟨R, 0, none⟩), .int .u64 x.toNat] w fun e w' => e = .returned (.bool r) ∧ PairH w0 w' Z R B (removeL L x) M ∧ SameZ Z w w' := by
  obtain ⟨G, h1, h2, h3, h4, h5⟩ := h
  refine Calls.mono (hd_remove w0 _ R L w h1 x r hr) ?_
  rintro e w' ⟨rfl, q1, q2⟩
  exact ⟨rfl, PairH.left q1 q2 h2 h3 h4 h5⟩
theorem pairH_drop (p : Int) (r : Int) (L' : List LinkD) (hr : dropC L p = (r, L')) :
    Calls Try.prog 20 #[.pointer (some ⟨R, 0, none⟩), .int .i64 p] w fun e w' => e = .returned (.int .i64 r) ∧ PairH w0 w' Z R B L' M ∧ SameZ Z w w' := by
  obtain ⟨G, h1, h2, h3, h4, h5⟩ := h
  refine Calls.mono (hd_drop w0 _ R L w h1 p r L' hr) ?_
  rintro e w' ⟨rfl, q1, q2⟩
  exact ⟨rfl, PairH.left q1 q2 h2 h3 h4 h5⟩
theorem pairH_refadd (p : Int) (x : UInt64) (d : DeedD) (a : Option Addr) (cap : Nat) (hc : d.ins.length ≤ cap) (hi : InsAt w0 a d.ins) (s : Bool) (r : Int) (M' : List LinkD) (hr : addC M p x d = ((s, r), M')) :
    Calls Try.prog 34 #[.pointer (some ⟨B, 0, none⟩), .int .i64 p, .int .u64 x.toNat, .agg #[.slice a d.ins.length cap, .int .i64 d.outs, .int .i64 d.weight, .int .i64 d.fee]] w fun e w' =>
      e = .returned (.tuple #[.bool s, .int .i64 r]) ∧ PairH w0 w' Z R B L M' ∧ SameZ Z w w' := by
  obtain ⟨G, h1, h2, h3, h4, h5⟩ := h
  have hgd := addC_good h3 p x d
  rw [hr] at hgd
  refine (ref_add h2 h3 p x d a cap hc (insAt_kept h1.below hi) s r M' hr).mono ?_
  rintro e w' ⟨rfl, G', q1, q2⟩
  exact ⟨rfl, PairH.right h1 h4 h5 q1 q2 hgd⟩
theorem pairH_refremove (x : UInt64) (r : Bool) (hr : (deedOf M x).isSome = r) :
    Calls Try.prog 35 #[.pointer (some ⟨B, 0, none⟩), .int .u64 x.toNat] w fun e w' => e = .returned (.bool r) ∧ PairH w0 w' Z R B L (removeL M x) ∧ SameZ Z w w' := by
  obtain ⟨G, h1, ⟨rs, v, h2, rfl⟩, h3, h4, h5⟩ := h
  refine (refRemove_is x r w h2 (by have := h3.len; rw [lOf_len] at this; omega) hr).mono ?_
  rintro e w' ⟨rfl, G', q1, q2⟩
  exact ⟨rfl, PairH.right h1 h4 h5 q1 q2 (h3.sub List.filter_sublist)⟩
theorem pairH_refdrop (p : Int) (r : Int) (M' : List LinkD) (hr : dropC M p = (r, M')) :
    Calls Try.prog 36 #[.pointer (some ⟨B, 0, none⟩), .int .i64 p] w fun e w' => e = .returned (.int .i64 r) ∧ PairH w0 w' Z R B L M' ∧ SameZ Z w w' := by
  obtain ⟨G, h1, ⟨rs, v, h2, rfl⟩, h3, h4, h5⟩ := h
  have hgd := dropC_good h3 p
  rw [hr] at hgd
  unfold dropC at hr
  by_cases hp : goodP p
  · rw [if_pos hp] at hr
    cases hr
    obtain ⟨n, rfl, hn, hnn⟩ := peer_nat hp
    rw [hnn] at hgd ⊢
    refine (refDrop_yes n hn w h2 (by have := h3.len; rw [lOf_len] at this; omega)).mono ?_
    rintro e w' ⟨rfl, G', q1, q2⟩
    exact ⟨rfl, PairH.right h1 h4 h5 q1 q2 hgd⟩
  · rw [if_neg hp] at hr
    cases hr
    refine (refDrop_no (B := B) p hp w).mono ?_
    rintro e w' ⟨rfl, hb⟩
    exact ⟨rfl, PairH.right h1 h4 h5 ⟨rs, v, h2.kept hb, rfl⟩ (Turn.of_below hb) h3⟩
theorem pairH_has (x : UInt64) (r : Bool) (hr : (deedOf L x).isSome = r) :
    Calls Try.prog 16 #[.pointer (some ⟨R, 0, none⟩), .int .u64 x.toNat] w fun e w' => e = .returned (.bool r) ∧ Below w.heap.size w w' := by
  obtain ⟨G, h1, _⟩ := h
  exact hd_has w0 _ R L w h1 x r hr
theorem pairH_refhas (x : UInt64) (r : Bool) (hr : (deedOf M x).isSome = r) :
    Calls Try.prog 17 #[.pointer (some ⟨B, 0, none⟩), .int .u64 x.toNat] w fun e w' => e = .returned (.bool r) ∧ Below w.heap.size w w' := by
  obtain ⟨G, h1, ⟨rs, v, h2, rfl⟩, h3, h4, h5⟩ := h
  exact refHas_is x r w h2 (by have := h3.len; rw [lOf_len] at this; omega) hr
theorem pairH_all (l : List UInt64) (hl : allL L = l) : Calls Try.prog 14 #[.pointer (some ⟨R, 0, none⟩)] w fun e w' => ∃ a cap, e = .returned (.slice a l.length cap) ∧ IdsAt w' a l ∧ Below w.heap.size w w' := by
  obtain ⟨G, h1, _⟩ := h
  subst hl
  refine (hd_all w0 _ R L w h1).mono ?_
  rintro e w' ⟨a, cap, rfl, ho, hb⟩
  exact ⟨a, cap, rfl, ids_of ho, hb⟩
theorem pairH_refall (l : List UInt64) (hl : allL M = l) : Calls Try.prog 15 #[.pointer (some ⟨B, 0, none⟩)] w (GaveIds w l) := by
  obtain ⟨G, h1, ⟨rs, v, h2, rfl⟩, h3, h4, h5⟩ := h
  subst hl
  exact refAll_any w h2 (by have := h3.len; rw [lOf_len] at this; omega)
theorem pairH_usage (p : Int) (x y r : Int) (hr : usageC L p = (x, y, r)) :
    Calls Try.prog 18 #[.pointer (some ⟨R, 0, none⟩), .int .i64 p] w fun e w' => e = .returned (.tuple #[.int .i64 x, .int .i64 y, .int .i64 r]) ∧ Below w.heap.size w w' := by
  obtain ⟨G, h1, _⟩ := h
  exact hd_usage w0 _ R L w h1 p x y r hr
theorem pairH_refusage (p : Int) (x y r : Int) (hr : usageC M p = (x, y, r)) :
    Calls Try.prog 19 #[.pointer (some ⟨B, 0, none⟩), .int .i64 p] w fun e w' => e = .returned (.tuple #[.int .i64 x, .int .i64 y, .int .i64 r]) ∧ Below w.heap.size w w' := by
  obtain ⟨G, h1, ⟨rs, v, h2, rfl⟩, h3, h4, h5⟩ := h
  unfold usageC at hr
  by_cases hp : goodP p
  · rw [if_pos hp] at hr
    obtain ⟨n, rfl, hn, hnn⟩ := peer_nat hp
    rw [hnn] at hr
    simp only [Prod.mk.injEq] at hr
    obtain ⟨rfl, rfl, rfl⟩ := hr
    exact refUsage_yes n hn w h2 (by have := h3.len; rw [lOf_len] at this; omega) h3
  · rw [if_neg hp] at hr
    simp only [Prod.mk.injEq] at hr
    obtain ⟨rfl, rfl, rfl⟩ := hr
    refine (refUsage_no (B := B) p hp w).mono ?_
    rintro e w' ⟨rfl, rfl⟩
    exact ⟨rfl, Below.refl _ _⟩
theorem pairH_deed (x : UInt64) : Calls Try.prog 21 #[.pointer (some ⟨R, 0, none⟩), .int .u64 x.toNat] w (DeedAns w (deedOf L x)) := by
  obtain ⟨G, h1, _⟩ := h
  exact hd_deed w0 _ R L w h1 x
theorem pairH_refdeed (x : UInt64) : Calls Try.prog 22 #[.pointer (some ⟨B, 0, none⟩), .int .u64 x.toNat] w (DeedAns2 w (deedOf M x)) := by
  obtain ⟨G, h1, ⟨rs, v, h2, rfl⟩, h3, h4, h5⟩ := h
  exact refDeed_any x w h2 (by have := h3.len; rw [lOf_len] at this; omega)
theorem pairH_children (x : UInt64) (l : List UInt64) (hl : childL L x = l) : Calls Try.prog 24 #[.pointer (some ⟨R, 0, none⟩), .int .u64 x.toNat] w fun e w' => ∃ a cap, e = .returned (.slice a l.length cap) ∧ IdsAt w' a l ∧ Below w.heap.size w w' := by
  obtain ⟨G, h1, _⟩ := h
  subst hl
  refine (hd_children w0 _ R L w h1 x).mono ?_
  rintro e w' ⟨a, cap, rfl, ho, hb⟩
  exact ⟨a, cap, rfl, ids_of ho, hb⟩
end
/-- Both are new. -/
theorem pairH_made {w0 w : World} {R : Nat} (h : Held w0 w noZ R []) : PairH w0 (w.alloc (.cells #[.slice none 0 0] 28)) noZ R w.heap.size [] [] := by
  refine ⟨fun k => k = w.heap.size, h.new _, ⟨[], .slice none 0 0, ⟨by show (w.heap.push _)[w.heap.size]? = _; rw [Array.getElem?_push_size], World.ownsRow_nil _ _ _ _, fun e he => (List.not_mem_nil he).elim, rfl, fun k hk => by simp [Value.ownBlock] at hk, fun k hk => by rw [hk]; simp⟩, rfl⟩, h.good, fun k hk => by rw [hk]; exact h.below.size, fun _ hz => hz.elim⟩
/-- The laws' last question. -/
theorem pairH_last (w0 : World) (Z : Nat → Prop) (R B : Nat) (L M : List LinkD) (w : World) (h : PairH w0 w Z R B L M) : Calls Try.prog 20 #[.pointer (some ⟨R, 0, none⟩), .int .i64 (-1)] w fun e w' => e = .returned (.int .i64 1) ∧ Below w0.heap.size w0 w' := by
  have ha : dropC L (-1) = (1, L) := by
    unfold dropC
    rw [if_neg (fun h => absurd h.1 (by omega))]
  refine (pairH_drop w0 Z R B L M w h (-1) 1 L ha).mono ?_
  rintro e w2 ⟨rfl, h2, _⟩
  exact ⟨rfl, h2.below⟩
end Go.Proofs.Ytodhkphjlcjdoaa
