/-
  The contracts of package track, said of the list of entries; and of a tracker that a law has made.
-/
import Derived.Test.YtamiddnkgjfdhaaTrackL3
namespace Go.Proofs.Ytamiddnkgjfdhaa
open Go.RowKit Go.Maps

/-- Block R is a tracker with these entries. -/
def TL (w : World) (F : Nat → Prop) (R : Nat) (salt : UInt64) (L : List TEnt) : Prop := Good L ∧ TrackIn w F R (ofL salt L)
theorem TrackIn.as {w : World} {F : Nat → Prop} {R : Nat} {s t : TS} (h : TrackIn w F R s) (he : s.Eqv t) : TrackIn w F R t := by
  obtain ⟨b, ev, pv, h⟩ := h
  exact ⟨b, ev, pv, h.as he.1 he.2.1 he.2.2⟩
theorem TL.kept {w w' : World} {F : Nat → Prop} {R : Nat} {salt : UInt64} {L : List TEnt} (h : TL w F R salt L) (hb : Below w.heap.size w w') : TL w' F R salt L := by
  obtain ⟨hg, b, ev, pv, h⟩ := h
  exact ⟨hg, b, ev, pv, h.kept hb⟩
theorem TL.turn {w w' : World} {F G G' : Nat → Prop} {R : Nat} {salt : UInt64} {L : List TEnt} (h : TL w F R salt L) (ht : Turn G G' w w') (ha : Apart F G) : TL w' F R salt L := by
  obtain ⟨hg, b, ev, pv, h⟩ := h
  exact ⟨hg, b, ev, pv, h.turn ht ha (fun i hi => by cases hi)⟩
theorem TL.there {w : World} {F : Nat → Prop} {R : Nat} {salt : UInt64} {L : List TEnt} (h : TL w F R salt L) : There w F := by
  obtain ⟨_, _, _, _, h⟩ := h
  exact h.there
theorem TL.block {w : World} {F : Nat → Prop} {R : Nat} {salt : UInt64} {L : List TEnt} (h : TL w F R salt L) : F R := by
  obtain ⟨_, _, _, _, h⟩ := h
  exact h.fR
/-- Peers that there are. -/
def goodP (p : Int) : Prop := 0 ≤ p ∧ p < 8
instance (p : Int) : Decidable (goodP p) := inferInstanceAs (Decidable (_ ∧ _))
def annC (L : List TEnt) (p : Int) (x : UInt64) (t : Int) (f : Bool) : Int × List TEnt := if goodP p ∧ goodT t then annL L p.toNat x t f else (1, L)
def askC (L : List TEnt) (p : Int) (x : UInt64) (t : Int) : Int × List TEnt := if goodP p ∧ goodT t then askL L p.toNat x t else (1, L)
def answerC (L : List TEnt) (p : Int) (x : UInt64) : Int × List TEnt := if goodP p then answerL L p.toNat x else (1, L)
def dropC (L : List TEnt) (p : Int) : Int × List TEnt := if goodP p then (0, dropL L p.toNat) else (1, L)
theorem peer_nat {p : Int} (h : goodP p) : ∃ n : Nat, p = n ∧ n < 8 ∧ p.toNat = n := ⟨p.toNat, by have := h.1; omega, by have := h.1; have := h.2; omega, rfl⟩

theorem tl_announce (F : Nat → Prop) (R : Nat) (salt : UInt64) (L : List TEnt) (w : World) (h : TL w F R salt L) (p : Int) (x : UInt64) (t : Int) (f : Bool) : Calls Try.prog 19 #[.pointer (some ⟨R, 0, none⟩), .int .i64 p, .int .u64 x.toNat, .int .i64 t, .bool f] w fun e w' =>
    e = .returned (.int .i64 (annC L p x t f).1) ∧ ∃ F', TL w' F' R salt (annC L p x t f).2 ∧ Turn F F' w w' := by
  obtain ⟨hg, b, ev, pv, h⟩ := h
  unfold annC
  by_cases hc : goodP p ∧ goodT t
  · rw [if_pos hc]
    obtain ⟨n, rfl, hn, hnn⟩ := peer_nat hc.1
    rw [hnn]
    refine (announce_any n hn x t hc.2 f w h (ofL_fine salt hg) (ofL_small salt hg)).mono ?_
    rintro e w' ⟨rfl, F', h1, h2⟩
    obtain ⟨e1, e2⟩ := eqv_ann salt L n x t f
    exact ⟨by rw [e1], F', ⟨good_ann hg hn x t f, h1.as e2⟩, h2⟩
  · rw [if_neg hc]
    refine (announce_arg (R := R) p t ?_ x f w).mono ?_
    · by_cases hp : goodP p
      · exact .inr (fun ht => hc ⟨hp, ht⟩)
      · exact .inl hp
    · rintro e w' ⟨rfl, rfl⟩
      exact ⟨rfl, F, ⟨hg, b, ev, pv, h⟩, Turn.refl _ _⟩
theorem tl_due (F : Nat → Prop) (R : Nat) (salt : UInt64) (L : List TEnt) (w : World) (h : TL w F R salt L) (now : Int) : Calls Try.prog 30 #[.pointer (some ⟨R, 0, none⟩), .int .i64 now] w fun e w' => e = .returned (.tuple #[]) ∧ ∃ F', TL w' F' R salt (dueL now L) ∧ Turn F F' w w' := by
  obtain ⟨hg, b, ev, pv, h⟩ := h
  refine (due_all now w h (ofL_fine salt hg) (ofL_linked salt L)).mono ?_
  rintro e w' ⟨rfl, F', ev', pv', h1, h2⟩
  exact ⟨rfl, F', ⟨good_due hg now, TrackIn.as ⟨b, ev', pv', h1⟩ (eqv_due salt L now)⟩, h2⟩
theorem tl_ask (F : Nat → Prop) (R : Nat) (salt : UInt64) (L : List TEnt) (w : World) (h : TL w F R salt L) (p : Int) (x : UInt64) (t : Int) : Calls Try.prog 26 #[.pointer (some ⟨R, 0, none⟩), .int .i64 p, .int .u64 x.toNat, .int .i64 t] w fun e w' =>
    e = .returned (.int .i64 (askC L p x t).1) ∧ ∃ F', TL w' F' R salt (askC L p x t).2 ∧ Turn F F' w w' := by
  obtain ⟨hg, b, ev, pv, h⟩ := h
  unfold askC
  by_cases hc : goodP p ∧ goodT t
  · rw [if_pos hc]
    obtain ⟨n, rfl, hn, hnn⟩ := peer_nat hc.1
    rw [hnn]
    refine (ask_any n hn x t hc.2 w h (ofL_fine salt hg)).mono ?_
    rintro e w' ⟨rfl, h1, h2⟩
    obtain ⟨e1, e2⟩ := eqv_ask salt hg n x t
    exact ⟨by rw [e1], F, ⟨good_ask hg n x t, TrackIn.as ⟨b, ev, pv, h1⟩ e2⟩, h2⟩
  · rw [if_neg hc]
    refine (ask_arg (R := R) p t ?_ x w).mono ?_
    · by_cases hp : goodP p
      · exact .inr (fun ht => hc ⟨hp, ht⟩)
      · exact .inl hp
    · rintro e w' ⟨rfl, rfl⟩
      exact ⟨rfl, F, ⟨hg, b, ev, pv, h⟩, Turn.refl _ _⟩
theorem tl_answer (F : Nat → Prop) (R : Nat) (salt : UInt64) (L : List TEnt) (w : World) (h : TL w F R salt L) (p : Int) (x : UInt64) : Calls Try.prog 35 #[.pointer (some ⟨R, 0, none⟩), .int .i64 p, .int .u64 x.toNat] w fun e w' =>
    e = .returned (.int .i64 (answerC L p x).1) ∧ ∃ F', TL w' F' R salt (answerC L p x).2 ∧ Turn F F' w w' := by
  obtain ⟨hg, b, ev, pv, h⟩ := h
  unfold answerC
  by_cases hc : goodP p
  · rw [if_pos hc]
    obtain ⟨n, rfl, hn, hnn⟩ := peer_nat hc
    rw [hnn]
    refine (answer_any n hn x w h (ofL_fine salt hg)).mono ?_
    rintro e w' ⟨rfl, F', h1, h2⟩
    obtain ⟨e1, e2⟩ := eqv_answer salt hg n x
    exact ⟨by rw [e1], F', ⟨good_answer hg n x, h1.as e2⟩, h2⟩
  · rw [if_neg hc]
    refine (answer_arg (R := R) p hc x w).mono ?_
    rintro e w' ⟨rfl, rfl⟩
    exact ⟨rfl, F, ⟨hg, b, ev, pv, h⟩, Turn.refl _ _⟩
theorem tl_forget (F : Nat → Prop) (R : Nat) (salt : UInt64) (L : List TEnt) (w : World) (h : TL w F R salt L) (x : UInt64) : Calls Try.prog 27 #[.pointer (some ⟨R, 0, none⟩), .int .u64 x.toNat] w fun e w' => e = .returned (.tuple #[]) ∧ ∃ F', TL w' F' R salt (forgetL L x) ∧ Turn F F' w w' := by
  obtain ⟨hg, b, ev, pv, h⟩ := h
  refine (forget_any x w h (ofL_fine salt hg)).mono ?_
  rintro e w' ⟨rfl, F', pv', n, _, h1, h2, _⟩
  exact ⟨rfl, F', ⟨good_forget hg x, TrackIn.as ⟨b, _, pv', h1⟩ (eqv_forget salt L x)⟩, h2⟩
theorem tl_drop (F : Nat → Prop) (R : Nat) (salt : UInt64) (L : List TEnt) (w : World) (h : TL w F R salt L) (p : Int) : Calls Try.prog 29 #[.pointer (some ⟨R, 0, none⟩), .int .i64 p] w fun e w' => e = .returned (.int .i64 (dropC L p).1) ∧ ∃ F', TL w' F' R salt (dropC L p).2 ∧ Turn F F' w w' := by
  obtain ⟨hg, b, ev, pv, h⟩ := h
  unfold dropC
  by_cases hc : goodP p
  · rw [if_pos hc]
    obtain ⟨n, rfl, hn, hnn⟩ := peer_nat hc
    rw [hnn]
    refine (drop_any n hn w h (ofL_fine salt hg) (ofL_linked salt L) (ofL_small salt hg) (ids_nodup hg.nodup n)).mono ?_
    rintro e w' ⟨rfl, F', h1, h2⟩
    exact ⟨rfl, F', ⟨good_drop hg n, h1.as (eqv_drop salt hg n)⟩, h2⟩
  · rw [if_neg hc]
    refine (drop_arg (R := R) p hc w).mono ?_
    rintro e w' ⟨rfl, hb⟩
    exact ⟨rfl, F, TL.kept ⟨hg, b, ev, pv, h⟩ hb, Turn.of_below hb⟩
theorem tl_counts (F : Nat → Prop) (R : Nat) (salt : UInt64) (L : List TEnt) (w : World) (h : TL w F R salt L) (p n : Int) (m : Int) (k : Int) (hk : (if goodP p then (((L.filter fun e => e.peer == p.toNat).length : Int), ((L.filter fun e => e.peer == p.toNat && e.st == 2).length : Int), (0 : Int)) else (0, 0, 1)) = (n, m, k)) :
    Calls Try.prog 17 #[.pointer (some ⟨R, 0, none⟩), .int .i64 p] w fun e w' => e = .returned (.tuple #[.int .i64 n, .int .i64 m, .int .i64 k]) ∧ Below w.heap.size w w' := by
  obtain ⟨hg, b, ev, pv, h⟩ := h
  by_cases hc : goodP p
  · rw [if_pos hc] at hk
    obtain ⟨q, rfl, hn, hnn⟩ := peer_nat hc
    rw [hnn] at hk
    simp only [Prod.mk.injEq] at hk
    obtain ⟨rfl, rfl, rfl⟩ := hk
    refine (counts_any q hn w h (ofL_fine salt hg)).mono ?_
    rintro e w' ⟨rfl, hb⟩
    refine ⟨?_, hb⟩
    rw [show (ofL salt L).I q = idsOf L q from rfl, ids_length, counts_eq salt hg]
  · rw [if_neg hc] at hk
    simp only [Prod.mk.injEq] at hk
    obtain ⟨rfl, rfl, rfl⟩ := hk
    refine (counts_arg (R := R) p hc w).mono ?_
    rintro e w' ⟨rfl, rfl⟩
    exact ⟨rfl, Below.refl _ _⟩
/-- The IDs that are to be asked for from a peer. -/
theorem tl_next (F : Nat → Prop) (R : Nat) (salt : UInt64) (L : List TEnt) (w : World) (h : TL w F R salt L) (p : Nat) (hp : p < 8) : Calls Try.prog 20 #[.pointer (some ⟨R, 0, none⟩), .int .i64 p] w fun e w' => GaveIds w ((idsOf L p).filter ((ofL salt L).isNext p)) e w' ∧ Below w.heap.size w w' := by
  obtain ⟨hg, b, ev, pv, h⟩ := h
  exact next_any p hp w h (ofL_fine salt hg) (ofL_full salt L)
/-- A tracker that a law has made since the world w0. -/
def Trk (w0 w : World) (R : Nat) (salt : UInt64) (L : List TEnt) : Prop := ∃ F, TL w F R salt L ∧ (∀ k, F k → w0.heap.size ≤ k) ∧ Below w0.heap.size w0 w
theorem Trk.below {w0 w : World} {R : Nat} {salt : UInt64} {L : List TEnt} (h : Trk w0 w R salt L) : Below w0.heap.size w0 w := by
  obtain ⟨_, _, _, h⟩ := h
  exact h
theorem Trk.good {w0 w : World} {R : Nat} {salt : UInt64} {L : List TEnt} (h : Trk w0 w R salt L) : Good L := by
  obtain ⟨_, h, _⟩ := h
  exact h.1
theorem Trk.kept {w0 w w' : World} {R : Nat} {salt : UInt64} {L : List TEnt} (h : Trk w0 w R salt L) (hb : Below w.heap.size w w') : Trk w0 w' R salt L := by
  obtain ⟨F, h1, h2, h3⟩ := h
  exact ⟨F, h1.kept hb, h2, kept_trans h3 hb⟩
theorem Trk.turned {w0 w w' : World} {F F' : Nat → Prop} {R : Nat} {salt : UInt64} {L' : List TEnt} (h2 : ∀ k, F k → w0.heap.size ≤ k) (h3 : Below w0.heap.size w0 w) (h' : TL w' F' R salt L') (ht : Turn F F' w w') : Trk w0 w' R salt L' :=
  ⟨F', h', ht.above h2 h3.size, h3.trans (ht.below h2 h3.size)⟩
theorem trk_new (w0 : World) (salt : UInt64) (w : World) (hb : Below w0.heap.size w0 w) : Calls Try.prog 12 #[.int .u64 salt.toNat] w fun e w' => ∃ R, e = .returned (.pointer (some ⟨R, 0, none⟩)) ∧ Trk w0 w' R salt [] := by
  refine (new_any salt w).mono ?_
  rintro e w' ⟨R, rfl, F, b, ev, pv, h1, h2, h3⟩
  exact ⟨R, rfl, F, ⟨good_nil, TrackIn.as ⟨b, ev, pv, h1⟩ (eqv_nil salt)⟩, fun k hk => Nat.le_trans hb.size (h2 k hk), kept_trans hb h3⟩
theorem trk_announce (w0 : World) (R : Nat) (salt : UInt64) (L : List TEnt) (w : World) (h : Trk w0 w R salt L) (p : Int) (x : UInt64) (t : Int) (f : Bool) (c : Int) (L' : List TEnt) (hc : annC L p x t f = (c, L')) : Calls Try.prog 19 #[.pointer (some ⟨R, 0, none⟩), .int .i64 p, .int .u64 x.toNat, .int .i64 t, .bool f] w fun e w' =>
    e = .returned (.int .i64 c) ∧ Trk w0 w' R salt L' := by
  obtain ⟨F, h1, h2, h3⟩ := h
  refine (tl_announce F R salt L w h1 p x t f).mono ?_
  rw [hc]
  rintro e w' ⟨rfl, F', h4, h5⟩
  exact ⟨rfl, Trk.turned h2 h3 h4 h5⟩
theorem trk_due (w0 : World) (R : Nat) (salt : UInt64) (L : List TEnt) (w : World) (h : Trk w0 w R salt L) (now : Int) : Calls Try.prog 30 #[.pointer (some ⟨R, 0, none⟩), .int .i64 now] w fun e w' => e = .returned (.tuple #[]) ∧ Trk w0 w' R salt (dueL now L) := by
  obtain ⟨F, h1, h2, h3⟩ := h
  refine (tl_due F R salt L w h1 now).mono ?_
  rintro e w' ⟨rfl, F', h4, h5⟩
  exact ⟨rfl, Trk.turned h2 h3 h4 h5⟩
theorem trk_ask (w0 : World) (R : Nat) (salt : UInt64) (L : List TEnt) (w : World) (h : Trk w0 w R salt L) (p : Int) (x : UInt64) (t : Int) (c : Int) (L' : List TEnt) (hc : askC L p x t = (c, L')) : Calls Try.prog 26 #[.pointer (some ⟨R, 0, none⟩), .int .i64 p, .int .u64 x.toNat, .int .i64 t] w fun e w' =>
    e = .returned (.int .i64 c) ∧ Trk w0 w' R salt L' := by
  obtain ⟨F, h1, h2, h3⟩ := h
  refine (tl_ask F R salt L w h1 p x t).mono ?_
  rw [hc]
  rintro e w' ⟨rfl, F', h4, h5⟩
  exact ⟨rfl, Trk.turned h2 h3 h4 h5⟩
theorem trk_answer (w0 : World) (R : Nat) (salt : UInt64) (L : List TEnt) (w : World) (h : Trk w0 w R salt L) (p : Int) (x : UInt64) (c : Int) (L' : List TEnt) (hc : answerC L p x = (c, L')) : Calls Try.prog 35 #[.pointer (some ⟨R, 0, none⟩), .int .i64 p, .int .u64 x.toNat] w fun e w' =>
    e = .returned (.int .i64 c) ∧ Trk w0 w' R salt L' := by
  obtain ⟨F, h1, h2, h3⟩ := h
  refine (tl_answer F R salt L w h1 p x).mono ?_
  rw [hc]
  rintro e w' ⟨rfl, F', h4, h5⟩
  exact ⟨rfl, Trk.turned h2 h3 h4 h5⟩
theorem trk_forget (w0 : World) (R : Nat) (salt : UInt64) (L : List TEnt) (w : World) (h : Trk w0 w R salt L) (x : UInt64) : Calls Try.prog 27 #[.pointer (some ⟨R, 0, none⟩), .int .u64 x.toNat] w fun e w' => e = .returned (.tuple #[]) ∧ Trk w0 w' R salt (forgetL L x) := by
  obtain ⟨F, h1, h2, h3⟩ := h
  refine (tl_forget F R salt L w h1 x).mono ?_
  rintro e w' ⟨rfl, F', h4, h5⟩
  exact ⟨rfl, Trk.turned h2 h3 h4 h5⟩
theorem trk_drop (w0 : World) (R : Nat) (salt : UInt64) (L : List TEnt) (w : World) (h : Trk w0 w R salt L) (p : Int) (c : Int) (L' : List TEnt) (hc : dropC L p = (c, L')) : Calls Try.prog 29 #[.pointer (some ⟨R, 0, none⟩), .int .i64 p] w fun e w' => e = .returned (.int .i64 c) ∧ Trk w0 w' R salt L' := by
  obtain ⟨F, h1, h2, h3⟩ := h
  refine (tl_drop F R salt L w h1 p).mono ?_
  rw [hc]
  rintro e w' ⟨rfl, F', h4, h5⟩
  exact ⟨rfl, Trk.turned h2 h3 h4 h5⟩
theorem trk_counts (w0 : World) (R : Nat) (salt : UInt64) (L : List TEnt) (w : World) (h : Trk w0 w R salt L) (p n m k : Int) (hk : (if goodP p then (((L.filter fun e => e.peer == p.toNat).length : Int), ((L.filter fun e => e.peer == p.toNat && e.st == 2).length : Int), (0 : Int)) else (0, 0, 1)) = (n, m, k)) :
    Calls Try.prog 17 #[.pointer (some ⟨R, 0, none⟩), .int .i64 p] w fun e w' => e = .returned (.tuple #[.int .i64 n, .int .i64 m, .int .i64 k]) ∧ Trk w0 w' R salt L := by
  have hh := h
  obtain ⟨F, h1, h2, h3⟩ := h
  exact (tl_counts F R salt L w h1 p n m k hk).mono fun e w' ⟨he, hb⟩ => ⟨he, hh.kept hb⟩
/-- The slice of IDs that is handed out lies beside the tracker. -/
theorem trk_next (w0 : World) (R : Nat) (salt : UInt64) (L : List TEnt) (w : World) (h : Trk w0 w R salt L) (p : Int) (n : Nat) (hpn : p = n) (hp : n < 8) (l : List UInt64) (hl : (idsOf L n).filter ((ofL salt L).isNext n) = l) : Calls Try.prog 20 #[.pointer (some ⟨R, 0, none⟩), .int .i64 p] w fun e w' =>
    ∃ a cap, e = .returned (.tuple #[.slice a l.length cap, .int .i64 0]) ∧ (l.length ≤ cap ∧ IdsAt w' a l ∧ Fresh w.heap.size a) ∧ Trk w0 w' R salt L := by
  subst hpn
  have hh := h
  obtain ⟨F, h1, h2, h3⟩ := h
  refine (tl_next F R salt L w h1 n hp).mono ?_
  rw [hl]
  rintro e w' ⟨⟨a, cap, rfl, h4, h5, h6⟩, hb⟩
  exact ⟨a, cap, rfl, ⟨h4, h5, h6⟩, hh.kept hb⟩end Go.Proofs.Ytamiddnkgjfdhaa
