/-
  The contracts of package track, said of the list of entries; and of a tracker that a law has made.
  Slices of ints in blocks of their own; slices.Sort of up to twelve of them.
  Contracts of the reference's Has and Eq of ints.
  Slices of ints and of bools among the arguments of a law: what their reading says of memory.
-/
import Derived.Test.YtaaaplbjeknbkaaGreatJ11
import Derived.Test.YtaaaplbjeknbkaaGreatJ2
import Derived.BigGuard
import Derived.BigCall
import Derived.CellFam
import Derived.Deep.Draws
import Derived.Deep.QuietTactic
import Derived.BigQuiet
import Derived.ChangeSlices
import Derived.Lib.SmallJoins
import Derived.Deep.Slices
set_option maxRecDepth 20000
namespace Go.Proofs.YtaaaplbjeknbkaaGreat.Tr
open Go.RowKit Go.Maps

/-- Block R.b is a tracker with these entries. -/
def TL (w : World) (F : Nat → Prop) (R : Loc) (salt : UInt64) (L : List TEnt) : Prop := Good L ∧ TrackIn w F R (ofL salt L)
theorem TrackIn.as {w : World} {F : Nat → Prop} {R : Loc} {s t : TS} (h : TrackIn w F R s) (he : s.Eqv t) : TrackIn w F R t := by
  obtain ⟨b, ev, pv, h⟩ := h
  exact ⟨b, ev, pv, h.as he.1 he.2.1 he.2.2⟩
theorem TL.kept {w w' : World} {F : Nat → Prop} {R : Loc} {salt : UInt64} {L : List TEnt} (h : TL w F R salt L) (hb : Below w.heap.size w w') : TL w' F R salt L := by
  obtain ⟨hg, b, ev, pv, h⟩ := h
  exact ⟨hg, b, ev, pv, h.kept hb⟩
theorem TL.turn {w w' : World} {F G G' : Nat → Prop} {R : Loc} {salt : UInt64} {L : List TEnt} (h : TL w F R salt L) (ht : Turn G G' w w') (ha : Apart F G) : TL w' F R salt L := by
  obtain ⟨hg, b, ev, pv, h⟩ := h
  exact ⟨hg, b, ev, pv, h.turn ht ha (fun i hi => by cases hi)⟩
theorem TL.there {w : World} {F : Nat → Prop} {R : Loc} {salt : UInt64} {L : List TEnt} (h : TL w F R salt L) : There w F := by
  obtain ⟨_, _, _, _, h⟩ := h
  exact h.there
theorem TL.block {w : World} {F : Nat → Prop} {R : Loc} {salt : UInt64} {L : List TEnt} (h : TL w F R salt L) : F R.b := by
  obtain ⟨_, _, _, _, h⟩ := h
  exact h.fR
/-- Peers that there are. -/
def goodP (p : Int) : Prop := 0 ≤ p ∧ p < 8
instance (p : Int) : Decidable (goodP p) := inferInstanceAs (Decidable (_ ∧ _))
def annC (L : List TEnt) (p : Int) (x : UInt64) (t : Int) (f : Bool) : Int × List TEnt := if goodP p ∧ goodT t then annL L p.toNat x t f else (1, L)
def askC (L : List TEnt) (p : Int) (x : UInt64) (t : Int) : Int × List TEnt := if goodP p ∧ goodT t then askL L p.toNat x t else (1, L)
def answerC (L : List TEnt) (p : Int) (x : UInt64) : Int × List TEnt := if goodP p then answerL L p.toNat x else (1, L)
def dropC (L : List TEnt) (p : Int) : Int × List TEnt := if goodP p then (0, dropL L p.toNat) else (1, L)
theorem peer_nat {p : Int} (h : goodP p) : ∃ n : Nat, p = n ∧ n < 8 ∧ p.toNat = n := ⟨p.toNat, by have := h.1; omega, by have := h.1; have := h.2; omega, rfl⟩

theorem tl_announce (F : Nat → Prop) (R : Loc) (salt : UInt64) (L : List TEnt) (w : World) (h : TL w F R salt L) (p : Int) (x : UInt64) (t : Int) (f : Bool) : Calls Tryz.prog 116 #[.pointer (some ⟨R.b, 17, none⟩), .int .i64 p, .int .u64 x.toNat, .int .i64 t, .bool f] w fun e w' =>
    e = .returned (.int .i64 (annC L p x t f).1) ∧ ∃ F', TL w' F' R salt (annC L p x t f).2 ∧ Turn F F' w w' := by
  obtain ⟨hg, b, ev, pv, h⟩ := h
  unfold annC
  by_cases hc : goodP p ∧ goodT t
  · rw [if_pos hc]
    obtain ⟨n, rfl, hn, hnn⟩ := peer_nat hc.1
    rw [hnn]
    refine (announce_any n hn x t hc.2 f w h (ofL_fine salt hg) (ofL_small salt hg)).mono ?_
    rintro e w' ⟨rfl, F', h1, h2⟩
    obtain ⟨e1, e2⟩ := eqv_ann salt L n x t f
    exact ⟨by rw [e1], F', ⟨good_ann hg hn x t f, h1.as e2⟩, h2⟩
  · rw [if_neg hc]
    refine (announce_arg (R := R) p t ?_ x f w).mono ?_
    · by_cases hp : goodP p
      · exact .inr (fun ht => hc ⟨hp, ht⟩)
      · exact .inl hp
    · rintro e w' ⟨rfl, rfl⟩
      exact ⟨rfl, F, ⟨hg, b, ev, pv, h⟩, Turn.refl _ _⟩
theorem tl_due (F : Nat → Prop) (R : Loc) (salt : UInt64) (L : List TEnt) (w : World) (h : TL w F R salt L) (now : Int) : Calls Tryz.prog 81 #[.pointer (some ⟨R.b, 17, none⟩), .int .i64 now] w fun e w' => e = .returned (.tuple #[]) ∧ ∃ F', TL w' F' R salt (dueL now L) ∧ Turn F F' w w' := by
  obtain ⟨hg, b, ev, pv, h⟩ := h
  refine (due_all now w h (ofL_fine salt hg) (ofL_linked salt L)).mono ?_
  rintro e w' ⟨rfl, F', ev', pv', h1, h2⟩
  exact ⟨rfl, F', ⟨good_due hg now, TrackIn.as ⟨b, ev', pv', h1⟩ (eqv_due salt L now)⟩, h2⟩
theorem tl_ask (F : Nat → Prop) (R : Loc) (salt : UInt64) (L : List TEnt) (w : World) (h : TL w F R salt L) (p : Int) (x : UInt64) (t : Int) : Calls Tryz.prog 126 #[.pointer (some ⟨R.b, 17, none⟩), .int .i64 p, .int .u64 x.toNat, .int .i64 t] w fun e w' =>
    e = .returned (.int .i64 (askC L p x t).1) ∧ ∃ F', TL w' F' R salt (askC L p x t).2 ∧ Turn F F' w w' := by
  obtain ⟨hg, b, ev, pv, h⟩ := h
  unfold askC
  by_cases hc : goodP p ∧ goodT t
  · rw [if_pos hc]
    obtain ⟨n, rfl, hn, hnn⟩ := peer_nat hc.1
    rw [hnn]
    refine (ask_any n hn x t hc.2 w h (ofL_fine salt hg)).mono ?_
    rintro e w' ⟨rfl, h1, h2⟩
    obtain ⟨e1, e2⟩ := eqv_ask salt hg n x t
    exact ⟨by rw [e1], F, ⟨good_ask hg n x t, TrackIn.as ⟨b, ev, pv, h1⟩ e2⟩, h2⟩
  · rw [if_neg hc]
    refine (ask_arg (R := R) p t ?_ x w).mono ?_
    · by_cases hp : goodP p
      · exact .inr (fun ht => hc ⟨hp, ht⟩)
      · exact .inl hp
    · rintro e w' ⟨rfl, rfl⟩
      exact ⟨rfl, F, ⟨hg, b, ev, pv, h⟩, Turn.refl _ _⟩
theorem tl_answer (F : Nat → Prop) (R : Loc) (salt : UInt64) (L : List TEnt) (w : World) (h : TL w F R salt L) (p : Int) (x : UInt64) : Calls Tryz.prog 78 #[.pointer (some ⟨R.b, 17, none⟩), .int .i64 p, .int .u64 x.toNat] w fun e w' =>
    e = .returned (.int .i64 (answerC L p x).1) ∧ ∃ F', TL w' F' R salt (answerC L p x).2 ∧ Turn F F' w w' := by
  obtain ⟨hg, b, ev, pv, h⟩ := h
  unfold answerC
  by_cases hc : goodP p
  · rw [if_pos hc]
    obtain ⟨n, rfl, hn, hnn⟩ := peer_nat hc
    rw [hnn]
    refine (answer_any n hn x w h (ofL_fine salt hg)).mono ?_
    rintro e w' ⟨rfl, F', h1, h2⟩
    obtain ⟨e1, e2⟩ := eqv_answer salt hg n x
    exact ⟨by rw [e1], F', ⟨good_answer hg n x, h1.as e2⟩, h2⟩
  · rw [if_neg hc]
    refine (answer_arg (R := R) p hc x w).mono ?_
    rintro e w' ⟨rfl, rfl⟩
    exact ⟨rfl, F, ⟨hg, b, ev, pv, h⟩, Turn.refl _ _⟩
theorem tl_forget (F : Nat → Prop) (R : Loc) (salt : UInt64) (L : List TEnt) (w : World) (h : TL w F R salt L) (x : UInt64) : Calls Tryz.prog 148 #[.pointer (some ⟨R.b, 17, none⟩), .int .u64 x.toNat] w fun e w' => e = .returned (.tuple #[]) ∧ ∃ F', TL w' F' R salt (forgetL L x) ∧ Turn F F' w w' := by
  obtain ⟨hg, b, ev, pv, h⟩ := h
  refine (forget_any x w h (ofL_fine salt hg)).mono ?_
  rintro e w' ⟨rfl, F', pv', n, _, h1, h2, _⟩
  exact ⟨rfl, F', ⟨good_forget hg x, TrackIn.as ⟨b, _, pv', h1⟩ (eqv_forget salt L x)⟩, h2⟩
theorem tl_drop (F : Nat → Prop) (R : Loc) (salt : UInt64) (L : List TEnt) (w : World) (h : TL w F R salt L) (p : Int) : Calls Tryz.prog 86 #[.pointer (some ⟨R.b, 17, none⟩), .int .i64 p] w fun e w' => e = .returned (.int .i64 (dropC L p).1) ∧ ∃ F', TL w' F' R salt (dropC L p).2 ∧ Turn F F' w w' := by
  obtain ⟨hg, b, ev, pv, h⟩ := h
  unfold dropC
  by_cases hc : goodP p
  · rw [if_pos hc]
    obtain ⟨n, rfl, hn, hnn⟩ := peer_nat hc
    rw [hnn]
    refine (drop_any n hn w h (ofL_fine salt hg) (ofL_linked salt L) (ofL_small salt hg) (ids_nodup hg.nodup n)).mono ?_
    rintro e w' ⟨rfl, F', h1, h2⟩
    exact ⟨rfl, F', ⟨good_drop hg n, h1.as (eqv_drop salt hg n)⟩, h2⟩
  · rw [if_neg hc]
    refine (drop_arg (R := R) p hc w).mono ?_
    rintro e w' ⟨rfl, hb⟩
    exact ⟨rfl, F, TL.kept ⟨hg, b, ev, pv, h⟩ hb, Turn.of_below hb⟩
theorem tl_counts (F : Nat → Prop) (R : Loc) (salt : UInt64) (L : List TEnt) (w : World) (h : TL w F R salt L) (p n : Int) (m : Int) (k : Int) (hk : (if goodP p then (((L.filter fun e => e.peer == p.toNat).length : Int), ((L.filter fun e => e.peer == p.toNat && e.st == 2).length : Int), (0 : Int)) else (0, 0, 1)) = (n, m, k)) :
    Calls Tryz.prog 60 #[.pointer (some ⟨R.b, 17, none⟩), .int .i64 p] w fun e w' => e = .returned (.tuple #[.int .i64 n, .int .i64 m, .int .i64 k]) ∧ Below w.heap.size w w' := by
  obtain ⟨hg, b, ev, pv, h⟩ := h
  by_cases hc : goodP p
  · rw [if_pos hc] at hk
    obtain ⟨q, rfl, hn, hnn⟩ := peer_nat hc
    rw [hnn] at hk
    simp only [Prod.mk.injEq] at hk
    obtain ⟨rfl, rfl, rfl⟩ := hk
    refine (counts_any q hn w h (ofL_fine salt hg)).mono ?_
    rintro e w' ⟨rfl, hb⟩
    refine ⟨?_, hb⟩
    rw [show (ofL salt L).I q = idsOf L q from rfl, ids_length, counts_eq salt hg]
  · rw [if_neg hc] at hk
    simp only [Prod.mk.injEq] at hk
    obtain ⟨rfl, rfl, rfl⟩ := hk
    refine (counts_arg (R := R) p hc w).mono ?_
    rintro e w' ⟨rfl, rfl⟩
    exact ⟨rfl, Below.refl _ _⟩
/-- The IDs that are to be asked for from a peer. -/
theorem tl_next (F : Nat → Prop) (R : Loc) (salt : UInt64) (L : List TEnt) (w : World) (h : TL w F R salt L) (p : Nat) (hp : p < 8) : Calls Tryz.prog 125 #[.pointer (some ⟨R.b, 17, none⟩), .int .i64 p] w fun e w' => GaveIds w ((idsOf L p).filter ((ofL salt L).isNext p)) e w' ∧ Below w.heap.size w w' := by
  obtain ⟨hg, b, ev, pv, h⟩ := h
  exact next_any p hp w h (ofL_fine salt hg) (ofL_full salt L)
end Go.Proofs.YtaaaplbjeknbkaaGreat.Tr
namespace Go.Proofs.YtaaaplbjeknbkaaGreat.Tr
open Go.RowKit

def intV (n : Int) : Value := .int .i64 n
/-- The memory behind a slice's address holds these ints. -/
def IntsAt (w : World) (a : Option Addr) (l : List Int) : Prop :=
  ∀ i (h : i < l.length), ∃ b o, a = some ⟨b, o, none⟩ ∧ b < w.heap.size ∧ w.cell? ⟨b, o + i, none⟩ = some (.int .i64 l[i])
theorem intsAt_kept {a b : World} {x : Option Addr} {l : List Int} (h : Below a.heap.size a b) (hi : IntsAt a x l) : IntsAt b x l := fun i hl => by
  obtain ⟨bb, o, e, hb, c0⟩ := hi i hl
  exact ⟨bb, o, e, Nat.lt_of_lt_of_le hb h.size, kept_cell h c0⟩
theorem intsAt_nil (w : World) (a : Option Addr) : IntsAt w a [] := fun i hi => absurd hi (by simp)
/-- The slice v holds these ints, in a block of its own from block B on. -/
abbrev OwnInts (w : World) (B : Nat) (v : Value) (d : List Int) : Prop := w.ownsRow B 3 1 v d.length (d.map intV)
theorem ownInts_nil (w : World) (B : Nat) : OwnInts w B (.slice none 0 0) [] := World.ownsRow_nil w B _ 1
theorem ownInts_at {w : World} {B : Nat} {v : Value} {l : List Int} (h : OwnInts w B v l) : ∃ a cap, v = .slice a l.length cap ∧ l.length ≤ cap ∧ IntsAt w a l ∧ Fresh B a := by
  rcases h.2 with ⟨hv, hn⟩ | ⟨g, cap, cur, hv, hB, hg, hc, _, _, _⟩
  · exact ⟨none, 0, by rw [hn]; exact hv, by omega, fun i hi => absurd hi (by omega), fun _ _ _ e => by cases e⟩
  · refine ⟨some ⟨g, 0, none⟩, cap, hv, hc, fun i hi => ?_, fun b o sp e => by cases e; exact hB⟩
    have a0 := h.cells (g := g) (by rw [hv]; rfl) i (intV l[i]) (by rw [List.getElem?_map, List.getElem?_eq_getElem hi]; rfl)
    have f0 : (⟨g, 0, none⟩ : Addr).add i = ⟨g, 0 + i, none⟩ := by unfold Addr.add; split <;> simp_all
    rw [f0] at a0
    exact ⟨g, 0, rfl, (Array.getElem?_eq_some_iff.1 hg).1, a0⟩
theorem own_same' {w w' : World} {B : Nat} {e : TypeId} {size n : Nat} {v : Value} {xs : List Value} (h : w.ownsRow B e size v n xs) (hs : ∀ g, v.ownBlock = some g → w'.heap[g]? = w.heap[g]?) : w'.ownsRow B e size v n xs := ⟨h.1, h.2.imp id fun ⟨g, cap, cur, hv, hb, hh, r⟩ => ⟨g, cap, cur, hv, hb, (hs g (by rw [hv]; rfl)).trans hh, r⟩⟩
theorem ownInts_block {w : World} {B : Nat} {v : Value} {d : List Int} (h : OwnInts w B v d) : ∀ k, v.ownBlock = some k → B ≤ k ∧ k < w.heap.size := fun k hk => h.lt k hk
theorem info_int : (Tryz.prog.info? 3).map (fun i => (i.zero, i.size, i.bytes)) = some (some (.int .i64 0), 1, 8) := by kernel_rfl
/-- 'append(s, x)': the new int lies in a block of its own, laid just ahead. -/
theorem append_int {ops : Array Oper} {rest : List Oper} {o : Oper} {a : Act} {Q : Exit → Act → World → Prop} {w : World} (hgd : o.guard = none) (s x : Operand) (ho : o.op = .call { callee := .builtin .append, args := #[s, x], argTypes := #[76, 76] })
    {B : Nat} {v : Value} {d : List Int} (y : Int) (hs : a.eval s = v) (hx : a.eval x = .slice (some ⟨w.heap.size, 0, none⟩) 1 1) (hown : OwnInts w B v d) (hlen : d.length ≤ 1000000) (hB : B ≤ w.heap.size)
    (h : ∀ g cap w', OwnInts w' B (.slice (some ⟨g, 0, none⟩) (d.length + 1) cap) (d ++ [y]) → (w.alloc (.cells #[.int .i64 y] 3)).grownBy w' v.ownBlock → w.grownBy w' v.ownBlock → (v.ownBlock = some g ∨ w.heap.size ≤ g) → wpList Tryz.prog ops Q rest (a.put o.dst (.slice (some ⟨g, 0, none⟩) (d.length + 1) cap)) w') :
    wpList Tryz.prog ops Q (o :: rest) a (w.alloc (.cells #[.int .i64 y] 3)) := by
  obtain ⟨i0, hi0, hz0, hz1, hz2⟩ := info_parts info_int
  refine wpList_append_lies _ hgd s x 76 ho B 3 i0 (.int .i64 0) 1 8 Tryz.underlying76 hi0 hz0 hz1 hz2 rfl (by decide) v d.length (d.map intV) hs (hown.alloc _) ⟨w.heap.size, 0, none⟩ 1 1 [.int .i64 y] hx rfl (cells_new w _ _) (by simp [Value.oneCell']) (by decide) (by unfold maxLen; omega) (by omega) (by simp; omega) _ rfl ?_
  intro g cap w1 hown' hgrow hat _
  refine h g cap w1 ?_ hgrow ((World.grownBy_alloc w _ _).trans hgrow) (hat.imp id (fun e => by rw [e]; simp))
  unfold OwnInts
  rw [List.length_append, List.map_append]
  exact hown'

end Go.Proofs.YtaaaplbjeknbkaaGreat.Tr
namespace Go.Proofs.YtaaaplbjeknbkaaGreat.Tr
open Go.RowKit

theorem intsAt_take {w : World} {a : Option Addr} {l : List Int} (k : Nat) (h : IntsAt w a l) : IntsAt w a (l.take k) := fun i hi => by
  have h1 : i < l.length := by rw [List.length_take] at hi; omega
  rw [List.getElem_take]
  exact h i h1
theorem contains_int {l : List Int} {x : Int} {k : Nat} (h : k < l.length) (e : x = l[k]) : l.contains x = true := by
  rw [List.contains_iff_mem]; rw [e]; exact List.getElem_mem h
theorem take_contains_int {l : List Int} {x : Int} {k : Nat} (h : k < l.length) (n : (l.take k).contains x = false) (e : x ≠ l[k]) : (l.take (k + 1)).contains x = false := by
  rw [List.take_succ_eq_append_getElem h, ← Bool.not_eq_true, List.contains_iff_mem, List.mem_append, not_or]
  refine ⟨by rw [← List.contains_iff_mem, n]; simp, by simpa using e⟩

theorem hasInt_any (l : List Int) (x : Int) (r : Bool) (HR : Hid (l.contains x = r)) (a : Option Addr) (cap : Nat) (w : World) (hl : l.length ≤ maxLen) (hi : IntsAt w a l) :
    Calls Tryz.prog 48 #[.slice a l.length cap, .int .i64 x] w fun e w' => e = .returned (.bool r) ∧ w = w' := by
  unfold maxLen at hl
  go_enter Tryz.func48, Tryz.ntmps48
  go_wp2
  go_loop [9] (fun i => ∃ k : Nat, k ≤ l.length ∧ i = .int .i64 k ∧ Hid ((l.take k).contains x = false)) (fun i => l.length - (intOf i).toNat)
  case atStart => exact ⟨0, Nat.zero_le _, rfl, Lib.hid rfl⟩
  case round =>
    obtain ⟨k, hk, rfl, NO⟩ := hrel
    by_cases hlt : k < l.length
    · obtain ⟨b, o, rfl, hb, hd⟩ := hi k hlt
      by_cases hx : x = l[k]
      · have hxb : (x == l[k]) = true := beq_iff_eq.2 hx
        have HX := Lib.hid hx
        clear hx
        go_wp2
        go_ret
        exact ⟨ret_bool ((contains_int hlt HX.out).symm.trans HR.out), rfl⟩
      · have hxb : (x == l[k]) = false := beq_eq_false_iff_ne.2 hx
        have HX := Lib.hid hx
        clear hx
        go_wp2
        go_round
        case rel => exact ⟨k + 1, by omega, by go_num, Lib.hid (take_contains_int hlt NO.out HX.out)⟩
        case measure => simp [intOf]; omega
    · go_wp2
      go_ret
      refine ⟨ret_bool ?_, rfl⟩
      have := NO.out
      rw [List.take_of_length_le (by omega)] at this
      exact this.symm.trans HR.out
theorem hasInt_take (l : List Int) (k : Nat) (r : Bool) (x : Int) (a : Option Addr) (cap : Nat) (w : World) (hk : k ≤ l.length) (hl : l.length ≤ maxLen) (hi : IntsAt w a l) (h : (l.take k).contains x = r) :
    Calls Tryz.prog 48 #[.slice a k cap, .int .i64 x] w fun e w' => e = .returned (.bool r) ∧ w = w' := by
  have := hasInt_any (l.take k) x r (Lib.hid h) a cap w (by rw [List.length_take]; omega) (intsAt_take k hi)
  rw [List.length_take, Nat.min_eq_left hk] at this
  exact this

end Go.Proofs.YtaaaplbjeknbkaaGreat.Tr
namespace Go.Proofs.YtaaaplbjeknbkaaGreat.Tr
open Go.ChangeShapes Go.WideShapes Go.ChangeAt Go.RowKit Go.Joins Go.Deep

set_option maxRecDepth 100000 in
theorem open_ints_arg {H : Type} {enc : TypeId × Value → H} {w : World} {r : Reach} {b0 : Nat} {v : Value} {d : DataW H} {p : List MemPlace} (hv : Value.okWide Tryz.prog w r b0 76 v) (h : DataW.Trod enc Tryz.prog w 0 (fun _ => true) true 76 v d p) :
    ∃ (a : Option Addr) (cap : Nat) (l : List Int), v = .slice a l.length cap ∧ l.length ≤ cap ∧ l.length ≤ maxLen ∧ IntsAt w a l := by
  obtain ⟨xa, xl, xc, rfl⟩ := okWide_slice Tryz.underlying76 hv
  obtain ⟨n, hf⟩ := h
  rcases open_slice Tryz.underlying76 hf with ⟨hc, _⟩ | ⟨a, len, cap, m, k, D, Pl, hcs, hb, hl, hm, hmm, _, hx⟩
  · simp only [Value.cells, List.cons.injEq, and_true] at hc
    exact ⟨none, 0, [], hc, Nat.le_refl _, Nat.zero_le _, fun i hi => absurd hi (by simp)⟩
  · simp only [Value.cells, List.cons.injEq, and_true] at hcs
    simp only [if_true] at hmm
    subst hmm
    have ce : Tryz.prog.cellsOf 3 = 1 := by kernel_rfl
    have each : ∀ i, i < m → ∃ q : Int, w.cell? (a.add i) = some (.int .i64 q) := by
      intro i hi
      obtain ⟨cs', h1, h2⟩ := hx i hi
      rw [ce, Nat.mul_one] at h1
      obtain ⟨_, hlen, hcell⟩ := World.cells?_some h1
      match cs', hlen with
      | [v0], _ =>
        obtain ⟨u0, e0, _, _⟩ := DataW.trod_int Tryz.underlying3 h2
        simp only [List.cons.injEq, and_true] at e0
        subst e0
        have := hcell 0 (by omega)
        rw [add_add, Nat.add_zero] at this
        exact ⟨u0, this⟩
    obtain ⟨f, hf⟩ := choose_lt each
    refine ⟨some a, m, (List.range len).map f, by simp [hcs], by simpa using hl, by simp; omega, fun i hi => ?_⟩
    have hi' : i < len := by simpa using hi
    have g := hf i (by omega)
    obtain ⟨hs, hb⟩ := cell_spot (hf 0 (by omega))
    have hs : a.spot = none := by simpa [Addr.add] using hs
    have hb : a.block < w.heap.size := by simpa [Addr.add] using hb
    obtain ⟨b, o, sp⟩ := a
    simp only at hs hb
    subst hs
    have e : ∀ k, (⟨b, o, none⟩ : Addr).add k = ⟨b, o + k, none⟩ := fun k => by unfold Addr.add; split <;> simp_all
    rw [e] at g
    refine ⟨b, o, rfl, hb, ?_⟩
    simp only [List.getElem_map, List.getElem_range]
    exact g
/-- The memory behind a slice's address holds these bools. -/
def BoolsAt (w : World) (a : Option Addr) (l : List Bool) : Prop :=
  ∀ i (h : i < l.length), ∃ b o, a = some ⟨b, o, none⟩ ∧ b < w.heap.size ∧ w.cell? ⟨b, o + i, none⟩ = some (.bool l[i])
theorem boolsAt_kept {a b : World} {x : Option Addr} {l : List Bool} (h : Below a.heap.size a b) (hi : BoolsAt a x l) : BoolsAt b x l := fun i hl => by
  obtain ⟨bb, o, e, hb, c0⟩ := hi i hl
  exact ⟨bb, o, e, Nat.lt_of_lt_of_le hb h.size, kept_cell h c0⟩
end Go.Proofs.YtaaaplbjeknbkaaGreat.Tr
