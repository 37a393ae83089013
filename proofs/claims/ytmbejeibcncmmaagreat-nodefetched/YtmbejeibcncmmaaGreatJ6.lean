/-
  Links of a pool: how slices of them lie in memory; functions that choose among them; slices.IndexFunc, ContainsFunc, Index, Contains, DeleteFunc.
  Slices of Ins: how they lie in memory; contracts of the functions that only look them over (the reference's Has, Eq; outside; the program's range check).
  Decoding as plain data: numbers, the errors of the form, the fields; the two ways back. No program is named here.
  The contract of the reference's Rest: the rest of a division, never negative.
  Contract of the reference's outside.
  Contracts of the program's Check and of the reference's DeedCheck: both answer 'checkD'.
  The contract of the reference's DeedCheck.
  What the checks of a deed tell, and their contracts by the answer.
  Ins of a deed in a block of their own; slices.IndexFunc and ContainsFunc of Ins; the pool's spends and clone.
-/
import Derived.Test.YtmbejeibcncmmaaGreatJ5
import Derived.Test.YtmbejeibcncmmaaGreatJ1
import Derived.Deep.QuietTactic
import Derived.BigQuiet
import Derived.Deep.RegionHeld3
import Derived.RegionTactic
import Derived.BigRegion
import Derived.Deep.RegionWith
import Derived.Laws.Bits64b
import Derived.Lib.AppendStr
import Derived.Maps.OwnOps
import Derived.Maps.Own
import Derived.StillTailTactics
namespace Go.Proofs.YtmbejeibcncmmaaGreat.Ho
open Go.RowKit

/-- A link as plain data. -/
structure LD where
  peer : Nat
  id : UInt64
deriving DecidableEq
instance : Inhabited LD := ⟨⟨0, 0⟩⟩
/-- A link as a value. -/
def linkV (e : LD) : Value := .agg #[.int .i64 e.peer, .int .u64 e.id.toNat]
/-- The two cells of a link. -/
def linkC (e : LD) : List Value := [.int .i64 e.peer, .int .u64 e.id.toNat]
def LinkAt (w : World) (b o : Nat) (e : LD) : Prop := w.cell? ⟨b, o, none⟩ = some (.int .i64 e.peer) ∧ w.cell? ⟨b, o + 1, none⟩ = some (.int .u64 e.id.toNat)
/-- The memory behind a slice's address holds these links. -/
def LinksAt (w : World) (a : Option Addr) (l : List LD) : Prop := ∀ i (h : i < l.length), ∃ b o, a = some ⟨b, o, none⟩ ∧ b < w.heap.size ∧ LinkAt w b (o + i * 2) l[i]
theorem linkAt_kept {w w' : World} {b o : Nat} {e : LD} (hb : Below w.heap.size w w') (h : LinkAt w b o e) : LinkAt w' b o e := by
  obtain ⟨c0, c1⟩ := h
  exact ⟨kept_cell hb c0, kept_cell hb c1⟩
theorem linksAt_kept {w w' : World} {a : Option Addr} {l : List LD} (hb : Below w.heap.size w w') (h : LinksAt w a l) : LinksAt w' a l := fun i hi => by
  obtain ⟨b, o, e, hlt, c⟩ := h i hi
  exact ⟨b, o, e, Nat.lt_of_lt_of_le hlt hb.size, linkAt_kept hb c⟩
theorem linksAt_nil (w : World) (a : Option Addr) : LinksAt w a [] := fun i hi => absurd hi (by simp)

/-- A function value that says of a link whether it is chosen, in every world that keeps K. -/
def PicksL (K : World → Prop) (f : FuncId) (cap : Array Value) (q : LD → Bool) : Prop :=
  (∀ (args : Array Value) (w : World), (callFunc f args).run Tryz.prog w = .ok (.enter f args) w) ∧
  ∀ (e : LD) (w : World), K w → Calls Tryz.prog f (#[linkV e] ++ cap) w fun x w' => x = .returned (.bool (q e)) ∧ Below w.heap.size w w'

set_option maxRecDepth 20000 in
theorem linkIndex_any (K : World → Prop) (hK : ∀ a b, K a → Below a.heap.size a b → K b) (f : FuncId) (cap : Array Value) (q : LD → Bool) (hp : PicksL K f cap q) (l : List LD) (a : Option Addr) (cp : Nat) (w : World) (hw : K w) (hl : l.length ≤ 1000) (hi : LinksAt w a l) :
    Calls Tryz.prog 145 #[.slice a l.length cp, .func (.func f) #[] cap] w fun e w' => e = .returned (.int .i64 (firstAt q l)) ∧ Below w.heap.size w w' := by
  have hcf := hp.1
  have HP := Lib.hid hp.2
  have HK := Lib.hid hK
  have HW := Lib.hid hw
  clear hp hK hw
  go_enter Tryz.func145, Tryz.ntmps145
  go_wp2
  go_loopw [8] (fun i wr => ∃ k : Nat, k ≤ l.length ∧ i = .int .i64 k ∧ Hid ((l.take k).findIdx? q = none) ∧ Below w.heap.size w wr) (fun i _ => l.length - (intOf i).toNat)
  case atStart => exact ⟨0, Nat.zero_le _, rfl, Lib.hid rfl, Below.refl _ _⟩
  case round =>
    obtain ⟨k, hk, rfl, NO, hbel⟩ := hrel
    by_cases hlt : k < l.length
    · obtain ⟨b, o, rfl, hb, c0, c1⟩ := linksAt_kept hbel hi k hlt
      go_wp2_with fail
      refine (HP.out l[k] _ (HK.out _ _ HW.out hbel)).mono ?_
      rintro e w1 ⟨rfl, hb1⟩
      cases hq : q l[k] with
      | true =>
        have HQ := Lib.hid hq
        clear hq
        go_wp2
        go_ret
        refine ⟨ret_i64 ?_, kept_trans hbel hb1⟩
        exact (firstAt_hit hlt NO.out HQ.out).symm
      | false =>
        have HQ := Lib.hid hq
        clear hq
        go_wp2
        go_roundw
        case rel => exact ⟨k + 1, by omega, by go_num, Lib.hid (firstAt_miss hlt NO.out HQ.out), kept_trans hbel hb1⟩
        case measure => simp [intOf]; omega
    · go_wp2
      go_ret
      refine ⟨ret_i64 ?_, hbel⟩
      have := NO.out
      rw [List.take_of_length_le (by omega)] at this
      unfold firstAt
      rw [this]
/-- The cells of links, one after the other. -/
def linksC (l : List LD) : List Value := l.flatMap linkC
theorem linkC_length (e : LD) : (linkC e).length = 2 := rfl
theorem linksC_length (l : List LD) : (linksC l).length = l.length * 2 := by
  induction l with
  | nil => rfl
  | cons a r ih => simp only [linksC, List.flatMap_cons, List.length_append, linkC_length, List.length_cons] at ih ⊢; omega
theorem linksC_append (a b : List LD) : linksC (a ++ b) = linksC a ++ linksC b := by simp [linksC]
theorem linksC_at : ∀ (l : List LD) (i : Nat) (h : i < l.length) (j : Nat), j < 2 → (linksC l)[i * 2 + j]? = (linkC l[i])[j]?
  | [], i, h, _, _ => absurd h (by simp)
  | a :: r, 0, _, j, hj => by
    show (linkC a ++ linksC r)[0 * 2 + j]? = _
    rw [List.getElem?_append_left (by rw [linkC_length]; omega)]
    simp
  | a :: r, i + 1, h, j, hj => by
    show (linkC a ++ linksC r)[(i + 1) * 2 + j]? = _
    rw [List.getElem?_append_right (by rw [linkC_length]; omega), linkC_length, show (i + 1) * 2 + j - 2 = i * 2 + j by omega, linksC_at r i (by simpa using h) j hj]
    rfl
theorem linksC_take : ∀ (l : List LD) (i : Nat), linksC (l.take i) = (linksC l).take (i * 2)
  | [], i => by simp [linksC]
  | a :: r, 0 => by simp [linksC]
  | a :: r, i + 1 => by
    show linkC a ++ linksC (r.take i) = (linkC a ++ linksC r).take ((i + 1) * 2)
    rw [linksC_take r i, List.take_append, linkC_length, show (i + 1) * 2 - 2 = i * 2 by omega, List.take_of_length_le (l := linkC a) (by rw [linkC_length]; omega)]
theorem linksC_set : ∀ (l : List LD) (i : Nat) (e : LD), linksC (l.set i e) = ((linksC l).set (i * 2) (.int .i64 e.peer)).set (i * 2 + 1) (.int .u64 e.id.toNat)
  | [], i, e => by simp [linksC]
  | a :: r, 0, e => by simp [linksC, linkC]
  | a :: r, i + 1, e => by
    have h := linksC_set r i e
    have hs : ∀ (x : List Value) (n : Nat) (v : Value), (linkC a ++ x).set ((i + 1) * 2 + n) v = linkC a ++ x.set (i * 2 + n) v := fun x n v => by
      rw [List.set_append_right _ _ (by rw [linkC_length]; omega), linkC_length, show (i + 1) * 2 + n - 2 = i * 2 + n by omega]
    have hs0 := fun x v => hs x 0 v
    simp only [Nat.add_zero] at hs0
    show linkC a ++ linksC (r.set i e) = _
    rw [h]
    show _ = ((linkC a ++ linksC r).set ((i + 1) * 2) (.int .i64 e.peer)).set ((i + 1) * 2 + 1) (.int .u64 e.id.toNat)
    rw [hs0, hs]

/-- The slice v holds these links, in a block of its own. -/
abbrev OwnLinks (w : World) (v : Value) (l : List LD) : Prop := w.ownsRow 0 136 2 v l.length (linksC l)
theorem ownLinks_form {w : World} {v : Value} {l : List LD} (h : OwnLinks w v l) : ∃ a cap, v = .slice a l.length cap ∧ l.length ≤ cap ∧ LinksAt w a l := by
  rcases h.2 with ⟨hv, hn⟩ | ⟨g, cap, cur, hv, hB, hg, hc, _, _, _⟩
  · exact ⟨none, 0, by rw [hn]; exact hv, by omega, fun i hi => absurd hi (by omega)⟩
  · refine ⟨some ⟨g, 0, none⟩, cap, hv, hc, fun i hi => ⟨g, 0, rfl, (Array.getElem?_eq_some_iff.1 hg).1, ?_⟩⟩
    have hh := h
    rw [hv] at hh
    have hat : ∀ j, j < 2 → w.cell? ⟨g, 0 + i * 2 + j, none⟩ = (linkC l[i])[j]? := fun j hj => by
      rw [Nat.zero_add, hh.cellAt (i * 2 + j) (by omega)]
      exact linksC_at l i hi j hj
    exact ⟨hat 0 (by omega), hat 1 (by omega)⟩
/-- The owned slice in the case that it is not nil. -/
theorem ownLinks_some {w : World} {g cap n : Nat} {l : List LD} (h : OwnLinks w (.slice (some ⟨g, 0, none⟩) n cap) l) (i : Nat) (hi : i < l.length) : LinkAt w g (i * 2) l[i] ∧ (∀ j, w.frozen? ⟨g, j, none⟩ = false) ∧ g < w.heap.size := by
  obtain ⟨a, c, e, _, hat⟩ := ownLinks_form h
  simp only [Value.slice.injEq] at e
  obtain ⟨rfl, rfl, rfl⟩ := e
  obtain ⟨b, o, e, hb, hc⟩ := hat i hi
  simp only [Option.some.injEq, Addr.mk.injEq, and_true] at e
  obtain ⟨rfl, rfl⟩ := e
  rw [Nat.zero_add] at hc
  exact ⟨hc, fun j => h.frozenAt j, hb⟩

theorem zero_link (w : World) : (zeroValue 136).run Tryz.prog w = .ok (.agg #[.int .i64 0, .int .u64 0]) w := by kernel_rfl
theorem links_clear {w : World} {g cap i n : Nat} {m : List LD} (hi : i < n) (hn : m.length = n) (ho : OwnLinks w (.slice (some ⟨g, 0, none⟩) n cap) m) :
    ∃ w', (∀ ty, (Builtin.clear_ #[93] ty #[.slice (some ⟨g, i * 2, none⟩) (n - i) (cap - i)]).run Tryz.prog w = .ok (.tuple #[]) w') ∧ OwnLinks w' (.slice (some ⟨g, 0, none⟩) i cap) (m.take i) ∧ Turn (fun k => k = g) (fun k => k = g) w w' := by
  subst hn
  obtain ⟨w', h1, h2, h3⟩ := clear_row (t := 93) _ Tryz.underlying93 zero_link rfl (by decide) (by decide) hi ho
  refine ⟨w', h1, ?_, h3⟩
  unfold OwnLinks
  rw [linksC_take, List.length_take, Nat.min_eq_left (Nat.le_of_lt hi)]
  exact h2
/-- An entry is stored in its place. -/
def set2 (w : World) (g i : Nat) (e : LD) : World :=
  (w.setCell ⟨g, i * 2, none⟩ (.int .i64 e.peer)).setCell ⟨g, i * 2 + 1, none⟩ (.int .u64 e.id.toNat)
theorem set2_own {w : World} {g cap n : Nat} {m : List LD} (ho : OwnLinks w (.slice (some ⟨g, 0, none⟩) n cap) m) (hn : m.length = n) (i : Nat) (e : LD) : OwnLinks (set2 w g i e) (.slice (some ⟨g, 0, none⟩) n cap) (m.set i e) ∧ Turn (fun k => k = g) (fun k => k = g) w (set2 w g i e) := by
  subst hn
  refine ⟨?_, (Turn.set (F := fun k => k = g) w ⟨g, i * 2, none⟩ _ rfl).trans (Turn.set _ ⟨g, i * 2 + 1, none⟩ _ rfl)⟩
  unfold OwnLinks
  rw [linksC_set, List.length_set]
  exact ((ho.stored _ _).1.stored _ _).1
theorem set2_K {K : World → Prop} {g : Nat} (h : ∀ a j u, K a → K (a.setCell ⟨g, j, none⟩ u)) {w : World} (hw : K w) (i : Nat) (e : LD) : K (set2 w g i e) := h _ _ _ (h _ _ _ hw)

theorem linkDelete_any (K : World → Prop) (hK : ∀ a b, K a → Below a.heap.size a b → K b) (f : FuncId) (fc : Array Value) (q : LD → Bool) (hp : PicksL K f fc q) (l : List LD) (g cap : Nat) (w : World) (hw : K w) (hKs : ∀ a j u, K a → K (a.setCell ⟨g, j, none⟩ u)) (hl : l.length ≤ 1000)
    (ho : OwnLinks w (.slice (some ⟨g, 0, none⟩) l.length cap) l) :
    Calls Tryz.prog 137 #[.slice (some ⟨g, 0, none⟩) l.length cap, .func (.func f) #[] fc] w fun e w' => ∃ n c, e = .returned (.slice (some ⟨g, 0, none⟩) n c) ∧ OwnLinks w' (.slice (some ⟨g, 0, none⟩) n c) (l.filter fun e => !q e) ∧ Turn (fun k => k = g) (fun k => k = g) w w' := by
  have hcf := hp.1
  have HPP := Lib.hid hp
  have HP := Lib.hid hp.2
  have HK := Lib.hid hK
  have HKs := Lib.hid hKs
  have HW := Lib.hid hw
  clear hp hK hw hKs
  obtain ⟨a0, c0, e0, hc0, hat⟩ := ownLinks_form ho
  simp only [Value.slice.injEq, true_and] at e0
  obtain ⟨rfl, rfl⟩ := e0
  have HO := Lib.hid ho
  clear ho
  go_enter Tryz.func137, Tryz.ntmps137
  go_wp2_with fail
  refine (linkIndex_any K HK.out f fc q HPP.out l _ _ w HW.out hl hat).mono ?_
  rintro e w1 ⟨rfl, hb1⟩
  cases hx : l.findIdx? q with
  | none =>
    have e1 : firstAt q l = -1 := by unfold firstAt; rw [hx]
    have HX := Lib.hid hx
    rw [e1]
    clear hx e1
    go_wp2
    go_ret
    exact ⟨_, _, rfl, by rw [filter_none HX.out]; exact owns_below HO.out hb1, Turn.of_below hb1⟩
  | some i0 =>
    have e1 : firstAt q l = (i0 : Int) := by unfold firstAt; rw [hx]
    have hi0 : i0 < l.length := by have := List.findIdx?_eq_some_iff_getElem.1 hx; exact this.1
    have HX := Lib.hid hx
    have hne : ((i0 : Int) == -1) = false := by rw [beq_eq_false_iff_ne]; omega
    rw [e1]
    clear hx e1
    go_wp2
    go_loopw [5, 6] (fun vi vj wr => ∃ (i j : Nat) (m : List LD), vi = .int .i64 i ∧ vj = .int .i64 j ∧ i < j ∧ j ≤ l.length ∧ m.length = l.length ∧ Hid (OwnLinks wr (.slice (some ⟨g, 0, none⟩) l.length cap) m) ∧
      Hid (m.take i = (l.take j).filter (fun e => !q e)) ∧ Hid (m.drop j = l.drop j) ∧ Hid (Turn (fun k => k = g) (fun k => k = g) w wr) ∧ Hid (K wr)) (fun _ j _ => l.length - (intOf j).toNat)
    case atStart => exact ⟨i0, i0 + 1, l, rfl, by go_num, by omega, by omega, rfl, Lib.hid (owns_below HO.out hb1), Lib.hid (take_filter_start HX.out), Lib.hid rfl, Lib.hid (Turn.of_below hb1), Lib.hid (HK.out _ _ HW.out hb1)⟩
    case round =>
      obtain ⟨i, j, m, rfl, rfl, hij, hj, hml, HO, HT, HD, HU, HKw⟩ := hrel
      by_cases hlt : j < l.length
      · obtain ⟨⟨c0, c1⟩, _, hgl⟩ := ownLinks_some HO.out j (by omega)
        go_wp2_with fail
        refine (HP.out m[j] _ (HK.out _ _ HKw.out (kept_new _ _))).mono ?_
        rintro e w2 ⟨rfl, hb2⟩
        have hb3 := kept_trans (kept_new _ _) hb2
        cases hq : q m[j] with
        | true =>
          have HQ := Lib.hid hq
          clear hq
          go_wp2
          go_roundw
          case rel =>
            obtain ⟨hm1, hm2⟩ := drop_at HD.out (by omega) hlt
            exact ⟨i, j + 1, m, rfl, by go_num, by omega, by omega, hml, Lib.hid (owns_below HO.out hb3), Lib.hid (take_filter_out hlt HT.out (by rw [← hm1, HQ.out]; rfl)), Lib.hid hm2, Lib.hid (HU.out.trans (Turn.of_below hb3)), Lib.hid (HK.out _ _ HKw.out hb3)⟩
          case measure => simp [intOf]; omega
        | false =>
          have HQ := Lib.hid hq
          clear hq
          obtain ⟨d0, d1⟩ : LinkAt w2 wr.heap.size 0 m[j] := linkAt_kept hb2 ⟨by simp [go_sem], by simp [go_sem]⟩
          obtain ⟨⟨k0, k1⟩, kf, hgl2⟩ := ownLinks_some (owns_below HO.out hb3) i (by omega)
          have f0 := kf (i * 2)
          have f1 := kf (i * 2 + 1)
          clear kf
          go_wp2
          go_roundw
          case rel =>
            obtain ⟨hm1, hm2⟩ := drop_at HD.out (by omega) hlt
            obtain ⟨r1, r2⟩ := set2_own (owns_below HO.out hb3) hml i m[j]
            exact ⟨i + 1, j + 1, m.set i m[j], by go_num, by go_num, by omega, by omega, by simpa using hml, Lib.hid r1, Lib.hid (by rw [hm1]; exact take_filter_in (by omega) hlt HT.out (by rw [← hm1, HQ.out]; rfl)), Lib.hid (by rw [drop_set _ (by omega)]; exact hm2), Lib.hid ((HU.out.trans (Turn.of_below hb3)).trans r2), Lib.hid (set2_K HKs.out (HK.out _ _ HKw.out hb3) i m[j])⟩
          case measure => simp [intOf]; omega
      · obtain ⟨w3, hcl, ho3, ht3⟩ := links_clear (i := i) (by omega) hml HO.out
        have HO3 := Lib.hid ho3
        have HT3 := Lib.hid ht3
        clear ho3 ht3
        go_wp2_with fail
        go_ret
        have hj' : j = l.length := by omega
        have h4 := HT.out
        rw [hj', List.take_of_length_le (Nat.le_refl _)] at h4
        exact ⟨_, _, rfl, by rw [← h4]; exact HO3.out, HU.out.trans HT3.out⟩
theorem linkDelete_nil (K : World → Prop) (hK : ∀ a b, K a → Below a.heap.size a b → K b) (f : FuncId) (fc : Array Value) (q : LD → Bool) (hp : PicksL K f fc q) (w : World) (hw : K w) :
    Calls Tryz.prog 137 #[.slice none 0 0, .func (.func f) #[] fc] w fun e w' => e = .returned (.slice none 0 0) ∧ Below w.heap.size w w' := by
  have HP := Lib.hid hp
  have HK := Lib.hid hK
  have HW := Lib.hid hw
  clear hp hK hw
  go_enter Tryz.func137, Tryz.ntmps137
  go_wp2_with fail
  refine (linkIndex_any K HK.out f fc q HP.out [] none 0 w HW.out (by decide) (linksAt_nil _ _)).mono ?_
  rintro e w1 ⟨rfl, hb1⟩
  have e1 : firstAt q [] = -1 := rfl
  rw [e1]
  clear e1
  go_wp2
  go_ret
  exact ⟨rfl, hb1⟩
/-- Whatever the slice: it stays in its block, if it has one. -/
theorem linkDelete_own (K : World → Prop) (hK : ∀ a b, K a → Below a.heap.size a b → K b) (f : FuncId) (fc : Array Value) (q : LD → Bool) (hp : PicksL K f fc q) (l : List LD) (v : Value) (w : World) (hw : K w) (hKs : ∀ g, v.ownBlock = some g → ∀ a j u, K a → K (a.setCell ⟨g, j, none⟩ u)) (hl : l.length ≤ 1000) (ho : OwnLinks w v l) :
    Calls Tryz.prog 137 #[v, .func (.func f) #[] fc] w fun e w' => ∃ a n c, e = .returned (.slice a n c) ∧ OwnLinks w' (.slice a n c) (l.filter fun e => !q e) ∧ (Value.slice a n c).ownBlock = v.ownBlock ∧ Turn (fun k => v.ownBlock = some k) (fun k => v.ownBlock = some k) w w' := by
  rcases ho.2 with ⟨rfl, hn⟩ | ⟨g, cap, cur, rfl, _, _, _, _, _, _⟩
  · obtain rfl : l = [] := List.eq_nil_of_length_eq_zero hn
    exact (linkDelete_nil K hK f fc q hp w hw).mono fun e w' ⟨he, hb⟩ => ⟨none, 0, 0, he, World.ownsRow_nil _ _ _ _, rfl, Turn.of_below hb⟩
  · refine (linkDelete_any K hK f fc q hp l g cap w hw (hKs g rfl) hl ho).mono fun e w' ⟨n, c, he, h1, h2⟩ => ⟨_, n, c, he, h1, rfl, ?_⟩
    have e1 : (fun k => Value.ownBlock (.slice (some ⟨g, 0, none⟩) l.length cap) = some k) = fun k => k = g := by
      funext k
      simp [Value.ownBlock, eq_comm]
    rw [e1]
    exact h2
theorem linkContains_any (K : World → Prop) (hK : ∀ a b, K a → Below a.heap.size a b → K b) (f : FuncId) (fc : Array Value) (q : LD → Bool) (hp : PicksL K f fc q) (l : List LD) (a : Option Addr) (cp : Nat) (w : World) (hw : K w) (hl : l.length ≤ 1000) (hi : LinksAt w a l) :
    Calls Tryz.prog 140 #[.slice a l.length cp, .func (.func f) #[] fc] w fun e w' => e = .returned (.bool (l.any q)) ∧ Below w.heap.size w w' := by
  have HP := Lib.hid hp
  have HK := Lib.hid hK
  have HW := Lib.hid hw
  have HI := Lib.hid hi
  clear hp hK hw hi
  go_enter Tryz.func140, Tryz.ntmps140
  go_wp2_with fail
  refine (linkIndex_any K HK.out f fc q HP.out l _ _ w HW.out hl HI.out).mono ?_
  rintro e w1 ⟨rfl, hb1⟩
  have e1 := firstAt_neg q l
  obtain ⟨i, hi⟩ : ∃ i, firstAt q l = i := ⟨_, rfl⟩
  rw [hi] at e1 ⊢
  go_wp2
  go_ret
  exact ⟨rfl, hb1⟩
/-- Two links compared. -/
theorem run_eq_link (x y : LD) (w : World) : (binOp .eql 136 (.agg #[.int .i64 x.peer, .int .u64 x.id.toNat]) (.agg #[.int .i64 y.peer, .int .u64 y.id.toNat])).run Tryz.prog w = .ok (.bool (decide (x = y))) w := by
  by_cases h1 : (x.peer : Int) = y.peer
  · by_cases h2 : (x.id.toNat : Int) = y.id.toNat
    · have e : x = y := by
        obtain ⟨xp, xi⟩ := x
        obtain ⟨yp, yi⟩ := y
        simp only [LD.mk.injEq]
        exact ⟨by simp only at h1; omega, u64_inj h2⟩
      subst e
      simp [go_sem]
    · have e : decide (x = y) = false := decide_eq_false fun e => h2 (by rw [e])
      rw [e]
      simp [go_sem, h1, h2]
  · have e : decide (x = y) = false := decide_eq_false fun e => h1 (by rw [e])
    rw [e]
    simp [go_sem, h1]
theorem linkFind_any (x : LD) (l : List LD) (a : Option Addr) (cp : Nat) (w : World) (hl : l.length ≤ 1000) (hi : LinksAt w a l) :
    Calls Tryz.prog 143 #[.slice a l.length cp, .agg #[.int .i64 x.peer, .int .u64 x.id.toNat]] w fun e w' => e = .returned (.int .i64 (firstAt (fun y => decide (x = y)) l)) ∧ Below w.heap.size w w' := by
  have hi0 := linksAt_kept (kept_new w (.cells #[.int .i64 x.peer, .int .u64 x.id.toNat] 136)) hi
  go_enter Tryz.func143, Tryz.ntmps143
  go_wp2
  go_loopw [8] (fun i wr => ∃ k : Nat, k ≤ l.length ∧ i = .int .i64 k ∧ Hid ((l.take k).findIdx? (fun y => decide (x = y)) = none) ∧ Below (w.alloc (.cells #[.int .i64 x.peer, .int .u64 x.id.toNat] 136)).heap.size (w.alloc (.cells #[.int .i64 x.peer, .int .u64 x.id.toNat] 136)) wr) (fun i _ => l.length - (intOf i).toNat)
  case atStart => exact ⟨0, Nat.zero_le _, rfl, Lib.hid rfl, Below.refl _ _⟩
  case round =>
    obtain ⟨k, hk, rfl, NO, hbel⟩ := hrel
    obtain ⟨hx0, hx1, hws⟩ := box_pair hbel
    have hkw := kept_trans (kept_new _ _) hbel
    by_cases hlt : k < l.length
    · obtain ⟨b, o, rfl, hb, c0, c1⟩ := linksAt_kept hbel hi0 k hlt
      have hq := fun wx => run_eq_link x l[k] wx
      cases hx : decide (x = l[k]) with
      | true =>
        rw [hx] at hq
        have HX := Lib.hid hx
        clear hx
        go_wp2_with fail
        go_quiet (fail)
        go_wp2
        go_ret
        exact ⟨ret_i64 (firstAt_hit hlt NO.out HX.out).symm, below_drewN hkw _⟩
      | false =>
        rw [hx] at hq
        have HX := Lib.hid hx
        clear hx
        go_wp2_with fail
        go_quiet (fail)
        go_wp2
        go_roundw
        case rel => exact ⟨k + 1, by omega, by go_num, Lib.hid (firstAt_miss hlt NO.out HX.out), below_drewN hbel _⟩
        case measure => simp [intOf]; omega
    · go_wp2
      go_ret
      refine ⟨ret_i64 ?_, hkw⟩
      have := NO.out
      rw [List.take_of_length_le (by omega)] at this
      unfold firstAt
      rw [this]
theorem linkHas_any (x : LD) (l : List LD) (a : Option Addr) (cp : Nat) (w : World) (hl : l.length ≤ 1000) (hi : LinksAt w a l) :
    Calls Tryz.prog 107 #[.slice a l.length cp, .agg #[.int .i64 x.peer, .int .u64 x.id.toNat]] w fun e w' => e = .returned (.bool (l.any fun y => decide (x = y))) ∧ Below w.heap.size w w' := by
  have HI := Lib.hid (linksAt_kept (kept_new w (.cells #[.int .i64 x.peer, .int .u64 x.id.toNat] 136)) hi)
  clear hi
  go_enter Tryz.func107, Tryz.ntmps107
  go_wp2_with fail
  refine (linkFind_any x l _ _ _ hl HI.out).mono ?_
  rintro e w1 ⟨rfl, hb1⟩
  have e1 := firstAt_neg (fun y => decide (x = y)) l
  obtain ⟨i, hi⟩ : ∃ i, firstAt (fun y => decide (x = y)) l = i := ⟨_, rfl⟩
  rw [hi] at e1 ⊢
  go_wp2
  go_ret
  exact ⟨rfl, kept_trans (kept_new _ _) hb1⟩
end Go.Proofs.YtmbejeibcncmmaaGreat.Ho
namespace Go.Proofs.YtmbejeibcncmmaaGreat
open Go.RowKit

/-- An In as a value. -/
def inV (x : InD) : Value := .agg #[.int .u64 x.1.toNat, .int .i64 x.2]
/-- The memory behind a slice's address holds these Ins. -/
def InsAt (w : World) (a : Option Addr) (l : List InD) : Prop :=
  ∀ i (h : i < l.length), ∃ b o, a = some ⟨b, o, none⟩ ∧ b < w.heap.size ∧ w.cell? ⟨b, o + i * 2, none⟩ = some (.int .u64 l[i].1.toNat) ∧ w.cell? ⟨b, o + i * 2 + 1, none⟩ = some (.int .i64 l[i].2) ∧ (Lit.int .i64 l[i].2).wf = true

theorem insAt_kept {a b : World} {x : Option Addr} {l : List InD} (h : Below a.heap.size a b) (hi : InsAt a x l) : InsAt b x l := fun i hl => by
  obtain ⟨bb, o, e, hb, c0, c1, c2⟩ := hi i hl
  exact ⟨bb, o, e, Nat.lt_of_lt_of_le hb h.size, kept_cell h c0, kept_cell h c1, c2⟩
theorem in_eq {x y : InD} (h : (x.1.toNat : Int) = y.1.toNat) (h2 : x.2 = y.2) : x = y := Prod.ext (UInt64.toNat_inj.1 (by omega)) h2
/-- Two Ins compared. -/
theorem run_eq_in (x y : InD) (w : World) : (binOp .eql 64 (.agg #[.int .u64 x.1.toNat, .int .i64 x.2]) (.agg #[.int .u64 y.1.toNat, .int .i64 y.2])).run Tryz.prog w = .ok (.bool (x == y)) w := by
  by_cases h1 : (x.1.toNat : Int) = y.1.toNat
  · by_cases h2 : x.2 = y.2
    · have e := in_eq h1 h2
      subst e
      simp [go_sem]
    · have e : (x == y) = false := beq_eq_false_iff_ne.2 fun e => h2 (by rw [e])
      rw [e]
      simp [go_sem, h1, h2]
  · have e : (x == y) = false := beq_eq_false_iff_ne.2 fun e => h1 (by rw [e])
    rw [e]
    simp [go_sem, h1]
theorem contains_at {l : List InD} {x : InD} {k : Nat} (h : k < l.length) (e : x = l[k]) : l.contains x = true := by
  rw [List.contains_iff_mem]; rw [e]; exact List.getElem_mem h
theorem take_contains {l : List InD} {x : InD} {k : Nat} (h : k < l.length) (n : (l.take k).contains x = false) (e : x ≠ l[k]) : (l.take (k + 1)).contains x = false := by
  rw [List.take_succ_eq_append_getElem h, ← Bool.not_eq_true, List.contains_iff_mem, List.mem_append, not_or]
  refine ⟨by rw [← List.contains_iff_mem, n]; simp, by simpa using e⟩

/-- An In as a key of a map. -/
def inKey (x : InD) : Lit := .string (keyBytes [.int .u64 x.1.toNat, .int .i64 x.2])
def inOk (x : InD) : Prop := (Lit.int .i64 x.2).wf = true
theorem in_keyed : Maps.Keyed Tryz.prog 64 := Maps.Keyed.of_law (deep_law_laid laid (m := 2) (by omega) (of_decide_eq_true (by kernel_rfl)) (by kernel_rfl) (by kernel_rfl))
theorem in_key (x : InD) (h : inOk x) : keyOf Tryz.prog 64 (.agg #[.int .u64 x.1.toNat, .int .i64 x.2]) = some (inKey x) :=
  keyOf_struct2 Tryz.underlying64 (by kernel_rfl) (by kernel_rfl) (by kernel_rfl) rfl rfl Tryz.underlying22 Tryz.underlying3 (by kernel_rfl) (by kernel_rfl) (m := Tryz.prog.types.size - 1) (by kernel_rfl) (wf_u64_of _) h
theorem inKey_inj {x y : InD} (hx : inOk x) (hy : inOk y) (h : inKey x = inKey y) : x = y := by
  have e := in_keyed.inj (in_key x hx) (h ▸ in_key y hy)
  simp only [Value.agg.injEq, Array.mk.injEq, List.cons.injEq, Value.int.injEq, true_and, and_true] at e
  exact in_eq e.1 e.2
end Go.Proofs.YtmbejeibcncmmaaGreat
namespace Go.Proofs.YtmbejeibcncmmaaGreat

/-- A number's bytes read, the most significant one first. -/
def numN (l : List UInt8) : Nat := l.foldl (fun n c => n * 256 + c.toNat) 0
def numU (l : List UInt8) : UInt64 := l.foldl (fun x c => 256 * x + c.toUInt64) 0
theorem numN_snoc (l : List UInt8) (c : UInt8) : numN (l ++ [c]) = numN l * 256 + c.toNat := by simp [numN]
theorem numU_snoc (l : List UInt8) (c : UInt8) : numU (l ++ [c]) = 256 * numU l + c.toUInt64 := by simp [numU]
theorem snocInduction {α : Type} {p : List α → Prop} (h0 : p []) (h1 : ∀ l a, p l → p (l ++ [a])) : ∀ l, p l := by
  intro l
  have h : ∀ n (l : List α), l.length = n → p l := by
    intro n
    induction n with
    | zero => intro l hl; rw [List.eq_nil_of_length_eq_zero hl]; exact h0
    | succ n ih =>
      intro l hl
      have hne : l ≠ [] := fun e => by rw [e] at hl; cases hl
      rw [← List.dropLast_concat_getLast hne]
      exact h1 _ _ (ih _ (by simp [hl]))
  exact h _ l rfl
theorem numN_lt : ∀ l : List UInt8, numN l < 256 ^ l.length := by
  refine snocInduction (by decide) fun l c ih => ?_
  have := c.toNat_lt
  rw [numN_snoc, List.length_append, List.length_singleton, Nat.pow_succ]
  omega
theorem numU_toNat : ∀ l : List UInt8, (numU l).toNat = numN l % 18446744073709551616 := by
  refine snocInduction (by decide) fun l c ih => ?_
  have := c.toNat_lt
  rw [numU_snoc, numN_snoc, UInt64.toNat_add, UInt64.toNat_mul, ih]
  simp
  omega
theorem numU_short (l : List UInt8) (h : l.length ≤ 8) : (numU l).toNat = numN l := by
  rw [numU_toNat, Nat.mod_eq_of_lt]
  have h1 := numN_lt l
  have h2 : 256 ^ l.length ≤ 256 ^ 8 := Nat.pow_le_pow_right (by decide) h
  have h3 : 256 ^ 8 = 18446744073709551616 := by decide
  omega
theorem numN_be : ∀ n x, numN (be n x) = x % 256 ^ n
  | 0, x => by simp [be, numN, Nat.mod_one]
  | n + 1, x => by
    rw [be, numN_snoc, numN_be n, Nat.pow_succ, UInt8.toNat_ofNat', Nat.mul_comm (256 ^ n), Nat.mod_mul]
    omega
theorem be_numN : ∀ l : List UInt8, be l.length (numN l) = l := by
  refine snocInduction rfl fun l c ih => ?_
  have := c.toNat_lt
  rw [List.length_append, List.length_singleton, be, numN_snoc, show (numN l * 256 + c.toNat) / 256 = numN l by omega, ih]
  congr 1
  have e : UInt8.ofNat (numN l * 256 + c.toNat) = c := by
    apply UInt8.toNat_inj.1
    rw [UInt8.toNat_ofNat']
    omega
  rw [e]
theorem numU_be (x : UInt64) : numU (be 8 x.toNat) = x := by
  apply UInt64.toNat_inj.1
  rw [numU_short _ (by rw [be_length]; omega), numN_be, Nat.mod_eq_of_lt (by have := x.toNat_lt; simpa using this)]

/-- P5: the errors that do not depend on the fields. -/
def formD (l : List UInt8) : Int :=
  if l.length = 0 then 3 else if l.getD 0 0 ≠ 68 then 4 else if l.length < 2 then 3 else if l.length < 7 + 9 * (l.getD 1 0).toNat then 3 else if 7 + 9 * (l.getD 1 0).toNat < l.length then 4 else 0
/-- An In out of the bytes that begin with it. -/
def inOf (r : List UInt8) : InD := (numU (r.take 8), ((r.getD 8 0).toNat : Int))
def insOf (n : Nat) (r : List UInt8) : List InD := (List.range n).map fun i => inOf (r.drop (9 * i))
/-- The fields of bytes that are well formed. -/
def readD (l : List UInt8) : DeedD :=
  let n := (l.getD 1 0).toNat
  let r := l.drop (2 + 9 * n)
  ⟨insOf n (l.drop 2), ((r.getD 0 0).toNat : Int), ((numU ((r.drop 1).take 2)).toNat : Int), ((numU ((r.drop 3).take 2)).toNat : Int)⟩
/-- P5: the error of Decode. -/
def errD (l : List UInt8) : Int := if formD l ≠ 0 then formD l else checkD (readD l)
theorem insOf_length (n : Nat) (r : List UInt8) : (insOf n r).length = n := by simp [insOf]
theorem insOf_at (n : Nat) (r : List UInt8) (k : Nat) (h : k < (insOf n r).length) : (insOf n r)[k] = inOf (r.drop (9 * k)) := by simp [insOf]

theorem encL_cons (x : InD) (r : List InD) : encL (x :: r) = inB x ++ encL r := by simp [encL]
theorem drop_encL : ∀ (l : List InD) (k : Nat), (encL l).drop (9 * k) = encL (l.drop k)
  | [], k => by simp [encL]
  | x :: r, 0 => rfl
  | x :: r, k + 1 => by
    have e : encL (x :: r) = inB x ++ encL r := by simp [encL]
    have hl : (inB x).length = 9 := by simp [inB, be_length]
    rw [e, List.drop_append, hl, List.drop_of_length_le (by rw [hl]; omega), List.nil_append, show 9 * (k + 1) - 9 = 9 * k by omega, drop_encL r k]
    rfl
theorem inOf_inB (x : InD) (r : List UInt8) (h0 : 0 ≤ x.2) (h1 : x.2 ≤ 255) : inOf (inB x ++ r) = x := by
  have hb : (be 8 x.1.toNat).length = 8 := be_length _ _
  have e1 : (inB x ++ r).take 8 = be 8 x.1.toNat := by
    unfold inB
    rw [List.append_assoc, List.take_left' hb]
  have e2 : (inB x ++ r).getD 8 0 = UInt8.ofNat x.2.toNat := by
    unfold inB
    rw [List.append_assoc, List.getD_eq_getElem?_getD, List.getElem?_append_right (by omega), hb]
    rfl
  unfold inOf
  rw [e1, e2, numU_be]
  refine Prod.ext rfl ?_
  show ((UInt8.ofNat x.2.toNat).toNat : Int) = x.2
  rw [UInt8.toNat_ofNat']
  omega

theorem enc_shape (d : DeedD) : encB d = 68 :: UInt8.ofNat d.ins.length :: (encL d.ins ++ (UInt8.ofNat d.outs.toNat :: (be 2 d.weight.toNat ++ be 2 d.fee.toNat))) := by simp [encB]
theorem enc_second (d : DeedD) (h : d.ins.length ≤ 8) : ((encB d).getD 1 0).toNat = d.ins.length := by
  rw [enc_shape]
  show (UInt8.ofNat d.ins.length).toNat = _
  rw [UInt8.toNat_ofNat']
  omega
theorem form_enc (d : DeedD) (h : d.ins.length ≤ 8) : formD (encB d) = 0 := by
  have h1 := encB_length d
  have h2 := enc_second d h
  have h3 : (encB d).getD 0 0 = 68 := by rw [enc_shape]; rfl
  unfold formD
  rw [h1, h2, h3, if_neg (by omega), if_neg (by simp), if_neg (by omega), if_neg (by omega), if_neg (by omega)]
theorem read_enc (d : DeedD) (h : d.ins.length ≤ 8) (hat : ∀ k (hk : k < d.ins.length), 0 ≤ (d.ins[k]).2 ∧ (d.ins[k]).2 ≤ 15) (ho : 1 ≤ d.outs ∧ d.outs ≤ 16) (hw : 1 ≤ d.weight ∧ d.weight ≤ 1000) (hf : 0 ≤ d.fee ∧ d.fee ≤ 1000) :
    readD (encB d) = d := by
  have h2 := enc_second d h
  have e2 : (encB d).drop 2 = encL d.ins ++ (UInt8.ofNat d.outs.toNat :: (be 2 d.weight.toNat ++ be 2 d.fee.toNat)) := by rw [enc_shape]; rfl
  have e3 : (encB d).drop (2 + 9 * d.ins.length) = UInt8.ofNat d.outs.toNat :: (be 2 d.weight.toNat ++ be 2 d.fee.toNat) := by
    rw [← List.drop_drop, e2, List.drop_append, encL_length, List.drop_of_length_le (by rw [encL_length]; omega)]
    simp
  have hins : insOf d.ins.length ((encB d).drop 2) = d.ins := by
    apply List.ext_getElem (insOf_length _ _)
    intro k h1 h2
    rw [insOf_at, e2, List.drop_append, drop_encL, List.drop_eq_getElem_cons h2]
    rw [encL_cons, List.append_assoc]
    exact inOf_inB _ _ (hat k h2).1 (by have := (hat k h2).2; omega)
  have hb2 : ∀ x : Int, 0 ≤ x → x ≤ 1000 → ((numU (be 2 x.toNat)).toNat : Int) = x := fun x h0 h1 => by
    rw [numU_short _ (by rw [be_length]; omega), numN_be]
    omega
  unfold readD
  simp only []
  rw [h2, hins, e3]
  have t1 : ((UInt8.ofNat d.outs.toNat :: (be 2 d.weight.toNat ++ be 2 d.fee.toNat)).drop 1).take 2 = be 2 d.weight.toNat := by
    show (be 2 d.weight.toNat ++ be 2 d.fee.toNat).take 2 = _
    exact List.take_left' (be_length _ _)
  have t2 : ((UInt8.ofNat d.outs.toNat :: (be 2 d.weight.toNat ++ be 2 d.fee.toNat)).drop 3).take 2 = be 2 d.fee.toNat := by
    show ((be 2 d.weight.toNat ++ be 2 d.fee.toNat).drop 2).take 2 = _
    rw [List.drop_left' (be_length _ _), List.take_of_length_le (by rw [be_length]; omega)]
  rw [t1, t2, hb2 _ (by omega) hw.2, hb2 _ hf.1 hf.2]
  have t3 : (((UInt8.ofNat d.outs.toNat :: (be 2 d.weight.toNat ++ be 2 d.fee.toNat)).getD 0 0).toNat : Int) = d.outs := by
    show ((UInt8.ofNat d.outs.toNat).toNat : Int) = _
    rw [UInt8.toNat_ofNat']
    omega
  rw [t3]
theorem form_zero {l : List UInt8} (h : formD l = 0) : l.getD 0 0 = 68 ∧ l.length = 7 + 9 * (l.getD 1 0).toNat := by
  unfold formD at h
  split at h
  · cases h
  · split at h
    · cases h
    · split at h
      · cases h
      · split at h
        · cases h
        · split at h
          · cases h
          · rename_i h2 _ _ _
            exact ⟨by simpa using h2, by omega⟩
theorem inB_inOf (r : List UInt8) (h : 9 ≤ r.length) : inB (inOf r) = r.take 9 := by
  have hl : (r.take 8).length = 8 := by rw [List.length_take]; omega
  unfold inB inOf
  show be 8 (numU (r.take 8)).toNat ++ [UInt8.ofNat ((r.getD 8 0).toNat : Int).toNat] = _
  rw [numU_short _ (by omega)]
  have := be_numN (r.take 8)
  rw [hl] at this
  rw [this, Int.toNat_natCast, UInt8.ofNat_toNat, List.take_succ_eq_append_getElem (i := 8) (by omega), List.getD_eq_getElem?_getD, List.getElem?_eq_getElem (by omega)]
  rfl
theorem encL_insOf : ∀ (n : Nat) (r : List UInt8), 9 * n ≤ r.length → encL (insOf n r) = r.take (9 * n)
  | 0, r, _ => by simp [encL, insOf]
  | n + 1, r, h => by
    have e : insOf (n + 1) r = insOf n r ++ [inOf (r.drop (9 * n))] := by simp [insOf, List.range_succ]
    have e2 : encL (insOf n r ++ [inOf (r.drop (9 * n))]) = encL (insOf n r) ++ inB (inOf (r.drop (9 * n))) := by simp [encL]
    rw [e, e2, encL_insOf n r (by omega), inB_inOf _ (by rw [List.length_drop]; omega), show 9 * (n + 1) = 9 * n + 9 by omega, List.take_add]
theorem enc_read {l : List UInt8} (h : formD l = 0) : encB (readD l) = l := by
  obtain ⟨h0, hl⟩ := form_zero h
  obtain ⟨a, b, r, rfl⟩ : ∃ a b r, l = a :: b :: r := by
    match l, hl with
    | [], hl => simp at hl
    | [a], hl => simp at hl
    | a :: b :: r, _ => exact ⟨a, b, r, rfl⟩
  have h0 : a = 68 := h0
  have hb : (a :: b :: r).getD 1 0 = b := rfl
  rw [hb] at hl
  subst h0
  have hr : r.length = 5 + 9 * b.toNat := by simp at hl; omega
  have hn : UInt8.ofNat b.toNat = b := by simp
  have hd : (68 :: b :: r).drop (2 + 9 * b.toNat) = r.drop (9 * b.toNat) := by rw [← List.drop_drop]; rfl
  have hm : (r.drop (9 * b.toNat)).length = 5 := by rw [List.length_drop]; omega
  obtain ⟨c0, c1, c2, c3, c4, hc⟩ : ∃ c0 c1 c2 c3 c4, r.drop (9 * b.toNat) = [c0, c1, c2, c3, c4] := by
    generalize r.drop (9 * b.toNat) = q at hm
    match q, hm with
    | [c0, c1, c2, c3, c4], _ => exact ⟨c0, c1, c2, c3, c4, rfl⟩
  have hw : ∀ x y : UInt8, be 2 (numU [x, y]).toNat = [x, y] := fun x y => by
    rw [numU_short _ (by simp)]
    exact be_numN [x, y]
  unfold encB readD
  simp only [hb, hd, hc, insOf_length]
  rw [hn]
  have e1 : encL (insOf b.toNat ((68 :: b :: r).drop 2)) = r.take (9 * b.toNat) := encL_insOf b.toNat r (by omega)
  rw [e1]
  have w1 := hw c1 c2
  have w2 := hw c3 c4
  have t1 : (([c0, c1, c2, c3, c4].drop 1).take 2) = [c1, c2] := rfl
  have t2 : (([c0, c1, c2, c3, c4].drop 3).take 2) = [c3, c4] := rfl
  rw [t1, t2, Int.toNat_natCast, Int.toNat_natCast, Int.toNat_natCast, w1, w2]
  have t3 : UInt8.ofNat (([c0, c1, c2, c3, c4].getD 0 0)).toNat = c0 := by simp
  rw [t3]
  have := List.take_append_drop (9 * b.toNat) r
  rw [hc] at this
  simp only [List.append_assoc, List.cons_append, List.nil_append]
  rw [this]
theorem form_cut (d : DeedD) (h : d.ins.length ≤ 8) (k : Nat) (hk : k < (encB d).length) : formD ((encB d).take k) = 3 := by
  have h1 := encB_length d
  have h2 := enc_second d h
  have hl : ((encB d).take k).length = k := by rw [List.length_take]; omega
  unfold formD
  rw [hl]
  by_cases k0 : k = 0
  · rw [if_pos k0]
  · have g0 : ((encB d).take k).getD 0 0 = 68 := by
      rw [List.getD_eq_getElem?_getD, List.getElem?_take, if_pos (by omega), enc_shape]
      rfl
    rw [if_neg k0, g0, if_neg (by simp)]
    by_cases k1 : k < 2
    · rw [if_pos k1]
    · have g1 : ((encB d).take k).getD 1 0 = (encB d).getD 1 0 := by
        rw [List.getD_eq_getElem?_getD, List.getElem?_take, if_pos (by omega), List.getD_eq_getElem?_getD]
      rw [if_neg k1, g1, h2, if_pos (by omega)]
theorem form_more (d : DeedD) (h : d.ins.length ≤ 8) (m : List UInt8) (hm : 0 < m.length) : formD (encB d ++ m) = 4 := by
  have h1 := encB_length d
  have h2 := enc_second d h
  have hl : (encB d ++ m).length = 7 + 9 * d.ins.length + m.length := by rw [List.length_append]; omega
  have g0 : (encB d ++ m).getD 0 0 = 68 := by rw [enc_shape]; rfl
  have g1 : (encB d ++ m).getD 1 0 = (encB d).getD 1 0 := by rw [enc_shape]; rfl
  unfold formD
  rw [hl, g0, g1, h2, if_neg (by omega), if_neg (by simp), if_neg (by omega), if_neg (by omega), if_pos (by omega)]
end Go.Proofs.YtmbejeibcncmmaaGreat
namespace Go.Proofs.YtmbejeibcncmmaaGreat
open Go.RowKit

theorem rest_any (n m : Int) (w : World) (hm : 0 < m) (hm2 : m ≤ 9223372036854775807) :
    Calls Tryz.prog 32 #[.int .i64 n, .int .i64 m] w fun e w' => e = .returned (.int .i64 (n % m)) ∧ w = w' := by
  obtain ⟨hlo, hhi, hneg, hpos⟩ := tmod_cases n m hm
  by_cases h0 : n.tmod m < 0
  · have H := Lib.hid (hneg h0)
    clear hneg hpos
    have h1 : (0 : Int) ≤ n.tmod m + m := by omega
    go_enter Tryz.func32, Tryz.ntmps32
    go_wp2
    go_ret
    exact ⟨ret_i64 H.out, rfl⟩
  · have H := Lib.hid (hpos (by omega))
    clear hneg hpos
    go_enter Tryz.func32, Tryz.ntmps32
    go_wp2
    go_ret
    exact ⟨ret_i64 H.out, rfl⟩
theorem rest_is (n m k : Int) (w : World) (hm : 0 < m) (hm2 : m ≤ 9223372036854775807) (h : n % m = k) :
    Calls Tryz.prog 32 #[.int .i64 n, .int .i64 m] w fun e w' => e = .returned (.int .i64 k) ∧ w = w' := h ▸ rest_any n m w hm hm2
end Go.Proofs.YtmbejeibcncmmaaGreat
namespace Go.Proofs.YtmbejeibcncmmaaGreat
open Go.RowKit

end Go.Proofs.YtmbejeibcncmmaaGreat
namespace Go.Proofs.YtmbejeibcncmmaaGreat
open Go.RowKit

abbrev Seen (w : World) (b n : Nat) (ks : List InD) : Prop := SetIs Tryz.prog 64 4 inOk inKey w b n ks

theorem repeats_any (l : List InD) (a : Option Addr) (cap : Nat) (w : World) (hl : l.length ≤ 8) (hi : InsAt w a l) :
    Calls Tryz.prog 74 #[.slice a l.length cap] w fun e w' => e = .returned (.bool (dupB l)) ∧ Below w.heap.size w w' := by
  have hmm := @run_makeMap Tryz.prog
  go_enter Tryz.func74, Tryz.ntmps74
  go_wp2
  go_loopw [9] (fun i wr => ∃ k : Nat, k ≤ l.length ∧ i = .int .i64 k ∧ Hid ((l.take k).Nodup) ∧ Hid (Seen wr w.heap.size k (l.take k)) ∧ Below w.heap.size w wr) (fun i _ => l.length - (intOf i).toNat)
  case atStart => exact ⟨0, Nat.zero_le _, rfl, Lib.hid (by simp), Lib.hid (set_new w), kept_new w _⟩
  case round =>
    obtain ⟨k, hk, rfl, NO, SE, hbel⟩ := hrel
    by_cases hlt : k < l.length
    · obtain ⟨b, o, rfl, hb, hd0, hd1, hok⟩ := insAt_kept hbel hi k hlt
      have SA := set_alloc SE.out (.cells #[.int .u64 l[k].1.toNat, .int .i64 l[k].2] 64)
      have hlook := set_look SA in_keyed Tryz.underlying60 Tryz.underlying4 (zero_bool _) hok (in_key _ hok)
      by_cases hx : (l.take k).contains l[k] = true
      · rw [hx] at hlook
        have HX := Lib.hid hx
        clear hx
        go_wp2
        go_ret
        exact ⟨ret_bool (dup_at hlt HX.out).symm, kept_alloc hbel _⟩
      · rw [Bool.not_eq_true] at hx
        rw [hx] at hlook
        obtain ⟨w1, hput, S1, hg⟩ := set_put SA in_keyed Tryz.underlying60 Tryz.underlying4 (by unfold maxLen; omega) hok (in_key _ hok) (fun y hy e => inKey_inj hy hok e)
        have HX := Lib.hid hx
        clear hx
        go_wp2
        go_roundw
        case rel => exact ⟨k + 1, by omega, by go_num, Lib.hid (nodup_take hlt NO.out HX.out), Lib.hid (take_snoc hlt ▸ S1), (kept_alloc hbel _).grown hg (by have := hbel.size; simp; omega) (fun j hj => by cases hj; exact Nat.le_refl _)⟩
        case measure => simp [intOf]; omega
    · go_wp2
      go_ret
      exact ⟨ret_bool (dup_none (by omega) NO.out).symm, hbel⟩
theorem repeats_is (l : List InD) (a : Option Addr) (cap : Nat) (w : World) (r : Bool) (hl : l.length ≤ 8) (hi : InsAt w a l) (h : dupB l = r) :
    Calls Tryz.prog 74 #[.slice a l.length cap] w fun e w' => e = .returned (.bool r) ∧ Below w.heap.size w w' := h ▸ repeats_any l a cap w hl hi

theorem within_yes (n lo hi : Int) (w : World) (h : within n lo hi = true) : Calls Tryz.prog 73 #[.int .i64 n, .int .i64 lo, .int .i64 hi] w fun e w' => e = .returned (.bool true) ∧ w = w' := by
  unfold within at h
  have h := of_decide_eq_true h
  obtain ⟨h1, h2⟩ := h
  go_enter Tryz.func73, Tryz.ntmps73
  go_wp2
  go_ret
  exact ⟨rfl, rfl⟩
theorem within_no (n lo hi : Int) (w : World) (h : within n lo hi = false) : Calls Tryz.prog 73 #[.int .i64 n, .int .i64 lo, .int .i64 hi] w fun e w' => e = .returned (.bool false) ∧ w = w' := by
  unfold within at h
  have h := of_decide_eq_false h
  by_cases h1 : lo ≤ n
  · have h2 : ¬ n ≤ hi := fun h2 => h ⟨h1, h2⟩
    clear h
    go_enter Tryz.func73, Tryz.ntmps73
    go_wp2
    go_ret
    exact ⟨rfl, rfl⟩
  · clear h
    go_enter Tryz.func73, Tryz.ntmps73
    go_wp2
    go_ret
    exact ⟨rfl, rfl⟩
/-- A deed as a value: its Ins lie behind address a. -/
def deedV (a : Option Addr) (cap : Nat) (d : DeedD) : Value := .agg #[.slice a d.ins.length cap, .int .i64 d.outs, .int .i64 d.weight, .int .i64 d.fee]

theorem check_large (l : List InD) (o g f : Int) (a : Option Addr) (cap : Nat) (w : World) (hl : 8 < l.length) :
    Calls Tryz.prog 39 #[.agg #[.slice a l.length cap, .int .i64 o, .int .i64 g, .int .i64 f]] w fun e w' => e = .returned (.int .i64 2) ∧ Below w.heap.size w w' := by
  go_enter Tryz.func39, Tryz.ntmps39
  go_wp2
  go_ret
  exact ⟨rfl, kept_new _ _⟩

/-- What Check answers where there are at most eight Ins. -/
def checkS (l : List InD) (o g f : Int) : Int := if atsB l = false then 1 else if dupB l = true then 6 else if restB o g f = false then 1 else 0

set_option maxHeartbeats 2000000 in
theorem check_small (l : List InD) (o g f : Int) (a : Option Addr) (cap : Nat) (w : World) (hl : l.length ≤ 8) (hi : InsAt w a l) :
    Calls Tryz.prog 39 #[.agg #[.slice a l.length cap, .int .i64 o, .int .i64 g, .int .i64 f]] w fun e w' => e = .returned (.int .i64 (checkS l o g f)) ∧ Below w.heap.size w w' := by
  have hi0 := insAt_kept (kept_new w (.cells #[.slice a l.length cap, .int .i64 o, .int .i64 g, .int .i64 f] 53)) hi
  go_enter Tryz.func39, Tryz.ntmps39
  go_wp2
  go_loopw [13] (fun i wr => ∃ k : Nat, k ≤ l.length ∧ i = .int .i64 k ∧ Hid (atsB (l.take k) = true) ∧ Below (w.alloc (.cells #[.slice a l.length cap, .int .i64 o, .int .i64 g, .int .i64 f] 53)).heap.size (w.alloc (.cells #[.slice a l.length cap, .int .i64 o, .int .i64 g, .int .i64 f] 53)) wr) (fun i _ => l.length - (intOf i).toNat)
  case atStart => exact ⟨0, Nat.zero_le _, rfl, Lib.hid rfl, Below.refl _ _⟩
  case round =>
    obtain ⟨k, hk, rfl, NO, hbel⟩ := hrel
    have hkw := kept_trans (kept_new _ _) hbel
    by_cases hlt : k < l.length
    · obtain ⟨b, oo, rfl, hb, hd0, hd1, hok⟩ := insAt_kept hbel hi0 k hlt
      by_cases hx : within l[k].2 0 15 = true
      · have HX := Lib.hid hx
        clear hx
        go_wp2_with fail
        with_reducible refine (within_yes _ _ _ _ HX.out).mono ?_
        rintro e w' ⟨rfl, rfl⟩
        go_wp2_with fail
        go_roundw
        case rel => exact ⟨k + 1, by omega, by go_num, Lib.hid (atsB_take hlt NO.out HX.out), kept_alloc hbel _⟩
        case measure => simp [intOf]; omega
      · rw [Bool.not_eq_true] at hx
        have HX := Lib.hid hx
        clear hx
        go_wp2_with fail
        with_reducible refine (within_no _ _ _ _ HX.out).mono ?_
        rintro e w' ⟨rfl, rfl⟩
        go_wp2_with fail
        go_ret
        exact ⟨ret_i64 (by unfold checkS; rw [if_pos (atsB_bad hlt HX.out)]), kept_alloc hkw _⟩
    · have hats := NO.out
      rw [List.take_of_length_le (by omega)] at hats
      have HA := Lib.hid hats
      clear hats NO
      obtain ⟨c0, c1, c2, c3, hws⟩ := box_four hbel
      have hir := insAt_kept hbel hi0
      by_cases hdup : dupB l = true
      · have HD := Lib.hid hdup
        clear hdup
        go_wp2_with fail
        with_reducible refine (repeats_is l _ _ _ true hl hir HD.out).mono ?_
        rintro e w1 ⟨rfl, hb1⟩
        go_wp2_with fail
        go_ret
        exact ⟨ret_i64 (by unfold checkS; rw [if_neg (by rw [HA.out]; decide), if_pos HD.out]), kept_trans hkw hb1⟩
      · rw [Bool.not_eq_true] at hdup
        have HD := Lib.hid hdup
        clear hdup
        have base : checkS l o g f = if restB o g f = false then 1 else 0 := by unfold checkS; rw [if_neg (by rw [HA.out]; decide), if_neg (by rw [HD.out]; decide)]
        have HB := Lib.hid base
        clear base
        go_wp2_with fail
        with_reducible refine (repeats_is l _ _ _ false hl hir HD.out).mono ?_
        rintro e w1 ⟨rfl, hb1⟩
        obtain ⟨d0, d1, d2, d3, hws1⟩ := box_four (kept_trans hbel hb1)
        have hk1 := kept_trans hkw hb1
        clear hb1 hbel hkw hir
        by_cases ho : within o 1 16 = true
        · by_cases hg : within g 1 1000 = true
          · by_cases hf : within f 0 1000 = true
            · have HR := Lib.hid (show restB o g f = true by unfold restB; rw [ho, hg, hf]; rfl)
              have HO := Lib.hid ho
              have HG := Lib.hid hg
              have HF := Lib.hid hf
              clear ho hg hf
              go_wp2_with fail
              with_reducible refine (within_yes _ _ _ _ HO.out).mono ?_
              rintro e w' ⟨rfl, rfl⟩
              go_wp2_with fail
              with_reducible refine (within_yes _ _ _ _ HG.out).mono ?_
              rintro e w' ⟨rfl, rfl⟩
              go_wp2_with fail
              with_reducible refine (within_yes _ _ _ _ HF.out).mono ?_
              rintro e w' ⟨rfl, rfl⟩
              go_wp2_with fail
              go_ret
              exact ⟨ret_i64 (by rw [HB.out, if_neg (by rw [HR.out]; decide)]), hk1⟩
            · rw [Bool.not_eq_true] at hf
              have HR := Lib.hid (show restB o g f = false by unfold restB; rw [ho, hg, hf]; rfl)
              have HO := Lib.hid ho
              have HG := Lib.hid hg
              have HF := Lib.hid hf
              clear ho hg hf
              go_wp2_with fail
              with_reducible refine (within_yes _ _ _ _ HO.out).mono ?_
              rintro e w' ⟨rfl, rfl⟩
              go_wp2_with fail
              with_reducible refine (within_yes _ _ _ _ HG.out).mono ?_
              rintro e w' ⟨rfl, rfl⟩
              go_wp2_with fail
              with_reducible refine (within_no _ _ _ _ HF.out).mono ?_
              rintro e w' ⟨rfl, rfl⟩
              go_wp2_with fail
              go_ret
              exact ⟨ret_i64 (by rw [HB.out, if_pos HR.out]), hk1⟩
          · rw [Bool.not_eq_true] at hg
            have HR := Lib.hid (show restB o g f = false by unfold restB; rw [ho, hg]; rfl)
            have HO := Lib.hid ho
            have HG := Lib.hid hg
            clear ho hg
            go_wp2_with fail
            with_reducible refine (within_yes _ _ _ _ HO.out).mono ?_
            rintro e w' ⟨rfl, rfl⟩
            go_wp2_with fail
            with_reducible refine (within_no _ _ _ _ HG.out).mono ?_
            rintro e w' ⟨rfl, rfl⟩
            go_wp2_with fail
            go_ret
            exact ⟨ret_i64 (by rw [HB.out, if_pos HR.out]), hk1⟩
        · rw [Bool.not_eq_true] at ho
          have HR := Lib.hid (show restB o g f = false by unfold restB; rw [ho]; rfl)
          have HO := Lib.hid ho
          clear ho
          go_wp2_with fail
          with_reducible refine (within_no _ _ _ _ HO.out).mono ?_
          rintro e w' ⟨rfl, rfl⟩
          go_wp2_with fail
          go_ret
          exact ⟨ret_i64 (by rw [HB.out, if_pos HR.out]), hk1⟩
end Go.Proofs.YtmbejeibcncmmaaGreat
namespace Go.Proofs.YtmbejeibcncmmaaGreat
open Go.RowKit

theorem insAt_take {w : World} {a : Option Addr} {l : List InD} (k : Nat) (h : InsAt w a l) : InsAt w a (l.take k) := fun i hi => by
  have h1 : i < l.length := by rw [List.length_take] at hi; omega
  rw [List.getElem_take]
  exact h i h1
/-- Check, whatever the deed. -/
theorem check_any (d : DeedD) (a : Option Addr) (cap : Nat) (w : World) (hi : InsAt w a d.ins) :
    Calls Tryz.prog 39 #[deedV a cap d] w fun e w' => e = .returned (.int .i64 (checkD d)) ∧ Below w.heap.size w w' := by
  by_cases h : 8 < d.ins.length
  · refine (check_large d.ins d.outs d.weight d.fee a cap w h).mono ?_
    rintro e w' ⟨rfl, hb⟩
    exact ⟨ret_i64 (by unfold checkD; rw [if_pos h]), hb⟩
  · refine (check_small d.ins d.outs d.weight d.fee a cap w (by omega) hi).mono ?_
    rintro e w' ⟨rfl, hb⟩
    exact ⟨ret_i64 (by unfold checkD checkS; rw [if_neg h]), hb⟩
end Go.Proofs.YtmbejeibcncmmaaGreat
namespace Go.Proofs.YtmbejeibcncmmaaGreat
open Go.RowKit

theorem check_ok {d : DeedD} (h : checkD d = 0) : d.ins.length ≤ 8 ∧ (∀ k (hk : k < d.ins.length), 0 ≤ (d.ins[k]).2 ∧ (d.ins[k]).2 ≤ 15) ∧ dupB d.ins = false ∧ (1 ≤ d.outs ∧ d.outs ≤ 16) ∧ (1 ≤ d.weight ∧ d.weight ≤ 1000) ∧ (0 ≤ d.fee ∧ d.fee ≤ 1000) := by
  unfold checkD at h
  split at h
  · cases h
  · split at h
    · cases h
    · split at h
      · cases h
      · split at h
        · cases h
        · rename_i h1 h2 h3 h4
          simp only [Bool.not_eq_false, Bool.not_eq_true] at h2 h3 h4
          refine ⟨by omega, fun k hk => ?_, h3, ?_⟩
          · have := List.all_eq_true.1 h2 _ (List.getElem_mem hk)
            exact of_decide_eq_true this
          · unfold restB within at h4
            simp only [Bool.and_eq_true, decide_eq_true_eq] at h4
            exact ⟨h4.1.1, h4.1.2, h4.2⟩

theorem check_is (d : DeedD) (a : Option Addr) (cap : Nat) (w : World) (r : Int) (hi : InsAt w a d.ins) (h : checkD d = r) :
    Calls Tryz.prog 39 #[.agg #[.slice a d.ins.length cap, .int .i64 d.outs, .int .i64 d.weight, .int .i64 d.fee]] w fun e w' => e = .returned (.int .i64 r) ∧ Below w.heap.size w w' := h ▸ check_any d a cap w hi
theorem four_kept {w w' : World} (hg : w.grownBy w' none) {b : Nat} {u0 u1 u2 u3 : Value} (h0 : w.cell? ⟨b, 0, none⟩ = some u0) (h1 : w.cell? ⟨b, 1, none⟩ = some u1) (h2 : w.cell? ⟨b, 2, none⟩ = some u2) (h3 : w.cell? ⟨b, 3, none⟩ = some u3) :
    w'.cell? ⟨b, 0, none⟩ = some u0 ∧ w'.cell? ⟨b, 1, none⟩ = some u1 ∧ w'.cell? ⟨b, 2, none⟩ = some u2 ∧ w'.cell? ⟨b, 3, none⟩ = some u3 :=
  ⟨hg.cell h0 (by simp), hg.cell h1 (by simp), hg.cell h2 (by simp), hg.cell h3 (by simp)⟩
end Go.Proofs.YtmbejeibcncmmaaGreat
namespace Go.Proofs.YtmbejeibcncmmaaGreat
open Go.RowKit

def inC (x : InD) : List Value := [.int .u64 x.1.toNat, .int .i64 x.2]
def insC (l : List InD) : List Value := l.flatMap inC
theorem insC_length (l : List InD) : (insC l).length = l.length * 2 := by
  induction l with
  | nil => rfl
  | cons a r ih => simp only [insC, List.flatMap_cons, List.length_append, List.length_cons, inC, List.length_nil] at ih ⊢; omega
theorem insC_at : ∀ (l : List InD) (i : Nat) (h : i < l.length) (j : Nat), j < 2 → (insC l)[i * 2 + j]? = (inC l[i])[j]?
  | [], i, h, _, _ => absurd h (by simp)
  | a :: r, 0, _, j, hj => by
    show (inC a ++ insC r)[0 * 2 + j]? = _
    rw [List.getElem?_append_left (by simp [inC]; omega)]
    simp
  | a :: r, i + 1, h, j, hj => by
    show (inC a ++ insC r)[(i + 1) * 2 + j]? = _
    rw [List.getElem?_append_right (by simp [inC]; omega), show (inC a).length = 2 from rfl, show (i + 1) * 2 + j - 2 = i * 2 + j by omega, insC_at r i (by simpa using h) j hj]
    rfl
/-- The slice v holds these Ins, in a block of its own. -/
abbrev OwnIns (w : World) (v : Value) (l : List InD) : Prop := w.ownsRow 0 64 2 v l.length (insC l)
theorem ownIns_at {w : World} {v : Value} {l : List InD} (h : OwnIns w v l) (hok : ∀ x ∈ l, inOk x) : ∃ a cap, v = .slice a l.length cap ∧ l.length ≤ cap ∧ InsAt w a l := by
  rcases h.2 with ⟨hv, hn⟩ | ⟨g, cap, cur, hv, hB, hg, hc, _, _, _⟩
  · exact ⟨none, 0, by rw [hn]; exact hv, by omega, fun i hi => absurd hi (by omega)⟩
  · refine ⟨some ⟨g, 0, none⟩, cap, hv, hc, fun i hi => ⟨g, 0, rfl, (Array.getElem?_eq_some_iff.1 hg).1, ?_⟩⟩
    have hh := h
    rw [hv] at hh
    have hat : ∀ j, j < 2 → w.cell? ⟨g, 0 + i * 2 + j, none⟩ = (inC l[i])[j]? := fun j hj => by
      rw [Nat.zero_add, hh.cellAt (i * 2 + j) (by omega)]
      exact insC_at l i hi j hj
    exact ⟨hat 0 (by omega), hat 1 (by omega), hok _ (List.getElem_mem hi)⟩
theorem ownIns_slice {w : World} {a : Option Addr} {n cap : Nat} {l : List InD} (h : OwnIns w (.slice a n cap) l) (hok : ∀ x ∈ l, inOk x) : n = l.length ∧ n ≤ cap ∧ InsAt w a l := by
  obtain ⟨a', cap', e, hc, hi⟩ := ownIns_at h hok
  simp only [Value.slice.injEq] at e
  obtain ⟨rfl, rfl, rfl⟩ := e
  exact ⟨rfl, hc, hi⟩

/-- A function value that says of an In whether it is chosen, in every world that keeps K. -/
def PicksN (K : World → Prop) (f : FuncId) (cap : Array Value) (q : InD → Bool) : Prop :=
  (∀ (args : Array Value) (w : World), (callFunc f args).run Tryz.prog w = .ok (.enter f args) w) ∧
  ∀ (e : InD) (w : World), K w → Calls Tryz.prog f (#[inV e] ++ cap) w fun x w' => x = .returned (.bool (q e)) ∧ Below w.heap.size w w'
theorem inIndex_any (K : World → Prop) (hK : ∀ a b, K a → Below a.heap.size a b → K b) (f : FuncId) (cap : Array Value) (q : InD → Bool) (hp : PicksN K f cap q) (l : List InD) (a : Option Addr) (cp : Nat) (w : World) (hw : K w) (hl : l.length ≤ 1000) (hi : InsAt w a l) :
    Calls Tryz.prog 161 #[.slice a l.length cp, .func (.func f) #[] cap] w fun e w' => e = .returned (.int .i64 (firstAt q l)) ∧ Below w.heap.size w w' := by
  have hcf := hp.1
  have HP := Lib.hid hp.2
  have HK := Lib.hid hK
  have HW := Lib.hid hw
  clear hp hK hw
  go_enter Tryz.func161, Tryz.ntmps161
  go_wp2
  go_loopw [8] (fun i wr => ∃ k : Nat, k ≤ l.length ∧ i = .int .i64 k ∧ Hid ((l.take k).findIdx? q = none) ∧ Below w.heap.size w wr) (fun i _ => l.length - (intOf i).toNat)
  case atStart => exact ⟨0, Nat.zero_le _, rfl, Lib.hid rfl, Below.refl _ _⟩
  case round =>
    obtain ⟨k, hk, rfl, NO, hbel⟩ := hrel
    by_cases hlt : k < l.length
    · obtain ⟨b, o, rfl, hb, c0, c1, _⟩ := insAt_kept hbel hi k hlt
      go_wp2_with fail
      refine (HP.out l[k] _ (HK.out _ _ HW.out hbel)).mono ?_
      rintro e w1 ⟨rfl, hb1⟩
      cases hq : q l[k] with
      | true =>
        have HQ := Lib.hid hq
        clear hq
        go_wp2
        go_ret
        refine ⟨ret_i64 ?_, kept_trans hbel hb1⟩
        exact (firstAt_hit hlt NO.out HQ.out).symm
      | false =>
        have HQ := Lib.hid hq
        clear hq
        go_wp2
        go_roundw
        case rel => exact ⟨k + 1, by omega, by go_num, Lib.hid (firstAt_miss hlt NO.out HQ.out), kept_trans hbel hb1⟩
        case measure => simp [intOf]; omega
    · go_wp2
      go_ret
      refine ⟨ret_i64 ?_, hbel⟩
      have := NO.out
      rw [List.take_of_length_le (by omega)] at this
      unfold firstAt
      rw [this]
theorem inContains_any (K : World → Prop) (hK : ∀ a b, K a → Below a.heap.size a b → K b) (f : FuncId) (fc : Array Value) (q : InD → Bool) (hp : PicksN K f fc q) (l : List InD) (a : Option Addr) (cp : Nat) (w : World) (hw : K w) (hl : l.length ≤ 1000) (hi : InsAt w a l) :
    Calls Tryz.prog 150 #[.slice a l.length cp, .func (.func f) #[] fc] w fun e w' => e = .returned (.bool (l.any q)) ∧ Below w.heap.size w w' := by
  have HP := Lib.hid hp
  have HK := Lib.hid hK
  have HW := Lib.hid hw
  have HI := Lib.hid hi
  clear hp hK hw hi
  go_enter Tryz.func150, Tryz.ntmps150
  go_wp2_with fail
  refine (inIndex_any K HK.out f fc q HP.out l _ _ w HW.out hl HI.out).mono ?_
  rintro e w1 ⟨rfl, hb1⟩
  have e1 := firstAt_neg q l
  obtain ⟨i, hi⟩ : ∃ i, firstAt q l = i := ⟨_, rfl⟩
  rw [hi] at e1 ⊢
  go_wp2
  go_ret
  exact ⟨rfl, hb1⟩
theorem picks_spends (c : Nat) (x : UInt64) : PicksN (CellIs c (.int .u64 x.toNat)) 151 #[.pointer (some ⟨c, 0, none⟩)] (fun e => e.1 == x) := by
  refine ⟨fun _ _ => by kernel_rfl, fun e w hw => ?_⟩
  unfold inV
  have hc := cell_spot hw
  have hw : w.cell? ⟨c, 0, none⟩ = some (.int .u64 x.toNat) := hw
  have hlt : c < w.heap.size := hc.2
  clear hc
  have hq : ((e.1.toNat : Int) == (x.toNat : Int)) = (e.1 == x) := u64_beq e.1 x
  show Calls Tryz.prog 151 #[.agg #[.int .u64 e.1.toNat, .int .i64 e.2], .pointer (some ⟨c, 0, none⟩)] w _
  go_enter Tryz.func151, Tryz.ntmps151
  go_wp2
  go_ret
  exact ⟨rfl, kept_new _ _⟩
/-- A deed spends an output of x. -/
def spendsD (d : DeedD) (x : UInt64) : Bool := d.ins.any fun e => e.1 == x
theorem spends_any (d : DeedD) (x : UInt64) (a : Option Addr) (cap : Nat) (w : World) (hl : d.ins.length ≤ 1000) (hi : InsAt w a d.ins) :
    Calls Tryz.prog 115 #[.agg #[.slice a d.ins.length cap, .int .i64 d.outs, .int .i64 d.weight, .int .i64 d.fee], .int .u64 x.toNat] w fun e w' => e = .returned (.bool (spendsD d x)) ∧ Below w.heap.size w w' := by
  have hk : Below w.heap.size w ((w.alloc (.cells #[.slice a d.ins.length cap, .int .i64 d.outs, .int .i64 d.weight, .int .i64 d.fee] 53)).alloc (.cells #[.int .u64 x.toNat] 22)) := kept_alloc (kept_new _ _) _
  have HI := Lib.hid (insAt_kept hk hi)
  have HC : Hid (CellIs (w.heap.size + 1) (.int .u64 x.toNat) ((w.alloc (.cells #[.slice a d.ins.length cap, .int .i64 d.outs, .int .i64 d.weight, .int .i64 d.fee] 53)).alloc (.cells #[.int .u64 x.toNat] 22))) := Lib.hid (by
    have := cellIs_new (w.alloc (.cells #[.slice a d.ins.length cap, .int .i64 d.outs, .int .i64 d.weight, .int .i64 d.fee] 53)) (.int .u64 x.toNat) 22
    simpa using this)
  clear hi
  go_enter Tryz.func115, Tryz.ntmps115
  go_wp2_with fail
  refine (inContains_any _ (cellIs_kept _ _) _ _ _ (picks_spends (w.heap.size + 1) x) d.ins _ _ _ HC.out hl HI.out).mono ?_
  rintro e w1 ⟨rfl, hb1⟩
  go_wp2
  go_ret
  exact ⟨rfl, kept_trans hk hb1⟩
end Go.Proofs.YtmbejeibcncmmaaGreat
