/-
  slices.IndexFunc, DeleteFunc, Index and Contains of IDs (up to a thousand).
-/
import Derived.Test.YtodhkphjlcjdoaaFirstAt
import Derived.Test.YtodhkphjlcjdoaaRows1
import Derived.Test.YtodhkphjlcjdoaaTurn
import Derived.Test.YtodhkphjlcjdoaaIdsOwn
namespace Go.Proofs.Ytodhkphjlcjdoaa
open Go.RowKit

/-- A function value that says of an ID whether it is chosen, in every world that keeps K. -/
def PicksI (K : World → Prop) (f : FuncId) (cap : Array Value) (q : UInt64 → Bool) : Prop :=
  (∀ (args : Array Value) (w : World), (callFunc f args).run Try.prog w = .ok (.enter f args) w) ∧
  ∀ (x : UInt64) (w : World), K w → Calls Try.prog f (#[.int .u64 x.toNat] ++ cap) w fun e w' => e = .returned (.bool (q x)) ∧ Below w.heap.size w w'

set_option maxRecDepth 20000 in
theorem indexId_any (K : World → Prop) (hK : ∀ a b, K a → Below a.heap.size a b → K b) (f : FuncId) (cap : Array Value) (q : UInt64 → Bool) (hp : PicksI K f cap q) (l : List UInt64) (a : Option Addr) (cp : Nat) (w : World) (hw : K w) (hl : l.length ≤ 1000) (hi : IdsAt w a l) :
    Calls Try.prog 71 #[.slice a l.length cp, .func (.func f) #[] cap] w fun e w' => e = .returned (.int .i64 (firstAt q l)) ∧ Below w.heap.size w w' := by
  have hcf := hp.1
  have HP := Lib.hid hp.2
  have HK := Lib.hid hK
  have HW := Lib.hid hw
  clear hp hK hw
  go_enter Try.func71, Try.ntmps71
  go_wp2
  go_loopw [8] (fun i wr => ∃ k : Nat, k ≤ l.length ∧ i = .int .i64 k ∧ Hid ((l.take k).findIdx? q = none) ∧ Below w.heap.size w wr) (fun i _ => l.length - (intOf i).toNat)
  case atStart => exact ⟨0, Nat.zero_le _, rfl, Lib.hid rfl, Below.refl _ _⟩
  case round =>
    obtain ⟨k, hk, rfl, NO, hbel⟩ := hrel
    by_cases hlt : k < l.length
    · obtain ⟨b, o, rfl, hb, c0⟩ := idsAt_kept hbel hi k hlt
      go_wp2_with fail
      refine (HP.out l[k] _ (HK.out _ _ HW.out hbel)).mono ?_
      rintro e w1 ⟨rfl, hb1⟩
      cases hq : q l[k] with
      | true =>
        have HQ := Lib.hid hq
        clear hq
        go_wp2
        go_ret
        refine ⟨ret_i64 ?_, kept_trans hbel hb1⟩
        exact (firstAt_hit hlt NO.out HQ.out).symm
      | false =>
        have HQ := Lib.hid hq
        clear hq
        go_wp2
        go_roundw
        case rel => exact ⟨k + 1, by omega, by go_num, Lib.hid (firstAt_miss hlt NO.out HQ.out), kept_trans hbel hb1⟩
        case measure => simp [intOf]; omega
    · go_wp2
      go_ret
      refine ⟨ret_i64 ?_, hbel⟩
      have := NO.out
      rw [List.take_of_length_le (by omega)] at this
      unfold firstAt
      rw [this]

theorem zero_u64 (w : World) : (zeroValue 29).run Try.prog w = .ok (.int .u64 0) w := by kernel_rfl
theorem ids_clear {w : World} {g cap i n : Nat} {m : List UInt64} (hi : i < n) (hn : m.length = n) (ho : OwnIds w 0 (.slice (some ⟨g, 0, none⟩) n cap) m) :
    ∃ w', (∀ ty, (Builtin.clear_ #[37] ty #[.slice (some ⟨g, i, none⟩) (n - i) (cap - i)]).run Try.prog w = .ok (.tuple #[]) w') ∧ OwnIds w' 0 (.slice (some ⟨g, 0, none⟩) i cap) (m.take i) ∧ Turn (fun k => k = g) (fun k => k = g) w w' := by
  subst hn
  obtain ⟨w', h1, h2, h3⟩ := clear_row (t := 37) (size := 1) _ Try.underlying37 zero_u64 rfl (by decide) (by decide) hi ho
  simp only [Nat.mul_one] at h1 h2
  refine ⟨w', h1, ?_, h3⟩
  unfold OwnIds
  rw [List.map_take, List.length_take, Nat.min_eq_left (Nat.le_of_lt hi)]
  exact h2
theorem id_stored {w : World} {g cap n : Nat} {m : List UInt64} (ho : OwnIds w 0 (.slice (some ⟨g, 0, none⟩) n cap) m) (hn : m.length = n) (i : Nat) (x : UInt64) : OwnIds (w.setCell ⟨g, i, none⟩ (.int .u64 x.toNat)) 0 (.slice (some ⟨g, 0, none⟩) n cap) (m.set i x) ∧ Turn (fun k => k = g) (fun k => k = g) w (w.setCell ⟨g, i, none⟩ (.int .u64 x.toNat)) := by
  subst hn
  refine ⟨?_, Turn.set (F := fun k => k = g) w ⟨g, i, none⟩ _ rfl⟩
  unfold OwnIds
  rw [List.map_set, List.length_set]
  exact (ho.stored i _).1
/-- The owned slice in the case that it is not nil. -/
theorem ownIds_some {w : World} {g cap n : Nat} {l : List UInt64} (h : OwnIds w 0 (.slice (some ⟨g, 0, none⟩) n cap) l) (i : Nat) (hi : i < l.length) : w.cell? ⟨g, i, none⟩ = some (.int .u64 l[i].toNat) ∧ w.frozen? ⟨g, i, none⟩ = false ∧ g < w.heap.size := by
  obtain ⟨a, c, e, _, hat, _⟩ := owns_idsAt h
  simp only [Value.slice.injEq] at e
  obtain ⟨rfl, rfl, rfl⟩ := e
  obtain ⟨b, o, e, hb, hc⟩ := hat i hi
  simp only [Option.some.injEq, Addr.mk.injEq, and_true] at e
  obtain ⟨rfl, rfl⟩ := e
  rw [Nat.zero_add] at hc
  exact ⟨hc, h.frozenAt i, hb⟩

set_option maxRecDepth 20000 in
theorem deleteId_any (K : World → Prop) (hK : ∀ a b, K a → Below a.heap.size a b → K b) (f : FuncId) (fc : Array Value) (q : UInt64 → Bool) (hp : PicksI K f fc q) (l : List UInt64) (g cap : Nat) (w : World) (hw : K w) (hKs : ∀ a j u, K a → K (a.setCell ⟨g, j, none⟩ u)) (hl : l.length ≤ 1000)
    (ho : OwnIds w 0 (.slice (some ⟨g, 0, none⟩) l.length cap) l) :
    Calls Try.prog 46 #[.slice (some ⟨g, 0, none⟩) l.length cap, .func (.func f) #[] fc] w fun e w' => ∃ n c, e = .returned (.slice (some ⟨g, 0, none⟩) n c) ∧ OwnIds w' 0 (.slice (some ⟨g, 0, none⟩) n c) (l.filter fun e => !q e) ∧ Turn (fun k => k = g) (fun k => k = g) w w' := by
  have hcf := hp.1
  have HPP := Lib.hid hp
  have HP := Lib.hid hp.2
  have HK := Lib.hid hK
  have HKs := Lib.hid hKs
  have HW := Lib.hid hw
  clear hp hK hw hKs
  obtain ⟨a0, c0, e0, hc0, hat, _⟩ := owns_idsAt ho
  simp only [Value.slice.injEq, true_and] at e0
  obtain ⟨rfl, rfl⟩ := e0
  have HO := Lib.hid ho
  clear ho
  go_enter Try.func46, Try.ntmps46
  go_wp2_with fail
  refine (indexId_any K HK.out f fc q HPP.out l _ _ w HW.out hl hat).mono ?_
  rintro e w1 ⟨rfl, hb1⟩
  cases hx : l.findIdx? q with
  | none =>
    have e1 : firstAt q l = -1 := by unfold firstAt; rw [hx]
    have HX := Lib.hid hx
    rw [e1]
    clear hx e1
    go_wp2
    go_ret
    exact ⟨_, _, rfl, by rw [filter_none HX.out]; exact owns_below HO.out hb1, Turn.of_below hb1⟩
  | some i0 =>
    have e1 : firstAt q l = (i0 : Int) := by unfold firstAt; rw [hx]
    have hi0 : i0 < l.length := by have := List.findIdx?_eq_some_iff_getElem.1 hx; exact this.1
    have HX := Lib.hid hx
    have hne : ((i0 : Int) == -1) = false := by rw [beq_eq_false_iff_ne]; omega
    rw [e1]
    clear hx e1
    go_wp2
    go_loopw [5, 6] (fun vi vj wr => ∃ (i j : Nat) (m : List UInt64), vi = .int .i64 i ∧ vj = .int .i64 j ∧ i < j ∧ j ≤ l.length ∧ m.length = l.length ∧ Hid (OwnIds wr 0 (.slice (some ⟨g, 0, none⟩) l.length cap) m) ∧
      Hid (m.take i = (l.take j).filter (fun e => !q e)) ∧ Hid (m.drop j = l.drop j) ∧ Hid (Turn (fun k => k = g) (fun k => k = g) w wr) ∧ Hid (K wr)) (fun _ j _ => l.length - (intOf j).toNat)
    case atStart => exact ⟨i0, i0 + 1, l, rfl, by go_num, by omega, by omega, rfl, Lib.hid (owns_below HO.out hb1), Lib.hid (take_filter_start HX.out), Lib.hid rfl, Lib.hid (Turn.of_below hb1), Lib.hid (HK.out _ _ HW.out hb1)⟩
    case round =>
      obtain ⟨i, j, m, rfl, rfl, hij, hj, hml, HO, HT, HD, HU, HKw⟩ := hrel
      by_cases hlt : j < l.length
      · obtain ⟨c0, _, hgl⟩ := ownIds_some HO.out j (by omega)
        go_wp2_with fail
        refine (HP.out m[j] _ HKw.out).mono ?_
        rintro e w2 ⟨rfl, hb3⟩
        cases hq : q m[j] with
        | true =>
          have HQ := Lib.hid hq
          clear hq
          go_wp2
          go_roundw
          case rel =>
            obtain ⟨hm1, hm2⟩ := drop_at HD.out (by omega) hlt
            exact ⟨i, j + 1, m, rfl, by go_num, by omega, by omega, hml, Lib.hid (owns_below HO.out hb3), Lib.hid (take_filter_out hlt HT.out (by rw [← hm1, HQ.out]; rfl)), Lib.hid hm2, Lib.hid (HU.out.trans (Turn.of_below hb3)), Lib.hid (HK.out _ _ HKw.out hb3)⟩
          case measure => simp [intOf]; omega
        | false =>
          have HQ := Lib.hid hq
          clear hq
          obtain ⟨k0, f0, hgl2⟩ := ownIds_some (owns_below HO.out hb3) i (by omega)
          go_wp2
          go_roundw
          case rel =>
            obtain ⟨hm1, hm2⟩ := drop_at HD.out (by omega) hlt
            obtain ⟨r1, r2⟩ := id_stored (owns_below HO.out hb3) hml i m[j]
            exact ⟨i + 1, j + 1, m.set i m[j], by go_num, by go_num, by omega, by omega, by simpa using hml, Lib.hid r1, Lib.hid (by rw [hm1]; exact take_filter_in (by omega) hlt HT.out (by rw [← hm1, HQ.out]; rfl)), Lib.hid (by rw [drop_set _ (by omega)]; exact hm2), Lib.hid ((HU.out.trans (Turn.of_below hb3)).trans r2), Lib.hid (HKs.out _ _ _ (HK.out _ _ HKw.out hb3))⟩
          case measure => simp [intOf]; omega
      · obtain ⟨w3, hcl, ho3, ht3⟩ := ids_clear (i := i) (by omega) hml HO.out
        have HO3 := Lib.hid ho3
        have HT3 := Lib.hid ht3
        clear ho3 ht3
        go_wp2_with fail
        go_ret
        have hj' : j = l.length := by omega
        have h4 := HT.out
        rw [hj', List.take_of_length_le (Nat.le_refl _)] at h4
        exact ⟨_, _, rfl, by rw [← h4]; exact HO3.out, HU.out.trans HT3.out⟩
theorem deleteId_nil (K : World → Prop) (hK : ∀ a b, K a → Below a.heap.size a b → K b) (f : FuncId) (fc : Array Value) (q : UInt64 → Bool) (hp : PicksI K f fc q) (w : World) (hw : K w) :
    Calls Try.prog 46 #[.slice none 0 0, .func (.func f) #[] fc] w fun e w' => e = .returned (.slice none 0 0) ∧ Below w.heap.size w w' := by
  have HP := Lib.hid hp
  have HK := Lib.hid hK
  have HW := Lib.hid hw
  clear hp hK hw
  go_enter Try.func46, Try.ntmps46
  go_wp2_with fail
  refine (indexId_any K HK.out f fc q HP.out [] none 0 w HW.out (by decide) (idsAt_nil _ _)).mono ?_
  rintro e w1 ⟨rfl, hb1⟩
  have e1 : firstAt q [] = -1 := rfl
  rw [e1]
  clear e1
  go_wp2
  go_ret
  exact ⟨rfl, hb1⟩
/-- Whatever the slice: it stays in its block, if it has one. -/
theorem deleteId_own (K : World → Prop) (hK : ∀ a b, K a → Below a.heap.size a b → K b) (f : FuncId) (fc : Array Value) (q : UInt64 → Bool) (hp : PicksI K f fc q) (l : List UInt64) (v : Value) (w : World) (hw : K w) (hKs : ∀ g, v.ownBlock = some g → ∀ a j u, K a → K (a.setCell ⟨g, j, none⟩ u)) (hl : l.length ≤ 1000) (ho : OwnIds w 0 v l) :
    Calls Try.prog 46 #[v, .func (.func f) #[] fc] w fun e w' => ∃ a n c, e = .returned (.slice a n c) ∧ OwnIds w' 0 (.slice a n c) (l.filter fun e => !q e) ∧ (Value.slice a n c).ownBlock = v.ownBlock ∧ Turn (fun k => v.ownBlock = some k) (fun k => v.ownBlock = some k) w w' := by
  rcases ho.2 with ⟨rfl, hn⟩ | ⟨g, cap, cur, rfl, _, _, _, _, _, _⟩
  · obtain rfl : l = [] := List.eq_nil_of_length_eq_zero hn
    exact (deleteId_nil K hK f fc q hp w hw).mono fun e w' ⟨he, hb⟩ => ⟨none, 0, 0, he, World.ownsRow_nil _ _ _ _, rfl, Turn.of_below hb⟩
  · refine (deleteId_any K hK f fc q hp l g cap w hw (hKs g rfl) hl ho).mono fun e w' ⟨n, c, he, h1, h2⟩ => ⟨_, n, c, he, h1, rfl, ?_⟩
    have e1 : (fun k => Value.ownBlock (.slice (some ⟨g, 0, none⟩) l.length cap) = some k) = fun k => k = g := by
      funext k
      simp [Value.ownBlock, eq_comm]
    rw [e1]
    exact h2
theorem idFind_any (x : UInt64) (l : List UInt64) (a : Option Addr) (cp : Nat) (w : World) (hl : l.length ≤ 1000) (hi : IdsAt w a l) :
    Calls Try.prog 64 #[.slice a l.length cp, .int .u64 x.toNat] w fun e w' => e = .returned (.int .i64 (firstAt (fun y => x == y) l)) ∧ Below w.heap.size w w' := by
  go_enter Try.func64, Try.ntmps64
  go_wp2
  go_loopw [8] (fun i wr => ∃ k : Nat, k ≤ l.length ∧ i = .int .i64 k ∧ Hid ((l.take k).findIdx? (fun y => x == y) = none) ∧ Below w.heap.size w wr) (fun i _ => l.length - (intOf i).toNat)
  case atStart => exact ⟨0, Nat.zero_le _, rfl, Lib.hid rfl, Below.refl _ _⟩
  case round =>
    obtain ⟨k, hk, rfl, NO, hbel⟩ := hrel
    by_cases hlt : k < l.length
    · obtain ⟨b, o, rfl, hb, c0⟩ := idsAt_kept hbel hi k hlt
      have hxb : ((x.toNat : Int) == (l[k].toNat : Int)) = (x == l[k]) := u64_beq x l[k]
      cases hx : x == l[k] with
      | true =>
        rw [hx] at hxb
        have HX := Lib.hid hx
        clear hx
        go_wp2
        go_ret
        exact ⟨ret_i64 (firstAt_hit hlt NO.out HX.out).symm, hbel⟩
      | false =>
        rw [hx] at hxb
        have HX := Lib.hid hx
        clear hx
        go_wp2
        go_roundw
        case rel => exact ⟨k + 1, by omega, by go_num, Lib.hid (firstAt_miss hlt NO.out HX.out), hbel⟩
        case measure => simp [intOf]; omega
    · go_wp2
      go_ret
      refine ⟨ret_i64 ?_, hbel⟩
      have := NO.out
      rw [List.take_of_length_le (by omega)] at this
      unfold firstAt
      rw [this]
theorem any_contains (x : UInt64) (l : List UInt64) : (l.any fun y => x == y) = l.contains x := by
  rw [Bool.eq_iff_iff, List.any_eq_true, List.contains_iff_mem]
  constructor
  · rintro ⟨y, hy, e⟩
    rw [beq_iff_eq.1 e]
    exact hy
  · exact fun h => ⟨x, h, by simp⟩
theorem idHas_any (x : UInt64) (l : List UInt64) (r : Bool) (hr : l.contains x = r) (a : Option Addr) (cp : Nat) (w : World) (hl : l.length ≤ 1000) (hi : IdsAt w a l) :
    Calls Try.prog 37 #[.slice a l.length cp, .int .u64 x.toNat] w fun e w' => e = .returned (.bool r) ∧ Below w.heap.size w w' := by
  have HI := Lib.hid hi
  have HR := Lib.hid hr
  clear hi hr
  go_enter Try.func37, Try.ntmps37
  go_wp2_with fail
  refine (idFind_any x l _ _ _ hl HI.out).mono ?_
  rintro e w1 ⟨rfl, hb1⟩
  have e1 := firstAt_neg (fun y => x == y) l
  rw [any_contains, HR.out] at e1
  obtain ⟨i, hi⟩ : ∃ i, firstAt (fun y => x == y) l = i := ⟨_, rfl⟩
  rw [hi] at e1 ⊢
  clear hi
  go_wp2
  go_ret
  exact ⟨rfl, hb1⟩
end Go.Proofs.Ytodhkphjlcjdoaa
