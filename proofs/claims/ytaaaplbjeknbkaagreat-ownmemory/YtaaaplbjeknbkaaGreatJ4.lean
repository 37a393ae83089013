/-
  slices.IndexFunc, DeleteFunc, Index and Contains of IDs (up to a thousand).
  IDs that a call hands out in new memory.
  Contracts of the small functions that deeds and messages share: numbers and IDs as bytes, of the program and of the reference.
  The contract of the program's Encode.
  The contracts of the reference's bytesOf and DeedEncode.
  Contracts of sum.Of and of the reference's Sum, over one translation.
  A slice of IDs among the arguments of a law: what its reading says of memory.
  A deed among the arguments of a law: what its reading says of memory.
-/
import Derived.Test.YtaaaplbjeknbkaaGreatJ2
import Derived.Test.YtaaaplbjeknbkaaGreatJ1
import Derived.Deep.RegionHeld3
import Derived.RegionTactic
import Derived.BigRegion
import Derived.Deep.RegionWith
import Derived.Laws.Bits64b
import Derived.Lib.AppendStr
import Derived.Test.YtaaaplbjeknbkaaGreatJ3
import Derived.ChangeSlices
import Derived.Lib.SmallJoins
import Derived.Deep.SlicePairs
set_option maxRecDepth 20000
namespace Go.Proofs.YtaaaplbjeknbkaaGreat
open Go.RowKit

/-- A function value that says of an ID whether it is chosen, in every world that keeps K. -/
def PicksI (K : World → Prop) (f : FuncId) (cap : Array Value) (q : UInt64 → Bool) : Prop :=
  (∀ (args : Array Value) (w : World), (callFunc f args).run Tryz.prog w = .ok (.enter f args) w) ∧
  ∀ (x : UInt64) (w : World), K w → Calls Tryz.prog f (#[.int .u64 x.toNat] ++ cap) w fun e w' => e = .returned (.bool (q x)) ∧ Below w.heap.size w w'

set_option maxRecDepth 20000 in
theorem indexId_any (K : World → Prop) (hK : ∀ a b, K a → Below a.heap.size a b → K b) (f : FuncId) (cap : Array Value) (q : UInt64 → Bool) (hp : PicksI K f cap q) (l : List UInt64) (a : Option Addr) (cp : Nat) (w : World) (hw : K w) (hl : l.length ≤ 1000) (hi : IdsAt w a l) :
    Calls Tryz.prog 141 #[.slice a l.length cp, .func (.func f) #[] cap] w fun e w' => e = .returned (.int .i64 (firstAt q l)) ∧ Below w.heap.size w w' := by
  have hcf := hp.1
  have HP := Lib.hid hp.2
  have HK := Lib.hid hK
  have HW := Lib.hid hw
  clear hp hK hw
  go_enter Tryz.func141, Tryz.ntmps141
  go_wp2
  go_loopw [8] (fun i wr => ∃ k : Nat, k ≤ l.length ∧ i = .int .i64 k ∧ Hid ((l.take k).findIdx? q = none) ∧ Below w.heap.size w wr) (fun i _ => l.length - (intOf i).toNat)
  case atStart => exact ⟨0, Nat.zero_le _, rfl, Lib.hid rfl, Below.refl _ _⟩
  case round =>
    obtain ⟨k, hk, rfl, NO, hbel⟩ := hrel
    by_cases hlt : k < l.length
    · obtain ⟨b, o, rfl, hb, c0⟩ := idsAt_kept hbel hi k hlt
      go_wp2_with fail
      refine (HP.out l[k] _ (HK.out _ _ HW.out hbel)).mono ?_
      rintro e w1 ⟨rfl, hb1⟩
      cases hq : q l[k] with
      | true =>
        have HQ := Lib.hid hq
        clear hq
        go_wp2
        go_ret
        refine ⟨ret_i64 ?_, kept_trans hbel hb1⟩
        exact (firstAt_hit hlt NO.out HQ.out).symm
      | false =>
        have HQ := Lib.hid hq
        clear hq
        go_wp2
        go_roundw
        case rel => exact ⟨k + 1, by omega, by go_num, Lib.hid (firstAt_miss hlt NO.out HQ.out), kept_trans hbel hb1⟩
        case measure => simp [intOf]; omega
    · go_wp2
      go_ret
      refine ⟨ret_i64 ?_, hbel⟩
      have := NO.out
      rw [List.take_of_length_le (by omega)] at this
      unfold firstAt
      rw [this]

theorem zero_u64 (w : World) : (zeroValue 22).run Tryz.prog w = .ok (.int .u64 0) w := by kernel_rfl
theorem ids_clear {w : World} {g cap i n : Nat} {m : List UInt64} (hi : i < n) (hn : m.length = n) (ho : OwnIds w 0 (.slice (some ⟨g, 0, none⟩) n cap) m) :
    ∃ w', (∀ ty, (Builtin.clear_ #[36] ty #[.slice (some ⟨g, i, none⟩) (n - i) (cap - i)]).run Tryz.prog w = .ok (.tuple #[]) w') ∧ OwnIds w' 0 (.slice (some ⟨g, 0, none⟩) i cap) (m.take i) ∧ Turn (fun k => k = g) (fun k => k = g) w w' := by
  subst hn
  obtain ⟨w', h1, h2, h3⟩ := clear_row (t := 36) (size := 1) _ Tryz.underlying36 zero_u64 rfl (by decide) (by decide) hi ho
  simp only [Nat.mul_one] at h1 h2
  refine ⟨w', h1, ?_, h3⟩
  unfold OwnIds
  rw [List.map_take, List.length_take, Nat.min_eq_left (Nat.le_of_lt hi)]
  exact h2
theorem id_stored {w : World} {g cap n : Nat} {m : List UInt64} (ho : OwnIds w 0 (.slice (some ⟨g, 0, none⟩) n cap) m) (hn : m.length = n) (i : Nat) (x : UInt64) : OwnIds (w.setCell ⟨g, i, none⟩ (.int .u64 x.toNat)) 0 (.slice (some ⟨g, 0, none⟩) n cap) (m.set i x) ∧ Turn (fun k => k = g) (fun k => k = g) w (w.setCell ⟨g, i, none⟩ (.int .u64 x.toNat)) := by
  subst hn
  refine ⟨?_, Turn.set (F := fun k => k = g) w ⟨g, i, none⟩ _ rfl⟩
  unfold OwnIds
  rw [List.map_set, List.length_set]
  exact (ho.stored i _).1
/-- The owned slice in the case that it is not nil. -/
theorem ownIds_some {w : World} {g cap n : Nat} {l : List UInt64} (h : OwnIds w 0 (.slice (some ⟨g, 0, none⟩) n cap) l) (i : Nat) (hi : i < l.length) : w.cell? ⟨g, i, none⟩ = some (.int .u64 l[i].toNat) ∧ w.frozen? ⟨g, i, none⟩ = false ∧ g < w.heap.size := by
  obtain ⟨a, c, e, _, hat, _⟩ := owns_idsAt h
  simp only [Value.slice.injEq] at e
  obtain ⟨rfl, rfl, rfl⟩ := e
  obtain ⟨b, o, e, hb, hc⟩ := hat i hi
  simp only [Option.some.injEq, Addr.mk.injEq, and_true] at e
  obtain ⟨rfl, rfl⟩ := e
  rw [Nat.zero_add] at hc
  exact ⟨hc, h.frozenAt i, hb⟩

set_option maxRecDepth 20000 in
theorem deleteId_any (K : World → Prop) (hK : ∀ a b, K a → Below a.heap.size a b → K b) (f : FuncId) (fc : Array Value) (q : UInt64 → Bool) (hp : PicksI K f fc q) (l : List UInt64) (g cap : Nat) (w : World) (hw : K w) (hKs : ∀ a j u, K a → K (a.setCell ⟨g, j, none⟩ u)) (hl : l.length ≤ 1000)
    (ho : OwnIds w 0 (.slice (some ⟨g, 0, none⟩) l.length cap) l) :
    Calls Tryz.prog 104 #[.slice (some ⟨g, 0, none⟩) l.length cap, .func (.func f) #[] fc] w fun e w' => ∃ n c, e = .returned (.slice (some ⟨g, 0, none⟩) n c) ∧ OwnIds w' 0 (.slice (some ⟨g, 0, none⟩) n c) (l.filter fun e => !q e) ∧ Turn (fun k => k = g) (fun k => k = g) w w' := by
  have hcf := hp.1
  have HPP := Lib.hid hp
  have HP := Lib.hid hp.2
  have HK := Lib.hid hK
  have HKs := Lib.hid hKs
  have HW := Lib.hid hw
  clear hp hK hw hKs
  obtain ⟨a0, c0, e0, hc0, hat, _⟩ := owns_idsAt ho
  simp only [Value.slice.injEq, true_and] at e0
  obtain ⟨rfl, rfl⟩ := e0
  have HO := Lib.hid ho
  clear ho
  go_enter Tryz.func104, Tryz.ntmps104
  go_wp2_with fail
  refine (indexId_any K HK.out f fc q HPP.out l _ _ w HW.out hl hat).mono ?_
  rintro e w1 ⟨rfl, hb1⟩
  cases hx : l.findIdx? q with
  | none =>
    have e1 : firstAt q l = -1 := by unfold firstAt; rw [hx]
    have HX := Lib.hid hx
    rw [e1]
    clear hx e1
    go_wp2
    go_ret
    exact ⟨_, _, rfl, by rw [filter_none HX.out]; exact owns_below HO.out hb1, Turn.of_below hb1⟩
  | some i0 =>
    have e1 : firstAt q l = (i0 : Int) := by unfold firstAt; rw [hx]
    have hi0 : i0 < l.length := by have := List.findIdx?_eq_some_iff_getElem.1 hx; exact this.1
    have HX := Lib.hid hx
    have hne : ((i0 : Int) == -1) = false := by rw [beq_eq_false_iff_ne]; omega
    rw [e1]
    clear hx e1
    go_wp2
    go_loopw [5, 6] (fun vi vj wr => ∃ (i j : Nat) (m : List UInt64), vi = .int .i64 i ∧ vj = .int .i64 j ∧ i < j ∧ j ≤ l.length ∧ m.length = l.length ∧ Hid (OwnIds wr 0 (.slice (some ⟨g, 0, none⟩) l.length cap) m) ∧
      Hid (m.take i = (l.take j).filter (fun e => !q e)) ∧ Hid (m.drop j = l.drop j) ∧ Hid (Turn (fun k => k = g) (fun k => k = g) w wr) ∧ Hid (K wr)) (fun _ j _ => l.length - (intOf j).toNat)
    case atStart => exact ⟨i0, i0 + 1, l, rfl, by go_num, by omega, by omega, rfl, Lib.hid (owns_below HO.out hb1), Lib.hid (take_filter_start HX.out), Lib.hid rfl, Lib.hid (Turn.of_below hb1), Lib.hid (HK.out _ _ HW.out hb1)⟩
    case round =>
      obtain ⟨i, j, m, rfl, rfl, hij, hj, hml, HO, HT, HD, HU, HKw⟩ := hrel
      by_cases hlt : j < l.length
      · obtain ⟨c0, _, hgl⟩ := ownIds_some HO.out j (by omega)
        go_wp2_with fail
        refine (HP.out m[j] _ HKw.out).mono ?_
        rintro e w2 ⟨rfl, hb3⟩
        cases hq : q m[j] with
        | true =>
          have HQ := Lib.hid hq
          clear hq
          go_wp2
          go_roundw
          case rel =>
            obtain ⟨hm1, hm2⟩ := drop_at HD.out (by omega) hlt
            exact ⟨i, j + 1, m, rfl, by go_num, by omega, by omega, hml, Lib.hid (owns_below HO.out hb3), Lib.hid (take_filter_out hlt HT.out (by rw [← hm1, HQ.out]; rfl)), Lib.hid hm2, Lib.hid (HU.out.trans (Turn.of_below hb3)), Lib.hid (HK.out _ _ HKw.out hb3)⟩
          case measure => simp [intOf]; omega
        | false =>
          have HQ := Lib.hid hq
          clear hq
          obtain ⟨k0, f0, hgl2⟩ := ownIds_some (owns_below HO.out hb3) i (by omega)
          go_wp2
          go_roundw
          case rel =>
            obtain ⟨hm1, hm2⟩ := drop_at HD.out (by omega) hlt
            obtain ⟨r1, r2⟩ := id_stored (owns_below HO.out hb3) hml i m[j]
            exact ⟨i + 1, j + 1, m.set i m[j], by go_num, by go_num, by omega, by omega, by simpa using hml, Lib.hid r1, Lib.hid (by rw [hm1]; exact take_filter_in (by omega) hlt HT.out (by rw [← hm1, HQ.out]; rfl)), Lib.hid (by rw [drop_set _ (by omega)]; exact hm2), Lib.hid ((HU.out.trans (Turn.of_below hb3)).trans r2), Lib.hid (HKs.out _ _ _ (HK.out _ _ HKw.out hb3))⟩
          case measure => simp [intOf]; omega
      · obtain ⟨w3, hcl, ho3, ht3⟩ := ids_clear (i := i) (by omega) hml HO.out
        have HO3 := Lib.hid ho3
        have HT3 := Lib.hid ht3
        clear ho3 ht3
        go_wp2_with fail
        go_ret
        have hj' : j = l.length := by omega
        have h4 := HT.out
        rw [hj', List.take_of_length_le (Nat.le_refl _)] at h4
        exact ⟨_, _, rfl, by rw [← h4]; exact HO3.out, HU.out.trans HT3.out⟩
theorem deleteId_nil (K : World → Prop) (hK : ∀ a b, K a → Below a.heap.size a b → K b) (f : FuncId) (fc : Array Value) (q : UInt64 → Bool) (hp : PicksI K f fc q) (w : World) (hw : K w) :
    Calls Tryz.prog 104 #[.slice none 0 0, .func (.func f) #[] fc] w fun e w' => e = .returned (.slice none 0 0) ∧ Below w.heap.size w w' := by
  have HP := Lib.hid hp
  have HK := Lib.hid hK
  have HW := Lib.hid hw
  clear hp hK hw
  go_enter Tryz.func104, Tryz.ntmps104
  go_wp2_with fail
  refine (indexId_any K HK.out f fc q HP.out [] none 0 w HW.out (by decide) (idsAt_nil _ _)).mono ?_
  rintro e w1 ⟨rfl, hb1⟩
  have e1 : firstAt q [] = -1 := rfl
  rw [e1]
  clear e1
  go_wp2
  go_ret
  exact ⟨rfl, hb1⟩
/-- Whatever the slice: it stays in its block, if it has one. -/
theorem deleteId_own (K : World → Prop) (hK : ∀ a b, K a → Below a.heap.size a b → K b) (f : FuncId) (fc : Array Value) (q : UInt64 → Bool) (hp : PicksI K f fc q) (l : List UInt64) (v : Value) (w : World) (hw : K w) (hKs : ∀ g, v.ownBlock = some g → ∀ a j u, K a → K (a.setCell ⟨g, j, none⟩ u)) (hl : l.length ≤ 1000) (ho : OwnIds w 0 v l) :
    Calls Tryz.prog 104 #[v, .func (.func f) #[] fc] w fun e w' => ∃ a n c, e = .returned (.slice a n c) ∧ OwnIds w' 0 (.slice a n c) (l.filter fun e => !q e) ∧ (Value.slice a n c).ownBlock = v.ownBlock ∧ Turn (fun k => v.ownBlock = some k) (fun k => v.ownBlock = some k) w w' := by
  rcases ho.2 with ⟨rfl, hn⟩ | ⟨g, cap, cur, rfl, _, _, _, _, _, _⟩
  · obtain rfl : l = [] := List.eq_nil_of_length_eq_zero hn
    exact (deleteId_nil K hK f fc q hp w hw).mono fun e w' ⟨he, hb⟩ => ⟨none, 0, 0, he, World.ownsRow_nil _ _ _ _, rfl, Turn.of_below hb⟩
  · refine (deleteId_any K hK f fc q hp l g cap w hw (hKs g rfl) hl ho).mono fun e w' ⟨n, c, he, h1, h2⟩ => ⟨_, n, c, he, h1, rfl, ?_⟩
    have e1 : (fun k => Value.ownBlock (.slice (some ⟨g, 0, none⟩) l.length cap) = some k) = fun k => k = g := by
      funext k
      simp [Value.ownBlock, eq_comm]
    rw [e1]
    exact h2
theorem idFind_any (x : UInt64) (l : List UInt64) (a : Option Addr) (cp : Nat) (w : World) (hl : l.length ≤ 1000) (hi : IdsAt w a l) :
    Calls Tryz.prog 133 #[.slice a l.length cp, .int .u64 x.toNat] w fun e w' => e = .returned (.int .i64 (firstAt (fun y => x == y) l)) ∧ Below w.heap.size w w' := by
  go_enter Tryz.func133, Tryz.ntmps133
  go_wp2
  go_loopw [8] (fun i wr => ∃ k : Nat, k ≤ l.length ∧ i = .int .i64 k ∧ Hid ((l.take k).findIdx? (fun y => x == y) = none) ∧ Below w.heap.size w wr) (fun i _ => l.length - (intOf i).toNat)
  case atStart => exact ⟨0, Nat.zero_le _, rfl, Lib.hid rfl, Below.refl _ _⟩
  case round =>
    obtain ⟨k, hk, rfl, NO, hbel⟩ := hrel
    by_cases hlt : k < l.length
    · obtain ⟨b, o, rfl, hb, c0⟩ := idsAt_kept hbel hi k hlt
      have hxb : ((x.toNat : Int) == (l[k].toNat : Int)) = (x == l[k]) := u64_beq x l[k]
      cases hx : x == l[k] with
      | true =>
        rw [hx] at hxb
        have HX := Lib.hid hx
        clear hx
        go_wp2
        go_ret
        exact ⟨ret_i64 (firstAt_hit hlt NO.out HX.out).symm, hbel⟩
      | false =>
        rw [hx] at hxb
        have HX := Lib.hid hx
        clear hx
        go_wp2
        go_roundw
        case rel => exact ⟨k + 1, by omega, by go_num, Lib.hid (firstAt_miss hlt NO.out HX.out), hbel⟩
        case measure => simp [intOf]; omega
    · go_wp2
      go_ret
      refine ⟨ret_i64 ?_, hbel⟩
      have := NO.out
      rw [List.take_of_length_le (by omega)] at this
      unfold firstAt
      rw [this]
theorem any_contains (x : UInt64) (l : List UInt64) : (l.any fun y => x == y) = l.contains x := by
  rw [Bool.eq_iff_iff, List.any_eq_true, List.contains_iff_mem]
  constructor
  · rintro ⟨y, hy, e⟩
    rw [beq_iff_eq.1 e]
    exact hy
  · exact fun h => ⟨x, h, by simp⟩
theorem idHas_any (x : UInt64) (l : List UInt64) (r : Bool) (hr : l.contains x = r) (a : Option Addr) (cp : Nat) (w : World) (hl : l.length ≤ 1000) (hi : IdsAt w a l) :
    Calls Tryz.prog 96 #[.slice a l.length cp, .int .u64 x.toNat] w fun e w' => e = .returned (.bool r) ∧ Below w.heap.size w w' := by
  have HI := Lib.hid hi
  have HR := Lib.hid hr
  clear hi hr
  go_enter Tryz.func96, Tryz.ntmps96
  go_wp2_with fail
  refine (idFind_any x l _ _ _ hl HI.out).mono ?_
  rintro e w1 ⟨rfl, hb1⟩
  have e1 := firstAt_neg (fun y => x == y) l
  rw [any_contains, HR.out] at e1
  obtain ⟨i, hi⟩ : ∃ i, firstAt (fun y => x == y) l = i := ⟨_, rfl⟩
  rw [hi] at e1 ⊢
  clear hi
  go_wp2
  go_ret
  exact ⟨rfl, hb1⟩
end Go.Proofs.YtaaaplbjeknbkaaGreat
namespace Go.Proofs.YtaaaplbjeknbkaaGreat
open Go.RowKit

variable {w w' : World}

theorem owns_low {w : World} {B : Nat} {e : TypeId} {size n : Nat} {v : Value} {xs : List Value} (h : w.ownsRow B e size v n xs) : w.ownsRow 0 e size v n xs :=
  ⟨h.1, h.2.imp id fun ⟨g, cap, cur, q1, _, q3⟩ => ⟨g, cap, cur, q1, Nat.zero_le _, q3⟩⟩
/-- New IDs are handed out. -/
def GaveIds (w : World) (l : List UInt64) (e : Ending) (w' : World) : Prop := ∃ a cap, e = .returned (.slice a l.length cap) ∧ OwnIds w' w.heap.size (.slice a l.length cap) l ∧ Below w.heap.size w w'
theorem GaveIds.as {l m : List UInt64} {e : Ending} (h : GaveIds w l e w') (he : l = m) : GaveIds w m e w' := he ▸ h
end Go.Proofs.YtaaaplbjeknbkaaGreat
namespace Go.Proofs.YtaaaplbjeknbkaaGreat
open Go.RowKit

theorem appendNumber_any (x : UInt64) (n B : Nat) (v : Value) (l : List UInt8) (w : World) (hn : n ≤ 8) (hl : l.length ≤ 1000) (hB : B ≤ w.heap.size) (hown : Bytes w B v l) :
    Calls Tryz.prog 74 #[v, .int .u64 x.toNat, .int .i64 n] w (Put B w v (l ++ be n x.toNat)) := by
  obtain ⟨i0, hi0, hz0, hz1, hz2⟩ := info_parts info_u8
  have hx := u64_bd x
  go_enter Tryz.func74, Tryz.ntmps74
  go_wp2
  go_loopw [0, 7] (fun u i wr => ∃ k : Nat, k ≤ n ∧ i = .int .i64 ((k : Int) - 1) ∧ Hid (Buf 5 B w v wr u (l ++ be (n - k) (x.toNat / 256 ^ k)))) (fun _ i _ => ((intOf i) + 1).toNat)
  case atStart => exact ⟨n, Nat.le_refl _, rfl, Lib.hid (by simpa [be] using buf_refl hown)⟩
  case round =>
    obtain ⟨k, hk, rfl, HB⟩ := hrel
    by_cases hlt : 0 < k
    · obtain ⟨j, rfl⟩ : ∃ j, k = j + 1 := ⟨k - 1, by omega⟩
      have hbd := buf_below hown hB HB.out
      have hBr : B ≤ wr.heap.size := Nat.le_trans hB hbd.size
      have hlen : (l ++ be (n - (j + 1)) (x.toNat / 256 ^ (j + 1))).length + 1 ≤ 1000000 := by simp [be_length]; omega
      clear hbd
      go_wp2_with (at_builtin; refine wpList_append_bytes Tryz.underlying128 hi0 hz0 hz1 hz2 rfl _ _ rfl (B := B) (l := l ++ be (n - (j + 1)) (x.toNat / 256 ^ (j + 1))) (news := [UInt8.ofNat (x.toNat / 256 ^ j)]) rfl rfl (by rw [shr_byte]; rfl) HB.out.own hlen hBr ?_; intro v1 w1 hb1)
      go_roundw
      case rel =>
        refine ⟨j, by omega, by go_num, Lib.hid ?_⟩
        have := buf_trans HB.out hb1
        rw [List.append_assoc, be_step n j _ (by omega)] at this
        exact this
      case measure => simp [intOf]
    · obtain rfl : k = 0 := by omega
      go_wp2
      go_ret
      exact ⟨_, rfl, by simpa using HB.out⟩
theorem appendNumber_int (x : Int) (n B : Nat) (v : Value) (l : List UInt8) (w : World) (h0 : 0 ≤ x) (h1 : x ≤ 18446744073709551615) (hn : n ≤ 8) (hl : l.length ≤ 1000) (hB : B ≤ w.heap.size) (hown : Bytes w B v l) :
    Calls Tryz.prog 74 #[v, .int .u64 x, .int .i64 n] w (Put B w v (l ++ be n x.toNat)) := by
  obtain ⟨u, rfl⟩ := u64_of x h0 (by omega)
  have := appendNumber_any u n B v l w hn hl hB hown
  simpa using this
theorem appendNumber8 (x : UInt64) (B : Nat) (v : Value) (l : List UInt8) (w : World) (hl : l.length ≤ 1000) (hB : B ≤ w.heap.size) (hown : Bytes w B v l) :
    Calls Tryz.prog 74 #[v, .int .u64 x.toNat, .int .i64 8] w (Put B w v (l ++ be 8 x.toNat)) := appendNumber_any x 8 B v l w (by omega) hl hB hown
theorem appendNumber2 (x : Int) (B : Nat) (v : Value) (l : List UInt8) (w : World) (h0 : 0 ≤ x) (h1 : x ≤ 18446744073709551615) (hl : l.length ≤ 1000) (hB : B ≤ w.heap.size) (hown : Bytes w B v l) :
    Calls Tryz.prog 74 #[v, .int .u64 x, .int .i64 2] w (Put B w v (l ++ be 2 x.toNat)) := appendNumber_int x 2 B v l w h0 h1 (by omega) hl hB hown
theorem numU_take (s : ByteArray) (k : Nat) (h : k < s.size) : numU (s.data.toList.take (k + 1)) = 256 * numU (s.data.toList.take k) + s[k].toUInt64 := by
  rw [List.take_succ_eq_append_getElem (by simpa using h), numU_snoc]; rfl
theorem num_step (x : UInt64) (c : UInt8) : bits .or .u64 (IntKind.u64.wrap ((x.toNat : Int) * 256)) (IntKind.u64.wrap (c.toNat : Int)) = ((256 * x + c.toUInt64).toNat : Int) := by
  have h1 : IntKind.u64.wrap ((x.toNat : Int) * 256) = ((x * 256).toNat : Int) := wrap_mul_u64 x 256
  have hc : c.toUInt64.toNat = c.toNat := UInt8.toNat_toUInt64 c
  have hcl := c.toNat_lt
  rw [h1, wrap_byte_u64, bits_or_u64_nat _ _ (u64_lt _) (u64_lt _)]
  have e : (x * 256).toNat = (x.toNat % 72057594037927936) <<< 8 := by
    rw [UInt64.toNat_mul, Nat.shiftLeft_eq]
    show x.toNat * 256 % 18446744073709551616 = _
    omega
  rw [e, ← Nat.shiftLeft_add_eq_or_of_lt (by rw [hc]; omega), ← e, UInt64.toNat_add, UInt64.toNat_mul, UInt64.toNat_mul, hc]
  show ((x.toNat * 256 % 18446744073709551616 + c.toNat : Nat) : Int) = ((256 * x.toNat % 18446744073709551616 + c.toNat) % 18446744073709551616 : Nat)
  omega
theorem number_any (s : ByteArray) (w : World) (hs : s.size ≤ maxLen) :
    Calls Tryz.prog 95 #[.string s] w fun e w' => e = .returned (.int .u64 (numU s.data.toList).toNat) ∧ w = w' := by
  unfold maxLen at hs
  go_enter Tryz.func95, Tryz.ntmps95
  go_wp2
  go_loop [3, 7] (fun x i => ∃ k : Nat, k ≤ s.size ∧ i = .int .i64 k ∧ x = .int .u64 (numU (s.data.toList.take k)).toNat) (fun _ i => s.size - (intOf i).toNat)
  case atStart => exact ⟨0, Nat.zero_le _, rfl, rfl⟩
  case round =>
    obtain ⟨k, hk, rfl, rfl⟩ := hrel
    by_cases hlt : k < s.size
    · have HS := Lib.hid (numU_take s k hlt)
      go_wp2
      go_round
      case rel =>
        refine ⟨k + 1, by omega, by go_num, ?_⟩
        rw [HS.out, num_step]
      case measure => simp [intOf]; omega
    · go_wp2
      go_ret
      exact ⟨by rw [List.take_of_length_le (by simp; omega)]; rfl, rfl⟩
theorem number_is (s : ByteArray) (x : UInt64) (w : World) (hs : s.size ≤ maxLen) (h : numU s.data.toList = x) :
    Calls Tryz.prog 95 #[.string s] w fun e w' => e = .returned (.int .u64 x.toNat) ∧ w = w' := h ▸ number_any s w hs
theorem number_still (s : ByteArray) (x : UInt64) (w : World) (hs : s.size ≤ maxLen) (h : numU s.data.toList = x) :
    Calls Tryz.prog 95 #[.string s] w fun e w' => e = .returned (.int .u64 x.toNat) ∧ w' = w := (number_is s x w hs h).mono fun _ _ ⟨a, b⟩ => ⟨a, b.symm⟩
theorem conv_one (b : UInt8) (g : Nat) (w : World) (h : w.cell? ⟨g, 0, none⟩ = some (.int .u8 b.toNat)) : (convert 128 9 (.slice (some ⟨g, 0, none⟩) 1 1)).run Tryz.prog w = .ok (.string ⟨#[b]⟩) w :=
  run_convert_bytes_back w 128 9 5 ⟨g, 0, none⟩ 1 [b] Tryz.underlying128 Tryz.underlying5 Tryz.underlying9 fun j hj => by
    have e : j = 0 := by simp at hj; exact hj
    subst e
    exact h
theorem one_kept {w w1 : World} {v : Value} {t : TypeId} (h : Below (w.alloc (.cells #[v] t)).drew.heap.size (w.alloc (.cells #[v] t)).drew w1) : w1.cell? ⟨w.heap.size, 0, none⟩ = some v :=
  kept_cell h (by simp [go_sem])
theorem one_kept' {w w1 : World} {v : Value} {t : TypeId} (h : Below (w.alloc (.cells #[v] t)).heap.size (w.alloc (.cells #[v] t)) w1) : w1.cell? ⟨w.heap.size, 0, none⟩ = some v :=
  kept_cell h (by simp [go_sem])
theorem num_ref (x : UInt64) (c : UInt8) : IntKind.u64.wrap (IntKind.u64.wrap (256 * (x.toNat : Int)) + IntKind.u64.wrap (c.toNat : Int)) = ((256 * x + c.toUInt64).toNat : Int) := by
  have h1 : IntKind.u64.wrap (256 * (x.toNat : Int)) = ((256 * x).toNat : Int) := wrap_mul_u64 256 x
  rw [h1, wrap_byte_u64, wrap_add_u64]
theorem encodeID_any (x : UInt64) (w : World) : Calls Tryz.prog 73 #[.int .u64 x.toNat] w fun e w' => e = .returned (.string (str (be 8 x.toNat))) ∧ Below w.heap.size w w' := by
  have hnil := bytes_nil 5 w w.heap.size
  go_enter Tryz.func73, Tryz.ntmps73
  go_wp2_with fail
  with_reducible refine (appendNumber8 x w.heap.size _ [] _ (by simp) (Nat.le_refl _) hnil).mono ?_
  rintro e w1 ⟨v1, rfl, hb1⟩
  have hbel := buf_below hnil (Nat.le_refl _) hb1
  have hown := hb1.own
  rw [List.nil_append] at hown
  have hconv : (convert 128 9 v1).run Tryz.prog w1 = .ok (.string (str (be 8 x.toNat))) w1 :=
    conv_bytes 128 9 Tryz.underlying128 Tryz.underlying5 Tryz.underlying9 hown (fun h => by have := be_length 8 x.toNat; rw [h] at this; simp at this)
  clear hown hb1
  go_wp2_with fail
  go_ret
  exact ⟨rfl, hbel⟩
theorem encodeID_is (x : UInt64) (E : ByteArray) (w : World) (h : str (be 8 x.toNat) = E) : Calls Tryz.prog 73 #[.int .u64 x.toNat] w fun e w' => e = .returned (.string E) ∧ Below w.heap.size w w' := h ▸ encodeID_any x w
theorem decodeID_still (s : ByteArray) (x : UInt64) (w : World) (hs : s.size ≤ maxLen) (h : numU s.data.toList = x) :
    Calls Tryz.prog 94 #[.string s] w fun e w' => e = .returned (.int .u64 x.toNat) ∧ w' = w := by
  go_enter Tryz.func94, Tryz.ntmps94
  go_wp2_with fail
  with_reducible refine (number_still s x _ hs h).mono ?_
  rintro e w' ⟨rfl, rfl⟩
  go_wp2_with fail
  go_ret
  exact ⟨rfl, rfl⟩
end Go.Proofs.YtaaaplbjeknbkaaGreat
namespace Go.Proofs.YtaaaplbjeknbkaaGreat
open Go.RowKit

theorem size_any (n : Nat) (w : World) (hn : n ≤ 255) : Calls Tryz.prog 72 #[.int .i64 n] w fun e w' => e = .returned (.int .i64 ((7 + 9 * n : Nat) : Int)) ∧ w = w' := by
  go_enter Tryz.func72, Tryz.ntmps72
  go_wp2
  go_ret
  exact ⟨ret_i64 (by omega), rfl⟩

theorem four_below {w w' : World} {B : Nat} (hg : Below B w w') {b : Nat} (hb : b < B) {u0 u1 u2 u3 : Value} (h0 : w.cell? ⟨b, 0, none⟩ = some u0) (h1 : w.cell? ⟨b, 1, none⟩ = some u1) (h2 : w.cell? ⟨b, 2, none⟩ = some u2) (h3 : w.cell? ⟨b, 3, none⟩ = some u3) :
    w'.cell? ⟨b, 0, none⟩ = some u0 ∧ w'.cell? ⟨b, 1, none⟩ = some u1 ∧ w'.cell? ⟨b, 2, none⟩ = some u2 ∧ w'.cell? ⟨b, 3, none⟩ = some u3 :=
  ⟨(hg.cell (p := ⟨b, 0, none⟩) hb).trans h0, (hg.cell (p := ⟨b, 1, none⟩) hb).trans h1, (hg.cell (p := ⟨b, 2, none⟩) hb).trans h2, (hg.cell (p := ⟨b, 3, none⟩) hb).trans h3⟩
theorem two_bytes (n : Nat) (h : n ≤ 255) : [Value.int .u8 68, .int .u8 n] = [68, UInt8.ofNat n].map byteV := by
  have : (UInt8.ofNat n).toNat = n := by rw [UInt8.toNat_ofNat']; omega
  simp [byteV, this]
theorem enc_ne (d : DeedD) : encB d ≠ [] := fun h => by
  have := encB_length d
  rw [h] at this
  simp at this
  omega
theorem encode_err (d : DeedD) (a : Option Addr) (cap : Nat) (w : World) (r : Int) (hi : InsAt w a d.ins) (h : checkD d = r) (hr : r ≠ 0) :
    Calls Tryz.prog 32 #[.agg #[.slice a d.ins.length cap, .int .i64 d.outs, .int .i64 d.weight, .int .i64 d.fee]] w fun e w' => e = .returned (.tuple #[.string ⟨#[]⟩, .int .i64 r]) ∧ Below w.heap.size w w' := by
  have HR := Lib.hid h
  clear h
  have hrb : (r != 0) = true := by simpa using hr
  have hi0 := insAt_kept (kept_new w (.cells #[.slice a d.ins.length cap, .int .i64 d.outs, .int .i64 d.weight, .int .i64 d.fee] 50)) hi
  have hk := kept_new w (.cells #[.slice a d.ins.length cap, .int .i64 d.outs, .int .i64 d.weight, .int .i64 d.fee] 50)
  go_enter Tryz.func32, Tryz.ntmps32
  go_wp2_with fail
  with_reducible refine (check_is d _ _ _ r hi0 HR.out).mono ?_
  rintro e w1 ⟨rfl, hb1⟩
  go_wp2_with fail
  go_ret2
  exact ⟨rfl, kept_trans hk hb1⟩

set_option maxHeartbeats 2000000 in
theorem encode_ok (d : DeedD) (a : Option Addr) (cap : Nat) (w : World) (hi : InsAt w a d.ins) (h : checkD d = 0) :
    Calls Tryz.prog 32 #[.agg #[.slice a d.ins.length cap, .int .i64 d.outs, .int .i64 d.weight, .int .i64 d.fee]] w fun e w' => e = .returned (.tuple #[.string ⟨(encB d).toArray⟩, .int .i64 0]) ∧ Below w.heap.size w w' := by
  obtain ⟨i0, hi0, hz0, hz1, hz2⟩ := info_parts info_u8
  obtain ⟨hl8, hat, _, ho, hg, hf⟩ := check_ok h
  obtain ⟨ho1, ho2⟩ := ho
  obtain ⟨hg1, hg2⟩ := hg
  obtain ⟨hf1, hf2⟩ := hf
  have HAT := Lib.hid hat
  have HR := Lib.hid h
  clear h hat
  have hia := insAt_kept (kept_new w (.cells #[.slice a d.ins.length cap, .int .i64 d.outs, .int .i64 d.weight, .int .i64 d.fee] 50)) hi
  have hk := kept_new w (.cells #[.slice a d.ins.length cap, .int .i64 d.outs, .int .i64 d.weight, .int .i64 d.fee] 50)
  go_enter Tryz.func32, Tryz.ntmps32
  go_wp2_with fail
  with_reducible refine (check_is d _ _ _ 0 hia HR.out).mono ?_
  rintro e w1 ⟨rfl, hb1⟩
  obtain ⟨c0, c1, c2, c3, hws⟩ := box_four hb1
  have hi1 := insAt_kept hb1 hia
  have hk1 := kept_trans hk hb1
  clear hk hb1 hia hi
  go_wp2_with fail
  with_reducible refine (size_any _ _ (by omega)).mono ?_
  rintro e w' ⟨rfl, rfl⟩
  go_wp2_with (first
    | (at_make; refine wpList_make_own _ rfl _ _ 128 rfl w1.heap.size 5 i0 (.int .u8 0) 1 Tryz.underlying128 hi0 hz0 hz1 _ _ _ (7 + 9 * d.ins.length) rfl rfl rfl (by rw [hz2]; omega) (by unfold maxLen; omega) (Nat.le_refl _) ?_; intro w2 hown2 hgrow2; obtain ⟨e0, e1, e2, e3⟩ := four_kept hgrow2 c0 c1 c2 c3)
    | (at_builtin; refine wpList_append_bytes Tryz.underlying128 hi0 hz0 hz1 hz2 rfl _ _ rfl (B := w1.heap.size) (l := []) (news := [68, UInt8.ofNat d.ins.length]) rfl rfl (two_bytes _ (by omega)) hown2 (by simp) hgrow2.size ?_; intro v3 w3 hb3; obtain ⟨f0, f1, f2, f3⟩ := four_below (buf_below (l0 := []) hown2 hgrow2.size hb3) hws e0 e1 e2 e3))
  have hbd3 := (grown_below hgrow2).trans (buf_below (l0 := []) hown2 hgrow2.size hb3)
  have hi3 := insAt_kept hbd3 hi1
  have HV := Lib.hid hb3
  have hs3 : w1.heap.size ≤ w3.heap.size := hbd3.size
  clear hb3 hown2 hgrow2 c0 c1 c2 c3 e0 e1 e2 e3
  go_loopw [5, 28] (fun u i wr => ∃ k : Nat, k ≤ d.ins.length ∧ i = .int .i64 k ∧ Hid (Buf 5 w1.heap.size w3 v3 wr u ([68, UInt8.ofNat d.ins.length] ++ encL (d.ins.take k)))) (fun _ i _ => d.ins.length - (intOf i).toNat)
  case atStart => exact ⟨0, Nat.zero_le _, rfl, Lib.hid (by simpa [encL] using buf_refl HV.out.own)⟩
  case round =>
    obtain ⟨k, hk, rfl, HB⟩ := hrel
    have hbr := buf_below HV.out.own hs3 HB.out
    have hlen : ([68, UInt8.ofNat d.ins.length] ++ encL (d.ins.take k)).length ≤ 100 := by
      rw [List.length_append, encL_length, List.length_take]; simp; omega
    have hsr : w1.heap.size ≤ wr.heap.size := Nat.le_trans hs3 hbr.size
    by_cases hlt : k < d.ins.length
    · obtain ⟨hat1, hat2⟩ := HAT.out k hlt
      obtain ⟨b, oo, rfl, hb, hd0, hd1, hok⟩ := insAt_kept (hbd3.trans hbr) hi1 k hlt
      have hown := (buf_alloc HB.out (.cells #[.int .u64 d.ins[k].1.toNat, .int .i64 d.ins[k].2] 62)).own
      have hne := own_ne HB.out.own
      have hbx := box_pair (Below.refl _ (wr.alloc (.cells #[.int .u64 d.ins[k].1.toNat, .int .i64 d.ins[k].2] 62)))
      obtain ⟨x0, x1, _⟩ := hbx
      obtain ⟨E8, hE8⟩ : ∃ E, str (be 8 d.ins[k].1.toNat) = E := ⟨_, rfl⟩
      have hE8l : E8.data.toList = be 8 d.ins[k].1.toNat := by rw [← hE8, str_list]
      have hE8s : E8.size = 8 := by rw [← hE8, str_size, be_length]
      have HE8 := Lib.hid hE8
      clear hE8
      have hsa : w1.heap.size ≤ (wr.alloc (.cells #[.int .u64 d.ins[k].1.toNat, .int .i64 d.ins[k].2] 62)).heap.size := by simp; omega
      have hba := buf_alloc HB.out (.cells #[.int .u64 d.ins[k].1.toNat, .int .i64 d.ins[k].2] 62)
      go_wp2_with fail
      with_reducible refine (encodeID_is _ E8 _ HE8.out).mono ?_
      rintro e w4 ⟨rfl, hb4⟩
      have y1 := kept_cell hb4 x1
      have hB4 := buf_later hba hb4
      have hs4 : w1.heap.size ≤ w4.heap.size := Nat.le_trans hsa hb4.size
      have hl4 : ([68, UInt8.ofNat d.ins.length] ++ encL (d.ins.take k)).length + E8.size ≤ 1000000 := by omega
      have hl5 : ([68, UInt8.ofNat d.ins.length] ++ encL (d.ins.take k) ++ E8.data.toList).length + [UInt8.ofNat d.ins[k].2.toNat].length ≤ 1000000 := by rw [List.length_append, hE8l, be_length]; simp at hlen ⊢; omega
      clear hba hown hb4
      go_wp2_with (first
        | (at_builtin; refine wpList_append_str Tryz.underlying128 Tryz.underlying9 hi0 hz0 hz1 hz2 rfl _ _ rfl (B := w1.heap.size) (l := [68, UInt8.ofNat d.ins.length] ++ encL (d.ins.take k)) (s := E8) rfl rfl hB4.own hl4 hs4 ?_; intro v5 w5 hb5; have z1 := buf_cell hb5 y1 hne; have hs5 : w1.heap.size ≤ w5.heap.size := Nat.le_trans hs4 hb5.grown.size)
        | (at_builtin; refine wpList_append_bytes Tryz.underlying128 hi0 hz0 hz1 hz2 rfl _ _ rfl (B := w1.heap.size) (news := [UInt8.ofNat d.ins[k].2.toNat]) rfl rfl (one_byte _ hat1 (by omega)) hb5.own hl5 hs5 ?_; intro v6 w6 hb6))
      go_roundw
      case rel =>
        refine ⟨k + 1, by omega, by go_num, Lib.hid ?_⟩
        have := buf_trans (buf_trans hB4 hb5) hb6
        rw [encL_take hlt, ← hE8l]
        simpa using this
      case measure => simp [intOf]; omega
    · have HB' := HB.out
      rw [List.take_of_length_le (by omega)] at HB'
      have HE := Lib.hid HB'
      have hle : (encL d.ins).length ≤ 72 := by rw [encL_length]; omega
      obtain ⟨g0, g1, g2, g3⟩ := four_below hbr hws f0 f1 f2 f3
      clear HB HB' hlen f0 f1 f2 f3
      go_wp2_with (at_builtin; refine wpList_append_bytes Tryz.underlying128 hi0 hz0 hz1 hz2 rfl _ _ rfl (B := w1.heap.size) (news := [UInt8.ofNat d.outs.toNat]) rfl rfl (one_byte _ (by omega) (by omega)) HE.out.own (by simp; omega) hsr ?_; intro v4 w4 hb4; obtain ⟨q0, q1, q2, q3⟩ := four_below (buf_below HE.out.own hsr hb4) hws g0 g1 g2 g3)
      have hs4 : w1.heap.size ≤ w4.heap.size := Nat.le_trans hsr hb4.grown.size
      with_reducible refine (appendNumber2 _ w1.heap.size v4 _ _ (by omega) (by omega) ?_ hs4 hb4.own).mono ?_
      · simp; omega
      rintro e w5 ⟨v5, rfl, hb5⟩
      obtain ⟨r0, r1, r2, r3⟩ := four_below (buf_below hb4.own hs4 hb5) hws q0 q1 q2 q3
      have hs5 : w1.heap.size ≤ w5.heap.size := Nat.le_trans hs4 hb5.grown.size
      have H4 := Lib.hid hb4
      have H5 := Lib.hid hb5
      clear q0 q1 q2 q3 g0 g1 g2 g3 hb4 hb5
      go_wp2_with fail
      with_reducible refine (appendNumber2 _ w1.heap.size v5 _ _ (by omega) (by omega) ?_ hs5 H5.out.own).mono ?_
      · simp [be_length]; omega
      rintro e w6 ⟨v6, rfl, hb6⟩
      obtain ⟨E, hE⟩ : ∃ E : ByteArray, ⟨(encB d).toArray⟩ = E := ⟨_, rfl⟩
      have hconv : (convert 128 9 v6).run Tryz.prog w6 = .ok (.string E) w6 := by
        rw [← hE]
        exact conv_bytes 128 9 Tryz.underlying128 Tryz.underlying5 Tryz.underlying9 hb6.own (enc_ne d)
      have HEE := Lib.hid hE
      have hfin := buf_trans (buf_trans H4.out H5.out) hb6
      have hend := (hbd3.trans hbr).trans (buf_below HE.out.own hsr hfin)
      clear hb6 hfin r0 r1 r2 r3 hE
      go_wp2_with fail
      go_ret2
      exact ⟨by rw [HEE.out]; rfl, kept_trans hk1 hend⟩
end Go.Proofs.YtaaaplbjeknbkaaGreat
namespace Go.Proofs.YtaaaplbjeknbkaaGreat
open Go.RowKit

end Go.Proofs.YtaaaplbjeknbkaaGreat
namespace Go.Proofs.YtaaaplbjeknbkaaGreat
open Go.RowKit

theorem k4_u64 (a : UInt64) : IntKind.u64.wrap ((a.toNat : Int) * 1099511628211) = ((a * 1099511628211).toNat : Int) := wrap_mul_u64 a 1099511628211

theorem of_take (s : ByteArray) (k : Nat) (h : k < s.size) : ofU (s.data.toList.take (k + 1)) = ofStep (ofU (s.data.toList.take k)) s[k] := by
  rw [List.take_succ_eq_append_getElem (by simpa using h), of_snoc]; rfl

theorem of_any (s : ByteArray) (w : World) (hs : s.size ≤ maxLen) :
    Calls Tryz.prog 63 #[.string s] w fun e w' => e = .returned (.int .u64 (ofU s.data.toList).toNat) ∧ w = w' := by
  unfold maxLen at hs
  go_enter Tryz.func63, Tryz.ntmps63
  go_wp2
  go_loop [3, 7] (fun x i => ∃ k : Nat, k ≤ s.size ∧ i = .int .i64 k ∧ x = .int .u64 (ofU (s.data.toList.take k)).toNat) (fun _ i => s.size - (intOf i).toNat)
  case atStart => exact ⟨0, Nat.zero_le _, rfl, rfl⟩
  case round =>
    obtain ⟨k, hk, rfl, rfl⟩ := hrel
    by_cases hlt : k < s.size
    · have HS := Lib.hid (of_take s k hlt)
      go_wp2
      go_round
      case rel =>
        refine ⟨k + 1, by omega, by go_num, ?_⟩
        rw [HS.out, wrap_byte_u64, xor_u64, k4_u64]
        rfl
      case measure => simp [intOf]; omega
    · go_wp2
      go_ret
      exact ⟨ret_u64 (by rw [List.take_of_length_le (by simp; omega)]), rfl⟩

theorem of_a_int : ((ofU [97]).toNat : Int) = 12638187200555641996 := by rw [of_a]; rfl
theorem of_empty_int : ((ofU []).toNat : Int) = 14695981039346656037 := by rw [of_empty]; rfl
/-- At the text of one letter, in the walk's own spelling. -/
theorem of_one (w : World) : Calls Tryz.prog 63 #[.string ⟨#[97]⟩] w fun e w' => e = .returned (.int .u64 12638187200555641996) ∧ w = w' :=
  (of_any ⟨#[97]⟩ w (by decide)).mono fun e w' h => by
    refine ⟨h.1.trans (ret_u64 ?_), h.2⟩
    exact of_a_int
theorem of_none (w : World) : Calls Tryz.prog 63 #[.string ⟨#[]⟩] w fun e w' => e = .returned (.int .u64 14695981039346656037) ∧ w = w' :=
  (of_any ⟨#[]⟩ w (by decide)).mono fun e w' h => by
    refine ⟨h.1.trans (ret_u64 ?_), h.2⟩
    exact of_empty_int
theorem of_is (s : ByteArray) (p : UInt64) (w : World) (h : ofU s.data.toList = p) (hs : s.size ≤ maxLen) :
    Calls Tryz.prog 63 #[.string s] w fun e w' => e = .returned (.int .u64 p.toNat) ∧ w = w' := h ▸ of_any s w hs
end Go.Proofs.YtaaaplbjeknbkaaGreat
namespace Go.Proofs.YtaaaplbjeknbkaaGreat
open Go.ChangeShapes Go.WideShapes Go.ChangeAt Go.RowKit Go.Joins

theorem open_ids {H : Type} {enc : TypeId × Value → H} {w : World} {n : Nat} {v : Value} {y : DataW H × List MemPlace} (h : DataW.trod enc Tryz.prog w 0 (fun _ => true) true n 36 [v] = some y) :
    ∃ (a : Option Addr) (cap : Nat) (l : List UInt64), v = .slice a l.length cap ∧ l.length ≤ cap ∧ l.length ≤ maxLen ∧ IdsAt w a l := by
  rcases open_ints Tryz.underlying36 Tryz.underlying22 (by kernel_rfl) h with ⟨hc, _⟩ | ⟨a, len, cap, zs, hcs, _, hl, hm, hzl, _, hx, hwf⟩
  · simp only [List.cons.injEq, and_true] at hc
    exact ⟨none, 0, [], hc, Nat.le_refl _, Nat.zero_le _, fun i hi => absurd hi (by simp)⟩
  · simp only [List.cons.injEq, and_true] at hcs
    simp only [if_true] at hzl
    have hint : ∀ i, i < len → ∃ x : UInt64, w.cell? (a.add i) = some (.int .u64 x.toNat) := by
      intro i hi
      have h0 := hx i (by omega)
      have hw : (Lit.int .u64 (zs.getD i 0)).wf = true := hwf _ (by
        rw [List.getD_eq_getElem?_getD, List.getElem?_eq_getElem (by omega)]
        exact List.getElem_mem _)
      obtain ⟨u, hu⟩ := wf_u64 hw
      exact ⟨u, by rw [h0, hu]⟩
    obtain ⟨f, hf⟩ : ∃ f : Nat → UInt64, ∀ i, i < len → w.cell? (a.add i) = some (.int .u64 (f i).toNat) :=
      ⟨fun i => if h : i < len then (hint i h).choose else 0, fun i hi => by simp only [dif_pos hi]; exact (hint i hi).choose_spec⟩
    refine ⟨some a, cap, (List.range len).map f, by simp [hcs], by simpa using hl, by simp; omega, fun i hi => ?_⟩
    have hi' : i < len := by simpa using hi
    have g0 := hf i hi'
    obtain ⟨hs, hb⟩ := cell_spot (hf 0 (by omega))
    have hs : a.spot = none := by simpa [Addr.add] using hs
    have hb : a.block < w.heap.size := by simpa [Addr.add] using hb
    obtain ⟨b, o, sp⟩ := a
    simp only at hs hb
    subst hs
    refine ⟨b, o, rfl, hb, ?_⟩
    have e : (⟨b, o, none⟩ : Addr).add i = ⟨b, o + i, none⟩ := by unfold Addr.add; split <;> simp_all
    rw [e] at g0
    simpa using g0

set_option maxRecDepth 100000 in
theorem open_ids_arg {H : Type} {enc : TypeId × Value → H} {w : World} {r : Reach} {b0 : Nat} {v : Value} {d : DataW H} {p : List MemPlace} (hv : Value.okWide Tryz.prog w r b0 36 v) (h : DataW.Trod enc Tryz.prog w 0 (fun _ => true) true 36 v d p) :
    ∃ (a : Option Addr) (cap : Nat) (l : List UInt64), v = .slice a l.length cap ∧ l.length ≤ cap ∧ l.length ≤ maxLen ∧ IdsAt w a l := by
  obtain ⟨x, len, cap, rfl⟩ := okWide_slice Tryz.underlying36 hv
  obtain ⟨n, hf⟩ := h
  exact open_ids hf
end Go.Proofs.YtaaaplbjeknbkaaGreat
namespace Go.Proofs.YtaaaplbjeknbkaaGreat
open Go.ChangeShapes Go.WideShapes Go.ChangeAt Go.RowKit Go.Joins Go.Deep

theorem open_ins {H : Type} {enc : TypeId × Value → H} {w : World} {n : Nat} {v : Value} {y : DataW H × List MemPlace} (h : DataW.trod enc Tryz.prog w 0 (fun _ => true) true n 48 [v] = some y) :
    ∃ (a : Option Addr) (cap : Nat) (l : List InD), v = .slice a l.length cap ∧ l.length ≤ cap ∧ l.length ≤ maxLen ∧ InsAt w a l := by
  rcases open_slice_pairs Tryz.underlying48 Tryz.underlying62 (by kernel_rfl) rfl rfl (by kernel_rfl) (by kernel_rfl) h with ⟨hc, _⟩ | ⟨a, len, cap, m, n, V0, V1, D0, D1, P0, P1, hcs, _, hl, hm, hmm, _, hx⟩
  · simp only [List.cons.injEq, and_true] at hc
    exact ⟨none, 0, [], hc, Nat.le_refl _, Nat.zero_le _, fun i hi => absurd hi (by simp)⟩
  · simp only [List.cons.injEq, and_true] at hcs
    simp only [if_true] at hmm
    subst hmm
    have hint : ∀ i, i < len → ∃ x : InD, w.cell? (a.add (i * 2)) = some (.int .u64 x.1.toNat) ∧ w.cell? (a.add (i * 2 + 1)) = some (.int .i64 x.2) ∧ (Lit.int .i64 x.2).wf = true := by
      intro i hi
      obtain ⟨h0, h1, t0, t1⟩ := hx i (by omega)
      obtain ⟨u0, e0, _, w0⟩ := DataW.trod_int Tryz.underlying22 t0
      obtain ⟨u1, e1, _, w1⟩ := DataW.trod_int Tryz.underlying3 t1
      simp only [List.cons.injEq, and_true] at e0 e1
      obtain ⟨u, rfl⟩ := wf_u64 w0
      exact ⟨(u, u1), by rw [h0, e0], by rw [h1, e1], w1⟩
    obtain ⟨f, hf⟩ : ∃ f : Nat → InD, ∀ i, i < len → w.cell? (a.add (i * 2)) = some (.int .u64 (f i).1.toNat) ∧ w.cell? (a.add (i * 2 + 1)) = some (.int .i64 (f i).2) ∧ (Lit.int .i64 (f i).2).wf = true :=
      ⟨fun i => if h : i < len then (hint i h).choose else (0, 0), fun i hi => by simp only [dif_pos hi]; exact (hint i hi).choose_spec⟩
    refine ⟨some a, m, (List.range len).map f, by simp [hcs], by simpa using hl, by simp; omega, fun i hi => ?_⟩
    have hi' : i < len := by simpa using hi
    obtain ⟨g0, g1, g2⟩ := hf i hi'
    have z0 := (hf 0 (by omega)).1
    obtain ⟨hs, hb⟩ := cell_spot z0
    have hs : a.spot = none := by simpa [Addr.add] using hs
    have hb : a.block < w.heap.size := by simpa [Addr.add] using hb
    obtain ⟨b, o, sp⟩ := a
    simp only at hs hb
    subst hs
    refine ⟨b, o, rfl, hb, ?_, ?_, ?_⟩
    · have e : (⟨b, o, none⟩ : Addr).add (i * 2) = ⟨b, o + i * 2, none⟩ := by unfold Addr.add; split <;> simp_all
      rw [e] at g0
      simpa using g0
    · have e : (⟨b, o, none⟩ : Addr).add (i * 2 + 1) = ⟨b, o + i * 2 + 1, none⟩ := by unfold Addr.add; split <;> simp_all <;> omega
      rw [e] at g1
      simpa using g1
    · simpa using g2

set_option maxRecDepth 20000 in
theorem open_deed {H : Type} {enc : TypeId × Value → H} {w : World} {r : Reach} {b0 : Nat} {v : Value} {d : DataW H} {p : List MemPlace} (hv : Value.okWide Tryz.prog w r b0 50 v) (h : DataW.Trod enc Tryz.prog w 0 (fun _ => true) true 50 v d p) :
    ∃ (a : Option Addr) (cap : Nat) (D : DeedD), v = deedV a cap D ∧ D.ins.length ≤ cap ∧ InsAt w a D.ins := by
  obtain ⟨v0, v1, v2, v3, y0, y1, y2, y3, n, rfl, _, _, t0, t1, t2, t3⟩ := open_agg4 Tryz.underlying50 (by kernel_rfl) (by kernel_rfl) hv h
  obtain ⟨a, cap, l, rfl, hc, _, hi⟩ := open_ins t0
  obtain ⟨u1, e1, _, _⟩ := DataW.trod_int Tryz.underlying3 t1
  obtain ⟨u2, e2, _, _⟩ := DataW.trod_int Tryz.underlying3 t2
  obtain ⟨u3, e3, _, _⟩ := DataW.trod_int Tryz.underlying3 t3
  simp only [List.cons.injEq, and_true] at e1 e2 e3
  subst e1 e2 e3
  exact ⟨a, cap, ⟨l, u1, u2, u3⟩, rfl, hc, hi⟩
end Go.Proofs.YtaaaplbjeknbkaaGreat
