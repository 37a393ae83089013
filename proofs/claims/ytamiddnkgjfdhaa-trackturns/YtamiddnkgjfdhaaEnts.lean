/-
  Entries of a tracker: how slices of them lie in memory; functions that choose among them; slices.IndexFunc.
-/
import Derived.Test.YtamiddnkgjfdhaaBase
import Derived.Test.YtamiddnkgjfdhaaTurn
namespace Go.Proofs.Ytamiddnkgjfdhaa
open Go.RowKit

/-- An entry as plain data. -/
structure TEnt where
  peer : Nat
  id : UInt64
  pref : Bool
  st : Nat
  till : Int
deriving DecidableEq
instance : Inhabited TEnt := ⟨⟨0, 0, false, 0, 0⟩⟩
/-- An entry as a value. -/
def entV (e : TEnt) : Value := .agg #[.int .i64 e.peer, .int .u64 e.id.toNat, .bool e.pref, .int .i64 e.st, .int .i64 e.till]
/-- The five cells of an entry. -/
def entC (e : TEnt) : List Value := [.int .i64 e.peer, .int .u64 e.id.toNat, .bool e.pref, .int .i64 e.st, .int .i64 e.till]
def EntAt (w : World) (b o : Nat) (e : TEnt) : Prop :=
  w.cell? ⟨b, o, none⟩ = some (.int .i64 e.peer) ∧ w.cell? ⟨b, o + 1, none⟩ = some (.int .u64 e.id.toNat) ∧ w.cell? ⟨b, o + 2, none⟩ = some (.bool e.pref) ∧ w.cell? ⟨b, o + 3, none⟩ = some (.int .i64 e.st) ∧ w.cell? ⟨b, o + 4, none⟩ = some (.int .i64 e.till)
/-- The memory behind a slice's address holds these entries. -/
def EntsAt (w : World) (a : Option Addr) (l : List TEnt) : Prop := ∀ i (h : i < l.length), ∃ b o, a = some ⟨b, o, none⟩ ∧ b < w.heap.size ∧ EntAt w b (o + i * 5) l[i]
theorem entAt_kept {w w' : World} {b o : Nat} {e : TEnt} (hb : Below w.heap.size w w') (h : EntAt w b o e) : EntAt w' b o e := by
  obtain ⟨c0, c1, c2, c3, c4⟩ := h
  exact ⟨kept_cell hb c0, kept_cell hb c1, kept_cell hb c2, kept_cell hb c3, kept_cell hb c4⟩
theorem entsAt_kept {w w' : World} {a : Option Addr} {l : List TEnt} (hb : Below w.heap.size w w') (h : EntsAt w a l) : EntsAt w' a l := fun i hi => by
  obtain ⟨b, o, e, hlt, c⟩ := h i hi
  exact ⟨b, o, e, Nat.lt_of_lt_of_le hlt hb.size, entAt_kept hb c⟩
theorem entsAt_nil (w : World) (a : Option Addr) : EntsAt w a [] := fun i hi => absurd hi (by simp)

/-- A function value that says of an entry whether it is chosen, in every world that keeps K. -/
def Picks (K : World → Prop) (f : FuncId) (cap : Array Value) (q : TEnt → Bool) : Prop :=
  (∀ (args : Array Value) (w : World), (callFunc f args).run Try.prog w = .ok (.enter f args) w) ∧
  ∀ (e : TEnt) (w : World), K w → Calls Try.prog f (#[entV e] ++ cap) w fun x w' => x = .returned (.bool (q e)) ∧ Below w.heap.size w w'

/-- Where the first one is that is chosen, or -1. -/
def firstAt {α : Type} (q : α → Bool) (l : List α) : Int := match l.findIdx? q with | some k => (k : Int) | none => -1

theorem firstAt_hit {α : Type} {q : α → Bool} {l : List α} {k : Nat} (h : k < l.length) (n : (l.take k).findIdx? q = none) (e : q l[k] = true) : firstAt q l = (k : Int) := by
  unfold firstAt
  have : l.findIdx? q = some k := by
    rw [List.findIdx?_eq_some_iff_getElem]
    refine ⟨h, e, fun j hj => ?_⟩
    have h2 := List.findIdx?_eq_none_iff.1 n l[j] (List.mem_take_iff_getElem.2 ⟨j, by omega, rfl⟩)
    simpa using h2
  rw [this]
theorem firstAt_miss {α : Type} {q : α → Bool} {l : List α} {k : Nat} (h : k < l.length) (n : (l.take k).findIdx? q = none) (e : q l[k] = false) : (l.take (k + 1)).findIdx? q = none := by
  rw [List.findIdx?_eq_none_iff] at n ⊢
  rw [List.take_succ_eq_append_getElem h]
  intro x hx
  rcases List.mem_append.1 hx with hx | hx
  · exact n x hx
  · rw [List.mem_singleton.1 hx]; exact e

set_option maxRecDepth 20000 in
theorem indexFunc_any (K : World → Prop) (hK : ∀ a b, K a → Below a.heap.size a b → K b) (f : FuncId) (cap : Array Value) (q : TEnt → Bool) (hp : Picks K f cap q) (l : List TEnt) (a : Option Addr) (cp : Nat) (w : World) (hw : K w) (hl : l.length ≤ 8) (hi : EntsAt w a l) :
    Calls Try.prog 73 #[.slice a l.length cp, .func (.func f) #[] cap] w fun e w' => e = .returned (.int .i64 (firstAt q l)) ∧ Below w.heap.size w w' := by
  have hcf := hp.1
  have HP := Lib.hid hp.2
  have HK := Lib.hid hK
  have HW := Lib.hid hw
  clear hp hK hw
  go_enter Try.func73, Try.ntmps73
  go_wp2
  go_loopw [8] (fun i wr => ∃ k : Nat, k ≤ l.length ∧ i = .int .i64 k ∧ Hid ((l.take k).findIdx? q = none) ∧ Below w.heap.size w wr) (fun i _ => l.length - (intOf i).toNat)
  case atStart => exact ⟨0, Nat.zero_le _, rfl, Lib.hid rfl, Below.refl _ _⟩
  case round =>
    obtain ⟨k, hk, rfl, NO, hbel⟩ := hrel
    by_cases hlt : k < l.length
    · obtain ⟨b, o, rfl, hb, c0, c1, c2, c3, c4⟩ := entsAt_kept hbel hi k hlt
      go_wp2_with fail
      refine (HP.out l[k] _ (HK.out _ _ HW.out hbel)).mono ?_
      rintro e w1 ⟨rfl, hb1⟩
      cases hq : q l[k] with
      | true =>
        have HQ := Lib.hid hq
        clear hq
        go_wp2
        go_ret
        refine ⟨ret_i64 ?_, kept_trans hbel hb1⟩
        exact (firstAt_hit hlt NO.out HQ.out).symm
      | false =>
        have HQ := Lib.hid hq
        clear hq
        go_wp2
        go_roundw
        case rel => exact ⟨k + 1, by omega, by go_num, Lib.hid (firstAt_miss hlt NO.out HQ.out), kept_trans hbel hb1⟩
        case measure => simp [intOf]; omega
    · go_wp2
      go_ret
      refine ⟨ret_i64 ?_, hbel⟩
      have := NO.out
      rw [List.take_of_length_le (by omega)] at this
      unfold firstAt
      rw [this]
end Go.Proofs.Ytamiddnkgjfdhaa
