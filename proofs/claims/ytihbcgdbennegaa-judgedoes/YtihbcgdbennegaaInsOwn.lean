/-
  Ins of a deed in a block of their own; slices.IndexFunc and ContainsFunc of Ins; the pool's spends and clone.
-/
import Derived.Test.YtihbcgdbennegaaDeedFacts
import Derived.Test.YtihbcgdbennegaaFirstAt
import Derived.Test.YtihbcgdbennegaaTurn
import Derived.Test.YtihbcgdbennegaaRows1
namespace Go.Proofs.Ytihbcgdbennegaa
open Go.RowKit

def inC (x : InD) : List Value := [.int .u64 x.1.toNat, .int .i64 x.2]
def insC (l : List InD) : List Value := l.flatMap inC
theorem insC_length (l : List InD) : (insC l).length = l.length * 2 := by
  induction l with
  | nil => rfl
  | cons a r ih => simp only [insC, List.flatMap_cons, List.length_append, List.length_cons, inC, List.length_nil] at ih ⊢; omega
theorem insC_at : ∀ (l : List InD) (i : Nat) (h : i < l.length) (j : Nat), j < 2 → (insC l)[i * 2 + j]? = (inC l[i])[j]?
  | [], i, h, _, _ => absurd h (by simp)
  | a :: r, 0, _, j, hj => by
    show (inC a ++ insC r)[0 * 2 + j]? = _
    rw [List.getElem?_append_left (by simp [inC]; omega)]
    simp
  | a :: r, i + 1, h, j, hj => by
    show (inC a ++ insC r)[(i + 1) * 2 + j]? = _
    rw [List.getElem?_append_right (by simp [inC]; omega), show (inC a).length = 2 from rfl, show (i + 1) * 2 + j - 2 = i * 2 + j by omega, insC_at r i (by simpa using h) j hj]
    rfl
/-- The slice v holds these Ins, in a block of its own. -/
abbrev OwnIns (w : World) (v : Value) (l : List InD) : Prop := w.ownsRow 0 52 2 v l.length (insC l)
theorem ownIns_at {w : World} {v : Value} {l : List InD} (h : OwnIns w v l) (hok : ∀ x ∈ l, inOk x) : ∃ a cap, v = .slice a l.length cap ∧ l.length ≤ cap ∧ InsAt w a l := by
  rcases h.2 with ⟨hv, hn⟩ | ⟨g, cap, cur, hv, hB, hg, hc, _, _, _⟩
  · exact ⟨none, 0, by rw [hn]; exact hv, by omega, fun i hi => absurd hi (by omega)⟩
  · refine ⟨some ⟨g, 0, none⟩, cap, hv, hc, fun i hi => ⟨g, 0, rfl, (Array.getElem?_eq_some_iff.1 hg).1, ?_⟩⟩
    have hh := h
    rw [hv] at hh
    have hat : ∀ j, j < 2 → w.cell? ⟨g, 0 + i * 2 + j, none⟩ = (inC l[i])[j]? := fun j hj => by
      rw [Nat.zero_add, hh.cellAt (i * 2 + j) (by omega)]
      exact insC_at l i hi j hj
    exact ⟨hat 0 (by omega), hat 1 (by omega), hok _ (List.getElem_mem hi)⟩
theorem ownIns_slice {w : World} {a : Option Addr} {n cap : Nat} {l : List InD} (h : OwnIns w (.slice a n cap) l) (hok : ∀ x ∈ l, inOk x) : n = l.length ∧ n ≤ cap ∧ InsAt w a l := by
  obtain ⟨a', cap', e, hc, hi⟩ := ownIns_at h hok
  simp only [Value.slice.injEq] at e
  obtain ⟨rfl, rfl, rfl⟩ := e
  exact ⟨rfl, hc, hi⟩

/-- A function value that says of an In whether it is chosen, in every world that keeps K. -/
def PicksN (K : World → Prop) (f : FuncId) (cap : Array Value) (q : InD → Bool) : Prop :=
  (∀ (args : Array Value) (w : World), (callFunc f args).run Try.prog w = .ok (.enter f args) w) ∧
  ∀ (e : InD) (w : World), K w → Calls Try.prog f (#[inV e] ++ cap) w fun x w' => x = .returned (.bool (q e)) ∧ Below w.heap.size w w'
theorem inIndex_any (K : World → Prop) (hK : ∀ a b, K a → Below a.heap.size a b → K b) (f : FuncId) (cap : Array Value) (q : InD → Bool) (hp : PicksN K f cap q) (l : List InD) (a : Option Addr) (cp : Nat) (w : World) (hw : K w) (hl : l.length ≤ 1000) (hi : InsAt w a l) :
    Calls Try.prog 66 #[.slice a l.length cp, .func (.func f) #[] cap] w fun e w' => e = .returned (.int .i64 (firstAt q l)) ∧ Below w.heap.size w w' := by
  have hcf := hp.1
  have HP := Lib.hid hp.2
  have HK := Lib.hid hK
  have HW := Lib.hid hw
  clear hp hK hw
  go_enter Try.func66, Try.ntmps66
  go_wp2
  go_loopw [8] (fun i wr => ∃ k : Nat, k ≤ l.length ∧ i = .int .i64 k ∧ Hid ((l.take k).findIdx? q = none) ∧ Below w.heap.size w wr) (fun i _ => l.length - (intOf i).toNat)
  case atStart => exact ⟨0, Nat.zero_le _, rfl, Lib.hid rfl, Below.refl _ _⟩
  case round =>
    obtain ⟨k, hk, rfl, NO, hbel⟩ := hrel
    by_cases hlt : k < l.length
    · obtain ⟨b, o, rfl, hb, c0, c1, _⟩ := insAt_kept hbel hi k hlt
      go_wp2_with fail
      refine (HP.out l[k] _ (HK.out _ _ HW.out hbel)).mono ?_
      rintro e w1 ⟨rfl, hb1⟩
      cases hq : q l[k] with
      | true =>
        have HQ := Lib.hid hq
        clear hq
        go_wp2
        go_ret
        refine ⟨ret_i64 ?_, kept_trans hbel hb1⟩
        exact (firstAt_hit hlt NO.out HQ.out).symm
      | false =>
        have HQ := Lib.hid hq
        clear hq
        go_wp2
        go_roundw
        case rel => exact ⟨k + 1, by omega, by go_num, Lib.hid (firstAt_miss hlt NO.out HQ.out), kept_trans hbel hb1⟩
        case measure => simp [intOf]; omega
    · go_wp2
      go_ret
      refine ⟨ret_i64 ?_, hbel⟩
      have := NO.out
      rw [List.take_of_length_le (by omega)] at this
      unfold firstAt
      rw [this]
theorem inContains_any (K : World → Prop) (hK : ∀ a b, K a → Below a.heap.size a b → K b) (f : FuncId) (fc : Array Value) (q : InD → Bool) (hp : PicksN K f fc q) (l : List InD) (a : Option Addr) (cp : Nat) (w : World) (hw : K w) (hl : l.length ≤ 1000) (hi : InsAt w a l) :
    Calls Try.prog 52 #[.slice a l.length cp, .func (.func f) #[] fc] w fun e w' => e = .returned (.bool (l.any q)) ∧ Below w.heap.size w w' := by
  have HP := Lib.hid hp
  have HK := Lib.hid hK
  have HW := Lib.hid hw
  have HI := Lib.hid hi
  clear hp hK hw hi
  go_enter Try.func52, Try.ntmps52
  go_wp2_with fail
  refine (inIndex_any K HK.out f fc q HP.out l _ _ w HW.out hl HI.out).mono ?_
  rintro e w1 ⟨rfl, hb1⟩
  have e1 := firstAt_neg q l
  obtain ⟨i, hi⟩ : ∃ i, firstAt q l = i := ⟨_, rfl⟩
  rw [hi] at e1 ⊢
  go_wp2
  go_ret
  exact ⟨rfl, hb1⟩
theorem picks_spends (c : Nat) (x : UInt64) : PicksN (CellIs c (.int .u64 x.toNat)) 57 #[.pointer (some ⟨c, 0, none⟩)] (fun e => e.1 == x) := by
  refine ⟨fun _ _ => by kernel_rfl, fun e w hw => ?_⟩
  unfold inV
  have hc := cell_spot hw
  have hw : w.cell? ⟨c, 0, none⟩ = some (.int .u64 x.toNat) := hw
  have hlt : c < w.heap.size := hc.2
  clear hc
  have hq : ((e.1.toNat : Int) == (x.toNat : Int)) = (e.1 == x) := u64_beq e.1 x
  show Calls Try.prog 57 #[.agg #[.int .u64 e.1.toNat, .int .i64 e.2], .pointer (some ⟨c, 0, none⟩)] w _
  go_enter Try.func57, Try.ntmps57
  go_wp2
  go_ret
  exact ⟨rfl, kept_new _ _⟩
/-- A deed spends an output of x. -/
def spendsD (d : DeedD) (x : UInt64) : Bool := d.ins.any fun e => e.1 == x
theorem spends_any (d : DeedD) (x : UInt64) (a : Option Addr) (cap : Nat) (w : World) (hl : d.ins.length ≤ 1000) (hi : InsAt w a d.ins) :
    Calls Try.prog 40 #[.agg #[.slice a d.ins.length cap, .int .i64 d.outs, .int .i64 d.weight, .int .i64 d.fee], .int .u64 x.toNat] w fun e w' => e = .returned (.bool (spendsD d x)) ∧ Below w.heap.size w w' := by
  have hk : Below w.heap.size w ((w.alloc (.cells #[.slice a d.ins.length cap, .int .i64 d.outs, .int .i64 d.weight, .int .i64 d.fee] 30)).alloc (.cells #[.int .u64 x.toNat] 36)) := kept_alloc (kept_new _ _) _
  have HI := Lib.hid (insAt_kept hk hi)
  have HC : Hid (CellIs (w.heap.size + 1) (.int .u64 x.toNat) ((w.alloc (.cells #[.slice a d.ins.length cap, .int .i64 d.outs, .int .i64 d.weight, .int .i64 d.fee] 30)).alloc (.cells #[.int .u64 x.toNat] 36))) := Lib.hid (by
    have := cellIs_new (w.alloc (.cells #[.slice a d.ins.length cap, .int .i64 d.outs, .int .i64 d.weight, .int .i64 d.fee] 30)) (.int .u64 x.toNat) 36
    simpa using this)
  clear hi
  go_enter Try.func40, Try.ntmps40
  go_wp2_with fail
  refine (inContains_any _ (cellIs_kept _ _) _ _ _ (picks_spends (w.heap.size + 1) x) d.ins _ _ _ HC.out hl HI.out).mono ?_
  rintro e w1 ⟨rfl, hb1⟩
  go_wp2
  go_ret
  exact ⟨rfl, kept_trans hk hb1⟩
end Go.Proofs.Ytihbcgdbennegaa
