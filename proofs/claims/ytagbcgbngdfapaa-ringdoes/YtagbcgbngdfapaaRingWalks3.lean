/-
  The contract of Count: it ranges over the previous generation, in whatever order.
-/
import Derived.Test.YtagbcgbngdfapaaRingWalks2
import Derived.Test.YtagbcgbngdfapaaFrame
import Derived.Laws.IdiomRangeMap
namespace Go.Proofs.Ytagbcgbngdfapaa
open Go.RowKit Go.Maps

/-- A step of a range over a map of IDs to bools. -/
theorem next_gen {P : Program} {ops : Array Oper} {rest : List Oper} {o : Oper} {a : Act} {Q : Exit → Act → World → Prop} (w : World) (hg : o.guard = none) (it : Operand) (hop : o.op = Op.next it false) (hP : P = Try.prog)
    (b r n : Nat) (D : DataW Unit) (left : Lit → Bool) (cnt : Nat) (hit : a.eval it = .pointer (some ⟨r, 0, none⟩)) (h : w.ranges Try.prog 31 (plainElem Try.prog 4) b r n D left cnt)
    (hDone : cnt = 0 → (∀ kl, left kl = false) → wpList P ops Q rest (a.put o.dst (.tuple #[.bool false])) w)
    (hMore : ∀ (x : UInt64) (c : Value) (w' : World) (cnt' : Nat), left (.int .u64 x.toNat) = true → w'.ranges Try.prog 31 (plainElem Try.prog 4) b r n D (fun z => left z && !z.sameKey (.int .u64 x.toNat)) cnt' → cnt' < cnt →
      w.grownBy w' (some r) → w'.heap.size = w.heap.size → (Instr.entry (.pointer (some ⟨r, 0, none⟩))).run P w' = .ok (.tuple #[.int .u64 x.toNat, c]) w' → wpList P ops Q rest (a.put o.dst (.tuple #[.bool true, .int .u64 x.toNat, c])) w') :
    wpList P ops Q (o :: rest) a w := by
  subst hP
  exact wpList_next_ranges w hg it hop 31 u64_keyed (plainElem Try.prog 4) (fun x : UInt64 => Value.int .u64 x.toNat) (fun v : Value => v)
    (fun key kl hkey => by
      obtain ⟨x, rfl, _, hw⟩ := Maps.keyOf_int_inv Try.underlying31 hkey
      obtain ⟨u, rfl⟩ := wf_u64 hw
      exact ⟨u, rfl⟩) (fun v _ _ => ⟨v, rfl⟩)
    b r n D left cnt hit h hDone (fun x c kl y w' cnt' hkey hlk hv hat hrg hlt hgr hsz hen => by
      rw [u64_key x] at hkey
      cases hkey
      exact hMore x c w' cnt' hlk hrg hlt hgr hsz hen)

theorem ring_count_nil (R : Nat) (s : RingS) (k : Nat) (hk : s.count = k) (w : World) (c : Nat) (c1 : w.cell? ⟨R, 1, none⟩ = some (.map (some c))) (c2 : w.cell? ⟨R, 2, none⟩ = some (.map none)) (hc : MapAt w c s.cur) (hp : s.prev = []) :
    Calls Try.prog 12 #[.pointer (some ⟨R, 0, none⟩)] w fun e w' => e = .returned (.int .i64 k) ∧ Below w.heap.size w w' := by
  have hrg := run_range_nilMap (P := Try.prog) w 47 _ _ Try.underlying47
  have hnx : ∀ ty, (Instr.next (.pointer (some ⟨w.heap.size, 0, none⟩)) false ty).run Try.prog (w.alloc (.mapIter none 0 #[] 0)) = _ := fun ty => run_next_nilMap _ ty 0 0 #[]
  have l1 := fun ty => map_len hc ty
  have HK : Hid ((s.cur.length : Int) = k) := Lib.hid (by rw [← hk]; unfold RingS.count; rw [hp]; simp)
  clear hk hp hc
  go_enter Try.func12, Try.ntmps12
  go_wp2
  refine wp_loop_rounds 1 ?_
  rw [rounds_succ]
  go_wp2
  go_ret
  exact ⟨ret_i64 HK.out, kept_new _ _⟩

theorem ring_count (F : Nat → Prop) (R : Nat) (s : RingS) (k : Nat) (hk : s.count = k) (w : World) (h : RingAt w F R s) (hg : s.Good) :
    Calls Try.prog 12 #[.pointer (some ⟨R, 0, none⟩)] w fun e w' => e = .returned (.int .i64 k) ∧ Below w.heap.size w w' := by
  obtain ⟨c, p, ⟨c0, c1, c2, f2⟩, hc, hp, hn, hF, ht⟩ := h
  rcases hp with ⟨rfl, hp⟩ | ⟨b, rfl, hp⟩
  · exact ring_count_nil R s k hk w c c1 c2 hc hp
  have HC := Lib.hid hc
  have l0 := fun ty => map_len hc ty
  have hRlt : R < w.heap.size := ht R hF.1
  obtain ⟨D, hown, hsize, hhas, _⟩ := hp
  have hbl := hown.lt
  have hcl := map_lt hc
  obtain ⟨_, g2, g3, g4, _, g6⟩ := hg
  have HN := Lib.hid g6
  have HK := Lib.hid hk
  have HH := Lib.hid hhas
  clear hc hF ht hk hsize hhas hn g6 c0 f2
  go_enter Try.func12, Try.ntmps12
  go_wp2_with (first
    | (at_range; refine wpList_range_own _ rfl _ 47 rfl 31 4 u64_keyed Try.underlying47 _ b s.prev.length D rfl hown ?_; intro w0 hrg0 hg0 hs0)
    | go_in)
  go_frame
  go_loopw [3, 4] (fun n _ wr => ∃ (left : Lit → Bool) (cnt : Nat), n = .int .i64 ((s.cur.length + come s.prev s.cur left : Nat) : Int) ∧ wr.ranges Try.prog 31 (plainElem Try.prog 4) b w.heap.size s.prev.length D left cnt ∧
      Hid (∀ x : UInt64, left (.int .u64 x.toNat) = true → x ∈ s.prev) ∧ Below w.heap.size w wr)
    (fun _ _ wr => wr.rangeLeft b w.heap.size)
  case atStart =>
    exact ⟨_, _, by rw [come_start HH.out]; rfl, hrg0, Lib.hid (fun x hx => List.contains_iff_mem.1 ((HH.out x).symm.trans hx)), (Below.refl _ _).grown hg0 (Nat.le_refl _) (fun j hj => by cases hj)⟩
  case round =>
    obtain ⟨left, cnt, rfl, hrg, HL, hbel⟩ := hrel
    have hcome := come_le s.prev s.cur left
    go_wp2_with (first
      | (at_next; refine next_gen _ rfl _ rfl rfl b w.heap.size s.prev.length D left cnt rfl hrg ?_ ?_)
      | go_in)
    · intro hc0 hl0
      go_wp2
      go_ret
      refine ⟨ret_i64 ?_, hbel⟩
      rw [come_end hl0, ← HK.out]
      rfl
    · intro x cv w1 cnt1 hlx hrg1 hlt hg1 hs1 hen
      have hb1 : Below w.heap.size w w1 := hbel.grown hg1 hbel.size (fun j hj => by cases hj; exact Nat.le_refl _)
      have k1 : w1.cell? ⟨R, 1, none⟩ = some (.map (some c)) := kept_cell hb1 c1
      have l1 := map_look (map_same HC.out (hb1.block c hcl)) x
      have HS := Lib.hid (come_step (cs := s.cur) HN.out (HL.out x hlx) hlx)
      have HHL : Hid (∀ z : UInt64, (left (.int .u64 z.toNat) && !(Lit.int .u64 z.toNat).sameKey (.int .u64 x.toNat)) = true → z ∈ s.prev) := Lib.hid (fun z hz => HL.out z (by rw [Bool.and_eq_true] at hz; exact hz.1))
      have HRG := Lib.hid hrg1
      have HR0 := Lib.hid hrg
      clear hrg1 hrg
      cases hx : s.cur.contains x with
      | true =>
        rw [hx] at l1
        rw [hx] at HS
        have HX := Lib.hid hx
        clear hx
        go_wp2
        go_roundw
        case rel => exact ⟨_, cnt1, by rw [HS.out]; rfl, HRG.out, HHL, hb1⟩
        case measure => rw [HRG.out.left_eq, HR0.out.left_eq]; exact hlt
      | false =>
        rw [hx] at l1
        rw [hx] at HS
        have HX := Lib.hid hx
        clear hx
        go_wp2
        go_roundw
        case rel => exact ⟨_, cnt1, by rw [HS.out]; simp only [Bool.false_eq_true, if_false]; go_num, HRG.out, HHL, hb1⟩
        case measure => rw [HRG.out.left_eq, HR0.out.left_eq]; exact hlt
end Go.Proofs.Ytagbcgbngdfapaa
