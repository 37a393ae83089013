/-
  The contract of the reference's DeedDecode where the bytes are well formed.
-/
import Derived.Test.YtnigjhfdeinlhaaRefDecode
namespace Go.Proofs.Ytnigjhfdeinlhaa
open Go.RowKit

/-- The cells of some Ins, one behind the other. -/
def insCells (l : List InD) : List Value := l.flatMap fun x => [.int .u64 x.1.toNat, .int .i64 x.2]
theorem insCells_snoc (l : List InD) (x : InD) : insCells (l ++ [x]) = insCells l ++ [.int .u64 x.1.toNat, .int .i64 x.2] := by simp [insCells]
theorem insCells_length : ∀ l : List InD, (insCells l).length = l.length * 2
  | [] => rfl
  | x :: r => by
    have := insCells_length r
    unfold insCells at *
    simp [this]
    omega
theorem insCells_at : ∀ (l : List InD) (i : Nat) (h : i < l.length), (insCells l)[i * 2]? = some (.int .u64 l[i].1.toNat) ∧ (insCells l)[i * 2 + 1]? = some (.int .i64 l[i].2)
  | x :: r, 0, _ => by simp [insCells]
  | x :: r, i + 1, h => by
    have := insCells_at r i (by simpa using h)
    have e : insCells (x :: r) = .int .u64 x.1.toNat :: .int .i64 x.2 :: insCells r := by simp [insCells]
    rw [e, show (i + 1) * 2 = i * 2 + 2 by omega]
    simpa using this
theorem row_below {w w' : World} {b n : Nat} {t : TypeId} {f : Nat → Value} (h : w.rowIs b t n f) (hb : Below w.heap.size w w') : w'.rowIs b t n f := h.of_block (hb.block b h.lt)
/-- The cells of a deed in the making: its Ins are v. -/
def boxF (v : Value) (i : Nat) : Value := (#[v, .int .i64 0, .int .i64 0, .int .i64 0][i]?).getD undef
theorem box_made (w : World) : (w.alloc (.cells #[.slice none 0 0, .int .i64 0, .int .i64 0, .int .i64 0] 24)).rowIs w.heap.size 24 4 (boxF (.slice none 0 0)) :=
  World.rowIs_alloc w #[.slice none 0 0, .int .i64 0, .int .i64 0, .int .i64 0] 24 _ (fun i hi => by
    have : i < 4 := hi
    match i, this with
    | 0, _ => rfl
    | 1, _ => rfl
    | 2, _ => rfl
    | 3, _ => rfl)
def boxG (v : Value) (o g f : Int) (i : Nat) : Value := (#[v, .int .i64 o, .int .i64 g, .int .i64 f][i]?).getD undef
theorem boxG_1 {w : World} {b : Nat} {v : Value} {o : Int} (h : w.rowIs b 24 4 (boxF v)) : (w.setCell ⟨b, 1, none⟩ (.int .i64 o)).rowIs b 24 4 (boxG v o 0 0) :=
  (h.set 1 _).congr fun i hi => by
    match i, hi with
    | 0, _ => rfl
    | 1, _ => rfl
    | 2, _ => rfl
    | 3, _ => rfl
theorem boxG_2 {w : World} {b : Nat} {v : Value} {o g : Int} (h : w.rowIs b 24 4 (boxG v o 0 0)) : (w.setCell ⟨b, 2, none⟩ (.int .i64 g)).rowIs b 24 4 (boxG v o g 0) :=
  (h.set 2 _).congr fun i hi => by
    match i, hi with
    | 0, _ => rfl
    | 1, _ => rfl
    | 2, _ => rfl
    | 3, _ => rfl
theorem boxG_3 {w : World} {b : Nat} {v : Value} {o g f : Int} (h : w.rowIs b 24 4 (boxG v o g 0)) : (w.setCell ⟨b, 3, none⟩ (.int .i64 f)).rowIs b 24 4 (boxG v o g f) :=
  (h.set 3 _).congr fun i hi => by
    match i, hi with
    | 0, _ => rfl
    | 1, _ => rfl
    | 2, _ => rfl
    | 3, _ => rfl
theorem four_cells {w : World} {b : Nat} {v : Value} {o g f : Int} (h : w.rowIs b 24 4 (boxG v o g f)) :
    (w.cell? ⟨b, 0, none⟩ = some v ∧ w.cell? ⟨b, 1, none⟩ = some (.int .i64 o) ∧ w.cell? ⟨b, 2, none⟩ = some (.int .i64 g) ∧ w.cell? ⟨b, 3, none⟩ = some (.int .i64 f)) ∧
    w.frozen? ⟨b, 0, none⟩ = false ∧ w.frozen? ⟨b, 1, none⟩ = false ∧ w.frozen? ⟨b, 2, none⟩ = false ∧ w.frozen? ⟨b, 3, none⟩ = false :=
  ⟨⟨h.cell (i := 0) (by omega), h.cell (i := 1) (by omega), h.cell (i := 2) (by omega), h.cell (i := 3) (by omega)⟩, h.frozen 0, h.frozen 1, h.frozen 2, h.frozen 3⟩
theorem box_set {w : World} {b : Nat} {v u : Value} (h : w.rowIs b 24 4 (boxF v)) : (w.setCell ⟨b, 0, none⟩ u).rowIs b 24 4 (boxF u) :=
  (h.set 0 u).congr fun i hi => by
    match i, hi with
    | 0, _ => rfl
    | 1, _ => rfl
    | 2, _ => rfl
    | 3, _ => rfl
theorem owns_insAt {w : World} {B : Nat} {v : Value} {l : List InD} (hok : ∀ i (h : i < l.length), (Lit.int .i64 l[i].2).wf = true) (h : w.ownsRow B 44 2 v l.length (insCells l)) :
    ∃ a cap, v = .slice a l.length cap ∧ l.length ≤ cap ∧ InsAt w a l ∧ Fresh B a := by
  rcases h.2 with ⟨hv, hn⟩ | ⟨g, cap, cur, hv, hB, hg, hc, _, _, _⟩
  · refine ⟨none, 0, by rw [hn]; exact hv, by omega, fun i hi => absurd hi (by omega), fun _ _ _ e => by cases e⟩
  · refine ⟨some ⟨g, 0, none⟩, cap, hv, hc, fun i hi => ?_, fun b o sp e => by cases e; exact hB⟩
    obtain ⟨e0, e1⟩ := insCells_at l i hi
    have a0 := h.cells (g := g) (by rw [hv]; rfl) _ _ e0
    have a1 := h.cells (g := g) (by rw [hv]; rfl) _ _ e1
    have f0 : (⟨g, 0, none⟩ : Addr).add (i * 2) = ⟨g, 0 + i * 2, none⟩ := by unfold Addr.add; split <;> simp_all
    have f1 : (⟨g, 0, none⟩ : Addr).add (i * 2 + 1) = ⟨g, 0 + i * 2 + 1, none⟩ := by unfold Addr.add; split <;> simp_all
    rw [f0] at a0
    rw [f1] at a1
    exact ⟨g, 0, rfl, (Array.getElem?_eq_some_iff.1 hg).1, a0, a1, hok i hi⟩
theorem row_grown {w w' : World} {b n : Nat} {t : TypeId} {f : Nat → Value} {row : Option Nat} (h : w.rowIs b t n f) (hg : w.grownBy w' row) (hne : some b ≠ row) : w'.rowIs b t n f := h.of_block (hg.block b h.lt hne)
theorem own_far {w : World} {B size n b : Nat} {e : TypeId} {v : Value} {xs : List Value} (h : w.ownsRow B e size v n xs) (hb : b < B) : some b ≠ v.ownBlock := fun hh => by
  have := (h.lt _ hh.symm).1
  omega
theorem grown_set (w : World) (p : Addr) (u : Value) : w.grownBy (w.setCell p u) (some p.block) :=
  ⟨rfl, rfl, rfl, by simp, fun k _ hk => Below.heap_setCell w p u k (fun e => hk (by rw [e]))⟩
theorem ref_round {w wr w1 w3 : World} {k : Nat} {v nv u : Value} {xs ys : List Value} {o : Obj} (HA : wr.rowIs w.heap.size 24 4 (boxF (.slice none 0 0))) (HO : wr.ownsRow (w.heap.size + 2) 44 2 v k xs)
    (hbel : Below w.heap.size w wr) (hb1 : Below wr.drew.heap.size wr.drew w1) (hg : (w1.alloc o).grownBy w3 v.ownBlock) (hr3 : w3.rowIs (w.heap.size + 1) 24 4 (boxF v)) (hown3 : w3.ownsRow (w.heap.size + 2) 44 2 nv (k + 1) ys)
    (hws : w.heap.size + 2 ≤ wr.heap.size) :
    Hid ((w3.setCell ⟨w.heap.size + 1, 0, none⟩ u).rowIs w.heap.size 24 4 (boxF (.slice none 0 0))) ∧ Hid ((w3.setCell ⟨w.heap.size + 1, 0, none⟩ u).rowIs (w.heap.size + 1) 24 4 (boxF u)) ∧
    Hid ((w3.setCell ⟨w.heap.size + 1, 0, none⟩ u).ownsRow (w.heap.size + 2) 44 2 nv (k + 1) ys) ∧ w.heap.size + 2 ≤ (w3.setCell ⟨w.heap.size + 1, 0, none⟩ u).heap.size ∧ Below w.heap.size w (w3.setCell ⟨w.heap.size + 1, 0, none⟩ u) := by
  have far := own_far HO (b := w.heap.size) (by omega)
  have hs := hg.size
  have hs1 := hb1.size
  simp at hs hs1
  have hbw : Below w.heap.size w w1 := kept_trans hbel.drew hb1
  have hb3 : Below w.heap.size w w3 := (kept_alloc hbw o).grown hg (by have := hbw.size; simp; omega) (fun j hj => by have := (HO.lt j hj).1; omega)
  refine ⟨Lib.hid ?_, Lib.hid (box_set hr3), Lib.hid ?_, by simp; omega, hb3.setCell (by simp) _⟩
  · exact (row_grown ((row_below HA.drew hb1).alloc o) hg far).setOther (by simp) _
  · refine hown3.kept (grown_set w3 ⟨w.heap.size + 1, 0, none⟩ u) (Or.inr fun e => ?_)
    have := (hown3.lt _ e).1
    simp at this
theorem insOf_take_succ {n k : Nat} (r : List UInt8) (h : k < n) : (insOf n r).take (k + 1) = (insOf n r).take k ++ [inOf (r.drop (9 * k))] := by
  rw [List.take_succ_eq_append_getElem (by rw [insOf_length]; exact h), insOf_at]

set_option maxHeartbeats 4000000 in
theorem refDecode_read (s : ByteArray) (n : Nat) (D : DeedD) (r : Int) (w : World) (hp : 1 < s.size) (hs0 : s[0] = 68) (hn : s[1].toNat = n) (hs : s.size = 7 + 9 * n) (hD : readD s.data.toList = D) (hc : checkD D = r) (X : DeedD) (hX : X = if r = 0 then D else zeroD) :
    Calls Try.prog 16 #[.string s] w (GaveBoth w X r) := by
  obtain ⟨i0, hi0, hz0, hz1, hz2⟩ := info_parts info_in
  have hn255 : n ≤ 255 := by have := s[1].toNat_lt; omega
  have hb0 : ((s.size : Int) == 0) = false := by rw [beq_eq_false_iff_ne]; omega
  have hb1 : ((s.size : Int) == 1) = false := by rw [beq_eq_false_iff_ne]; omega
  have h0 : 0 < s.size := by omega
  have hd1 : decide ((s.size : Int) < 7 + 9 * (n : Int)) = false := decide_eq_false (by omega)
  have hd2 : decide (7 + 9 * (n : Int) < (s.size : Int)) = false := decide_eq_false (by omega)
  obtain ⟨l, hl⟩ : ∃ l, s.data.toList = l := ⟨_, rfl⟩
  have hll : l.length = s.size := by rw [← hl]; simp
  have HS := Lib.hid hs
  have HN := Lib.hid hn
  have HD := Lib.hid hD
  have HC := Lib.hid hc
  have HX := Lib.hid hX
  have HL := Lib.hid hl
  have HLL := Lib.hid hll
  clear hD hc hX hs hl hll
  have B0 := box_made w
  have B1 := box_made (w.alloc (.cells #[.slice none 0 0, .int .i64 0, .int .i64 0, .int .i64 0] 24))
  have hw0 : (w.alloc (.cells #[.slice none 0 0, .int .i64 0, .int .i64 0, .int .i64 0] 24)).heap.size = w.heap.size + 1 := by simp
  rw [hw0] at B1
  have HB0 := Lib.hid (B0.alloc (.cells #[.slice none 0 0, .int .i64 0, .int .i64 0, .int .i64 0] 24))
  have HB1 := Lib.hid B1
  clear B0 B1 hw0
  go_enter Try.func16, Try.ntmps16
  go_wp2_with fail
  go_loopw [6] (fun i wr => ∃ (k q : Nat) (v : Value), k ≤ n ∧ i = .int .i64 (q : Int) ∧ Hid (q = 2 + 9 * k) ∧ Hid (wr.rowIs w.heap.size 24 4 (boxF (.slice none 0 0))) ∧ Hid (wr.rowIs (w.heap.size + 1) 24 4 (boxF v)) ∧
    Hid (wr.ownsRow (w.heap.size + 2) 44 2 v k (insCells ((insOf n (l.drop 2)).take k))) ∧ w.heap.size + 2 ≤ wr.heap.size ∧ Below w.heap.size w wr) (fun i _ => 7 + 9 * n - (intOf i).toNat)
  case atStart => exact ⟨0, 2, _, Nat.zero_le _, rfl, Lib.hid rfl, HB0, HB1, Lib.hid (World.ownsRow_nil _ _ _ _), by simp, kept_alloc (kept_new _ _) _⟩
  case round =>
    clear HB0 HB1
    obtain ⟨k, q, v, hk, rfl, HQ, HA, HB, HO, hws, hbel⟩ := hrel
    have hq := HQ.out
    by_cases hlt : k < n
    · obtain ⟨x, hx⟩ : ∃ x, inOf ((l.drop 2).drop (9 * k)) = x := ⟨_, rfl⟩
      have hsz := HS.out
      have g1 : q + 8 < s.size := by omega
      have e1 : (s.extract q (q + 8)).data.toList = ((l.drop 2).drop (9 * k)).take 8 := by rw [extract_mid, HL.out, List.drop_drop, ← hq]; congr 1; omega
      have HX1 : Hid (numU (s.extract q (q + 8)).data.toList = x.1) := Lib.hid (by rw [e1, ← hx]; rfl)
      have hx2 : (s[q + 8].toNat : Int) = x.2 := by
        rw [← hx, ← getD_at s (q + 8) g1, HL.out]
        show _ = ((((l.drop 2).drop (9 * k)).getD 8 0).toNat : Int)
        rw [List.drop_drop, ← hq, List.getD_eq_getElem?_getD, List.getD_eq_getElem?_getD, List.getElem?_drop]
      have hx3 : 0 ≤ x.2 ∧ x.2 ≤ 255 := by have := s[q + 8].toNat_lt; omega
      have hse : (s.extract q (q + 8)).size ≤ maxLen := by rw [ByteArray.size_extract]; unfold maxLen; omega
      have HXX := Lib.hid hx
      have z1 : IntKind.i64.wrap ((q : Int) + 8) = (q : Int) + 8 := IntWalk.i64_in _ (by omega)
      have z2 : ((q : Int) + 8).toNat = q + 8 := by omega
      have z3 : (q : Int) + 8 ≤ (s.size : Int) := by omega
      have z4 : (q : Int) + 8 < (s.size : Int) := by omega
      have z5 : (0 : Int) ≤ (q : Int) + 8 := by omega
      have z6 : (q : Int) ≤ (q : Int) + 8 := by omega
      have z7 : IntKind.i64.wrap x.2 = x.2 := IntWalk.i64_in _ (by omega)
      have y1 : (q : Int) < 7 + 9 * (n : Int) - 5 := by omega
      have hc0 : wr.cell? ⟨w.heap.size + 1, 0, none⟩ = some v := HB.out.cell (i := 0) (by omega)
      have hone : ∀ u ∈ [Value.int .u64 x.1.toNat, .int .i64 x.2], u.oneCell' = true := by simp [Value.oneCell']
      clear hx e1 hq hsz
      go_wp2_with fail
      go_region_law (first
        | (go_simp; go_at_call 34; (with_reducible refine (refNumber_is _ x.1 _ hse HX1.out).mono ?_); rintro e w1 ⟨rfl, hb1⟩; have ho1 := owns_below HO.out.drew hb1; have hr1 := row_below HB.out.drew hb1; have hc1 := hr1.cell (i := 0) (by omega); have hz1' := hr1.lt)
        | (refine step_append_lies _ (by rfl) _ _ _ (by rfl) (w.heap.size + 2) 44 i0 _ 2 16 Try.underlying22 hi0 hz0 hz1 hz2 rfl (by omega) v k _ (by rfl) (ho1.alloc _) ⟨w1.heap.size, 0, none⟩ 1 1 [.int .u64 x.1.toNat, .int .i64 x.2] (by rfl) (by rfl) (cells_new w1 _ _) hone (by omega) (by unfold maxLen; omega) (by omega) (by have := hb1.size; simp at this ⊢; omega) _ rfl ?_; intro g cap w3 hown3 hgrow3 hat3 hlt3; have hr3 := row_grown (hr1.alloc _) hgrow3 (own_far ho1 (by omega)); have s0 := hr3.cell (i := 0) (by omega); have s1 := hr3.frozen 0))
      all_goals
        go_wp2_with fail
        obtain ⟨t1, t2, t3, t4, t5⟩ := ref_round (u := .slice (some ⟨g, 0, none⟩) (k + 1) cap) HA.out HO.out hbel hb1 hgrow3 hr3 hown3 hws
        go_roundw
        case rel =>
          refine ⟨k + 1, q + 9, _, by omega, by go_num, Lib.hid (by have := HQ.out; omega), t1, t2, ?_, t4, t5⟩
          rw [insOf_take_succ _ hlt, insCells_snoc, HXX.out]
          exact t3
        case measure => have := HQ.out; simp [intOf]; omega
    · obtain rfl : k = n := by omega
      have hsz := HS.out
      have hq := HQ.out
      subst hq
      have hlo : 7 + 9 * (k : Int) ≤ (s.size : Int) := by omega
      have hhi : (s.size : Int) ≤ 7 + 9 * (k : Int) := by omega
      have hlo' : 7 + 9 * k ≤ s.size := by omega
      have z0 : 7 + 9 * k - 5 < s.size := by omega
      obtain ⟨o, ho⟩ : ∃ o : Int, (s[7 + 9 * k - 5].toNat : Int) = o := ⟨_, rfl⟩
      have hbo : 0 ≤ o ∧ o ≤ 255 := by have := s[7 + 9 * k - 5].toNat_lt; omega
      obtain ⟨hbo1, hbo2⟩ := hbo
      obtain ⟨p, hp1⟩ : ∃ p, numU (s.extract (7 + 9 * k - 4) (7 + 9 * k - 2)).data.toList = p := ⟨_, rfl⟩
      obtain ⟨u, hu1⟩ : ∃ u, numU (s.extract (7 + 9 * k - 2) s.size).data.toList = u := ⟨_, rfl⟩
      have e1 : (s.extract (7 + 9 * k - 4) (7 + 9 * k - 2)).data.toList = (l.drop (3 + 9 * k)).take 2 := by rw [extract_mid, HL.out]; congr 1 <;> first | omega | (congr 1; omega)
      have e2 : (s.extract (7 + 9 * k - 2) s.size).data.toList = (l.drop (5 + 9 * k)).take 2 := by
        rw [extract_end _ _ _ rfl, HL.out, show 7 + 9 * k - 2 = 5 + 9 * k by omega, List.take_of_length_le (by rw [List.length_drop, HLL.out]; omega)]
      have hpb : (p.toNat : Int) ≤ 65535 := by rw [← hp1]; exact num2_le _ (by rw [e1, List.length_take]; omega)
      have hub : (u.toNat : Int) ≤ 65535 := by rw [← hu1]; exact num2_le _ (by rw [e2, List.length_take]; omega)
      have hs1 : (s.extract (7 + 9 * k - 4) (7 + 9 * k - 2)).size ≤ maxLen := by rw [ByteArray.size_extract]; unfold maxLen; omega
      have hs2 : (s.extract (7 + 9 * k - 2) s.size).size ≤ maxLen := by rw [ByteArray.size_extract]; unfold maxLen; omega
      have hDD := HD.out
      rw [HL.out] at hDD
      have hn1 : (l.getD 1 0).toNat = k := by rw [← HL.out, getD_at s 1 hp]; exact HN.out
      have hD1 : D.ins = insOf k (l.drop 2) := by
        rw [← hDD]
        show insOf (l.getD 1 0).toNat (l.drop 2) = _
        rw [hn1]
      have hD2 : D.outs = o := by
        rw [← hDD, ← ho, ← getD_at s _ z0, HL.out]
        show (((l.drop (2 + 9 * (l.getD 1 0).toNat)).getD 0 0).toNat : Int) = _
        rw [hn1, List.getD_eq_getElem?_getD, List.getD_eq_getElem?_getD, List.getElem?_drop, show 2 + 9 * k + 0 = 7 + 9 * k - 5 by omega]
      have hD3 : D.weight = (p.toNat : Int) := by
        rw [← hDD, ← hp1, e1]
        show ((numU (((l.drop (2 + 9 * (l.getD 1 0).toNat)).drop 1).take 2)).toNat : Int) = _
        rw [hn1, List.drop_drop, show 2 + 9 * k + 1 = 3 + 9 * k by omega]
      have hD4 : D.fee = (u.toNat : Int) := by
        rw [← hDD, ← hu1, e2]
        show ((numU (((l.drop (2 + 9 * (l.getD 1 0).toNat)).drop 3).take 2)).toNat : Int) = _
        rw [hn1, List.drop_drop, show 2 + 9 * k + 3 = 5 + 9 * k by omega]
      have hlen : D.ins.length = k := by rw [hD1, insOf_length]
      have HO' := HO.out
      rw [List.take_of_length_le (by rw [insOf_length]; omega), ← hD1] at HO'
      rw [← hlen] at HO'
      obtain ⟨a, cap, hv, hcap, hia, hfr⟩ := owns_insAt (fun i hi => by
        have hi' : i < (insOf k (l.drop 2)).length := by rw [← hD1]; exact hi
        have : D.ins[i] = (insOf k (l.drop 2))[i] := by simp only [hD1]
        rw [this, insOf_at]
        exact inOf_ok _) HO'
      have hchk := fun wx hx => refCheck_is D a cap wx r hcap hx HC.out
      rw [hlen] at hv
      subst hv
      rw [hlen, hD2, hD3, hD4] at hchk
      have box1 := boxG_1 (o := o) HB.out
      have res1 := HA.out.setOther (a := ⟨w.heap.size + 1, 1, none⟩) (by simp) (.int .i64 o)
      have ia1 := insAt_set (p := ⟨w.heap.size + 1, 1, none⟩) hia hfr (by simp) (.int .i64 o)
      have bel1 := hbel.setCell (p := ⟨w.heap.size + 1, 1, none⟩) (by simp) (.int .i64 o)
      have c1 : wr.cell? ⟨w.heap.size + 1, 1, none⟩ = some (.int .i64 0) := HB.out.cell (i := 1) (by omega)
      have m1 := HB.out.frozen 1
      have hd3 : decide (2 + 9 * (k : Int) < 7 + 9 * (k : Int) - 5) = false := decide_eq_false (by omega)
      have HP := Lib.hid hp1
      have HU := Lib.hid hu1
      have HDS := Lib.hid (And.intro hlen (And.intro hD2 (And.intro hD3 hD4)))
      clear hsz hp1 hu1 e1 e2 hDD hn1 hD1 hD2 hD3 hD4 HO' hia hlen
      by_cases hr : r = 0
      · have hX : X = D := by rw [HX.out, if_pos hr]
        subst hr
        subst hX
        go_wp2_with fail
        with_reducible refine (refNumber_is _ p _ hs1 HP.out).mono ?_
        rintro e w2 ⟨rfl, hb2⟩
        have box2 := row_below box1 hb2
        have res2 := row_below res1 hb2
        have ia2 := insAt_kept hb2 ia1
        have bel2 := kept_trans bel1 hb2
        obtain ⟨⟨a0, a1, a2, a3⟩, n0, n1, n2, n3⟩ := four_cells box2
        have box3 := boxG_2 (g := (p.toNat : Int)) box2
        have res3 := res2.setOther (a := ⟨w.heap.size + 1, 2, none⟩) (by simp) (.int .i64 (p.toNat : Int))
        have ia3 := insAt_set (p := ⟨w.heap.size + 1, 2, none⟩) ia2 hfr (by simp) (.int .i64 (p.toNat : Int))
        have bel3 := bel2.setCell (p := ⟨w.heap.size + 1, 2, none⟩) (by simp) (.int .i64 (p.toNat : Int))
        clear box1 res1 ia1 bel1 hb2 box2 res2 ia2 bel2
        go_wp2_with fail
        with_reducible refine (refNumber_is _ u _ hs2 HU.out).mono ?_
        rintro e w4 ⟨rfl, hb4⟩
        have box4 := row_below box3 hb4
        have res4 := row_below res3 hb4
        have ia4 := insAt_kept hb4 ia3
        have bel4 := kept_trans bel3 hb4
        clear a0 a1 a2 a3 n0 n1 n2 n3
        obtain ⟨⟨a0, a1, a2, a3⟩, n0, n1, n2, n3⟩ := four_cells box4
        have box5 := boxG_3 (f := (u.toNat : Int)) box4
        have res5 := res4.setOther (a := ⟨w.heap.size + 1, 3, none⟩) (by simp) (.int .i64 (u.toNat : Int))
        have ia5 := insAt_set (p := ⟨w.heap.size + 1, 3, none⟩) ia4 hfr (by simp) (.int .i64 (u.toNat : Int))
        have bel5 := bel4.setCell (p := ⟨w.heap.size + 1, 3, none⟩) (by simp) (.int .i64 (u.toNat : Int))
        clear box3 res3 ia3 bel3 hb4 box4 res4 ia4 bel4
        go_wp2_with fail
        with_reducible refine (hchk _ ia5).mono ?_
        rintro e w6 ⟨rfl, hb6⟩
        have box6 := row_below box5 hb6
        have res6 := row_below res5 hb6
        have ia6 := insAt_kept hb6 ia5
        have bel6 := kept_trans bel5 hb6
        clear a0 a1 a2 a3 n0 n1 n2 n3
        obtain ⟨⟨a0, a1, a2, a3⟩, n0, n1, n2, n3⟩ := four_cells box6
        obtain ⟨⟨r0, r1, r2, r3⟩, k0, k1, k2, k3⟩ := four_cells (o := 0) (g := 0) (f := 0) res6
        clear box5 res5 ia5 bel5 hb6 box6
        go_wp2_with fail
        refine bodyPost_ret (v := .tuple #[.agg #[.slice a k cap, .int .i64 o, .int .i64 (p.toNat : Int), .int .i64 (u.toNat : Int)], .int .i64 0]) (by simp [results, Try.results16, go_sem, r0, r1, r2, r3]) rfl ?_
        obtain ⟨hlen, d2, d3, d4⟩ := HDS.out
        refine ⟨a, cap, by rw [hlen, d2, d3, d4], hcap, ?_, fun b o sp e => by have := hfr b o sp e; omega, ?_⟩
        · exact insAt_set (insAt_set (insAt_set (insAt_set ia6 hfr (by simp) _) hfr (by simp) _) hfr (by simp) _) hfr (by simp) _
        · exact (((bel6.setCell (by simp) _).setCell (by simp) _).setCell (by simp) _).setCell (by simp) _
      · have hX : X = zeroD := by rw [HX.out, if_neg hr]
        subst hX
        have hrb : (r != 0) = true := by simpa using hr
        go_wp2_with fail
        with_reducible refine (refNumber_is _ p _ hs1 HP.out).mono ?_
        rintro e w2 ⟨rfl, hb2⟩
        have box2 := row_below box1 hb2
        have res2 := row_below res1 hb2
        have ia2 := insAt_kept hb2 ia1
        have bel2 := kept_trans bel1 hb2
        obtain ⟨⟨a0, a1, a2, a3⟩, n0, n1, n2, n3⟩ := four_cells box2
        have box3 := boxG_2 (g := (p.toNat : Int)) box2
        have res3 := res2.setOther (a := ⟨w.heap.size + 1, 2, none⟩) (by simp) (.int .i64 (p.toNat : Int))
        have ia3 := insAt_set (p := ⟨w.heap.size + 1, 2, none⟩) ia2 hfr (by simp) (.int .i64 (p.toNat : Int))
        have bel3 := bel2.setCell (p := ⟨w.heap.size + 1, 2, none⟩) (by simp) (.int .i64 (p.toNat : Int))
        clear box1 res1 ia1 bel1 hb2 box2 res2 ia2 bel2
        go_wp2_with fail
        with_reducible refine (refNumber_is _ u _ hs2 HU.out).mono ?_
        rintro e w4 ⟨rfl, hb4⟩
        have box4 := row_below box3 hb4
        have res4 := row_below res3 hb4
        have ia4 := insAt_kept hb4 ia3
        have bel4 := kept_trans bel3 hb4
        clear a0 a1 a2 a3 n0 n1 n2 n3
        obtain ⟨⟨a0, a1, a2, a3⟩, n0, n1, n2, n3⟩ := four_cells box4
        have box5 := boxG_3 (f := (u.toNat : Int)) box4
        have res5 := res4.setOther (a := ⟨w.heap.size + 1, 3, none⟩) (by simp) (.int .i64 (u.toNat : Int))
        have ia5 := insAt_set (p := ⟨w.heap.size + 1, 3, none⟩) ia4 hfr (by simp) (.int .i64 (u.toNat : Int))
        have bel5 := bel4.setCell (p := ⟨w.heap.size + 1, 3, none⟩) (by simp) (.int .i64 (u.toNat : Int))
        clear box3 res3 ia3 bel3 hb4 box4 res4 ia4 bel4
        go_wp2_with fail
        with_reducible refine (hchk _ ia5).mono ?_
        rintro e w6 ⟨rfl, hb6⟩
        have box6 := row_below box5 hb6
        have res6 := row_below res5 hb6
        have ia6 := insAt_kept hb6 ia5
        have bel6 := kept_trans bel5 hb6
        clear a0 a1 a2 a3 n0 n1 n2 n3
        obtain ⟨⟨a0, a1, a2, a3⟩, n0, n1, n2, n3⟩ := four_cells box6
        obtain ⟨⟨r0, r1, r2, r3⟩, k0, k1, k2, k3⟩ := four_cells (o := 0) (g := 0) (f := 0) res6
        clear box5 res5 ia5 bel5 hb6 box6
        go_wp2_with fail
        refine bodyPost_ret (v := .tuple #[.agg #[.slice none 0 0, .int .i64 0, .int .i64 0, .int .i64 0], .int .i64 r]) (by simp [results, Try.results16, go_sem, r0, r1, r2, r3]) rfl (gave_zero rfl ?_)
        exact (((bel6.setCell (by simp) _).setCell (by simp) _).setCell (by simp) _).setCell (by simp) _
end Go.Proofs.Ytnigjhfdeinlhaa
