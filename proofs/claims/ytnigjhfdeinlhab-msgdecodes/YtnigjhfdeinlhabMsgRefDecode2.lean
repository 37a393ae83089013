/-
  The contract of the reference's MsgDecode where the bytes are well formed and have IDs.
-/
import Derived.Test.YtnigjhfdeinlhabMsgRefDecode
namespace Go.Proofs.Ytnigjhfdeinlhab
open Go.RowKit

/-! ### The IDs, appended one by one -/
theorem row_below {w w' : World} {b n : Nat} {t : TypeId} {f : Nat → Value} (h : w.rowIs b t n f) (hb : Below w.heap.size w w') : w'.rowIs b t n f := h.of_block (hb.block b h.lt)
theorem row_grown {w w' : World} {b n : Nat} {t : TypeId} {f : Nat → Value} {row : Option Nat} (h : w.rowIs b t n f) (hg : w.grownBy w' row) (hne : some b ≠ row) : w'.rowIs b t n f := h.of_block (hg.block b h.lt hne)
theorem own_far {w : World} {B size n b : Nat} {e : TypeId} {v : Value} {xs : List Value} (h : w.ownsRow B e size v n xs) (hb : b < B) : some b ≠ v.ownBlock := fun hh => by
  have := (h.lt _ hh.symm).1
  omega
theorem grown_set (w : World) (p : Addr) (u : Value) : w.grownBy (w.setCell p u) (some p.block) :=
  ⟨rfl, rfl, rfl, by simp, fun k _ hk => Below.heap_setCell w p u k (fun e => hk (by rw [e]))⟩
/-- The cells of a message in the making. -/
def boxM (k : Int) (v : Value) (i : Nat) : Value := (#[.int .i64 k, v, .string ⟨#[]⟩][i]?).getD undef
theorem boxM_made (w : World) (k : Int) : (w.alloc (.cells #[.int .i64 k, .slice none 0 0, .string ⟨#[]⟩] 24)).rowIs w.heap.size 24 3 (boxM k (.slice none 0 0)) :=
  World.rowIs_alloc w #[.int .i64 k, .slice none 0 0, .string ⟨#[]⟩] 24 _ (fun i hi => by
    have : i < 3 := hi
    match i, this with
    | 0, _ => rfl
    | 1, _ => rfl
    | 2, _ => rfl)
theorem boxM_set {w : World} {b : Nat} {k : Int} {v u : Value} (h : w.rowIs b 24 3 (boxM k v)) : (w.setCell ⟨b, 1, none⟩ u).rowIs b 24 3 (boxM k u) :=
  (h.set 1 u).congr fun i hi => by
    match i, hi with
    | 0, _ => rfl
    | 1, _ => rfl
    | 2, _ => rfl
theorem boxM_cells {w : World} {b : Nat} {k : Int} {v : Value} (h : w.rowIs b 24 3 (boxM k v)) :
    (w.cell? ⟨b, 0, none⟩ = some (.int .i64 k) ∧ w.cell? ⟨b, 1, none⟩ = some v ∧ w.cell? ⟨b, 2, none⟩ = some (.string ⟨#[]⟩)) ∧ w.frozen? ⟨b, 0, none⟩ = false ∧ w.frozen? ⟨b, 1, none⟩ = false ∧ w.frozen? ⟨b, 2, none⟩ = false :=
  ⟨⟨h.cell (i := 0) (by omega), h.cell (i := 1) (by omega), h.cell (i := 2) (by omega)⟩, h.frozen 0, h.frozen 1, h.frozen 2⟩
def idV (x : UInt64) : Value := .int .u64 x.toNat
theorem owns_idsAt {w : World} {B : Nat} {v : Value} {l : List UInt64} (h : w.ownsRow B 41 1 v l.length (l.map idV)) : ∃ a cap, v = .slice a l.length cap ∧ l.length ≤ cap ∧ IdsAt w a l ∧ Fresh B a := by
  rcases h.2 with ⟨hv, hn⟩ | ⟨g, cap, cur, hv, hB, hg, hc, _, _, _⟩
  · refine ⟨none, 0, by rw [hn]; exact hv, by omega, fun i hi => absurd hi (by omega), fun _ _ _ e => by cases e⟩
  · refine ⟨some ⟨g, 0, none⟩, cap, hv, hc, fun i hi => ?_, fun b o sp e => by cases e; exact hB⟩
    have a0 := h.cells (g := g) (by rw [hv]; rfl) i (idV l[i]) (by rw [List.getElem?_map, List.getElem?_eq_getElem hi]; rfl)
    have f0 : (⟨g, 0, none⟩ : Addr).add i = ⟨g, 0 + i, none⟩ := by unfold Addr.add; split <;> simp_all
    rw [f0] at a0
    exact ⟨g, 0, rfl, (Array.getElem?_eq_some_iff.1 hg).1, a0⟩
theorem mref_round {w wr w1 w3 : World} {k : Nat} {kk : Int} {v nv u : Value} {xs ys : List Value} {o : Obj} (HA : wr.rowIs w.heap.size 24 3 (boxM 0 (.slice none 0 0))) (HO : wr.ownsRow (w.heap.size + 2) 41 1 v k xs)
    (hbel : Below w.heap.size w wr) (hb1 : Below wr.drew.heap.size wr.drew w1) (hg : (w1.alloc o).grownBy w3 v.ownBlock) (hr3 : w3.rowIs (w.heap.size + 1) 24 3 (boxM kk v)) (hown3 : w3.ownsRow (w.heap.size + 2) 41 1 nv (k + 1) ys)
    (hws : w.heap.size + 2 ≤ wr.heap.size) :
    Hid ((w3.setCell ⟨w.heap.size + 1, 1, none⟩ u).rowIs w.heap.size 24 3 (boxM 0 (.slice none 0 0))) ∧ Hid ((w3.setCell ⟨w.heap.size + 1, 1, none⟩ u).rowIs (w.heap.size + 1) 24 3 (boxM kk u)) ∧
    Hid ((w3.setCell ⟨w.heap.size + 1, 1, none⟩ u).ownsRow (w.heap.size + 2) 41 1 nv (k + 1) ys) ∧ w.heap.size + 2 ≤ (w3.setCell ⟨w.heap.size + 1, 1, none⟩ u).heap.size ∧ Below w.heap.size w (w3.setCell ⟨w.heap.size + 1, 1, none⟩ u) := by
  have far := own_far HO (b := w.heap.size) (by omega)
  have hs := hg.size
  have hs1 := hb1.size
  simp at hs hs1
  have hbw : Below w.heap.size w w1 := kept_trans hbel.drew hb1
  have hb3 : Below w.heap.size w w3 := (kept_alloc hbw o).grown hg (by have := hbw.size; simp; omega) (fun j hj => by have := (HO.lt j hj).1; omega)
  refine ⟨Lib.hid ?_, Lib.hid (boxM_set hr3), Lib.hid ?_, by simp; omega, hb3.setCell (by simp) _⟩
  · exact (row_grown ((row_below HA.drew hb1).alloc o) hg far).setOther (by simp) _
  · refine hown3.kept (grown_set w3 ⟨w.heap.size + 1, 1, none⟩ u) (Or.inr fun e => ?_)
    have := (hown3.lt _ e).1
    simp at this
theorem idsOf_take_succ {n k : Nat} (r : List UInt8) (h : k < n) : (idsOf n r).take (k + 1) = (idsOf n r).take k ++ [numU ((r.drop (8 * k)).take 8)] := by
  rw [List.take_succ_eq_append_getElem (by rw [idsOf_length]; exact h), idsOf_at]

set_option maxHeartbeats 4000000 in
theorem rdecode_ids (s : ByteArray) (n : Nat) (r : Int) (M X : MsgD) (w : World) (hp : 1 < s.size) (hw : within (s[0].toNat : Int) 1 4 = true) (hk : (s[0].toNat : Int) ≠ 3) (hn : s[1].toNat = n) (hs : s.size = 2 + 8 * n)
    (hM : M = ⟨(s[0].toNat : Int), idsOf n (s.data.toList.drop 2), ⟨#[]⟩⟩) (hc : checkM M = r) (hX : X = if r = 0 then M else zeroM) :
    Calls Try.prog 15 #[.string s] w (GaveM w X r) := by
  obtain ⟨i0, hi0, hz0, hz1, hz2⟩ := info_parts info_u64
  have hp0 : 0 < s.size := by omega
  have hn255 : n ≤ 255 := by have := s[1].toNat_lt; omega
  have hb : ((s.size : Int) == 0) = false := beq_eq_false_iff_ne.2 (by omega)
  have hb1 : ((s.size : Int) == 1) = false := beq_eq_false_iff_ne.2 (by omega)
  have hlt := s[0].toNat_lt
  obtain ⟨K, hK⟩ : ∃ K : Int, (s[0].toNat : Int) = K := ⟨_, rfl⟩
  have hK0 : 0 ≤ K ∧ K ≤ 255 := by omega
  obtain ⟨hK1, hK2⟩ := hK0
  have hk3 : (K == 3) = false := beq_eq_false_iff_ne.2 (by rw [← hK]; exact hk)
  have hq : decide (((s.size : Int) - 2) / 8 < (n : Int)) = false := decide_eq_false (by omega)
  have hne : ((s.size : Int) - 2 != 8 * (n : Int)) = false := by rw [bne_eq_false_iff_eq]; omega
  have hm : s.size ≤ 3000 := by omega
  obtain ⟨l, hl⟩ : ∃ l, s.data.toList = l := ⟨_, rfl⟩
  rw [hl, hK] at hM
  rw [hK] at hw
  have HS := Lib.hid hs
  have HM := Lib.hid hM
  have HC := Lib.hid hc
  have HX := Lib.hid hX
  have HL := Lib.hid hl
  have HK := Lib.hid hw
  clear hM hc hX hs hl hw hk
  have HB0 := Lib.hid ((boxM_made w 0).alloc (.cells #[.int .i64 K, .slice none 0 0, .string ⟨#[]⟩] 24))
  have HB1 := boxM_made (w.alloc (.cells #[.int .i64 0, .slice none 0 0, .string ⟨#[]⟩] 24)) K
  have hw0 : (w.alloc (.cells #[.int .i64 0, .slice none 0 0, .string ⟨#[]⟩] 24)).heap.size = w.heap.size + 1 := by simp
  rw [hw0] at HB1
  replace HB1 := Lib.hid HB1
  clear hw0
  go_enter Try.func15, Try.ntmps15
  go_wp2_with fail
  with_reducible refine (outside_no _ _ _ _ HK.out).mono ?_
  rintro e w' ⟨rfl, rfl⟩
  go_wp2_with fail
  go_loopw [5] (fun i wr => ∃ (k q : Nat) (v : Value), k ≤ n ∧ i = .int .i64 (q : Int) ∧ Hid (q = 2 + 8 * k) ∧ Hid (wr.rowIs w.heap.size 24 3 (boxM 0 (.slice none 0 0))) ∧ Hid (wr.rowIs (w.heap.size + 1) 24 3 (boxM K v)) ∧
    Hid (wr.ownsRow (w.heap.size + 2) 41 1 v k (((idsOf n (l.drop 2)).take k).map idV)) ∧ w.heap.size + 2 ≤ wr.heap.size ∧ Below w.heap.size w wr) (fun i _ => 2 + 8 * n - (intOf i).toNat)
  case atStart => exact ⟨0, 2, _, Nat.zero_le _, rfl, Lib.hid rfl, HB0, HB1, Lib.hid (World.ownsRow_nil _ _ _ _), by simp, kept_alloc (kept_new _ _) _⟩
  case round =>
    clear HB0 HB1
    obtain ⟨k, q, v, hk, rfl, HQ, HA, HB, HO, hws, hbel⟩ := hrel
    have hqq := HQ.out
    by_cases hlt : k < n
    · obtain ⟨x, hx⟩ : ∃ x, numU (((l.drop 2).drop (8 * k)).take 8) = x := ⟨_, rfl⟩
      have hsz := HS.out
      have g1 : q + 8 ≤ s.size := by omega
      have e1 : (s.extract q (q + 8)).data.toList = ((l.drop 2).drop (8 * k)).take 8 := by rw [extract_mid, HL.out, List.drop_drop, ← hqq]; congr 1; omega
      have HX1 : Hid (numU (s.extract q (q + 8)).data.toList = x) := Lib.hid (by rw [e1]; exact hx)
      have hse : (s.extract q (q + 8)).size ≤ maxLen := by rw [ByteArray.size_extract]; unfold maxLen; omega
      have HXX := Lib.hid hx
      have z1 : IntKind.i64.wrap ((q : Int) + 8) = (q : Int) + 8 := IntWalk.i64_in _ (by omega)
      have z2 : ((q : Int) + 8).toNat = q + 8 := by omega
      have z3 : (q : Int) + 8 ≤ (s.size : Int) := by omega
      have z5 : (0 : Int) ≤ (q : Int) + 8 := by omega
      have z6 : (q : Int) ≤ (q : Int) + 8 := by omega
      have y1 : (q : Int) < (s.size : Int) := by omega
      have hc1 : wr.cell? ⟨w.heap.size + 1, 1, none⟩ = some v := HB.out.cell (i := 1) (by omega)
      have hone : ∀ u ∈ [Value.int .u64 x.toNat], u.oneCell' = true := by simp [Value.oneCell']
      clear hx e1 hqq hsz
      go_wp2_with fail
      go_region_law (first
        | (go_simp; go_at_call 27; (with_reducible refine (refNumber_is _ x _ hse HX1.out).mono ?_); rintro e w1 ⟨rfl, hb1⟩; have ho1 := owns_below HO.out.drew hb1; have hr1 := row_below HB.out.drew hb1; have hd1 := hr1.cell (i := 1) (by omega); have hz1' := hr1.lt)
        | (refine step_append_lies _ (by rfl) _ _ _ (by rfl) (w.heap.size + 2) 41 i0 _ 1 8 Try.underlying22 hi0 hz0 hz1 hz2 rfl (by omega) v k _ (by rfl) (ho1.alloc _) ⟨w1.heap.size, 0, none⟩ 1 1 [.int .u64 x.toNat] (by rfl) (by rfl) (cells_new w1 _ _) hone (by omega) (by unfold maxLen; omega) (by omega) (by have := hb1.size; simp at this ⊢; omega) _ rfl ?_; intro g cap w3 hown3 hgrow3 hat3 hlt3; have hr3 := row_grown (hr1.alloc _) hgrow3 (own_far ho1 (by omega)); have s0 := hr3.cell (i := 1) (by omega); have s1 := hr3.frozen 1))
      all_goals
        go_wp2_with fail
        obtain ⟨t1, t2, t3, t4, t5⟩ := mref_round (u := .slice (some ⟨g, 0, none⟩) (k + 1) cap) HA.out HO.out hbel hb1 hgrow3 hr3 hown3 hws
        go_roundw
        case rel =>
          refine ⟨k + 1, q + 8, _, by omega, by go_num, Lib.hid (by have := HQ.out; omega), t1, t2, ?_, t4, t5⟩
          rw [idsOf_take_succ _ hlt, List.map_append, HXX.out]
          exact t3
        case measure => have := HQ.out; simp [intOf]; omega
    · obtain rfl : k = n := by omega
      have hsz := HS.out
      have hq2 : q = s.size := by omega
      have y1 : ¬ (q : Int) < (s.size : Int) := by omega
      have hMM := HM.out
      have hlen : M.ids.length = k := by rw [hMM]; exact idsOf_length _ _
      have hkd : M.kind = K := by rw [hMM]
      have hbd : M.body = ⟨#[]⟩ := by rw [hMM]
      have HO' := HO.out
      rw [List.take_of_length_le (by rw [idsOf_length]; omega), show idsOf k (l.drop 2) = M.ids by rw [hMM], ← hlen] at HO'
      obtain ⟨a, cap, hv, hcap, hia, hfr⟩ := owns_idsAt HO'
      have hchk := fun wx hx => rcheck_is M a cap wx r hcap hx HC.out
      rw [hkd, hbd, hlen] at hchk
      rw [hlen] at hv
      subst hv
      obtain ⟨⟨d0, d1, d2⟩, _⟩ := boxM_cells HB.out
      have hzz := HB.out.lt
      have HDS := Lib.hid (And.intro hlen (And.intro hkd hbd))
      clear hsz hq2 hqq hMM hlen hkd hbd HO'
      by_cases hr : r = 0
      · have hX : X = M := by rw [HX.out, if_pos hr]
        subst hr
        go_wp2_with fail
        with_reducible refine (hchk _ hia).mono ?_
        rintro e w2 ⟨rfl, hb2⟩
        have hi2 := idsAt_kept hb2 hia
        have bel2 := kept_trans hbel hb2
        obtain ⟨⟨c0, c1, c2⟩, m0, m1, m2⟩ := boxM_cells (row_below HA.out hb2)
        clear d0 d1 d2
        obtain ⟨⟨d0, d1, d2⟩, _⟩ := boxM_cells (row_below HB.out hb2)
        have hz2 : w.heap.size + 1 < w2.heap.size := Nat.lt_of_lt_of_le hzz hb2.size
        go_wp2_with fail
        refine bodyPost_ret (v := .tuple #[.agg #[.int .i64 K, .slice a k cap, .string ⟨#[]⟩], .int .i64 0]) (by simp [results, Try.results15, go_sem, c0, c1, c2]) rfl ?_
        obtain ⟨e1, e2, e3⟩ := HDS.out
        rw [hX]
        exact ⟨a, cap, by rw [e1, e2, e3], hcap, idsAt_set (idsAt_set (idsAt_set hi2 hfr (by simp) _) hfr (by simp) _) hfr (by simp) _, fun b o sp e => by have := hfr b o sp e; omega, below_three bel2 _ _ _⟩
      · have hX : X = zeroM := by rw [HX.out, if_neg hr]
        have hrb : (r != 0) = true := by simpa using hr
        go_wp2_with fail
        with_reducible refine (hchk _ hia).mono ?_
        rintro e w2 ⟨rfl, hb2⟩
        have bel2 := kept_trans hbel hb2
        obtain ⟨⟨c0, c1, c2⟩, m0, m1, m2⟩ := boxM_cells (row_below HA.out hb2)
        go_wp2_with fail
        refine bodyPost_ret (v := .tuple #[.agg #[.int .i64 0, .slice none 0 0, .string ⟨#[]⟩], .int .i64 r]) (by simp [results, Try.results15, go_sem, c0, c1, c2]) rfl ?_
        rw [hX]
        exact gaveM_zero rfl (below_three bel2 _ _ _)
end Go.Proofs.Ytnigjhfdeinlhab
