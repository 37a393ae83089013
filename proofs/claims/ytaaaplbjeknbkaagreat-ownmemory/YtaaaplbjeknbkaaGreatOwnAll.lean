import Derived.Test.YtaaaplbjeknbkaaGreatJ3
import Derived.Test.YtaaaplbjeknbkaaGreatJ21
import Derived.Test.YtaaaplbjeknbkaaGreatJ2
import Derived.Test.YtaaaplbjeknbkaaGreatJ4
import Derived.Test.YtaaaplbjeknbkaaGreatJ5
import Derived.Test.YtaaaplbjeknbkaaGreatJ31
import Derived.Test.YtaaaplbjeknbkaaGreatSHoused
import Derived.Test.YtaaaplbjeknbkaaGreatSLedger
import Derived.Test.YtaaaplbjeknbkaaGreatJ32
import Derived.Test.YtaaaplbjeknbkaaGreatRefEq
/-
  The contract of the reference's Copy of Ins; Ins where blocks are as they were.
-/
set_option maxRecDepth 20000
namespace Go.Proofs.YtaaaplbjeknbkaaGreat
section
open Go.RowKit

theorem insAt_same {w w' : World} {a : Option Addr} {l : List InD} (h : InsAt w a l) (e : ∀ bb o, l ≠ [] → a = some ⟨bb, o, none⟩ → w'.heap[bb]? = w.heap[bb]?) (hs : w.heap.size ≤ w'.heap.size) : InsAt w' a l := fun i hi => by
  obtain ⟨bb, o, ea, hb, c0, c1, c2⟩ := h i hi
  have hs' := e bb o (fun e => by rw [e] at hi; simp at hi) ea
  exact ⟨bb, o, ea, Nat.lt_of_lt_of_le hb hs, (World.cell?_of_block (a := ⟨bb, o + i * 2, none⟩) hs').trans c0, (World.cell?_of_block (a := ⟨bb, o + i * 2 + 1, none⟩) hs').trans c1, c2⟩
/-- A copy of Ins. -/
def CopyI (w : World) (l : List InD) (e : Ending) (w' : World) : Prop := ∃ a cap, e = .returned (.slice a l.length cap) ∧ w'.ownsRow w.heap.size 62 2 (.slice a l.length cap) l.length (insC l) ∧ Below w.heap.size w w'
theorem copyIns_any (l : List InD) (a : Option Addr) (cap : Nat) (w : World) (hl : l.length ≤ 1000) (hi : InsAt w a l) :
    Calls Tryz.prog 29 #[.slice a l.length cap] w (CopyI w l) := by
  by_cases hnil : l = []
  · subst hnil
    have HE : Hid (CopyI w [] (.returned (.slice none 0 0)) w) := Lib.hid ⟨none, 0, rfl, World.ownsRow_nil _ _ _ _, Below.refl _ _⟩
    clear hl hi
    simp only [List.length_nil]
    go_enter Tryz.func29, Tryz.ntmps29
    go_wp2_with (at_builtin; refine step_append_none rfl _ _ rfl a cap rfl rfl ?_)
    go_ret
    exact HE.out
  · have hpos : 0 < l.length := List.length_pos_iff.2 hnil
    obtain ⟨bb, oo, rfl, hbl, _⟩ := hi 0 hpos
    obtain ⟨iE, hiE, hz0, hz1, hz2⟩ := info_parts info_in
    have HN := Lib.hid (ins_cells hi)
    have HL := Lib.hid hl
    clear hnil hi
    go_enter Tryz.func29, Tryz.ntmps29
    go_wp2_with (at_builtin; refine wpList_append_lies _ rfl _ _ 48 rfl w.heap.size 62 iE _ 2 16 Tryz.underlying48 hiE hz0 hz1 hz2 rfl (by decide) (.slice none 0 0) 0 [] rfl (World.ownsRow_nil _ _ _ _) ⟨bb, oo, none⟩ l.length cap (insC l) rfl (insC_length l) HN.out (insC_one l) hpos (by have := HL.out; unfold maxLen; omega) (by have := HL.out; omega) (Nat.le_refl _) _ rfl ?_; intro g2 cap2 w2 hown2 hgrow2 hat2 hlt2)
    have HE : Hid (CopyI w l (.returned (.slice (some ⟨g2, 0, none⟩) l.length cap2)) w2) := Lib.hid (by
      rw [Nat.zero_add] at hown2
      exact ⟨_, _, rfl, hown2, (Below.refl _ _).grown hgrow2 (Nat.le_refl _) (fun j hj => by cases hj)⟩)
    clear hown2 hgrow2 hat2
    go_wp2
    go_ret
    exact HE.out
end
end Go.Proofs.YtaaaplbjeknbkaaGreat

/-
  Decode's answer: the memory of its Ins may be written.
-/
namespace Go.Proofs.YtaaaplbjeknbkaaGreat.So.De
section
open Go.Proofs.YtaaaplbjeknbkaaGreat.De
open Go.RowKit

/-- The block behind a slice is there, and bears no mark. -/
def Melts (w : World) (a : Option Addr) : Prop := ∀ b o sp, a = some ⟨b, o, sp⟩ → b < w.heap.size ∧ ∀ k, w.frozen? ⟨b, k, none⟩ = false
theorem melts_kept {w w' : World} {a : Option Addr} (hb : Below w.heap.size w w') (h : Melts w a) : Melts w' a := fun b o sp e => by
  obtain ⟨h1, h2⟩ := h b o sp e
  exact ⟨Nat.lt_of_lt_of_le h1 hb.size, fun k => by rw [hb.frozen (p := ⟨b, k, none⟩) h1]; exact h2 k⟩
theorem melts_set {w : World} {a : Option Addr} {n : Nat} {p : Addr} (h : Melts w a) (hf : Fresh n a) (hp : p.block < n) (v : Value) : Melts (w.setCell p v) a := fun b o sp e => by
  obtain ⟨h1, h2⟩ := h b o sp e
  have hn : b ≠ p.block := by have := hf b o sp e; omega
  exact ⟨by simpa using h1, fun k => by rw [World.frozen?_of_block (w := w) (a := ⟨b, k, none⟩) (Below.heap_setCell w p v b hn)]; exact h2 k⟩
/-- A deed in a function's answer. -/
def GaveDeed (w : World) (d : DeedD) (e : Ending) (w' : World) : Prop :=
  ∃ (a : Option Addr) (cap : Nat), e = .returned (.agg #[.slice a d.ins.length cap, .int .i64 d.outs, .int .i64 d.weight, .int .i64 d.fee]) ∧ d.ins.length ≤ cap ∧ InsAt w' a d.ins ∧ Fresh w.heap.size a ∧ Melts w' a ∧ Below w.heap.size w w'

set_option maxHeartbeats 1000000 in
theorem read_any (s : ByteArray) (n : Nat) (w : World) (hp : 1 < s.size) (hn : s[1].toNat = n) (hs : s.size = 7 + 9 * n) :
    Calls Tryz.prog 62 #[.string s] w (GaveDeed w (readD s.data.toList)) := by
  have hn255 : n ≤ 255 := by have := s[1].toNat_lt; omega
  have hmk := fun wx => make_ins n (by omega) wx
  have HSZ := Lib.hid hs
  have h2 : 2 ≤ s.size := by omega
  have HN : Hid ((s.data.toList.getD 1 0).toNat = n) := Lib.hid (by rw [getD_at s 1 hp]; exact hn)
  obtain ⟨l, hl⟩ : ∃ l, s.data.toList = l := ⟨_, rfl⟩
  have HL := Lib.hid hl
  obtain ⟨f, hf⟩ : ∃ f : Nat → InD, f = fun i => inOf ((l.drop 2).drop (9 * i)) := ⟨_, rfl⟩
  have HF := Lib.hid hf
  have hw0 : (w.alloc (.cells #[.slice none 0 0, .int .i64 0, .int .i64 0, .int .i64 0] 50)).heap.size = w.heap.size + 1 := by simp
  have hrow := made_ins (w.alloc (.cells #[.slice none 0 0, .int .i64 0, .int .i64 0, .int .i64 0] 50)) f n
  have hbox := World.rowIs_alloc w #[.slice none 0 0, .int .i64 0, .int .i64 0, .int .i64 0] 50 (fun i => (#[Value.slice none 0 0, .int .i64 0, .int .i64 0, .int .i64 0][i]?).getD undef) (fun i hi => by
    have : i < 4 := hi
    match i, this with
    | 0, _ => rfl
    | 1, _ => rfl
    | 2, _ => rfl
    | 3, _ => rfl)
  rw [hw0] at hrow
  have HROW := Lib.hid hrow
  have HBOX := Lib.hid hbox
  clear hl hf hrow hbox hw0
  go_enter Tryz.func62, Tryz.ntmps62
  go_wp2_with fail
  go_loopw [4, 14] (fun u i wr => ∃ (k : Nat) (R : ByteArray), k ≤ n ∧ i = .int .i64 k ∧ u = .string R ∧ Hid (R.data.toList = l.drop (2 + 9 * k)) ∧ Hid (wr.rowIs (w.heap.size + 1) 62 (n * 2) (inCells f k)) ∧
    Hid (wr.rowIs w.heap.size 50 4 (fun i => (#[Value.slice none 0 0, .int .i64 0, .int .i64 0, .int .i64 0][i]?).getD undef)) ∧ Below w.heap.size w wr) (fun _ i _ => n - (intOf i).toNat)
  case atStart =>
    refine ⟨0, _, Nat.zero_le _, rfl, rfl, Lib.hid ?_, HROW, Lib.hid (HBOX.out.alloc _), kept_alloc (kept_new _ _) _⟩
    rw [extract_end _ _ _ HSZ.out.symm, HL.out]
  case round =>
    clear HROW HBOX
    obtain ⟨k, R, hk, rfl, rfl, HR, HW, HB, hbel⟩ := hrel
    have hRs : R.size = 5 + 9 * (n - k) := by
      have e1 : R.data.toList.length = R.size := by simp
      have e2 : s.data.toList.length = s.size := by simp
      rw [← e1, HR.out, List.length_drop, ← HL.out, e2, HSZ.out]
      omega
    by_cases hlt : k < n
    · obtain ⟨x, hx⟩ : ∃ x, f k = x := ⟨_, rfl⟩
      have h8 : 8 < R.size := by omega
      have h9 : 9 ≤ R.size := by omega
      have hRm : R.size ≤ 10000 := by omega
      have hxx : x = inOf R.data.toList := by rw [← hx, HF.out, HR.out]; simp only [List.drop_drop]
      have HX1 : Hid (numU (R.extract 0 8).data.toList = x.1) := Lib.hid (by rw [hxx, extract_take]; rfl)
      have hx2 : (R[8].toNat : Int) = x.2 := by rw [hxx]; show _ = ((R.data.toList.getD 8 0).toNat : Int); rw [getD_at R 8 h8]
      have hx3 : 0 ≤ x.2 ∧ x.2 ≤ 255 := by have := R[8].toNat_lt; omega
      obtain ⟨hx4, hx5⟩ := hx3
      have HNX : Hid ((R.extract 9 R.size).data.toList = l.drop (2 + 9 * (k + 1))) := Lib.hid (by rw [extract_end _ _ _ rfl, HR.out, List.drop_drop]; congr 1)
      have hsz8 : (R.extract 0 8).size ≤ maxLen := by rw [ByteArray.size_extract]; unfold maxLen; omega
      obtain ⟨w2, hw2⟩ : ∃ w2, wr.drew = w2 := ⟨_, rfl⟩
      have hrow2 : w2.rowIs (w.heap.size + 1) 62 (n * 2) (inCells f k) := hw2 ▸ HW.out.drew
      have hbox2 : w2.rowIs w.heap.size 50 4 (fun i => (#[Value.slice none 0 0, .int .i64 0, .int .i64 0, .int .i64 0][i]?).getD undef) := hw2 ▸ HB.out.drew
      have hbel2 : Below w.heap.size w w2 := hw2 ▸ hbel.drew
      have q0 := hrow2.cell (i := k * 2) (by omega)
      have q1 := hrow2.cell (i := k * 2 + 1) (by omega)
      have q2 := hrow2.frozen (k * 2)
      have q3 := hrow2.frozen (k * 2 + 1)
      have HW2 := Lib.hid hw2
      have H1 := Lib.hid hrow2
      have H2 := Lib.hid hbox2
      have HXX := Lib.hid hx
      have z1 : (8 : Int) ≤ (R.size : Int) := by omega
      have z2 : (8 : Int) < (R.size : Int) := by omega
      have z3 : (9 : Int) ≤ (R.size : Int) := by omega
      have z4 : (k : Int) < (n : Int) := by omega
      clear hw2 hrow2 hbox2 hxx hx hRs
      go_wp2_with fail
      refine region_tail 10 (by kernel_rfl) (by kernel_rfl) HW2.out ?_
      simp only [List.take_succ_cons, List.take_zero, List.drop_succ_cons, List.drop_zero]
      repeat still_step
      still_call (decodeID_still _ x.1 w2 hsz8 HX1.out)
      repeat still_step
      refine wpStill_nil ?_
      go_wp2_with fail
      go_roundw
      case rel =>
        refine ⟨k + 1, _, by omega, by go_num, rfl, Lib.hid HNX.out, Lib.hid ?_, Lib.hid ((H2.out.setOther (by simp) _).setOther (by simp) _), (hbel2.setCell (by simp) _).setCell (by simp) _⟩
        have := row_step H1.out
        rw [HXX.out] at this
        exact this
      case measure => simp [intOf]; omega
    · obtain rfl : k = n := by omega
      have h0 : 0 < R.size := by omega
      have hRm : R.size = 5 := by omega
      obtain ⟨p, hp1⟩ : ∃ p, numU (R.extract 1 3).data.toList = p := ⟨_, rfl⟩
      obtain ⟨q, hq1⟩ : ∃ q, numU (R.extract 3 5).data.toList = q := ⟨_, rfl⟩
      have e1 : (R.extract 1 3).data.toList = (R.data.toList.drop 1).take 2 := extract_mid R 1 3
      have e2 : (R.extract 3 5).data.toList = (R.data.toList.drop 3).take 2 := extract_mid R 3 5
      have hpb : (p.toNat : Int) ≤ 65535 := by rw [← hp1]; exact num2_le _ (by rw [e1, List.length_take]; omega)
      have hqb : (q.toNat : Int) ≤ 65535 := by rw [← hq1]; exact num2_le _ (by rw [e2, List.length_take]; omega)
      have hs1 : (R.extract 1 3).size ≤ maxLen := by rw [ByteArray.size_extract]; unfold maxLen; omega
      have hs2 : (R.extract 3 5).size ≤ maxLen := by rw [ByteArray.size_extract]; unfold maxLen; omega
      obtain ⟨D, hD⟩ : ∃ D, readD s.data.toList = D := ⟨_, rfl⟩
      have hl : s.data.toList = l := HL.out
      have hD1 : D.ins = (List.range k).map f := by
        rw [← hD]
        show insOf (s.data.toList.getD 1 0).toNat (s.data.toList.drop 2) = _
        rw [HN.out, hl, HF.out]
        rfl
      have hD2 : D.outs = (R[0].toNat : Int) := by
        rw [← hD]
        show (((s.data.toList.drop (2 + 9 * (s.data.toList.getD 1 0).toNat)).getD 0 0).toNat : Int) = _
        rw [HN.out, hl, ← HR.out, getD_at R 0 h0]
      have hD3 : D.weight = (p.toNat : Int) := by
        rw [← hD, ← hp1, e1]
        show ((numU (((s.data.toList.drop (2 + 9 * (s.data.toList.getD 1 0).toNat)).drop 1).take 2)).toNat : Int) = _
        rw [HN.out, hl, ← HR.out]
      have hD4 : D.fee = (q.toNat : Int) := by
        rw [← hD, ← hq1, e2]
        show ((numU (((s.data.toList.drop (2 + 9 * (s.data.toList.getD 1 0).toNat)).drop 3).take 2)).toNat : Int) = _
        rw [HN.out, hl, ← HR.out]
      have HDD := Lib.hid hD
      have hb0 : (R[0].toNat : Int) ≤ 255 := by have := R[0].toNat_lt; omega
      obtain ⟨w2, hw2⟩ : ∃ w2, wr.drew = w2 := ⟨_, rfl⟩
      have hrow2 : w2.rowIs (w.heap.size + 1) 62 (k * 2) (inCells f k) := hw2 ▸ HW.out.drew
      have hbox2 : w2.rowIs w.heap.size 50 4 (fun i => (#[Value.slice none 0 0, .int .i64 0, .int .i64 0, .int .i64 0][i]?).getD undef) := hw2 ▸ HB.out.drew
      have hbel2 : Below w.heap.size w w2 := hw2 ▸ hbel.drew
      have q0 := hbox2.cell (i := 0) (by omega)
      have q1 := hbox2.cell (i := 1) (by omega)
      have q2 := hbox2.cell (i := 2) (by omega)
      have q3 := hbox2.cell (i := 3) (by omega)
      have r0 := hbox2.frozen 0
      have r1 := hbox2.frozen 1
      have r2 := hbox2.frozen 2
      have r3 := hbox2.frozen 3
      simp at q0 q1 q2 q3
      have HW2 := Lib.hid hw2
      have H1 := Lib.hid hrow2
      have HDS := Lib.hid (And.intro hD1 (And.intro hD2 (And.intro hD3 hD4)))
      have HP := Lib.hid hp1
      have HQ := Lib.hid hq1
      have z0 : (0 : Int) < (R.size : Int) := by omega
      have z1 : (3 : Int) ≤ (R.size : Int) := by omega
      have z2 : (5 : Int) ≤ (R.size : Int) := by omega
      clear hw2 hrow2 hbox2 hRs hRm hD1 hD2 hD3 hD4 hD hl e1 e2 hp1 hq1
      go_wp2_with fail
      refine region_tail 13 (by kernel_rfl) (by kernel_rfl) HW2.out ?_
      simp only [List.take_succ_cons, List.take_zero, List.drop_succ_cons, List.drop_zero]
      repeat still_step
      still_call (number_still _ p w2 hs1 HP.out)
      repeat still_step
      still_call (number_still _ q w2 hs2 HQ.out)
      repeat still_step
      refine wpStill_nil ?_
      go_wp2_with fail
      obtain ⟨d1, d2, d3, d4⟩ := HDS.out
      refine bodyPost_ret (v := .agg #[.slice (some ⟨w.heap.size + 1, 0, none⟩) k k, .int .i64 (R[0].toNat : Int), .int .i64 (p.toNat : Int), .int .i64 (q.toNat : Int)]) (by simp [results, Tryz.results62, go_sem, q0, q1, q2, q3]) rfl ?_
      rw [HDD.out]
      have hlen : D.ins.length = k := by rw [d1]; simp
      refine ⟨some ⟨w.heap.size + 1, 0, none⟩, k, by rw [hlen, d2, d3, d4], by omega, ?_, fun b o sp e => by cases e; omega, ?_, ?_⟩
      · rw [d1]
        exact row_insAt (fun i => by rw [HF.out]; exact inOf_ok _) ((((H1.out.setOther (by simp) _).setOther (by simp) _).setOther (by simp) _).setOther (by simp) _)
      · exact fun b o sp e => by cases e; exact ⟨World.rowIs.lt ((((H1.out.setOther (by simp) _).setOther (by simp) _).setOther (by simp) _).setOther (by simp) _), fun k => World.rowIs.frozen ((((H1.out.setOther (by simp) _).setOther (by simp) _).setOther (by simp) _).setOther (by simp) _) k⟩
      · exact (((hbel2.setCell (by simp) _).setCell (by simp) _).setCell (by simp) _).setCell (by simp) _
/-- A deed and an error in a function's answer. -/
def GaveBoth (w : World) (d : DeedD) (r : Int) (e : Ending) (w' : World) : Prop :=
  ∃ (a : Option Addr) (cap : Nat), e = .returned (.tuple #[.agg #[.slice a d.ins.length cap, .int .i64 d.outs, .int .i64 d.weight, .int .i64 d.fee], .int .i64 r]) ∧ d.ins.length ≤ cap ∧ InsAt w' a d.ins ∧ Fresh w.heap.size a ∧ Melts w' a ∧ Below w.heap.size w w'
theorem decode_ok (s : ByteArray) (w : World) (hs : s.size ≤ maxLen) (h : formD s.data.toList = 0) (hc : checkD (readD s.data.toList) = 0) : Calls Tryz.prog 21 #[.string s] w (GaveBoth w (readD s.data.toList) 0) := by
  obtain ⟨_, hsz⟩ := form_zero h
  have hln : s.data.toList.length = s.size := by simp
  have hp : 1 < s.size := by omega
  rw [getD_at s 1 hp, hln] at hsz
  obtain ⟨n, hn⟩ : ∃ n, s[1].toNat = n := ⟨_, rfl⟩
  rw [hn] at hsz
  obtain ⟨D, hD⟩ : ∃ D, readD s.data.toList = D := ⟨_, rfl⟩
  have hrd := fun wx => read_any s n wx hp hn hsz
  rw [hD] at hrd hc ⊢
  have HR := Lib.hid h
  have HC := Lib.hid hc
  clear h hc hD hn hsz hln
  go_enter Tryz.func21, Tryz.ntmps21
  go_wp2_with fail
  with_reducible refine (checkSize_is s 0 _ hs HR.out).mono ?_
  rintro e w' ⟨rfl, rfl⟩
  go_wp2_with fail
  with_reducible refine (hrd _).mono ?_
  rintro e w1 ⟨a, cap, rfl, hcap, hi1, hfr, hm1, hb1⟩
  have hk1 := kept_new w1 (.cells #[.slice a D.ins.length cap, .int .i64 D.outs, .int .i64 D.weight, .int .i64 D.fee] 50)
  go_wp2_with fail
  with_reducible refine (check_is D _ _ _ 0 (insAt_kept hk1 hi1) HC.out).mono ?_
  rintro e w2 ⟨rfl, hb2⟩
  have hb12 := kept_trans hb1 (kept_trans hk1 hb2)
  obtain ⟨c0, c1, c2, c3, hws⟩ := box_four hb12
  obtain ⟨m0, m1, m2, m3⟩ := box_marks hb12
  obtain ⟨d0, d1, d2, d3, hws1⟩ := box_four hb2
  have hi2 := insAt_kept (kept_trans hk1 hb2) hi1
  have hm2 := melts_kept (kept_trans hk1 hb2) hm1
  have hfr' : Fresh (w.heap.size + 1) a := by simpa using hfr
  go_wp2_with fail
  refine bodyPost_ret (v := .tuple #[.agg #[.slice a D.ins.length cap, .int .i64 D.outs, .int .i64 D.weight, .int .i64 D.fee], .int .i64 0]) (by simp [results, Tryz.results21, go_sem, c0, c1, c2, c3]) rfl ?_
  refine ⟨a, cap, rfl, hcap, ?_, fun b o sp e => by have := hfr' b o sp e; omega, melts_set (melts_set (melts_set (melts_set hm2 hfr' (by simp) _) hfr' (by simp) _) hfr' (by simp) _) hfr' (by simp) _, ?_⟩
  · exact insAt_set (insAt_set (insAt_set (insAt_set hi2 hfr' (by simp) _) hfr' (by simp) _) hfr' (by simp) _) hfr' (by simp) _
  · have hk := kept_trans (kept_new _ _) hb12
    exact (((hk.setCell (by simp) _).setCell (by simp) _).setCell (by simp) _).setCell (by simp) _
end
end Go.Proofs.YtaaaplbjeknbkaaGreat.So.De

/-
  The reference's Copy of Ins and of IDs, however many they are.
-/
namespace Go.Proofs.YtaaaplbjeknbkaaGreat
section
open Go.RowKit

theorem copyIns_big (l : List InD) (a : Option Addr) (cap : Nat) (w : World) (hl : l.length ≤ 8796093022208) (hi : InsAt w a l) :
    Calls Tryz.prog 29 #[.slice a l.length cap] w (CopyI w l) := by
  by_cases hnil : l = []
  · subst hnil
    have HE : Hid (CopyI w [] (.returned (.slice none 0 0)) w) := Lib.hid ⟨none, 0, rfl, World.ownsRow_nil _ _ _ _, Below.refl _ _⟩
    clear hl hi
    simp only [List.length_nil]
    go_enter Tryz.func29, Tryz.ntmps29
    go_wp2_with (at_builtin; refine step_append_none rfl _ _ rfl a cap rfl rfl ?_)
    go_ret
    exact HE.out
  · have hpos : 0 < l.length := List.length_pos_iff.2 hnil
    obtain ⟨bb, oo, rfl, hbl, _⟩ := hi 0 hpos
    obtain ⟨iE, hiE, hz0, hz1, hz2⟩ := info_parts info_in
    have HN := Lib.hid (ins_cells hi)
    have HL := Lib.hid hl
    clear hnil hi
    go_enter Tryz.func29, Tryz.ntmps29
    go_wp2_with (at_builtin; refine wpList_append_lies _ rfl _ _ 48 rfl w.heap.size 62 iE _ 2 16 Tryz.underlying48 hiE hz0 hz1 hz2 rfl (by decide) (.slice none 0 0) 0 [] rfl (World.ownsRow_nil _ _ _ _) ⟨bb, oo, none⟩ l.length cap (insC l) rfl (insC_length l) HN.out (insC_one l) hpos (by have := HL.out; unfold maxLen; omega) (by have := HL.out; omega) (Nat.le_refl _) _ rfl ?_; intro g2 cap2 w2 hown2 hgrow2 hat2 hlt2)
    have HE : Hid (CopyI w l (.returned (.slice (some ⟨g2, 0, none⟩) l.length cap2)) w2) := Lib.hid (by
      rw [Nat.zero_add] at hown2
      exact ⟨_, _, rfl, hown2, (Below.refl _ _).grown hgrow2 (Nat.le_refl _) (fun j hj => by cases hj)⟩)
    clear hown2 hgrow2 hat2
    go_wp2
    go_ret
    exact HE.out
theorem info_uid : (Tryz.prog.info? 22).map (fun i => (i.zero, i.size, i.bytes)) = some (some (.int .u64 0), 1, 8) := by kernel_rfl
theorem append_noid (a : Option Addr) (cap : Nat) (ty : TypeId) (w : World) : (Builtin.append_ #[36, 36] ty #[.slice none 0 0, .slice a 0 cap]).run Tryz.prog w = .ok (.slice none 0 0) w := by
  obtain ⟨iE, hiE, _, hz1, _⟩ := info_parts info_uid
  cases a with
  | none => simp [Builtin.append_, run_underlying Tryz.underlying36, Builtin.lenOf, Builtin.firstCells, sizeOf, typeInfo, hiE]
  | some ad => simp [Builtin.append_, run_underlying Tryz.underlying36, Builtin.lenOf, Builtin.firstCells, sizeOf, typeInfo, hiE, loadCells, loadCellsFrom]
theorem step_append_noid {ops : Array Oper} {rest : List Oper} {o : Oper} {a : Act} {Q : Exit → Act → World → Prop} {w : World} (hgd : o.guard = none) (s x : Operand) (ho : o.op = .call { callee := .builtin .append, args := #[s, x], argTypes := #[36, 36] })
    (ad : Option Addr) (cap : Nat) (hs : a.eval s = .slice none 0 0) (hx : a.eval x = .slice ad 0 cap) (h : wpList Tryz.prog ops Q rest (a.put o.dst (.slice none 0 0)) w) : wpList Tryz.prog ops Q (o :: rest) a w := by
  refine wpList_plain hgd fun K' hK' => ?_
  unfold Oper.wp
  simp [execOp, ho, resolve, invoke, builtin, hs, hx, append_noid, Result.andThen]
  exact hK' _ _ h
theorem copyIds_big (l : List UInt64) (n : Nat) (hn : l.length = n) (a : Option Addr) (cap : Nat) (w : World) (hl : n ≤ 10000000000000) (hi : IdsAt w a l) :
    Calls Tryz.prog 30 #[.slice a n cap] w fun e w' => ∃ g c, e = .returned (.slice g n c) ∧ IdsAt w' g l ∧ Fresh w.heap.size g ∧ Below w.heap.size w w' := by
  subst hn
  by_cases hnil : l = []
  · subst hnil
    have HE : Hid (∃ g c, Ending.returned (.slice none 0 0) = .returned (.slice g ([] : List UInt64).length c) ∧ IdsAt w g [] ∧ Fresh w.heap.size g ∧ Below w.heap.size w w) := Lib.hid ⟨none, 0, rfl, fun i hi => absurd hi (by simp), (fun _ _ _ e => by cases e), Below.refl _ _⟩
    obtain ⟨i0, hi0, hz0, hz1, hz2⟩ := info_parts info_uid
    clear hl hi
    simp only [List.length_nil] at HE ⊢
    go_enter Tryz.func30, Tryz.ntmps30
    go_wp2_with (at_builtin; refine step_append_noid rfl _ _ rfl a cap rfl rfl ?_)
    go_ret
    exact HE.out
  · have hpos : 0 < l.length := List.length_pos_iff.2 hnil
    obtain ⟨bb, oo, rfl, hbl, _⟩ := hi 0 hpos
    obtain ⟨i0, hi0, hz0, hz1, hz2⟩ := info_parts info_uid
    have hnews : ∀ j u, (l.map idV)[j]? = some u → w.cell? ((⟨bb, oo, none⟩ : Addr).add j) = some u := fun j u hu => by
      have hj : j < l.length := by
        rcases Nat.lt_or_ge j l.length with h | h
        · exact h
        · rw [List.getElem?_eq_none (by simpa using h)] at hu; cases hu
      obtain ⟨b', o', e, _, hc⟩ := hi j hj
      cases e
      have f0 : (⟨bb, oo, none⟩ : Addr).add j = ⟨bb, oo + j, none⟩ := by unfold Addr.add; split <;> simp_all
      rw [f0, hc]
      rw [List.getElem?_map, List.getElem?_eq_getElem hj] at hu
      exact hu
    have hone : ∀ u ∈ l.map idV, u.oneCell' = true := fun u hu => by
      obtain ⟨z, _, rfl⟩ := List.mem_map.1 hu
      rfl
    have hnil' := World.ownsRow_nil w w.heap.size 22 1
    have HN := Lib.hid hnews
    have HL := Lib.hid hl
    clear hi hnil hnews
    go_enter Tryz.func30, Tryz.ntmps30
    go_wp2_with (at_builtin; refine wpList_append_lies _ rfl _ _ 36 rfl w.heap.size 22 i0 (.int .u64 0) 1 8 Tryz.underlying36 hi0 hz0 hz1 hz2 rfl (by decide) _ 0 [] rfl hnil' ⟨bb, oo, none⟩ l.length cap (l.map idV) rfl (by simp) HN.out hone hpos (by have := HL.out; unfold maxLen; omega) (by have := HL.out; omega) (Nat.le_refl _) _ rfl ?_; intro g c w1 hown hgrow hat hlt)
    have HE : Hid (∃ g' c', Ending.returned (.slice (some ⟨g, 0, none⟩) l.length c) = .returned (.slice g' l.length c') ∧ IdsAt w1 g' l ∧ Fresh w.heap.size g' ∧ Below w.heap.size w w1) := Lib.hid (by
      have ho : OwnIds w1 w.heap.size (.slice (some ⟨g, 0, none⟩) l.length c) l := by simpa using hown
      obtain ⟨a', c', e', _, hat', hfr'⟩ := owns_idsAt ho
      simp only [Value.slice.injEq] at e'
      obtain ⟨rfl, _, rfl⟩ := e'
      exact ⟨_, _, rfl, hat', hfr', (Below.refl _ _).grown hgrow (Nat.le_refl _) (fun k hk => by cases hk)⟩)
    clear hown hgrow hat
    go_wp2
    go_ret
    exact HE.out
end
end Go.Proofs.YtaaaplbjeknbkaaGreat

/-
  A law's stores into a slice that an answer gave.
-/
namespace Go.Proofs.YtaaaplbjeknbkaaGreat
section
open Go.RowKit

variable {w w' wS wr : World} {a : Option Addr} {g o m n c B : Nat}

/-- m cells behind a slice's address may be written; since wS only its block turned. -/
structure Writes (wS wr : World) (xa : Option Addr) (m : Nat) : Prop where
  turn : Turn (fun k => ∃ o sp, xa = some ⟨k, o, sp⟩) (fun k => ∃ o sp, xa = some ⟨k, o, sp⟩) wS wr
  cells : ∀ i, i < m → ∃ g o, xa = some ⟨g, o, none⟩ ∧ (wr.cell? ⟨g, o + i, none⟩).isSome = true ∧ wr.frozen? ⟨g, o + i, none⟩ = false
theorem Writes.set (h : Writes wS wr (some ⟨g, o, none⟩) m) (i : Nat) (v : Value) : Writes wS (wr.setCell ⟨g, o + i, none⟩ v) (some ⟨g, o, none⟩) m := by
  refine ⟨h.turn.trans (Turn.set wr ⟨g, o + i, none⟩ v ⟨o, none, rfl⟩), fun j hj => ?_⟩
  obtain ⟨g', o', e, hc, f⟩ := h.cells j hj
  cases e
  refine ⟨g, o, rfl, ?_, by rw [World.frozen?_setCell]; exact f⟩
  by_cases e : (⟨g, o + i, none⟩ : Addr) = ⟨g, o + j, none⟩
  · rw [e]
    obtain ⟨u, hu⟩ := Option.isSome_iff_exists.1 hc
    rw [World.cell?_setCell_same _ _ _ hu]
    rfl
  · rw [World.cell?_setCell_other _ _ _ _ e]
    exact hc
theorem Writes.cell (h : Writes wS wr a m) {i : Nat} (hi : i < m) : ∃ g o u, a = some ⟨g, o, none⟩ ∧ wr.cell? ⟨g, o + i, none⟩ = some u ∧ wr.frozen? ⟨g, o + i, none⟩ = false := by
  obtain ⟨g, o, e, hc, f⟩ := h.cells i hi
  obtain ⟨u, hu⟩ := Option.isSome_iff_exists.1 hc
  exact ⟨g, o, u, e, hu, f⟩
theorem turn_none (w : World) (F : Nat → Prop) : Turn F F w w := ⟨rfl, rfl, rfl, Nat.le_refl _, fun _ _ _ => rfl, fun _ h => .inl h⟩
theorem writes_ids {l : List UInt64} (h : OwnIds w B (.slice a n c) l) : Writes w w a l.length := by
  refine ⟨turn_none _ _, fun i hi => ?_⟩
  rcases h.2 with ⟨hv, hn⟩ | ⟨g, cap, cur, hv, hB, hg, hc, _, _, _⟩
  · omega
  · simp only [Value.slice.injEq] at hv
    obtain ⟨rfl, _, _⟩ := hv
    have a0 := h.cells (g := g) rfl i (idV l[i]) (by rw [List.getElem?_map, List.getElem?_eq_getElem hi]; rfl)
    have f0 : (⟨g, 0, none⟩ : Addr).add i = ⟨g, 0 + i, none⟩ := by unfold Addr.add; split <;> simp_all
    rw [f0] at a0
    exact ⟨g, 0, rfl, by rw [a0]; rfl, frozen_of_row w g (0 + i) _ _ hg⟩
theorem writes_ins {l : List InD} (h : InsAt w a l) (hm : So.De.Melts w a) : Writes w w a (l.length * 2) := by
  refine ⟨turn_none _ _, fun j hj => ?_⟩
  obtain ⟨b, o, rfl, _, c0, c1, _⟩ := h (j / 2) (by omega)
  refine ⟨b, o, rfl, ?_, (hm b o none rfl).2 _⟩
  rcases Nat.mod_two_eq_zero_or_one j with e | e
  · have : j = j / 2 * 2 := by omega
    rw [this, c0]
    rfl
  · have : o + j = o + j / 2 * 2 + 1 := by omega
    rw [this, c1]
    rfl
/-- What lies in another block is as it was. -/
theorem Writes.far (h : Writes wS wr a m) {p : Addr} {u : Value} (hc : wS.cell? p = some u) (hn : ∀ o sp, a ≠ some ⟨p.block, o, sp⟩) : wr.cell? p = some u :=
  (World.cell?_of_block (a := p) (h.turn.block _ (cell_spot hc).2 (fun ⟨o, sp, e⟩ => hn o sp e))).trans hc
theorem Writes.ids {x : Option Addr} {l : List UInt64} (h : Writes wS wr a m) (hi : IdsAt wS x l) (hn : ∀ b o o' sp, x = some ⟨b, o, none⟩ → a ≠ some ⟨b, o', sp⟩) : IdsAt wr x l := fun i hil => by
  obtain ⟨b, o, e, hb, c⟩ := hi i hil
  exact ⟨b, o, e, Nat.lt_of_lt_of_le hb h.turn.size, h.far c (fun o' sp => hn b o o' sp e)⟩
theorem Writes.ins {x : Option Addr} {l : List InD} (h : Writes wS wr a m) (hi : InsAt wS x l) (hn : ∀ b o o' sp, x = some ⟨b, o, none⟩ → a ≠ some ⟨b, o', sp⟩) : InsAt wr x l := fun i hil => by
  obtain ⟨b, o, e, hb, c0, c1, c2⟩ := hi i hil
  exact ⟨b, o, e, Nat.lt_of_lt_of_le hb h.turn.size, h.far c0 (fun o' sp => hn b o o' sp e), h.far c1 (fun o' sp => hn b o o' sp e), c2⟩
theorem Writes.mine {w0 : World} {G : Nat → Prop} {R : Nat} {u : NS} (h : Writes wS wr a m) (hm : Mine w0 wS G R u) (hf : Fresh B a) (hB : w0.heap.size ≤ B) (hG : ∀ k, G k → k < B) : Mine w0 wr G R u :=
  ⟨hm.node.turn h.turn (fun k hk ⟨o, sp, e⟩ => by have := hf k o sp e; have := hG k hk; omega), hm.above, hm.below.trans (h.turn.below (fun k ⟨o, sp, e⟩ => Nat.le_trans hB (hf k o sp e)) hm.below.size)⟩
theorem copied_ins {l : List InD} (h : w.ownsRow B 62 2 (.slice a n c) l.length (insC l)) (hok : ∀ i (h : i < l.length), (Lit.int .i64 l[i].2).wf = true) : InsAt w a l ∧ Fresh B a := by
  rcases h.2 with ⟨hv, hn⟩ | ⟨g, cap, cur, hv, hB, hg, hc, _, _, _⟩
  · simp only [Value.slice.injEq] at hv
    obtain ⟨rfl, _, _⟩ := hv
    exact ⟨fun i hi => absurd hi (by omega), fun _ _ _ e => by cases e⟩
  · simp only [Value.slice.injEq] at hv
    obtain ⟨rfl, _, _⟩ := hv
    have hat : ∀ (l : List InD) (i : Nat) (h : i < l.length), (insC l)[i * 2]? = some (.int .u64 l[i].1.toNat) ∧ (insC l)[i * 2 + 1]? = some (.int .i64 l[i].2) := by
      intro l
      induction l with
      | nil => intro i h; cases h
      | cons o r ih =>
        intro i h
        cases i with
        | zero => exact ⟨rfl, rfl⟩
        | succ i =>
          have := ih i (by simpa using h)
          have e1 : (i + 1) * 2 = i * 2 + 1 + 1 := by omega
          rw [e1]
          exact this
    refine ⟨fun i hi => ?_, fun b o sp e => by cases e; exact hB⟩
    have hc : ∀ j u, (insC l)[j]? = some u → w.cell? ⟨g, 0 + j, none⟩ = some u := fun j u hj => by
      have a0 := h.cells (g := g) rfl j u hj
      have f0 : (⟨g, 0, none⟩ : Addr).add j = ⟨g, 0 + j, none⟩ := by unfold Addr.add; split <;> simp_all
      rw [f0] at a0
      exact a0
    exact ⟨g, 0, rfl, (Array.getElem?_eq_some_iff.1 hg).1, hc _ _ (hat l i hi).1, by have := hc _ _ (hat l i hi).2; rwa [← Nat.add_assoc] at this, hok i hi⟩
/-- All that was there ahead of the answer is as it was. -/
theorem Writes.low {w0 : World} (h : Writes wS wr a m) (hb : Below w0.heap.size w0 wS) (hf : Fresh w0.heap.size a) : Below w0.heap.size w0 wr :=
  hb.trans (h.turn.below (fun k ⟨o, sp, e⟩ => hf k o sp e) hb.size)
theorem own_block_lt {l : List UInt64} (h : OwnIds w B (.slice a n c) l) : ∀ b o sp, a = some ⟨b, o, sp⟩ → b < w.heap.size := fun b o sp e => by
  subst e
  exact (h.lt b rfl).2
/-- Decode's answer, whatever it is: its Ins may be written. -/
theorem decode_w (s : ByteArray) (hs : s.size ≤ maxLen) (w : World) : Calls Tryz.prog 21 #[.string s] w fun e w' => ∃ (ia : Option Addr) (q ic : Nat) (o g f r : Int), e = .returned (.tuple #[.agg #[.slice ia q ic, .int .i64 o, .int .i64 g, .int .i64 f], .int .i64 r]) ∧ q ≤ 8 ∧ q ≤ ic ∧ Writes w' w' ia (q * 2) ∧ Fresh w.heap.size ia ∧ Below w.heap.size w w' := by
  by_cases h1 : formD s.data.toList = 0
  · by_cases h2 : checkD (readD s.data.toList) = 0
    · refine (So.De.decode_ok s w hs h1 h2).mono ?_
      rintro e w' ⟨ia, ic, rfl, hc, hi, hf, hm, hb⟩
      exact ⟨ia, _, ic, _, _, _, _, rfl, (check_ok h2).1, hc, writes_ins hi hm, hf, hb⟩
    · refine (De.decode_check s _ w hs h1 rfl h2).mono ?_
      rintro e w' ⟨ia, ic, rfl, hc, hi, hf, hb⟩
      exact ⟨ia, _, ic, _, _, _, _, rfl, Nat.zero_le _, hc, ⟨turn_none _ _, fun i h => absurd h (by simp [De.zeroD])⟩, hf, hb⟩
  · refine (De.decode_form s _ w hs rfl h1).mono ?_
    rintro e w' ⟨ia, ic, rfl, hc, hi, hf, hb⟩
    exact ⟨ia, _, ic, _, _, _, _, rfl, Nat.zero_le _, hc, ⟨turn_none _ _, fun i h => absurd h (by simp [De.zeroD])⟩, hf, hb⟩
theorem encode_w (d : DeedD) (a : Option Addr) (cap : Nat) (w : World) (hi : InsAt w a d.ins) : Calls Tryz.prog 32 #[.agg #[.slice a d.ins.length cap, .int .i64 d.outs, .int .i64 d.weight, .int .i64 d.fee]] w fun e w' => ∃ (E : ByteArray) (r : Int), e = .returned (.tuple #[.string E, .int .i64 r]) ∧ E.size ≤ maxLen ∧ Below w.heap.size w w' := by
  by_cases h : checkD d = 0
  · refine (encode_ok d a cap w hi h).mono ?_
    rintro e w' ⟨rfl, hb⟩
    refine ⟨_, _, rfl, ?_, hb⟩
    have h8 := (check_ok h).1
    have h1 := str_size (encB d)
    rw [encB_length] at h1
    show (str (encB d)).size ≤ maxLen
    unfold maxLen
    omega
  · refine (encode_err d a cap w _ hi rfl h).mono ?_
    rintro e w' ⟨rfl, hb⟩
    exact ⟨_, _, rfl, by show 0 ≤ maxLen; omega, hb⟩
theorem Writes.later (h : Writes w w a m) (hb : Below w.heap.size w w') : Writes w' w' a m := ⟨turn_none _ _, fun i hi => by
  obtain ⟨g, o, u, e, hc, f⟩ := h.cell hi
  exact ⟨g, o, e, by rw [kept_cell hb hc]; rfl, by rw [hb.frozen (p := ⟨g, o + i, none⟩) (cell_spot hc).2]; exact f⟩⟩
theorem Writes.lt (h : Writes w w a m) (hm : 0 < m) : ∀ b o sp, a = some ⟨b, o, sp⟩ → b < w.heap.size := fun b o sp e => by
  obtain ⟨g, o', u, e', hc, _⟩ := h.cell hm
  rw [e] at e'
  cases e'
  exact (cell_spot hc).2
theorem eqID_k (l : List UInt64) (n : Nat) (hn : l.length = n) (a b : Option Addr) (ca cb : Nat) (w : World) (hl : n ≤ 10000000000000) (ha : IdsAt w a l) (hb : IdsAt w b l) : Calls Tryz.prog 33 #[.slice a n ca, .slice b n cb] w fun e w' => e = .returned (.bool true) ∧ w = w' := by
  subst hn
  exact eqID_is l l a b ca cb w true (by unfold maxLen; omega) ha hb (beq_self_eq_true _)
theorem all_few (L : List Ho.LinkD) : (Ho.allL L).length ≤ L.length := by
  have h : ∀ (ls : List Ho.LD) (acc : List UInt64), (ls.foldl (fun acc l => if acc.contains l.id then acc else acc ++ [l.id]) acc).length ≤ acc.length + ls.length := by
    intro ls
    induction ls with
    | nil => intro acc; simp
    | cons l r ih =>
      intro acc
      rw [List.foldl_cons]
      refine Nat.le_trans (ih _) ?_
      split
      · simp only [List.length_cons]; omega
      · simp only [List.length_cons, List.length_append, List.length_nil]; omega
  have := h (Ho.lsOf L) []
  unfold Ho.lsOf at this
  simp only [List.length_nil, List.length_map, Nat.zero_add] at this
  exact this
end
end Go.Proofs.YtaaaplbjeknbkaaGreat

/-
  OwnMemory: the walk.
-/
namespace Go.Proofs.YtaaaplbjeknbkaaGreat
section
open Go.RowKit Go.Maps

variable {w w' : World} {F G : Nat → Prop} {R : Nat} {s u : NS}

set_option maxRecDepth 20000 in
set_option maxHeartbeats 4000000 in
theorem ownMemory_walk (salt : UInt64) (l : List ActD) (a : Option Addr) (ca : Nat) (d : DeedD) (da : Option Addr) (dc : Nat) (_ : d.ins.length ≤ dc) (hl : l.length ≤ 2932031007402) (hd : d.ins.length ≤ 8796093022208) (w : World) (hi : ActsAt w a l) (hj : InsAt w da d.ins) :
    Calls Tryz.prog 6 #[.int .u64 salt.toNat, .slice a l.length ca, .agg #[.slice da d.ins.length dc, .int .i64 d.outs, .int .i64 d.weight, .int .i64 d.fee]] w fun e w' => e = .returned (.bool true) ∧ Below w.heap.size w w' := by
  have hml : maxLen = 9223372036854775807 := rfl
  obtain ⟨D, hD⟩ : ∃ D, w.heap.size = D := ⟨_, rfl⟩
  obtain ⟨wd, hwd⟩ : ∃ wd, w.alloc (.cells #[.slice da d.ins.length dc, .int .i64 d.outs, .int .i64 d.weight, .int .i64 d.fee] 50) = wd := ⟨_, rfl⟩
  have hbd : Below w.heap.size w wd := hwd ▸ kept_new _ _
  obtain ⟨x0, x1, x2, x3⟩ : DeedBox wd D da dc d := hD ▸ hwd ▸ box_deed w da dc d
  have HB0 := Lib.hid hbd
  have HI := Lib.hid (actsAt_kept hbd hi)
  have HJ := Lib.hid (insAt_kept hbd hj)
  have HX : Hid (DeedBox wd D da dc d) := Lib.hid ⟨x0, x1, x2, x3⟩
  have HDL : Hid (D < wd.heap.size) := Lib.hid (cell_spot x0).2
  clear hbd hi hj x0 x1 x2 x3
  go_enter Tryz.func6, Tryz.ntmps6
  go_wp2_with fail
  with_reducible refine (met_any _).mono ?_
  rintro e w1 ⟨rfl, hb1⟩
  have HB1 := Lib.hid hb1
  clear hb1
  go_wp2_with fail
  with_reducible refine (So.Ho.housed_any _).mono ?_
  rintro e w2 ⟨rfl, hb2⟩
  have HB2 := Lib.hid (kept_trans HB1.out hb2)
  clear hb2
  go_wp2_with fail
  with_reducible refine (So.Ju.judged_any _).mono ?_
  rintro e w3 ⟨rfl, hb3⟩
  have HB3 := Lib.hid (kept_trans HB2.out hb3)
  clear hb3
  go_wp2_with fail
  with_reducible refine (mine_new salt w3 (Below.refl _ _)).mono ?_
  rintro e w4 ⟨R, F, rfl, h4, _, _⟩
  have H4 := Lib.hid h4
  have HI3 := Lib.hid (actsAt_kept HB3.out HI.out)
  clear h4
  go_wp2_with fail
  go_loopw [37] (fun i wr => ∃ (k : Nat) (G : Nat → Prop) (u : NS), k ≤ l.length ∧ i = .int .i64 k ∧ Hid (Mine w3 wr G R u) ∧ Hid (NInv k u)) (fun i _ => l.length - (intOf i).toNat)
  case atStart => exact ⟨0, F, NS.new salt, Nat.zero_le _, rfl, H4, Lib.hid (inv_new salt)⟩
  case round =>
    obtain ⟨k, G, u, hk, rfl, H5, HN⟩ := hrel
    by_cases hkl : k < l.length
    · obtain ⟨⟨g, o, rfl, hg, c0⟩, hs⟩ := HI3.out k hkl
      obtain ⟨y, hy⟩ : ∃ y, l[k] = y := ⟨_, rfl⟩
      rw [hy] at c0 hs
      obtain ⟨c0, c1, c2, c3, c4⟩ := c0
      have k0 := cell_later H5.out.below c0
      have k1 := cell_later H5.out.below c1
      have k2 := cell_later H5.out.below c2
      have k3 := cell_later H5.out.below c3
      have k4 := cell_later H5.out.below c4
      have l5 := (cell_spot k0).2
      obtain ⟨wy, hwy⟩ : ∃ wy, wr.alloc (.cells #[.int .i64 y.kind, .int .i64 y.peer, .int .i64 y.n, .bool y.flag, .string y.bytes] 29) = wy := ⟨_, rfl⟩
      have hby : Below wr.heap.size wr wy := hwy ▸ kept_new _ _
      obtain ⟨y0, y1, y2, y3, y4⟩ := box_act wr y
      rw [hwy] at y0 y1 y2 y3 y4
      have l6 := (cell_spot y0).2
      have H6 := Lib.hid (H5.out.kept hby)
      have HNN : Hid (NInv (k + 1) (u.did y).1) := Lib.hid (did_inv HN.out H5.out.node.good.T y)
      have hk2 : k ≤ 2950000000000 := by omega
      clear hy c0 c1 c2 c3 c4 hby
      go_wp2_with fail
      with_reducible refine (did_any y k hk2 HN.out hs _ rfl _ H6.out.node).mono ?_
      rintro e w7 ⟨v7, G7, rfl, ho7, h7, t7, _⟩
      have H7 := Lib.hid (H6.out.turned h7 t7)
      obtain ⟨a7, c7, rfl, _⟩ := outs_form ho7
      clear ho7 h7 t7
      go_wp2_with fail
      go_roundw
      case rel => exact ⟨k + 1, G7, _, by omega, by go_num, H7, HNN⟩
      case measure => simp [intOf]; omega
    · obtain ⟨x0, x1, x2, x3⟩ := HX.out
      have hbL := kept_trans HB3.out H5.out.below
      have y0 := kept_cell hbL x0
      have y1 := kept_cell hbL x1
      have y2 := kept_cell hbL x2
      have y3 := kept_cell hbL x3
      have ly := (cell_spot y0).2
      have HJL := Lib.hid (insAt_kept hbL HJ.out)
      have HOK : Hid (∀ i (h : i < d.ins.length), (Lit.int .i64 d.ins[i].2).wf = true) := Lib.hid fun i h => by
        obtain ⟨_, _, _, _, _, _, c⟩ := HJ.out i h
        exact c
      have HBL := Lib.hid hbL
      have hA : u.A.length ≤ 10000000000000 := by have := HN.out.sum; omega
      obtain ⟨wL, hwL⟩ : ∃ x, x = wr := ⟨_, rfl⟩
      subst hwL
      clear x0 x1 x2 x3 hbL
      go_wp2_with fail
      with_reducible refine (copyIns_big d.ins da dc _ hd HJL.out).mono ?_
      rintro e w6 ⟨ka, kc, rfl, ho6, hb6⟩
      have HK6 := Lib.hid (copied_ins ho6 HOK.out)
      have H6 := Lib.hid (H5.out.kept hb6)
      have HB6 := Lib.hid (kept_trans HBL.out hb6)
      clear ho6 hb6 y0 y1 y2 y3 ly
      go_wp2_with fail
      with_reducible refine (accepted_any hA _ H6.out.node).mono ?_
      rintro e w7 ⟨xa, xc, rfl, ho7, hb7⟩
      obtain ⟨ids, hids⟩ : ∃ ids, u.A.map Ju.idD = ids := ⟨_, rfl⟩
      obtain ⟨n, hn⟩ : ∃ n, ids.length = n := ⟨_, rfl⟩
      have hn1 : n ≤ 10000000000000 := by rw [← hn, ← hids, List.length_map]; exact hA
      rw [hids] at ho7 ⊢
      have HIDS := Lib.hid hids
      have HO7 := Lib.hid ho7
      have HH7 := Lib.hid hb7
      have HNN := Lib.hid hn
      obtain ⟨xa', xc', e', _, hat7, hfr7⟩ := owns_idsAt ho7
      simp only [Value.slice.injEq] at e'
      obtain ⟨rfl, _, rfl⟩ := e'
      have HA7 := Lib.hid hat7
      have HF7 := Lib.hid hfr7
      have HW7 := Lib.hid (writes_ids ho7)
      rw [hn] at HW7 ⊢
      clear ho7 hb7 hids hn hat7 hfr7
      go_wp2_with fail
      with_reducible refine (copyIds_big ids n HNN.out xa xc _ hn1 HA7.out).mono ?_
      rintro e w8 ⟨ga, gc, rfl, hat8, hfr8, hb8⟩
      have HA8 := Lib.hid hat8
      have HF8 := Lib.hid hfr8
      have HH8 := Lib.hid hb8
      have HW8 : Hid (Writes w8 w8 xa n) := Lib.hid (by
        have := writes_ids (ownIds_below HO7.out hb8)
        rw [HNN.out] at this
        exact this)
      clear hat8 hfr8 hb8 HW7
      go_wp2_with fail
      go_loopw [54] (fun i wr => ∃ k : Nat, k ≤ n ∧ i = .int .i64 k ∧ Hid (Writes w8 wr xa n)) (fun i _ => n - (intOf i).toNat)
      case atStart => exact ⟨0, Nat.zero_le _, rfl, HW8⟩
      case' round =>
        obtain ⟨k9, hk9, rfl, HW9⟩ := hrel
        by_cases hkn : k9 < n
        case pos =>
          obtain ⟨g9, o9, u9, rfl, c9, f9⟩ := HW9.out.cell hkn
          have l9 := (cell_spot c9).2
          go_wp2_with fail
          go_roundw
          case rel => exact ⟨k9 + 1, by omega, by go_num, Lib.hid (HW9.out.set _ _)⟩
          case measure => simp [intOf]; omega
      have HL9 := Lib.hid (HW9.out.low (kept_trans HH7.out HH8.out) HF7.out)
      have HG9 : Hid (IdsAt wr ga ids) := Lib.hid (HW9.out.ids HA8.out (fun b o o' sp e1 e2 => by
        have h1 := HF8.out b o none e1
        have h2 := own_block_lt HO7.out b o' sp e2
        omega))
      have H10 := Lib.hid (H6.out.kept HL9.out)
      obtain ⟨w10, hw10⟩ : ∃ x, x = wr := ⟨_, rfl⟩
      subst hw10
      clear HW9 HW8
      go_wp2_with fail
      with_reducible refine (orphans_any _ H10.out.node).mono ?_
      rintro e w11 ⟨oa, oc, rfl, ho11, hb11⟩
      obtain ⟨m, hm⟩ : ∃ m, (Ho.allL u.P).length = m := ⟨_, rfl⟩
      have HW11 := Lib.hid (writes_ids ho11)
      have HF11 : Hid (Fresh w10.heap.size oa) := Lib.hid (by
        obtain ⟨oa', oc', e', _, _, hf⟩ := owns_idsAt ho11
        simp only [Value.slice.injEq] at e'
        obtain ⟨rfl, _, rfl⟩ := e'
        exact hf)
      have HH11 := Lib.hid hb11
      have hm1 : m ≤ 1000000000000000 := by
        have := HN.out.sum
        have := all_few u.P
        omega
      rw [hm] at HW11 ⊢
      clear ho11 hb11 hm
      go_wp2_with fail
      go_loopw [65] (fun i wr => ∃ k : Nat, k ≤ m ∧ i = .int .i64 k ∧ Hid (Writes w11 wr oa m)) (fun i _ => m - (intOf i).toNat)
      case atStart => exact ⟨0, Nat.zero_le _, rfl, HW11⟩
      case' round =>
        obtain ⟨k12, hk12, rfl, HW12⟩ := hrel
        by_cases hkn : k12 < m
        case pos =>
          obtain ⟨g12, o12, u12, rfl, c12, f12⟩ := HW12.out.cell hkn
          have l12 := (cell_spot c12).2
          go_wp2_with fail
          go_roundw
          case rel => exact ⟨k12 + 1, by omega, by go_num, Lib.hid (HW12.out.set _ _)⟩
          case measure => simp [intOf]; omega
      have HL12 := Lib.hid (HW12.out.low HH11.out HF11.out)
      have hbX := kept_trans (kept_trans HB6.out HL9.out) HL12.out
      obtain ⟨x0, x1, x2, x3⟩ := HX.out
      have y0 := kept_cell hbX x0
      have y1 := kept_cell hbX x1
      have y2 := kept_cell hbX x2
      have y3 := kept_cell hbX x3
      have ly := (cell_spot y0).2
      have HBX := Lib.hid hbX
      have HJ12 := Lib.hid (insAt_kept hbX HJ.out)
      have H12 := Lib.hid (H10.out.kept HL12.out)
      have HG12 := Lib.hid (idsAt_kept HL12.out HG9.out)
      have HK12 := Lib.hid (insAt_kept (kept_trans HL9.out HL12.out) HK6.out.1)
      obtain ⟨w12, hw12⟩ : ∃ x, x = wr := ⟨_, rfl⟩
      subst hw12
      clear HW12 HW11 x0 x1 x2 x3 hbX
      go_wp2_with fail
      with_reducible refine (check_is d da dc _ _ HJ12.out rfl).mono ?_
      rintro e w13 ⟨rfl, hb13⟩
      have HB13 := Lib.hid hb13
      have z0 := kept_cell hb13 y0
      have z1 := kept_cell hb13 y1
      have z2 := kept_cell hb13 y2
      have z3 := kept_cell hb13 y3
      have lz := (cell_spot z0).2
      clear hb13 y0 y1 y2 y3 ly
      go_wp2_with fail
      with_reducible refine (encode_w d da dc _ (insAt_kept HB13.out HJ12.out)).mono ?_
      rintro e w14 ⟨E, rE, rfl, hE, hb14⟩
      have HE := Lib.hid hE
      have HB14 := Lib.hid (kept_trans HB13.out hb14)
      clear hE hb14 z0 z1 z2 z3 lz
      go_wp2_with fail
      with_reducible refine (decode_w E HE.out _).mono ?_
      rintro e w15 ⟨ia, q, ic, xo, xg, xf, xr, rfl, hq8, hq, hw15, hf15, hb15⟩
      obtain ⟨X, hX⟩ : ∃ X, w15.heap.size = X := ⟨_, rfl⟩
      obtain ⟨wX, hwX⟩ : ∃ wX, w15.alloc (.cells #[.slice ia q ic, .int .i64 xo, .int .i64 xg, .int .i64 xf] 50) = wX := ⟨_, rfl⟩
      have hbx : Below w15.heap.size w15 wX := hwX ▸ kept_new _ _
      have v0 : wX.cell? ⟨X, 0, none⟩ = some (.slice ia q ic) := by rw [← hwX, ← hX]; simp [go_sem]
      have lv := (cell_spot v0).2
      have HV0 := Lib.hid v0
      have HWX := Lib.hid (hw15.later hbx)
      have HNX : Hid (0 < q * 2 → ∀ o sp, ia ≠ some ⟨X, o, sp⟩) := Lib.hid fun h0 o sp e => by
        have := hw15.lt h0 X o sp e
        omega
      have HFX := Lib.hid hf15
      have HBX15 := Lib.hid (kept_trans hb15 hbx)
      clear hw15 hf15 hb15 hbx
      go_wp2_with fail
      go_loopw [87] (fun i wr => ∃ k : Nat, k ≤ q ∧ i = .int .i64 k ∧ Hid (Writes wX wr ia (q * 2))) (fun i _ => q - (intOf i).toNat)
      case atStart => exact ⟨0, Nat.zero_le _, rfl, HWX⟩
      case' round =>
        obtain ⟨k16, hk16, rfl, HW16⟩ := hrel
        clear hwX hX
        by_cases hkn : k16 < q
        case pos =>
          have p0 := HW16.out.far HV0.out (HNX.out (by omega))
          have lp := (cell_spot p0).2
          obtain ⟨g16, o16, u16, rfl, c16, f16⟩ := HW16.out.cell (i := k16 * 2) (by omega)
          obtain ⟨g17, o17, u17, e17, c17, f17⟩ := HW16.out.cell (i := k16 * 2 + 1) (by omega)
          cases e17
          rw [← Nat.add_assoc] at c17 f17
          have l16 := (cell_spot c16).2
          have hne : X ≠ g16 := fun e => HNX.out (by omega) o16 none (by rw [e])
          go_wp2_with fail
          go_roundw
          case rel => exact ⟨k16 + 1, by omega, by go_num, Lib.hid (by
            have := (HW16.out.set (k16 * 2) (.int .u64 77)).set (k16 * 2 + 1) (.int .i64 0)
            rw [← Nat.add_assoc] at this
            exact this)⟩
          case measure => simp [intOf]; omega
      have HL16 := Lib.hid (HW16.out.low HBX15.out HFX.out)
      have HLF := Lib.hid (kept_trans HB14.out HL16.out)
      have hbF := kept_trans HBX.out HLF.out
      obtain ⟨x0, x1, x2, x3⟩ := HX.out
      have y0 := kept_cell hbF x0
      have ly := (cell_spot y0).2
      have HBF := Lib.hid hbF
      have H17 := Lib.hid (H12.out.kept HLF.out)
      clear x0 x1 x2 x3 hbF HW16
      go_wp2_with fail
      with_reducible refine (accepted_any hA _ H17.out.node).mono ?_
      rintro e w18 ⟨ya, yc, rfl, ho18, hb18⟩
      rw [HIDS.out] at ho18 ⊢
      have HY18 : Hid (IdsAt w18 ya ids) := Lib.hid (by
        obtain ⟨oa', oc', e', _, hat, _⟩ := owns_idsAt ho18
        simp only [Value.slice.injEq] at e'
        obtain ⟨rfl, _, rfl⟩ := e'
        exact hat)
      rw [HNN.out]
      have HB18 := Lib.hid hb18
      have z0 := kept_cell hb18 y0
      have lz := (cell_spot z0).2
      clear ho18 hb18 y0 ly
      go_wp2_with fail
      with_reducible refine (eqID_k ids n HNN.out ya ga _ gc _ hn1 HY18.out (idsAt_kept (kept_trans HLF.out HB18.out) HG12.out)).mono ?_
      rintro e w19 ⟨rfl, rfl⟩
      go_wp2_with fail
      with_reducible refine (eq_is d.ins d.ins da ka dc kc _ true (by unfold maxLen; omega) (insAt_kept HB18.out (insAt_kept HBF.out HJ.out)) (insAt_kept (kept_trans HLF.out HB18.out) HK12.out) (beq_self_eq_true _)).mono ?_
      rintro e w20 ⟨rfl, hb20⟩
      have HB20 := Lib.hid (kept_trans HB0.out (kept_trans HBF.out (kept_trans HB18.out hb20)))
      clear hb20
      go_wp2_with fail
      go_ret
      exact ⟨rfl, HB20.out⟩
end
end Go.Proofs.YtaaaplbjeknbkaaGreat
