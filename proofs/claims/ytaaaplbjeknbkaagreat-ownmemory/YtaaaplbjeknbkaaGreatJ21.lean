/-
  The contracts of the program's number, checkSize, read and Decode.
  The contract of the program's read.
  The contract of the program's Decode.
-/
import Derived.Test.YtaaaplbjeknbkaaGreatJ2
import Derived.Test.YtaaaplbjeknbkaaGreatJ4
import Derived.Deep.OwnRows
import Derived.Lib.Strings
set_option maxRecDepth 20000
namespace Go.Proofs.YtaaaplbjeknbkaaGreat.De
open Go.RowKit

theorem checkSize_any (s : ByteArray) (w : World) (hs : s.size ≤ maxLen) :
    Calls Tryz.prog 61 #[.string s] w fun e w' => e = .returned (.int .i64 (formD s.data.toList)) ∧ w = w' := by
  unfold maxLen at hs
  have hlen : s.data.toList.length = s.size := by simp
  by_cases h0 : s.size = 0
  · have HF : Hid (formD s.data.toList = 3) := Lib.hid (by unfold formD; rw [hlen, if_pos h0])
    have he := empty_yes h0
    clear hlen
    go_enter Tryz.func61, Tryz.ntmps61
    go_wp2
    go_ret
    exact ⟨ret_i64 HF.out.symm, rfl⟩
  · have he := empty_no h0
    have g0 := getD_at s 0 (by omega)
    have hp : 0 < s.size := by omega
    by_cases h1 : s[0] = 68
    · by_cases h2 : s.size < 2
      · have HF : Hid (formD s.data.toList = 3) := Lib.hid (by unfold formD; rw [hlen, if_neg h0, g0, if_neg (by simp [h1]), if_pos h2])
        clear hlen g0
        go_enter Tryz.func61, Tryz.ntmps61
        go_wp2
        go_ret
        exact ⟨ret_i64 HF.out.symm, rfl⟩
      · have g1 := getD_at s 1 (by omega)
        have hp1 : 1 < s.size := by omega
        have hb := s[1].toNat_lt
        have base : formD s.data.toList = if s.size < 7 + 9 * s[1].toNat then 3 else if 7 + 9 * s[1].toNat < s.size then 4 else 0 := by
          unfold formD; rw [hlen, if_neg h0, g0, if_neg (by simp [h1]), if_neg h2, g1]
        by_cases h3 : s.size < 7 + 9 * s[1].toNat
        · have HF := Lib.hid (base.trans (if_pos h3))
          clear hlen g0 g1 base
          go_enter Tryz.func61, Tryz.ntmps61
          go_wp2_with fail
          with_reducible refine (size_any _ _ (by omega)).mono ?_
          rintro e w' ⟨rfl, rfl⟩
          go_wp2_with fail
          go_ret
          exact ⟨ret_i64 HF.out.symm, rfl⟩
        · by_cases h4 : 7 + 9 * s[1].toNat < s.size
          · have HF := Lib.hid (base.trans ((if_neg h3).trans (if_pos h4)))
            clear hlen g0 g1 base
            go_enter Tryz.func61, Tryz.ntmps61
            go_wp2_with fail
            with_reducible refine (size_any _ _ (by omega)).mono ?_
            rintro e w' ⟨rfl, rfl⟩
            go_wp2_with fail
            go_ret
            exact ⟨ret_i64 HF.out.symm, rfl⟩
          · have HF := Lib.hid (base.trans ((if_neg h3).trans (if_neg h4)))
            clear hlen g0 g1 base
            go_enter Tryz.func61, Tryz.ntmps61
            go_wp2_with fail
            with_reducible refine (size_any _ _ (by omega)).mono ?_
            rintro e w' ⟨rfl, rfl⟩
            go_wp2_with fail
            go_ret
            exact ⟨ret_i64 HF.out.symm, rfl⟩
    · have hb : ((s[0].toNat : Int) != 68) = true := by
        rw [bne_iff_ne]
        intro e
        exact h1 (UInt8.toNat_inj.1 (by simp; omega))
      have HF : Hid (formD s.data.toList = 4) := Lib.hid (by unfold formD; rw [hlen, if_neg h0, g0, if_pos h1])
      clear hlen g0
      go_enter Tryz.func61, Tryz.ntmps61
      go_wp2
      go_ret
      exact ⟨ret_i64 HF.out.symm, rfl⟩
end Go.Proofs.YtaaaplbjeknbkaaGreat.De
namespace Go.Proofs.YtaaaplbjeknbkaaGreat.De
open Go.RowKit

theorem info_in : (Tryz.prog.info? 62).map (fun i => (i.zero, i.size, i.bytes)) = some (some (.agg #[.int .u64 0, .int .i64 0]), 2, 16) := by kernel_rfl
theorem make_ins (n : Nat) (hn : n ≤ 1000) (w : World) : (Instr.makeSlice 48 (.int .i64 (n : Int)) (.int .i64 (n : Int))).run Tryz.prog w = .ok (.slice (some ⟨w.heap.size, 0, none⟩) n n) (w.alloc (.cells (madeCells #[.int .u64 0, .int .i64 0] (n * 2)) 62)) := by
  obtain ⟨i, hi, hz, hs, hb⟩ := info_parts info_in
  have := run_make (P := Tryz.prog) w 48 62 i _ Tryz.underlying48 hi hz .i64 .i64 n n (by omega) (Int.le_refl _) (by rw [hb]; omega) (by omega)
  rw [hs] at this
  exact this
/-- The cells of a row of Ins of which the first k are laid. -/
def inCells (f : Nat → InD) (k j : Nat) : Value :=
  if j / 2 < k then (if j % 2 = 0 then .int .u64 (f (j / 2)).1.toNat else .int .i64 (f (j / 2)).2) else (if j % 2 = 0 then .int .u64 0 else .int .i64 0)
theorem made_ins (w : World) (f : Nat → InD) (n : Nat) : (w.alloc (.cells (madeCells #[.int .u64 0, .int .i64 0] (n * 2)) 62)).rowIs w.heap.size 62 (n * 2) (inCells f 0) := by
  refine ⟨_, heap_alloc_new _ _, size_madeCells _ _, fun i hi => ?_⟩
  unfold inCells madeCells
  rcases Nat.mod_two_eq_zero_or_one i with h | h <;> simp [hi, h]
theorem row_step {w : World} {b n k : Nat} {f : Nat → InD} (h : w.rowIs b 62 (n * 2) (inCells f k)) :
    ((w.setCell ⟨b, k * 2, none⟩ (.int .u64 (f k).1.toNat)).setCell ⟨b, k * 2 + 1, none⟩ (.int .i64 (f k).2)).rowIs b 62 (n * 2) (inCells f (k + 1)) := by
  refine ((h.set (k * 2) _).set (k * 2 + 1) _).congr fun j hj => ?_
  by_cases e1 : j = k * 2 + 1
  · subst e1
    have a1 : (k * 2 + 1) / 2 = k := by omega
    have a2 : (k * 2 + 1) % 2 = 1 := by omega
    simp [inCells, a1, a2]
  · by_cases e2 : j = k * 2
    · subst e2
      have a1 : (k * 2) / 2 = k := by omega
      have a2 : (k * 2) % 2 = 0 := by omega
      simp [inCells, a1, a2]
    · rw [if_neg e1, if_neg e2]
      unfold inCells
      by_cases h3 : j / 2 < k
      · have h4 : j / 2 < k + 1 := by omega
        simp [h3, h4]
      · have h4 : ¬ j / 2 < k + 1 := by omega
        simp [h3, h4]
theorem row_insAt {w : World} {b n : Nat} {f : Nat → InD} (hok : ∀ i, (Lit.int .i64 (f i).2).wf = true) (h : w.rowIs b 62 (n * 2) (inCells f n)) : InsAt w (some ⟨b, 0, none⟩) ((List.range n).map f) := fun i hi => by
  have hi' : i < n := by simpa using hi
  refine ⟨b, 0, rfl, h.lt, ?_, ?_, ?_⟩
  · have := h.cell (i := i * 2) (by omega)
    have a1 : (i * 2) / 2 = i := by omega
    simpa [inCells, a1, hi'] using this
  · have := h.cell (i := i * 2 + 1) (by omega)
    have a1 : (i * 2 + 1) / 2 = i := by omega
    simpa [inCells, a1, hi'] using this
  · simpa using hok i

theorem num2_le (l : List UInt8) (h : l.length ≤ 2) : ((numU l).toNat : Int) ≤ 65535 := by
  have h1 := numN_lt l
  have h2 : 256 ^ l.length ≤ 256 ^ 2 := Nat.pow_le_pow_right (by decide) h
  rw [numU_short l (by omega)]
  omega
theorem insAt_set {w : World} {a : Option Addr} {l : List InD} {n : Nat} {p : Addr} (h : InsAt w a l) (hf : Fresh n a) (hp : p.block < n) (v : Value) : InsAt (w.setCell p v) a l := fun i hi => by
  obtain ⟨b, o, e, hb, c0, c1, c2⟩ := h i hi
  have hn : b ≠ p.block := by have := hf b o none e; omega
  have hs : ∀ oo, (w.setCell p v).cell? ⟨b, oo, none⟩ = w.cell? ⟨b, oo, none⟩ := fun oo => World.cell?_of_block (w := w) (a := ⟨b, oo, none⟩) (Below.heap_setCell w p v b hn)
  exact ⟨b, o, e, by simpa using hb, by rw [hs]; exact c0, by rw [hs]; exact c1, c2⟩
/-- A deed in a function's answer. -/
def GaveDeed (w : World) (d : DeedD) (e : Ending) (w' : World) : Prop :=
  ∃ (a : Option Addr) (cap : Nat), e = .returned (.agg #[.slice a d.ins.length cap, .int .i64 d.outs, .int .i64 d.weight, .int .i64 d.fee]) ∧ d.ins.length ≤ cap ∧ InsAt w' a d.ins ∧ Fresh w.heap.size a ∧ Below w.heap.size w w'

theorem inOf_ok (r : List UInt8) : (Lit.int .i64 (inOf r).2).wf = true := by
  have := (r.getD 8 0).toNat_lt
  exact WalkArith.wf_i64 (by show _ ≤ ((r.getD 8 0).toNat : Int) ∧ ((r.getD 8 0).toNat : Int) ≤ _; omega)

set_option maxHeartbeats 1000000 in
theorem read_any (s : ByteArray) (n : Nat) (w : World) (hp : 1 < s.size) (hn : s[1].toNat = n) (hs : s.size = 7 + 9 * n) :
    Calls Tryz.prog 62 #[.string s] w (GaveDeed w (readD s.data.toList)) := by
  have hn255 : n ≤ 255 := by have := s[1].toNat_lt; omega
  have hmk := fun wx => make_ins n (by omega) wx
  have HSZ := Lib.hid hs
  have h2 : 2 ≤ s.size := by omega
  have HN : Hid ((s.data.toList.getD 1 0).toNat = n) := Lib.hid (by rw [getD_at s 1 hp]; exact hn)
  obtain ⟨l, hl⟩ : ∃ l, s.data.toList = l := ⟨_, rfl⟩
  have HL := Lib.hid hl
  obtain ⟨f, hf⟩ : ∃ f : Nat → InD, f = fun i => inOf ((l.drop 2).drop (9 * i)) := ⟨_, rfl⟩
  have HF := Lib.hid hf
  have hw0 : (w.alloc (.cells #[.slice none 0 0, .int .i64 0, .int .i64 0, .int .i64 0] 50)).heap.size = w.heap.size + 1 := by simp
  have hrow := made_ins (w.alloc (.cells #[.slice none 0 0, .int .i64 0, .int .i64 0, .int .i64 0] 50)) f n
  have hbox := World.rowIs_alloc w #[.slice none 0 0, .int .i64 0, .int .i64 0, .int .i64 0] 50 (fun i => (#[Value.slice none 0 0, .int .i64 0, .int .i64 0, .int .i64 0][i]?).getD undef) (fun i hi => by
    have : i < 4 := hi
    match i, this with
    | 0, _ => rfl
    | 1, _ => rfl
    | 2, _ => rfl
    | 3, _ => rfl)
  rw [hw0] at hrow
  have HROW := Lib.hid hrow
  have HBOX := Lib.hid hbox
  clear hl hf hrow hbox hw0
  go_enter Tryz.func62, Tryz.ntmps62
  go_wp2_with fail
  go_loopw [4, 14] (fun u i wr => ∃ (k : Nat) (R : ByteArray), k ≤ n ∧ i = .int .i64 k ∧ u = .string R ∧ Hid (R.data.toList = l.drop (2 + 9 * k)) ∧ Hid (wr.rowIs (w.heap.size + 1) 62 (n * 2) (inCells f k)) ∧
    Hid (wr.rowIs w.heap.size 50 4 (fun i => (#[Value.slice none 0 0, .int .i64 0, .int .i64 0, .int .i64 0][i]?).getD undef)) ∧ Below w.heap.size w wr) (fun _ i _ => n - (intOf i).toNat)
  case atStart =>
    refine ⟨0, _, Nat.zero_le _, rfl, rfl, Lib.hid ?_, HROW, Lib.hid (HBOX.out.alloc _), kept_alloc (kept_new _ _) _⟩
    rw [extract_end _ _ _ HSZ.out.symm, HL.out]
  case round =>
    clear HROW HBOX
    obtain ⟨k, R, hk, rfl, rfl, HR, HW, HB, hbel⟩ := hrel
    have hRs : R.size = 5 + 9 * (n - k) := by
      have e1 : R.data.toList.length = R.size := by simp
      have e2 : s.data.toList.length = s.size := by simp
      rw [← e1, HR.out, List.length_drop, ← HL.out, e2, HSZ.out]
      omega
    by_cases hlt : k < n
    · obtain ⟨x, hx⟩ : ∃ x, f k = x := ⟨_, rfl⟩
      have h8 : 8 < R.size := by omega
      have h9 : 9 ≤ R.size := by omega
      have hRm : R.size ≤ 10000 := by omega
      have hxx : x = inOf R.data.toList := by rw [← hx, HF.out, HR.out]; simp only [List.drop_drop]
      have HX1 : Hid (numU (R.extract 0 8).data.toList = x.1) := Lib.hid (by rw [hxx, extract_take]; rfl)
      have hx2 : (R[8].toNat : Int) = x.2 := by rw [hxx]; show _ = ((R.data.toList.getD 8 0).toNat : Int); rw [getD_at R 8 h8]
      have hx3 : 0 ≤ x.2 ∧ x.2 ≤ 255 := by have := R[8].toNat_lt; omega
      obtain ⟨hx4, hx5⟩ := hx3
      have HNX : Hid ((R.extract 9 R.size).data.toList = l.drop (2 + 9 * (k + 1))) := Lib.hid (by rw [extract_end _ _ _ rfl, HR.out, List.drop_drop]; congr 1)
      have hsz8 : (R.extract 0 8).size ≤ maxLen := by rw [ByteArray.size_extract]; unfold maxLen; omega
      obtain ⟨w2, hw2⟩ : ∃ w2, wr.drew = w2 := ⟨_, rfl⟩
      have hrow2 : w2.rowIs (w.heap.size + 1) 62 (n * 2) (inCells f k) := hw2 ▸ HW.out.drew
      have hbox2 : w2.rowIs w.heap.size 50 4 (fun i => (#[Value.slice none 0 0, .int .i64 0, .int .i64 0, .int .i64 0][i]?).getD undef) := hw2 ▸ HB.out.drew
      have hbel2 : Below w.heap.size w w2 := hw2 ▸ hbel.drew
      have q0 := hrow2.cell (i := k * 2) (by omega)
      have q1 := hrow2.cell (i := k * 2 + 1) (by omega)
      have q2 := hrow2.frozen (k * 2)
      have q3 := hrow2.frozen (k * 2 + 1)
      have HW2 := Lib.hid hw2
      have H1 := Lib.hid hrow2
      have H2 := Lib.hid hbox2
      have HXX := Lib.hid hx
      have z1 : (8 : Int) ≤ (R.size : Int) := by omega
      have z2 : (8 : Int) < (R.size : Int) := by omega
      have z3 : (9 : Int) ≤ (R.size : Int) := by omega
      have z4 : (k : Int) < (n : Int) := by omega
      clear hw2 hrow2 hbox2 hxx hx hRs
      go_wp2_with fail
      refine region_tail 10 (by kernel_rfl) (by kernel_rfl) HW2.out ?_
      simp only [List.take_succ_cons, List.take_zero, List.drop_succ_cons, List.drop_zero]
      repeat still_step
      still_call (decodeID_still _ x.1 w2 hsz8 HX1.out)
      repeat still_step
      refine wpStill_nil ?_
      go_wp2_with fail
      go_roundw
      case rel =>
        refine ⟨k + 1, _, by omega, by go_num, rfl, Lib.hid HNX.out, Lib.hid ?_, Lib.hid ((H2.out.setOther (by simp) _).setOther (by simp) _), (hbel2.setCell (by simp) _).setCell (by simp) _⟩
        have := row_step H1.out
        rw [HXX.out] at this
        exact this
      case measure => simp [intOf]; omega
    · obtain rfl : k = n := by omega
      have h0 : 0 < R.size := by omega
      have hRm : R.size = 5 := by omega
      obtain ⟨p, hp1⟩ : ∃ p, numU (R.extract 1 3).data.toList = p := ⟨_, rfl⟩
      obtain ⟨q, hq1⟩ : ∃ q, numU (R.extract 3 5).data.toList = q := ⟨_, rfl⟩
      have e1 : (R.extract 1 3).data.toList = (R.data.toList.drop 1).take 2 := extract_mid R 1 3
      have e2 : (R.extract 3 5).data.toList = (R.data.toList.drop 3).take 2 := extract_mid R 3 5
      have hpb : (p.toNat : Int) ≤ 65535 := by rw [← hp1]; exact num2_le _ (by rw [e1, List.length_take]; omega)
      have hqb : (q.toNat : Int) ≤ 65535 := by rw [← hq1]; exact num2_le _ (by rw [e2, List.length_take]; omega)
      have hs1 : (R.extract 1 3).size ≤ maxLen := by rw [ByteArray.size_extract]; unfold maxLen; omega
      have hs2 : (R.extract 3 5).size ≤ maxLen := by rw [ByteArray.size_extract]; unfold maxLen; omega
      obtain ⟨D, hD⟩ : ∃ D, readD s.data.toList = D := ⟨_, rfl⟩
      have hl : s.data.toList = l := HL.out
      have hD1 : D.ins = (List.range k).map f := by
        rw [← hD]
        show insOf (s.data.toList.getD 1 0).toNat (s.data.toList.drop 2) = _
        rw [HN.out, hl, HF.out]
        rfl
      have hD2 : D.outs = (R[0].toNat : Int) := by
        rw [← hD]
        show (((s.data.toList.drop (2 + 9 * (s.data.toList.getD 1 0).toNat)).getD 0 0).toNat : Int) = _
        rw [HN.out, hl, ← HR.out, getD_at R 0 h0]
      have hD3 : D.weight = (p.toNat : Int) := by
        rw [← hD, ← hp1, e1]
        show ((numU (((s.data.toList.drop (2 + 9 * (s.data.toList.getD 1 0).toNat)).drop 1).take 2)).toNat : Int) = _
        rw [HN.out, hl, ← HR.out]
      have hD4 : D.fee = (q.toNat : Int) := by
        rw [← hD, ← hq1, e2]
        show ((numU (((s.data.toList.drop (2 + 9 * (s.data.toList.getD 1 0).toNat)).drop 3).take 2)).toNat : Int) = _
        rw [HN.out, hl, ← HR.out]
      have HDD := Lib.hid hD
      have hb0 : (R[0].toNat : Int) ≤ 255 := by have := R[0].toNat_lt; omega
      obtain ⟨w2, hw2⟩ : ∃ w2, wr.drew = w2 := ⟨_, rfl⟩
      have hrow2 : w2.rowIs (w.heap.size + 1) 62 (k * 2) (inCells f k) := hw2 ▸ HW.out.drew
      have hbox2 : w2.rowIs w.heap.size 50 4 (fun i => (#[Value.slice none 0 0, .int .i64 0, .int .i64 0, .int .i64 0][i]?).getD undef) := hw2 ▸ HB.out.drew
      have hbel2 : Below w.heap.size w w2 := hw2 ▸ hbel.drew
      have q0 := hbox2.cell (i := 0) (by omega)
      have q1 := hbox2.cell (i := 1) (by omega)
      have q2 := hbox2.cell (i := 2) (by omega)
      have q3 := hbox2.cell (i := 3) (by omega)
      have r0 := hbox2.frozen 0
      have r1 := hbox2.frozen 1
      have r2 := hbox2.frozen 2
      have r3 := hbox2.frozen 3
      simp at q0 q1 q2 q3
      have HW2 := Lib.hid hw2
      have H1 := Lib.hid hrow2
      have HDS := Lib.hid (And.intro hD1 (And.intro hD2 (And.intro hD3 hD4)))
      have HP := Lib.hid hp1
      have HQ := Lib.hid hq1
      have z0 : (0 : Int) < (R.size : Int) := by omega
      have z1 : (3 : Int) ≤ (R.size : Int) := by omega
      have z2 : (5 : Int) ≤ (R.size : Int) := by omega
      clear hw2 hrow2 hbox2 hRs hRm hD1 hD2 hD3 hD4 hD hl e1 e2 hp1 hq1
      go_wp2_with fail
      refine region_tail 13 (by kernel_rfl) (by kernel_rfl) HW2.out ?_
      simp only [List.take_succ_cons, List.take_zero, List.drop_succ_cons, List.drop_zero]
      repeat still_step
      still_call (number_still _ p w2 hs1 HP.out)
      repeat still_step
      still_call (number_still _ q w2 hs2 HQ.out)
      repeat still_step
      refine wpStill_nil ?_
      go_wp2_with fail
      obtain ⟨d1, d2, d3, d4⟩ := HDS.out
      refine bodyPost_ret (v := .agg #[.slice (some ⟨w.heap.size + 1, 0, none⟩) k k, .int .i64 (R[0].toNat : Int), .int .i64 (p.toNat : Int), .int .i64 (q.toNat : Int)]) (by simp [results, Tryz.results62, go_sem, q0, q1, q2, q3]) rfl ?_
      rw [HDD.out]
      have hlen : D.ins.length = k := by rw [d1]; simp
      refine ⟨some ⟨w.heap.size + 1, 0, none⟩, k, by rw [hlen, d2, d3, d4], by omega, ?_, fun b o sp e => by cases e; omega, ?_⟩
      · rw [d1]
        exact row_insAt (fun i => by rw [HF.out]; exact inOf_ok _) ((((H1.out.setOther (by simp) _).setOther (by simp) _).setOther (by simp) _).setOther (by simp) _)
      · exact (((hbel2.setCell (by simp) _).setCell (by simp) _).setCell (by simp) _).setCell (by simp) _
end Go.Proofs.YtaaaplbjeknbkaaGreat.De
namespace Go.Proofs.YtaaaplbjeknbkaaGreat.De
open Go.RowKit

/-- A deed and an error in a function's answer. -/
def GaveBoth (w : World) (d : DeedD) (r : Int) (e : Ending) (w' : World) : Prop :=
  ∃ (a : Option Addr) (cap : Nat), e = .returned (.tuple #[.agg #[.slice a d.ins.length cap, .int .i64 d.outs, .int .i64 d.weight, .int .i64 d.fee], .int .i64 r]) ∧ d.ins.length ≤ cap ∧ InsAt w' a d.ins ∧ Fresh w.heap.size a ∧ Below w.heap.size w w'
def zeroD : DeedD := ⟨[], 0, 0, 0⟩
theorem insAt_none (w : World) (a : Option Addr) : InsAt w a [] := fun i hi => absurd hi (by simp)
theorem gave_zero {w w' : World} {r : Int} {e : Ending} (he : e = .returned (.tuple #[.agg #[.slice none 0 0, .int .i64 0, .int .i64 0, .int .i64 0], .int .i64 r])) (h : Below w.heap.size w w') : GaveBoth w zeroD r e w' :=
  ⟨none, 0, he, Nat.le_refl _, insAt_none _ _, (fun _ _ _ e => by cases e), h⟩
theorem checkSize_is (s : ByteArray) (r : Int) (w : World) (hs : s.size ≤ maxLen) (h : formD s.data.toList = r) :
    Calls Tryz.prog 61 #[.string s] w fun e w' => e = .returned (.int .i64 r) ∧ w = w' := h ▸ checkSize_any s w hs
/-- The four cells of a block and their marks, in whatever later world. -/
theorem box_marks {w wr : World} {u v x y : Value} {t : TypeId} (h : Below (w.alloc (.cells #[u, v, x, y] t)).heap.size (w.alloc (.cells #[u, v, x, y] t)) wr) :
    wr.frozen? ⟨w.heap.size, 0, none⟩ = false ∧ wr.frozen? ⟨w.heap.size, 1, none⟩ = false ∧ wr.frozen? ⟨w.heap.size, 2, none⟩ = false ∧ wr.frozen? ⟨w.heap.size, 3, none⟩ = false := by
  refine ⟨?_, ?_, ?_, ?_⟩ <;> (rw [h.frozen (by simp)]; simp [go_sem])

theorem decode_form (s : ByteArray) (r : Int) (w : World) (hs : s.size ≤ maxLen) (h : formD s.data.toList = r) (hr : r ≠ 0) : Calls Tryz.prog 21 #[.string s] w (GaveBoth w zeroD r) := by
  have HR := Lib.hid h
  have hrb : (r != 0) = true := by simpa using hr
  clear h
  go_enter Tryz.func21, Tryz.ntmps21
  go_wp2_with fail
  with_reducible refine (checkSize_is s r _ hs HR.out).mono ?_
  rintro e w' ⟨rfl, rfl⟩
  go_wp2_with fail
  exact bodyPost_ret (v := .tuple #[.agg #[.slice none 0 0, .int .i64 0, .int .i64 0, .int .i64 0], .int .i64 r]) (by simp [results, Tryz.results21, go_sem]) rfl (gave_zero rfl (kept_new _ _))

theorem decode_check (s : ByteArray) (r : Int) (w : World) (hs : s.size ≤ maxLen) (h : formD s.data.toList = 0) (hc : checkD (readD s.data.toList) = r) (hr : r ≠ 0) : Calls Tryz.prog 21 #[.string s] w (GaveBoth w zeroD r) := by
  obtain ⟨_, hsz⟩ := form_zero h
  have hln : s.data.toList.length = s.size := by simp
  have hp : 1 < s.size := by omega
  rw [getD_at s 1 hp, hln] at hsz
  obtain ⟨n, hn⟩ : ∃ n, s[1].toNat = n := ⟨_, rfl⟩
  rw [hn] at hsz
  obtain ⟨D, hD⟩ : ∃ D, readD s.data.toList = D := ⟨_, rfl⟩
  have hrd := fun wx => read_any s n wx hp hn hsz
  rw [hD] at hrd hc
  have hrb : (r != 0) = true := by simpa using hr
  have HR := Lib.hid h
  have HC := Lib.hid hc
  clear h hc hD hn hsz hln
  go_enter Tryz.func21, Tryz.ntmps21
  go_wp2_with fail
  with_reducible refine (checkSize_is s 0 _ hs HR.out).mono ?_
  rintro e w' ⟨rfl, rfl⟩
  go_wp2_with fail
  with_reducible refine (hrd _).mono ?_
  rintro e w1 ⟨a, cap, rfl, hcap, hi1, hfr, hb1⟩
  have hk1 := kept_new w1 (.cells #[.slice a D.ins.length cap, .int .i64 D.outs, .int .i64 D.weight, .int .i64 D.fee] 50)
  go_wp2_with fail
  with_reducible refine (check_is D _ _ _ r (insAt_kept hk1 hi1) HC.out).mono ?_
  rintro e w2 ⟨rfl, hb2⟩
  have hb12 := kept_trans hb1 (kept_trans hk1 hb2)
  obtain ⟨c0, c1, c2, c3, hws⟩ := box_four hb12
  obtain ⟨m0, m1, m2, m3⟩ := box_marks hb12
  go_wp2_with fail
  refine bodyPost_ret (v := .tuple #[.agg #[.slice none 0 0, .int .i64 0, .int .i64 0, .int .i64 0], .int .i64 r]) (by simp [results, Tryz.results21, go_sem, c0, c1, c2, c3]) rfl (gave_zero rfl ?_)
  have hk := kept_trans (kept_new _ _) hb12
  exact (((hk.setCell (by simp) _).setCell (by simp) _).setCell (by simp) _).setCell (by simp) _

theorem decode_ok (s : ByteArray) (w : World) (hs : s.size ≤ maxLen) (h : formD s.data.toList = 0) (hc : checkD (readD s.data.toList) = 0) : Calls Tryz.prog 21 #[.string s] w (GaveBoth w (readD s.data.toList) 0) := by
  obtain ⟨_, hsz⟩ := form_zero h
  have hln : s.data.toList.length = s.size := by simp
  have hp : 1 < s.size := by omega
  rw [getD_at s 1 hp, hln] at hsz
  obtain ⟨n, hn⟩ : ∃ n, s[1].toNat = n := ⟨_, rfl⟩
  rw [hn] at hsz
  obtain ⟨D, hD⟩ : ∃ D, readD s.data.toList = D := ⟨_, rfl⟩
  have hrd := fun wx => read_any s n wx hp hn hsz
  rw [hD] at hrd hc ⊢
  have HR := Lib.hid h
  have HC := Lib.hid hc
  clear h hc hD hn hsz hln
  go_enter Tryz.func21, Tryz.ntmps21
  go_wp2_with fail
  with_reducible refine (checkSize_is s 0 _ hs HR.out).mono ?_
  rintro e w' ⟨rfl, rfl⟩
  go_wp2_with fail
  with_reducible refine (hrd _).mono ?_
  rintro e w1 ⟨a, cap, rfl, hcap, hi1, hfr, hb1⟩
  have hk1 := kept_new w1 (.cells #[.slice a D.ins.length cap, .int .i64 D.outs, .int .i64 D.weight, .int .i64 D.fee] 50)
  go_wp2_with fail
  with_reducible refine (check_is D _ _ _ 0 (insAt_kept hk1 hi1) HC.out).mono ?_
  rintro e w2 ⟨rfl, hb2⟩
  have hb12 := kept_trans hb1 (kept_trans hk1 hb2)
  obtain ⟨c0, c1, c2, c3, hws⟩ := box_four hb12
  obtain ⟨m0, m1, m2, m3⟩ := box_marks hb12
  obtain ⟨d0, d1, d2, d3, hws1⟩ := box_four hb2
  have hi2 := insAt_kept (kept_trans hk1 hb2) hi1
  have hfr' : Fresh (w.heap.size + 1) a := by simpa using hfr
  go_wp2_with fail
  refine bodyPost_ret (v := .tuple #[.agg #[.slice a D.ins.length cap, .int .i64 D.outs, .int .i64 D.weight, .int .i64 D.fee], .int .i64 0]) (by simp [results, Tryz.results21, go_sem, c0, c1, c2, c3]) rfl ?_
  refine ⟨a, cap, rfl, hcap, ?_, fun b o sp e => by have := hfr' b o sp e; omega, ?_⟩
  · exact insAt_set (insAt_set (insAt_set (insAt_set hi2 hfr' (by simp) _) hfr' (by simp) _) hfr' (by simp) _) hfr' (by simp) _
  · have hk := kept_trans (kept_new _ _) hb12
    exact (((hk.setCell (by simp) _).setCell (by simp) _).setCell (by simp) _).setCell (by simp) _
end Go.Proofs.YtaaaplbjeknbkaaGreat.De
