/-
  The contracts of the program's readIDs and read.
-/
import Derived.Test.YtnigjhfdeinlhabMsgCheck
import Derived.Test.YtnigjhfdeinlhabMsgDecMath
import Derived.Deep.OwnRows
import Derived.Deep.QuietTactic
import Derived.BigQuiet
namespace Go.Proofs.Ytnigjhfdeinlhab
open Go.RowKit

theorem info_u64 : (Try.prog.info? 41).map (fun i => (i.zero, i.size, i.bytes)) = some (some (.int .u64 0), 1, 8) := by kernel_rfl
theorem make_ids (n : Nat) (hn : n ≤ 1000) (w : World) : (Instr.makeSlice 22 (.int .i64 (n : Int)) (.int .i64 (n : Int))).run Try.prog w = .ok (.slice (some ⟨w.heap.size, 0, none⟩) n n) (w.alloc (.cells (madeCells #[.int .u64 0] n) 41)) := by
  obtain ⟨i, hi, hz, hs, hb⟩ := info_parts info_u64
  have := run_make (P := Try.prog) w 22 41 i _ Try.underlying22 hi hz .i64 .i64 n n (by omega) (Int.le_refl _) (by rw [hb]; omega) (by omega)
  rw [hs, Nat.mul_one] at this
  exact this
/-- The cells of a row of IDs of which the first k are laid. -/
def idCells (f : Nat → UInt64) (k j : Nat) : Value := if j < k then .int .u64 (f j).toNat else .int .u64 0
theorem made_ids (w : World) (f : Nat → UInt64) (n : Nat) : (w.alloc (.cells (madeCells #[.int .u64 0] n) 41)).rowIs w.heap.size 41 n (idCells f 0) := by
  refine ⟨_, heap_alloc_new _ _, size_madeCells _ _, fun i hi => ?_⟩
  unfold idCells madeCells
  simp [hi, Nat.mod_one]
theorem id_step {w : World} {b n k : Nat} {f : Nat → UInt64} (h : w.rowIs b 41 n (idCells f k)) :
    (w.setCell ⟨b, k, none⟩ (.int .u64 (f k).toNat)).rowIs b 41 n (idCells f (k + 1)) := by
  refine (h.set k _).congr fun j hj => ?_
  by_cases e1 : j = k
  · subst e1
    simp [idCells]
  · rw [if_neg e1]
    unfold idCells
    by_cases h3 : j < k
    · rw [if_pos h3, if_pos (by omega)]
    · rw [if_neg h3, if_neg (by omega)]
theorem row_idsAt {w : World} {b n : Nat} {f : Nat → UInt64} (h : w.rowIs b 41 n (idCells f n)) : IdsAt w (some ⟨b, 0, none⟩) ((List.range n).map f) := fun i hi => by
  have hi' : i < n := by simpa using hi
  refine ⟨b, 0, rfl, h.lt, ?_⟩
  have := h.cell (i := i) (by omega)
  simpa [idCells, hi'] using this

/-- IDs and an error in a function's answer. -/
def GaveI (w : World) (l : List UInt64) (r : Int) (e : Ending) (w' : World) : Prop :=
  ∃ (a : Option Addr) (cap : Nat), e = .returned (.tuple #[.slice a l.length cap, .int .i64 r]) ∧ l.length ≤ cap ∧ IdsAt w' a l ∧ Fresh w.heap.size a ∧ Below w.heap.size w w'
theorem gaveI_nil {w w' : World} {r : Int} {e : Ending} (he : e = .returned (.tuple #[.slice none 0 0, .int .i64 r])) (h : Below w.heap.size w w') : GaveI w [] r e w' :=
  ⟨none, 0, he, Nat.le_refl _, idsAt_nil _ _, (fun _ _ _ e => by cases e), h⟩

theorem readIDs_none (s : ByteArray) (w : World) (hs : s.size = 0) : Calls Try.prog 30 #[.string s] w (GaveI w [] 3) := by
  have he := empty_yes hs
  go_enter Try.func30, Try.ntmps30
  go_wp2_with fail
  go_ret2
  exact gaveI_nil rfl (Below.refl _ _)
theorem readIDs_short (s : ByteArray) (w : World) (hp : 0 < s.size) (hl : s.size < 1 + 8 * s[0].toNat) : Calls Try.prog 30 #[.string s] w (GaveI w [] 3) := by
  have he := empty_no (s := s) (by omega)
  have hb := s[0].toNat_lt
  have hz : (s.extract 1 s.size).size = s.size - 1 := by rw [ByteArray.size_extract]; omega
  obtain ⟨R, hR⟩ : ∃ R, s.extract 1 s.size = R := ⟨_, rfl⟩
  rw [hR] at hz
  have z0 : (0 : Int) < (s.size : Int) := by omega
  have z1 : (1 : Int) ≤ (s.size : Int) := by omega
  have hlt : (R.size : Int) < (s[0].toNat : Int) * 8 := by omega
  clear hz hl
  go_enter Try.func30, Try.ntmps30
  go_wp2_with fail
  go_quiet (fail)
  generalize hw2 : World.drewN w nq = w2
  have hb2 : Below w.heap.size w w2 := hw2 ▸ below_drewN (Below.refl _ _) _
  clear hw2
  go_wp2_with fail
  go_ret2
  exact gaveI_nil rfl hb2
theorem readIDs_long (s : ByteArray) (w : World) (hm : s.size ≤ maxLen) (hp : 0 < s.size) (hl : 1 + 8 * s[0].toNat < s.size) : Calls Try.prog 30 #[.string s] w (GaveI w [] 4) := by
  unfold maxLen at hm
  have he := empty_no (s := s) (by omega)
  have hb := s[0].toNat_lt
  have hz : (s.extract 1 s.size).size = s.size - 1 := by rw [ByteArray.size_extract]; omega
  obtain ⟨R, hR⟩ : ∃ R, s.extract 1 s.size = R := ⟨_, rfl⟩
  rw [hR] at hz
  have z0 : (0 : Int) < (s.size : Int) := by omega
  have z1 : (1 : Int) ≤ (s.size : Int) := by omega
  have hlt : (s[0].toNat : Int) * 8 < (R.size : Int) := by omega
  clear hz hl
  go_enter Try.func30, Try.ntmps30
  go_wp2_with fail
  go_quiet (fail)
  generalize hw2 : World.drewN w nq = w2
  have hb2 : Below w.heap.size w w2 := hw2 ▸ below_drewN (Below.refl _ _) _
  clear hw2
  go_wp2_with fail
  go_ret2
  exact gaveI_nil rfl hb2

set_option maxHeartbeats 1000000 in
theorem readIDs_ok (s : ByteArray) (n : Nat) (w : World) (hp : 0 < s.size) (hn : s[0].toNat = n) (hs : s.size = 1 + 8 * n) :
    Calls Try.prog 30 #[.string s] w (GaveI w (idsOf n (s.data.toList.drop 1)) 0) := by
  have he := empty_no (s := s) (by omega)
  have hn255 : n ≤ 255 := by have := s[0].toNat_lt; omega
  have hmk := fun wx => make_ids n (by omega) wx
  obtain ⟨l, hl⟩ : ∃ l, s.data.toList.drop 1 = l := ⟨_, rfl⟩
  obtain ⟨R, hR⟩ : ∃ R, s.extract 1 s.size = R := ⟨_, rfl⟩
  have hRl : R.data.toList = l := by rw [← hR, extract_end _ _ _ rfl, hl]
  have hlen : l.length = 8 * n := by rw [← hl, List.length_drop, Array.length_toList]; show s.size - 1 = _; omega
  have hRs : R.size = 8 * n := by rw [← hlen, ← hRl]; simp
  obtain ⟨f, hf⟩ : ∃ f : Nat → UInt64, f = fun i => numU ((l.drop (8 * i)).take 8) := ⟨_, rfl⟩
  have HF := Lib.hid hf
  have HR := Lib.hid hRl
  have HLEN := Lib.hid hlen
  rw [hl]
  have z0 : (0 : Int) < (s.size : Int) := by omega
  have z1 : (1 : Int) ≤ (s.size : Int) := by omega
  have hd1 : decide ((R.size : Int) < (n : Int) * 8) = false := decide_eq_false (by omega)
  have hd2 : decide ((n : Int) * 8 < (R.size : Int)) = false := decide_eq_false (by omega)
  clear hl hf hRl hs hlen
  go_enter Try.func30, Try.ntmps30
  go_wp2_with fail
  go_quiet (fail)
  generalize hw2 : World.drewN w nq = w2
  have hb2 : Below w.heap.size w w2 := hw2 ▸ below_drewN (Below.refl _ _) _
  have HROW := Lib.hid (made_ids w2 f n)
  clear hw2
  go_wp2_with fail
  go_loopw [5, 30] (fun u i wr => ∃ (k : Nat) (T : ByteArray), k ≤ n ∧ i = .int .i64 k ∧ u = .string T ∧ Hid (T.data.toList = l.drop (8 * k)) ∧ Hid (wr.rowIs w2.heap.size 41 n (idCells f k)) ∧ Below w2.heap.size w2 wr) (fun _ i _ => n - (intOf i).toNat)
  case atStart => exact ⟨0, R, Nat.zero_le _, rfl, rfl, Lib.hid HR.out, HROW, kept_new _ _⟩
  case round =>
    clear HROW hRs
    obtain ⟨k, T, hk, rfl, rfl, HT, HW, hbel⟩ := hrel
    have hTs : T.size = 8 * (n - k) := by
      have e1 : T.data.toList.length = T.size := by simp
      rw [← e1, HT.out, List.length_drop, HLEN.out]
      omega
    by_cases hlt : k < n
    · obtain ⟨x, hx⟩ : ∃ x, f k = x := ⟨_, rfl⟩
      have h8 : 8 ≤ T.size := by omega
      have hTm : T.size ≤ 10000 := by omega
      have HX1 : Hid (numU (T.extract 0 8).data.toList = x) := Lib.hid (by rw [extract_take, HT.out, ← hx, HF.out])
      have HNX : Hid ((T.extract 8 T.size).data.toList = l.drop (8 * (k + 1))) := Lib.hid (by rw [extract_end _ _ _ rfl, HT.out, List.drop_drop]; congr 1)
      have hsz8 : (T.extract 0 8).size ≤ maxLen := by rw [ByteArray.size_extract]; unfold maxLen; omega
      have q0 := HW.out.cell (i := k) (by omega)
      have q1 := HW.out.frozen k
      have z2 : (8 : Int) ≤ (T.size : Int) := by omega
      have z4 : (k : Int) < (n : Int) := by omega
      have HXX := Lib.hid hx
      clear hx hTs
      go_wp2_with fail
      with_reducible refine (decodeID_still _ x _ hsz8 HX1.out).mono ?_
      rintro e w' ⟨rfl, rfl⟩
      go_wp2_with fail
      go_roundw
      case rel =>
        refine ⟨k + 1, _, by omega, by go_num, rfl, Lib.hid HNX.out, Lib.hid ?_, hbel.setCell (by simp) _⟩
        have := id_step HW.out
        rw [HXX.out] at this
        exact this
      case measure => simp [intOf]; omega
    · obtain rfl : k = n := by omega
      have hids : idsOf k l = (List.range k).map f := by rw [HF.out]; rfl
      have hia := row_idsAt HW.out
      rw [← hids] at hia
      have HI := Lib.hid hia
      clear hia hids
      go_wp2_with fail
      go_ret2
      refine ⟨some ⟨w2.heap.size, 0, none⟩, k, by rw [idsOf_length]; rfl, by rw [idsOf_length]; exact Nat.le_refl _, HI.out, fun b o sp e => by cases e; exact hb2.size, kept_trans hb2 hbel⟩

/-- A message and an error in a function's answer. -/
def GaveM (w : World) (m : MsgD) (r : Int) (e : Ending) (w' : World) : Prop :=
  ∃ (a : Option Addr) (cap : Nat), e = .returned (.tuple #[.agg #[.int .i64 m.kind, .slice a m.ids.length cap, .string m.body], .int .i64 r]) ∧ m.ids.length ≤ cap ∧ IdsAt w' a m.ids ∧ Fresh w.heap.size a ∧ Below w.heap.size w w'
theorem gaveM_zero {w w' : World} {r : Int} {e : Ending} (he : e = .returned (.tuple #[.agg #[.int .i64 0, .slice none 0 0, .string ⟨#[]⟩], .int .i64 r])) (h : Below w.heap.size w w') : GaveM w zeroM r e w' :=
  ⟨none, 0, he, Nat.le_refl _, idsAt_nil _ _, (fun _ _ _ e => by cases e), h⟩
/-- The three cells of a block and their marks, in whatever later world. -/
theorem box_marks3 {w wr : World} {u v x : Value} {t : TypeId} (h : Below (w.alloc (.cells #[u, v, x] t)).heap.size (w.alloc (.cells #[u, v, x] t)) wr) :
    wr.frozen? ⟨w.heap.size, 0, none⟩ = false ∧ wr.frozen? ⟨w.heap.size, 1, none⟩ = false ∧ wr.frozen? ⟨w.heap.size, 2, none⟩ = false := by
  refine ⟨?_, ?_, ?_⟩ <;> (rw [h.frozen (by simp)]; simp [go_sem])
end Go.Proofs.Ytnigjhfdeinlhab
