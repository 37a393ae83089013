/-
  The top laws' own functions: bytesOf, bring, idOf; their closed fact.
-/
import Derived.Test.YtaaaplbjeknbkabGreatLoneMath
import Derived.Test.YtaaaplbjeknbkabGreatJ32
set_option maxRecDepth 20000
namespace Go.Proofs.YtaaaplbjeknbkabGreat
open Go.RowKit Go.Maps

variable {w w' : World} {F : Nat → Prop} {R : Nat} {s : NS}

set_option maxRecDepth 20000 in
theorem tbytesOf_any (m : Ms.MsgD) (a : Option Addr) (cap : Nat) (w : World) (hi : IdsAt w a m.ids) (E : ByteArray) (hE : bytesM m = E) :
    Calls Tryz.prog 17 #[.agg #[.int .i64 m.kind, .slice a m.ids.length cap, .string m.body]] w fun e w' => e = .returned (.string E) ∧ Below w.heap.size w w' := by
  obtain ⟨wb, hwb⟩ : ∃ wb, w.alloc (.cells #[.int .i64 m.kind, .slice a m.ids.length cap, .string m.body] 46) = wb := ⟨_, rfl⟩
  have hk0 : Below w.heap.size w wb := hwb ▸ kept_new _ _
  obtain ⟨b0, b1, b2⟩ : MsgBox wb w.heap.size a cap m := hwb ▸ box_msg w a cap m
  have l0 := (cell_spot b0).2
  have HI := Lib.hid (idsAt_kept hk0 hi)
  have HK := Lib.hid hk0
  unfold bytesM at hE
  clear hk0 hi
  by_cases h : Ms.checkM m = 0
  · rw [if_pos h] at hE
    have HE := Lib.hid hE
    have HC := Lib.hid h
    clear h hE
    go_enter Tryz.func17, Tryz.ntmps17
    go_wp2_with fail
    with_reducible refine (mencode_ok m a cap _ E HI.out HC.out HE.out).mono ?_
    rintro e w1 ⟨rfl, hb1⟩
    have HB1 := Lib.hid (kept_trans HK.out hb1)
    clear hb1
    go_wp2_with fail
    go_ret
    exact ⟨rfl, HB1.out⟩
  · rw [if_neg h] at hE
    subst hE
    obtain ⟨r, hr⟩ : ∃ r, Ms.checkM m = r := ⟨_, rfl⟩
    have h0 : r ≠ 0 := fun e => h (by rw [hr]; exact e)
    have HC := Lib.hid hr
    clear h hr
    go_enter Tryz.func17, Tryz.ntmps17
    go_wp2_with fail
    with_reducible refine (Ms.mencode_err m a cap _ r HI.out HC.out h0).mono ?_
    rintro e w1 ⟨rfl, hb1⟩
    have HB1 := Lib.hid (kept_trans HK.out hb1)
    clear hb1
    go_wp2_with fail
    go_ret
    exact ⟨rfl, HB1.out⟩
theorem tbytesOf_bring (E B : ByteArray) (hB : bytesM ⟨3, [], E⟩ = B) (w : World) : Calls Tryz.prog 17 #[.agg #[.int .i64 3, .slice none 0 0, .string E]] w fun e w' => e = .returned (.string B) ∧ Below w.heap.size w w' :=
  tbytesOf_any ⟨3, [], E⟩ none 0 w (fun i hi => absurd hi (by simp)) B hB
set_option maxRecDepth 20000 in
theorem tbringB_any (d : DeedD) (hd : checkD d = 0) (a : Option Addr) (cap : Nat) (B : ByteArray) (hB : bringB d = B) (w : World) (hi : InsAt w a d.ins) :
    Calls Tryz.prog 12 #[.agg #[.slice a d.ins.length cap, .int .i64 d.outs, .int .i64 d.weight, .int .i64 d.fee]] w fun e w' => e = .returned (.string B) ∧ Below w.heap.size w w' := by
  obtain ⟨wb, hwb⟩ : ∃ wb, w.alloc (.cells #[.slice a d.ins.length cap, .int .i64 d.outs, .int .i64 d.weight, .int .i64 d.fee] 35) = wb := ⟨_, rfl⟩
  have hk0 : Below w.heap.size w wb := hwb ▸ kept_new _ _
  obtain ⟨b0, b1, b2, b3⟩ : DeedBox wb w.heap.size a cap d := hwb ▸ box_deed w a cap d
  have l0 := (cell_spot b0).2
  have HI := Lib.hid (insAt_kept hk0 hi)
  have HK := Lib.hid hk0
  obtain ⟨E, hE⟩ : ∃ E, str (encB d) = E := ⟨_, rfl⟩
  have HE := Lib.hid hE
  have HD := Lib.hid hd
  have HB : Hid (bytesM ⟨3, [], E⟩ = B) := Lib.hid (by unfold bytesM; rw [← hE, if_pos (bringM_ok hd)]; exact hB)
  clear hk0 hi hE hd hB
  go_enter Tryz.func12, Tryz.ntmps12
  go_wp2_with fail
  with_reducible refine (Ju.encode_is d a cap _ E HI.out HD.out HE.out).mono ?_
  rintro e w1 ⟨rfl, hb1⟩
  have HB1 := Lib.hid (kept_trans HK.out hb1)
  clear hb1
  go_wp2_with fail
  with_reducible refine (tbytesOf_bring E B HB.out _).mono ?_
  rintro e w2 ⟨rfl, hb2⟩
  have HB2 := Lib.hid (kept_trans HB1.out hb2)
  clear hb2
  go_wp2_with fail
  go_ret
  exact ⟨rfl, HB2.out⟩
set_option maxRecDepth 20000 in
theorem tidOf_any (d : DeedD) (hd : checkD d = 0) (a : Option Addr) (cap : Nat) (x : UInt64) (hx : Ju.idD d = x) (w : World) (hi : InsAt w a d.ins) :
    Calls Tryz.prog 13 #[.agg #[.slice a d.ins.length cap, .int .i64 d.outs, .int .i64 d.weight, .int .i64 d.fee]] w fun e w' => e = .returned (.int .u64 x.toNat) ∧ Below w.heap.size w w' := by
  obtain ⟨wb, hwb⟩ : ∃ wb, w.alloc (.cells #[.slice a d.ins.length cap, .int .i64 d.outs, .int .i64 d.weight, .int .i64 d.fee] 35) = wb := ⟨_, rfl⟩
  have hk0 : Below w.heap.size w wb := hwb ▸ kept_new _ _
  obtain ⟨b0, b1, b2, b3⟩ : DeedBox wb w.heap.size a cap d := hwb ▸ box_deed w a cap d
  have l0 := (cell_spot b0).2
  have HI := Lib.hid (insAt_kept hk0 hi)
  have HK := Lib.hid hk0
  have HD := Lib.hid hd
  have HX := Lib.hid hx
  clear hk0 hi hd hx
  go_enter Tryz.func13, Tryz.ntmps13
  go_wp2_with fail
  with_reducible refine (Ju.id_ok d a cap _ HI.out HD.out).mono ?_
  rintro e w1 ⟨rfl, hb1⟩
  rw [HX.out]
  have HB1 := Lib.hid (kept_trans HK.out hb1)
  clear hb1
  go_wp2_with fail
  go_ret
  exact ⟨rfl, HB1.out⟩
theorem tidOf_simple (x : UInt64) (hx : Ju.idD simD = x) (w : World) : Calls Tryz.prog 13 #[.agg #[.slice none 0 0, .int .i64 1, .int .i64 10, .int .i64 1]] w fun e w' => e = .returned (.int .u64 x.toNat) ∧ Below w.heap.size w w' :=
  tidOf_any simD (by decide) none 0 x hx w (fun i hi => absurd hi (by simp [simD]))
theorem tbringB_simple (w : World) (B : ByteArray) (hB : bringB simD = B) : Calls Tryz.prog 12 #[.agg #[.slice none 0 0, .int .i64 1, .int .i64 10, .int .i64 1]] w fun e w' => e = .returned (.string B) ∧ Below w.heap.size w w' :=
  tbringB_any simD (by decide) none 0 B hB w (fun i hi => absurd hi (by simp [simD]))
theorem tbytesOf_ann (l : List UInt64) (a : Option Addr) (cap : Nat) (B : ByteArray) (hB : bytesM ⟨1, l, ⟨#[]⟩⟩ = B) (w : World) (hi : IdsAt w a l) : Calls Tryz.prog 17 #[.agg #[.int .i64 1, .slice a l.length cap, .string ⟨#[]⟩]] w fun e w' => e = .returned (.string B) ∧ Below w.heap.size w w' :=
  tbytesOf_any ⟨1, l, ⟨#[]⟩⟩ a cap w hi B hB
theorem tbytesOf_one (id : UInt64) (a : Option Addr) (cap : Nat) (B : ByteArray) (hB : bytesM ⟨1, [id], ⟨#[]⟩⟩ = B) (w : World) (hi : IdsAt w a [id]) : Calls Tryz.prog 17 #[.agg #[.int .i64 1, .slice a 1 cap, .string ⟨#[]⟩]] w fun e w' => e = .returned (.string B) ∧ Below w.heap.size w w' :=
  tbytesOf_any ⟨1, [id], ⟨#[]⟩⟩ a cap w hi B hB
theorem ids_new (w : World) (x : UInt64) : IdsAt (w.alloc (.cells #[.int .u64 x.toNat] 22)) (some ⟨w.heap.size, 0, none⟩) [x] := fun i hi => by
  obtain rfl : i = 0 := by simpa using hi
  exact ⟨_, _, rfl, by simp, by simp [go_sem]⟩
theorem bring_small {d : DeedD} (h : checkD d = 0) : (bringB d).size ≤ maxLen := by
  unfold bringB
  have h1 := bytes_small ⟨3, [], str (encB d)⟩
  unfold bytesM at h1
  rw [if_pos (bringM_ok h)] at h1
  exact h1
theorem message_is {p : Nat} {l : List UInt64} (h0 : 0 < l.length) (h20 : l.length ≤ 20) (hn : l.Nodup) : message p ⟨2, l, ⟨#[]⟩⟩ = [⟨p, bytesM ⟨2, l, ⟨#[]⟩⟩⟩] := by
  have h := ids_ok 2 (by decide) (by decide) l h0 h20 hn
  unfold message bytesM
  rw [if_pos h, if_pos h]
/-- What the closed fact's node is, step by step. -/
def nw1 : NS := (NS.new 3).setPeer 4 (true, false)
theorem nw_ann (x : UInt64) : nw1.announce 4 [x] = { nw1 with T := entsP 4 false 0 3 [x] } :=
  lone_announce (p0 := 4) (by decide) (f := false) (t := 3) (by decide) [x] [] nw1 rfl (by simp) (by simp) (fun _ _ => rfl) rfl rfl
theorem nw_pass (x : UInt64) : ({ nw1 with T := entsP 4 false 0 3 [x] } : NS).pass 3 = ({ nw1 with now := 3, T := entsP 4 false 2 13 [x] }, [⟨4, bytesM ⟨2, [x], ⟨#[]⟩⟩⟩], 0) := by
  rw [ready_pass (p0 := 4) (by decide) (f := false) (st := 0) (.inl rfl) (t := 3) (l := [x]) rfl (by simp) (by show (0 : Int) ≤ 0; omega) ⟨by decide, by show (3 : Int) ≤ 1099511627776 - 0; omega⟩ (by show (3 : Int) ≤ 0 + 3; omega)]
  have h1 : [x].take 4 = [x] := rfl
  have h2 : [x].drop 4 = [] := rfl
  rw [h1, h2, message_is (by simp) (by simp) (by simp)]
  rfl
theorem nw_A : (({ nw1 with now := 3, T := entsP 4 false 2 13 [Ju.idD simD] } : NS).bring 4 simD).A = [simD] := by
  rw [bring_plain rfl rfl rfl (by decide) rfl]
  rfl
end Go.Proofs.YtaaaplbjeknbkabGreat
