/-
  The contract of Add.
-/
import Derived.Test.YtaaaplbjeknbkaaGreatSHomeW11
set_option maxRecDepth 20000
namespace Go.Proofs.YtaaaplbjeknbkaaGreat.So.Ho
open Go.Proofs.YtaaaplbjeknbkaaGreat.Ho
open Go.RowKit Go.Maps

variable {w w' : World} {F : Nat → Prop} {R : Nat} {L : List LinkD}

theorem add_arg (p : Int) (hp : ¬ goodP p) (x : UInt64) (d : DeedD) (a : Option Addr) (cap : Nat) (w : World) :
    Calls Tryz.prog 66 #[.pointer (some ⟨R, 0, none⟩), .int .i64 p, .int .u64 x.toNat, .agg #[.slice a d.ins.length cap, .int .i64 d.outs, .int .i64 d.weight, .int .i64 d.fee]] w fun e w' => e = .returned (.tuple #[.bool false, .int .i64 1]) ∧ Below w.heap.size w w' := by
  have HP := Lib.hid hp
  clear hp
  go_enter Tryz.func66, Tryz.ntmps66
  go_wp2_with fail
  with_reducible refine (isPeer_no p HP.out _).mono ?_
  rintro e w1 ⟨rfl, rfl⟩
  go_wp2_with fail
  go_ret2
  exact ⟨rfl, kept_new _ _⟩
theorem add_check (p : Nat) (hp : p < 8) (x : UInt64) (d : DeedD) (r : Int) (hr : checkD d = r) (hr0 : r ≠ 0) (a : Option Addr) (cap : Nat) (w : World) (hi : InsAt w a d.ins) :
    Calls Tryz.prog 66 #[.pointer (some ⟨R, 0, none⟩), .int .i64 p, .int .u64 x.toNat, .agg #[.slice a d.ins.length cap, .int .i64 d.outs, .int .i64 d.weight, .int .i64 d.fee]] w fun e w' => e = .returned (.tuple #[.bool false, .int .i64 r]) ∧ Below w.heap.size w w' := by
  have hk := kept_new w (.cells #[.slice a d.ins.length cap, .int .i64 d.outs, .int .i64 d.weight, .int .i64 d.fee] 50)
  have HI := Lib.hid (insAt_kept hk hi)
  have HR := Lib.hid hr
  have hne : (r != 0) = true := bne_iff_ne.2 hr0
  clear hi hr
  go_enter Tryz.func66, Tryz.ntmps66
  go_wp2_with fail
  with_reducible refine (isPeer_yes p p rfl hp _).mono ?_
  rintro e w1 ⟨rfl, rfl⟩
  go_wp2_with fail
  with_reducible refine (check_is d a cap _ r HI.out HR.out).mono ?_
  rintro e w1 ⟨rfl, hb1⟩
  go_wp2_with fail
  go_ret2
  exact ⟨rfl, kept_trans hk hb1⟩
set_option maxRecDepth 20000 in
theorem add_twice (p : Nat) (hp : p < 8) (x : UInt64) (d : DeedD) (hd : checkD d = 0) (ht : ∃ l ∈ L, l.peer = p ∧ l.id = x) (a : Option Addr) (cap : Nat) (w : World) (hi : InsAt w a d.ins) (h : HomeL w F R L) (hg : GoodL 24 L) :
    Calls Tryz.prog 66 #[.pointer (some ⟨R, 0, none⟩), .int .i64 p, .int .u64 x.toNat, .agg #[.slice a d.ins.length cap, .int .i64 d.outs, .int .i64 d.weight, .int .i64 d.fee]] w fun e w' => e = .returned (.tuple #[.bool false, .int .i64 6]) ∧ Below w.heap.size w w' := by
  obtain ⟨b, ev, v, h⟩ := h
  have hk := kept_new w (.cells #[.slice a d.ins.length cap, .int .i64 d.outs, .int .i64 d.weight, .int .i64 d.fee] 50)
  have HI := Lib.hid (insAt_kept hk hi)
  have HD := Lib.hid hd
  have HK := Lib.hid hk
  have H := Lib.hid (h.kept hk)
  have HL : Hid ((lsOf L).length ≤ 1000) := Lib.hid (by rw [lsOf_len]; have := hg.len; omega)
  have HT : Hid ((lsOf L).any (fun y => decide ((⟨p, x⟩ : LD) = y)) = true) := Lib.hid (by
    obtain ⟨l, hl, rfl, rfl⟩ := ht
    rw [List.any_eq_true]
    exact ⟨ldOf l, List.mem_map_of_mem hl, by simp [ldOf]⟩)
  clear hi hd hk h hg ht
  go_enter Tryz.func66, Tryz.ntmps66
  go_wp2_with fail
  with_reducible refine (isPeer_yes p p rfl hp _).mono ?_
  rintro e w1 ⟨rfl, rfl⟩
  go_wp2_with fail
  with_reducible refine (check_is d a cap _ 0 HI.out HD.out).mono ?_
  rintro e w1 ⟨rfl, hb1⟩
  obtain ⟨wd, hwd⟩ : ∃ wd, (w1.alloc (.cells #[.int .i64 p, .int .u64 x.toNat] 153)).drew = wd := ⟨_, rfl⟩
  have hbd : Below w1.heap.size w1 wd := hwd ▸ (kept_new _ _).drew
  have HH := H.out.kept (kept_trans hb1 hbd)
  obtain ⟨la, lcap, rfl, _, hat⟩ := HH.linkForm
  have hlc := HH.linkc.1
  have hlt := HH.lt
  have d0 : wd.cell? ⟨w1.heap.size, 0, none⟩ = some (.int .i64 p) := by rw [← hwd]; show (w1.alloc _).cell? _ = _; simp [go_sem]
  have d1 : wd.cell? ⟨w1.heap.size, 1, none⟩ = some (.int .u64 x.toNat) := by rw [← hwd]; show (w1.alloc _).cell? _ = _; simp [go_sem]
  have hs1 := (cell_spot d0).2
  have HWD := Lib.hid hwd
  have HAT := Lib.hid hat
  have HB := Lib.hid (kept_trans HK.out (kept_trans hb1 hbd))
  clear hwd hat HH hbd hb1
  go_wp2_with fail
  refine region_tail 5 (by kernel_rfl) (by kernel_rfl) HWD.out ?_
  simp only [List.take_succ_cons, List.take_zero, List.drop_succ_cons, List.drop_zero]
  repeat still_step
  refine wpStill_nil ?_
  go_wp2_with fail
  with_reducible refine (linkHas_any ⟨p, x⟩ (lsOf L) la lcap _ HL.out HAT.out).mono ?_
  rintro e w2 ⟨rfl, hb2⟩
  rw [HT.out]
  go_wp2_with fail
  go_ret2
  exact ⟨rfl, kept_trans HB.out hb2⟩
end Go.Proofs.YtaaaplbjeknbkaaGreat.So.Ho
