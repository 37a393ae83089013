/-
  The reference's beats.
-/
import Derived.Test.YtamiddnkgjfdhaaRefT
import Derived.Deep.RegionHeld3
namespace Go.Proofs.Ytamiddnkgjfdhaa
open Go.RowKit Go.Maps

theorem refMix_peer (salt : UInt64) (p : Nat) (hp : p < 8) (x k : UInt64) (hk : mixU salt (UInt64.ofNat p) x = k) (w : World) : Calls Try.prog 71 #[.int .u64 salt.toNat, .int .u64 p, .int .u64 x.toNat] w fun e w' => e = .returned (.int .u64 k.toNat) ∧ w = w' := by
  have h : ((UInt64.ofNat p).toNat : Int) = p := by rw [UInt64.toNat_ofNat_of_lt' (by show p < 18446744073709551616; omega)]
  have := refMix_any salt (UInt64.ofNat p) x w
  rw [h, hk] at this
  exact this
theorem u64_ne (x y : UInt64) : (((x.toNat : Nat) : Int) != (y.toNat : Int)) = !(x == y) := by
  rw [bne, u64_beq]
set_option maxRecDepth 20000 in
set_option maxHeartbeats 1000000 in
theorem beats_any (salt : UInt64) (B : Nat) (a b : TEnt) (ha : a.peer < 8) (hb : b.peer < 8) (r : Bool) (hr : beatsB salt a b = r) (w : World) (hs : w.cell? ⟨B, 0, none⟩ = some (.int .u64 salt.toNat)) :
    Calls Try.prog 48 #[.pointer (some ⟨B, 0, none⟩), .agg #[.int .i64 a.peer, .int .u64 a.id.toNat, .bool a.pref, .int .i64 a.st, .int .i64 a.till], .agg #[.int .i64 b.peer, .int .u64 b.id.toNat, .bool b.pref, .int .i64 b.st, .int .i64 b.till]] w fun e w' => e = .returned (.bool r) ∧ Below w.heap.size w w' := by
  have hR := (cell_spot hs).2
  obtain ⟨wX, hwX⟩ : ∃ x, x = ((w.alloc (.cells #[.int .i64 a.peer, .int .u64 a.id.toNat, .bool a.pref, .int .i64 a.st, .int .i64 a.till] 80)).alloc (.cells #[.int .i64 b.peer, .int .u64 b.id.toNat, .bool b.pref, .int .i64 b.st, .int .i64 b.till] 80)) := ⟨_, rfl⟩
  have hbX : Below w.heap.size w wX := hwX ▸ kept_alloc (kept_new _ _) _
  have HBX := Lib.hid hbX
  obtain ⟨a0, a1, a2, a3, a4⟩ : EntAt wX w.heap.size 0 a := hwX ▸ ⟨by simp [go_sem], by simp [go_sem], by simp [go_sem], by simp [go_sem], by simp [go_sem]⟩
  obtain ⟨b0, b1, b2, b3, b4⟩ : EntAt wX (w.heap.size + 1) 0 b := hwX ▸ ⟨by simp [go_sem], by simp [go_sem], by simp [go_sem], by simp [go_sem], by simp [go_sem]⟩
  have hsX := kept_cell hbX hs
  have hsz : wX.heap.size = w.heap.size + 2 := by rw [hwX]; simp
  by_cases hpr : a.pref = b.pref
  · obtain ⟨ka, hka⟩ : ∃ k, rankU salt a = k := ⟨_, rfl⟩
    obtain ⟨kb, hkb⟩ : ∃ k, rankU salt b = k := ⟨_, rfl⟩
    have HKA : Hid (mixU salt (UInt64.ofNat a.peer) a.id = ka) := Lib.hid hka
    have HKB : Hid (mixU salt (UInt64.ofNat b.peer) b.id = kb) := Lib.hid hkb
    have HA := Lib.hid ha
    have HB := Lib.hid hb
    have ca : IntKind.u64.wrap (a.peer : Int) = a.peer := by show (a.peer : Int) % 18446744073709551616 = _; omega
    have cb : IntKind.u64.wrap (b.peer : Int) = b.peer := by show (b.peer : Int) % 18446744073709551616 = _; omega
    have ca' : (a.peer : Int) % 18446744073709551616 = a.peer := ca
    have cb' : (b.peer : Int) % 18446744073709551616 = b.peer := cb
    have hpb : (!(a.pref == b.pref)) = false := by simp [hpr]
    have go : (if ka = kb then decide (a.peer < b.peer) else decide (kb.toNat < ka.toNat)) = r := by rw [← hr]; unfold beatsB; rw [if_pos hpr, hka, hkb]
    have HGO := Lib.hid go
    clear hka hkb ha hb hr hpr go hbX
    go_enter Try.func48, Try.ntmps48
    go_wp2_with fail
    rw [← hwX]
    clear hwX hs
    go_region_held3 (fun w' => w'.cell? ⟨B, 0, none⟩ = some (.int .u64 salt.toNat) ∧ w'.cell? ⟨w.heap.size, 0, none⟩ = some (.int .i64 a.peer) ∧ w'.cell? ⟨w.heap.size, 1, none⟩ = some (.int .u64 a.id.toNat) ∧ w'.cell? ⟨w.heap.size + 1, 0, none⟩ = some (.int .i64 b.peer) ∧ w'.cell? ⟨w.heap.size + 1, 1, none⟩ = some (.int .u64 b.id.toNat))
      (first | exact ⟨hsX, a0, a1, b0, b1⟩ | assumption)
      (first
        | (go_at_call 71; ((with_reducible refine (refMix_peer salt a.peer HA.out a.id ka HKA.out _).mono ?_); rintro e w2 ⟨rfl, rfl⟩))
        | (go_at_call 71; ((with_reducible refine (refMix_peer salt b.peer HB.out b.id kb HKB.out _).mono ?_); rintro e w2 ⟨rfl, rfl⟩)))
    clear a0 a1 a2 a3 a4 b0 b1 b2 b3 b4 hsX ca cb ca' cb'
    go_split_ands
    by_cases hk : ka = kb
    · subst hk
      have HG : Hid (decide (a.peer < b.peer) = r) := Lib.hid (by
        have := HGO.out
        rw [if_pos rfl] at this
        exact this)
      have hq : (((ka.toNat : Nat) : Int) != (ka.toNat : Int)) = false := by simp
      go_wp2_with fail
      go_ret
      exact ⟨ret_bool HG.out, kept_trans HBX.out ((Below.refl _ _).drew)⟩
    · have HG : Hid (decide (kb.toNat < ka.toNat) = r) := Lib.hid (by
        have := HGO.out
        rw [if_neg hk] at this
        exact this)
      have hq : (((ka.toNat : Nat) : Int) != (kb.toNat : Int)) = true := by rw [u64_ne]; simp [hk]
      go_wp2_with fail
      go_ret
      exact ⟨ret_bool HG.out, kept_trans HBX.out ((Below.refl _ _).drew)⟩
  · have HG : Hid (a.pref = r) := Lib.hid (by rw [← hr]; unfold beatsB; rw [if_neg hpr])
    have hpb : (!(a.pref == b.pref)) = true := by simp [hpr]
    clear hr ha hb hpr hbX a0 a1 a2 a3 a4 b0 b1 b2 b3 b4 hsX
    go_enter Try.func48, Try.ntmps48
    go_wp2_with fail
    go_ret
    exact ⟨ret_bool HG.out, by rw [← hwX]; exact HBX.out⟩
end Go.Proofs.Ytamiddnkgjfdhaa
