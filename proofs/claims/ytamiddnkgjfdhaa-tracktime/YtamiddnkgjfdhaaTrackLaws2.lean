/-
  TrackBounds and TrackTime: their walks.
-/
import Derived.Test.YtamiddnkgjfdhaaTrackLaws1
namespace Go.Proofs.Ytamiddnkgjfdhaa
open Go.RowKit Go.Maps

theorem fly_le (L : List TEnt) (p : Nat) : (L.filter fun e => e.peer == p && e.st == 2).length ≤ (L.filter fun e => e.peer == p).length := by
  induction L with
  | nil => simp
  | cons a r ih =>
    simp only [List.filter_cons]
    cases h1 : a.peer == p <;> cases h2 : a.st == 2 <;> simp <;> omega
theorem trackBounds_walk (salt : UInt64) (l : List OpD) (a : Option Addr) (cap : Nat) (hl : l.length ≤ maxLen) (w : World) (hi : OpsAt w a l) :
    Calls Try.prog 6 #[.int .u64 salt.toNat, .slice a l.length cap] w fun e w' => e = .returned (.bool true) ∧ Below w.heap.size w w' := by
  have HI := Lib.hid hi
  clear hi
  go_enter Try.func6, Try.ntmps6
  go_wp2_with fail
  with_reducible refine (asked_any _).mono ?_
  rintro e w1 ⟨rfl, hb1⟩
  go_wp2_with fail
  with_reducible refine (done_any w salt l a cap hl _ hb1 HI.out).mono ?_
  rintro e w2 ⟨R, rfl, h2⟩
  have H2 := Lib.hid h2
  clear h2 hb1
  generalize stepsL [] l = L at H2
  go_wp2_with fail
  go_loopw [17] (fun i wr => ∃ k : Nat, k ≤ 8 ∧ i = .int .i64 k ∧ Hid (Trk w wr R salt L)) (fun i _ => 8 - (intOf i).toNat)
  case atStart => exact ⟨0, by omega, rfl, H2⟩
  case round =>
    obtain ⟨k, hk, rfl, HT⟩ := hrel
    by_cases hlt : k < 8
    · obtain ⟨n, hn⟩ : ∃ n : Nat, (L.filter fun e => e.peer == k).length = n := ⟨_, rfl⟩
      obtain ⟨m, hm⟩ : ∃ m : Nat, (L.filter fun e => e.peer == k && e.st == 2).length = m := ⟨_, rfl⟩
      have hn20 : n ≤ 20 := by rw [← hn]; exact HT.out.good.few k hlt
      have hmn : m ≤ n := by rw [← hn, ← hm]; exact fly_le L k
      have HC : Hid ((if goodP (k : Int) then (((L.filter fun e => e.peer == (k : Int).toNat).length : Int), ((L.filter fun e => e.peer == (k : Int).toNat && e.st == 2).length : Int), (0 : Int)) else (0, 0, 1)) = ((n : Int), (m : Int), (0 : Int))) := Lib.hid (by
        rw [if_pos ⟨by omega, by omega⟩]
        simp only [Int.toNat_natCast, hn, hm])
      clear hn hm
      go_wp2_with fail
      with_reducible refine (trk_counts w R salt L _ HT.out k n m 0 HC.out).mono ?_
      rintro e w3 ⟨rfl, h3⟩
      have H3 := Lib.hid h3
      clear h3
      go_wp2_with fail
      go_roundw
      case rel => exact ⟨k + 1, by omega, by go_num, H3⟩
      case measure => simp [intOf]; omega
    · go_wp2_with fail
      go_ret
      exact ⟨rfl, HT.out.below⟩

theorem time_ann (x : UInt64) (t : Int) (h : 0 ≤ t ∧ t < 20) : annC [] 3 x t true = (0, [⟨3, x, true, 0, t⟩]) := by
  unfold annC
  rw [if_pos ⟨⟨by omega, by omega⟩, ⟨by omega, by omega⟩⟩]
  rfl
theorem time_open (x : UInt64) (s : Nat) (t : Int) (h : s ≠ 3) : settleL [⟨3, x, true, s, t⟩] = [⟨3, x, true, s, t⟩] := by
  unfold settleL openL
  simp [h]
theorem time_done (x : UInt64) (t : Int) : settleL [⟨3, x, true, 3, t⟩] = [] := by
  unfold settleL openL
  simp
theorem time_next (salt x : UInt64) (s : Nat) (t : Int) : (idsOf [⟨3, x, true, s, t⟩] 3).filter ((ofL salt [⟨3, x, true, s, t⟩]).isNext 3) = if s = 1 then [x] else [] := by
  have hi : idsOf [⟨3, x, true, s, t⟩] 3 = [x] := rfl
  have he : entsOf [⟨3, x, true, s, t⟩] x = [⟨3, x, true, s, t⟩] := by unfold entsOf; simp
  have hn : (ofL salt [⟨3, x, true, s, t⟩]).isNext 3 x = decide (s = 1) := by
    unfold TS.isNext TS.best
    rw [ofL_ents, he]
    by_cases h1 : s = 1
    · subst h1
      rfl
    · have : ¬ (s != 1) = false := by simpa using h1
      by_cases h2 : s = 2
      · subst h2
        rfl
      · simp [h1, h2]
  rw [hi]
  by_cases h1 : s = 1
  · rw [if_pos h1, List.filter_cons_of_pos (by rw [hn]; simpa using h1)]; rfl
  · rw [if_neg h1, List.filter_cons_of_neg (by rw [hn]; simpa using h1)]; rfl
theorem time_one (x : UInt64) (t : Int) : (if goodP 3 then (((([⟨3, x, true, 2, t⟩] : List TEnt).filter fun e => e.peer == (3 : Int).toNat).length : Int), ((([⟨3, x, true, 2, t⟩] : List TEnt).filter fun e => e.peer == (3 : Int).toNat && e.st == 2).length : Int), (0 : Int)) else ((0 : Int), (0 : Int), (1 : Int))) = (1, 1, 0) := by
  rw [if_pos (by decide)]
  rfl
theorem time_none : (if goodP 3 then (((([] : List TEnt).filter fun e => e.peer == (3 : Int).toNat).length : Int), ((([] : List TEnt).filter fun e => e.peer == (3 : Int).toNat && e.st == 2).length : Int), (0 : Int)) else ((0 : Int), (0 : Int), (1 : Int))) = (0, 0, 0) := by
  rw [if_pos (by decide)]
  rfl
theorem trackTime_walk (salt x : UInt64) (at' until' now' : Int) (_h1 : -9223372036854775808 ≤ at' ∧ at' ≤ 9223372036854775807) (_h2 : -9223372036854775808 ≤ until' ∧ until' ≤ 9223372036854775807) (_h3 : -9223372036854775808 ≤ now' ∧ now' ≤ 9223372036854775807) (w : World) :
    Calls Try.prog 9 #[.int .u64 salt.toNat, .int .u64 x.toNat, .int .i64 at', .int .i64 until', .int .i64 now'] w fun e w' => e = .returned (.bool true) ∧ Below w.heap.size w w' := by
  obtain ⟨a, ha, ha0, ha1⟩ : ∃ a : Int, at' % 20 = a ∧ 0 ≤ a ∧ a < 20 := ⟨_, rfl, by omega, by omega⟩
  obtain ⟨u, hu, hu0, hu1⟩ : ∃ u : Int, until' % 20 = u ∧ 0 ≤ u ∧ u < 20 := ⟨_, rfl, by omega, by omega⟩
  obtain ⟨n, hn, hn0, hn1⟩ : ∃ n : Int, now' % 50 = n ∧ 0 ≤ n ∧ n < 50 := ⟨_, rfl, by omega, by omega⟩
  have HA := Lib.hid ha
  have HU := Lib.hid hu
  have HN := Lib.hid hn
  clear ha hu hn _h1 _h2 _h3
  go_enter Try.func9, Try.ntmps9
  go_wp2_with fail
  with_reducible refine (asked_any _).mono ?_
  rintro e w1 ⟨rfl, hb1⟩
  go_wp2_with fail
  with_reducible refine (trk_new w salt _ hb1).mono ?_
  rintro e w2 ⟨R, rfl, h2⟩
  have H2 := Lib.hid h2
  clear h2 hb1
  go_wp2_with fail
  with_reducible refine (rest_is at' 20 a _ (by decide) (by decide) HA.out).mono ?_
  rintro e w3 ⟨rfl, rfl⟩
  go_wp2_with fail
  with_reducible refine (rest_is until' 20 u _ (by decide) (by decide) HU.out).mono ?_
  rintro e w3 ⟨rfl, rfl⟩
  go_wp2_with fail
  with_reducible refine (rest_is now' 50 n _ (by decide) (by decide) HN.out).mono ?_
  rintro e w3 ⟨rfl, rfl⟩
  go_wp2_with fail
  with_reducible refine (trk_announce w R salt _ _ H2.out 3 x a true 0 [⟨3, x, true, 0, a⟩] (time_ann x a ⟨ha0, ha1⟩)).mono ?_
  rintro e w3 ⟨rfl, h3⟩
  have H3 := Lib.hid h3
  clear h3
  go_wp2_with fail
  with_reducible refine (trk_due w R salt _ _ H3.out n).mono ?_
  rintro e w4 ⟨rfl, h4⟩
  by_cases hna : a ≤ n
  · have e4 : dueL n [⟨3, x, true, 0, a⟩] = [⟨3, x, true, 1, a⟩] := by
      unfold dueL
      have : dueE n ⟨3, x, true, 0, a⟩ = ⟨3, x, true, 1, a⟩ := by unfold dueE; rw [if_pos hna, if_pos rfl]
      rw [List.map_cons, List.map_nil, this, time_open x 1 a (by decide)]
    rw [e4] at h4
    have H4 := Lib.hid h4
    have hge : n ≥ a := hna
    clear h4 e4
    go_wp2_with fail
    with_reducible refine (trk_next w R salt _ _ H4.out 3 3 rfl (by decide) [x] ((time_next salt x 1 a).trans (if_pos rfl))).mono ?_
    rintro e w5 ⟨a5, cap5, rfl, _, h5⟩
    have H5 := Lib.hid h5
    clear h5
    have ea : askC [⟨3, x, true, 1, a⟩] 3 x (n + u) = (0, [⟨3, x, true, 2, n + u⟩]) := by
      unfold askC
      rw [if_pos ⟨⟨by omega, by omega⟩, ⟨by omega, by omega⟩⟩]
      have e1 : (Int.toNat 3) = 3 := rfl
      unfold askL mayAsk askE isE
      simp [e1]
    have HEA := Lib.hid ea
    have hw1 : IntKind.i64.wrap (n + u) = n + u := IntWalk.i64_in _ (by omega)
    have hw2 : IntKind.i64.wrap (n + u - 1) = n + u - 1 := IntWalk.i64_in _ (by omega)
    clear ea
    go_wp2_with fail
    with_reducible refine (trk_ask w R salt _ _ H5.out 3 x (n + u) 0 _ HEA.out).mono ?_
    rintro e w6 ⟨rfl, h6⟩
    have H6 := Lib.hid h6
    clear h6
    go_wp2_with fail
    with_reducible refine (trk_due w R salt _ _ H6.out (n + u - 1)).mono ?_
    rintro e w7 ⟨rfl, h7⟩
    have e7 : dueL (n + u - 1) [⟨3, x, true, 2, n + u⟩] = [⟨3, x, true, 2, n + u⟩] := by
      unfold dueL
      have : dueE (n + u - 1) ⟨3, x, true, 2, n + u⟩ = ⟨3, x, true, 2, n + u⟩ := by unfold dueE; rw [if_neg (by show ¬ (n + u ≤ n + u - 1); omega)]
      rw [List.map_cons, List.map_nil, this, time_open x 2 _ (by decide)]
    rw [e7] at h7
    have H7 := Lib.hid h7
    clear h7 e7
    go_wp2_with fail
    with_reducible refine (trk_counts w R salt _ _ H7.out 3 1 1 0 (time_one x (n + u))).mono ?_
    rintro e w8 ⟨rfl, h8⟩
    have H8 := Lib.hid h8
    clear h8
    go_wp2_with fail
    with_reducible refine (trk_due w R salt _ _ H8.out (n + u)).mono ?_
    rintro e w9 ⟨rfl, h9⟩
    have e9 : dueL (n + u) [⟨3, x, true, 2, n + u⟩] = [] := by
      unfold dueL
      have : dueE (n + u) ⟨3, x, true, 2, n + u⟩ = ⟨3, x, true, 3, n + u⟩ := by unfold dueE; rw [if_pos (Int.le_refl _), if_neg (show ¬ (2 : Nat) = 0 by decide), if_pos rfl]
      rw [List.map_cons, List.map_nil, this, time_done x _]
    rw [e9] at h9
    have H9 := Lib.hid h9
    clear h9 e9
    go_wp2_with fail
    with_reducible refine (trk_counts w R salt _ _ H9.out 3 0 0 0 time_none).mono ?_
    rintro e w10 ⟨rfl, h10⟩
    have H10 := Lib.hid h10
    clear h10
    go_wp2_with fail
    go_ret
    exact ⟨rfl, H10.out.below⟩
  · have e4 : dueL n [⟨3, x, true, 0, a⟩] = [⟨3, x, true, 0, a⟩] := by
      unfold dueL
      have : dueE n ⟨3, x, true, 0, a⟩ = ⟨3, x, true, 0, a⟩ := by unfold dueE; rw [if_neg hna]
      rw [List.map_cons, List.map_nil, this, time_open x 0 a (by decide)]
    rw [e4] at h4
    have H4 := Lib.hid h4
    have hge : ¬ n ≥ a := hna
    clear h4 e4
    go_wp2_with fail
    with_reducible refine (trk_next w R salt _ _ H4.out 3 3 rfl (by decide) [] ((time_next salt x 0 a).trans (if_neg (by decide)))).mono ?_
    rintro e w5 ⟨a5, cap5, rfl, _, h5⟩
    have H5 := Lib.hid h5
    clear h5
    have ea : askC [⟨3, x, true, 0, a⟩] 3 x u = (7, [⟨3, x, true, 0, a⟩]) := by
      unfold askC
      rw [if_pos ⟨⟨by omega, by omega⟩, ⟨by omega, by omega⟩⟩]
      have e1 : (Int.toNat 3) = 3 := rfl
      unfold askL mayAsk isE
      simp [e1]
    have HEA := Lib.hid ea
    clear ea
    go_wp2_with fail
    with_reducible refine (trk_ask w R salt _ _ H5.out 3 x u 7 _ HEA.out).mono ?_
    rintro e w6 ⟨rfl, h6⟩
    have H6 := Lib.hid h6
    clear h6
    go_wp2_with fail
    go_ret
    exact ⟨rfl, H6.out.below⟩
end Go.Proofs.Ytamiddnkgjfdhaa
