/-
  TrackOne: its walk.
-/
import Derived.Test.YtamiddnkgjfdhaaTrackOneL
import Derived.Test.YtamiddnkgjfdhaaSets
namespace Go.Proofs.Ytamiddnkgjfdhaa
open Go.RowKit Go.Maps

/-- The IDs that have been seen: a map of the law's own. -/
abbrev Seen (w : World) (b n : Nat) (ks : List UInt64) : Prop := SetIs Try.prog 22 4 (fun _ : UInt64 => True) (fun x => .int .u64 x.toNat) w b n ks
theorem seen_same {w w' : World} {b n : Nat} {ks : List UInt64} (h : Seen w b n ks) (e : w'.heap[b]? = w.heap[b]?) : Seen w' b n ks := by
  obtain ⟨D, ⟨es, clock, hb, r⟩, r2⟩ := h
  exact ⟨D, ⟨es, clock, e.trans hb, r⟩, r2⟩
theorem seen_lt {w : World} {b n : Nat} {ks : List UInt64} (h : Seen w b n ks) : b < w.heap.size := by
  obtain ⟨D, hD, _⟩ := h
  exact hD.lt
theorem seen_look {w : World} {b n : Nat} {ks : List UInt64} (h : Seen w b n ks) (x : UInt64) : (Instr.lookup 51 (.map (some b)) (.int .u64 x.toNat) false).run Try.prog w = .ok (.bool (ks.contains x)) w :=
  set_look h u64_keyed Try.underlying51 Try.underlying4 (zero_bool w) trivial (u64_key x)
theorem seen_put {w : World} {b n : Nat} {ks : List UInt64} (h : Seen w b n ks) (hn : n < maxLen) (x : UInt64) :
    ∃ w', (Instr.mapUpdate 51 (.map (some b)) (.int .u64 x.toNat) (.bool true)).run Try.prog w = .ok () w' ∧ Seen w' b (n + 1) (ks ++ [x]) ∧ w.grownBy w' (some b) :=
  set_put h u64_keyed Try.underlying51 Try.underlying4 hn trivial (u64_key x) (fun y _ e => u64_inj (by simpa using e))
theorem idsAt_same {Z : Nat → Prop} {w w' : World} {a : Option Addr} {l : List UInt64} (h : IdsAt w a l) (hs : SameOn Z w w') (hz : ∀ k o sp, a = some ⟨k, o, sp⟩ → 0 < l.length → Z k) : IdsAt w' a l := fun i hi => by
  obtain ⟨b, o, e, _, hc⟩ := h i hi
  have hc' : w'.cell? ⟨b, o + i, none⟩ = some (.int .u64 l[i].toNat) := (World.cell?_of_block (a := ⟨b, o + i, none⟩) (hs b (hz b o none e (by omega)))).trans hc
  exact ⟨b, o, e, (cell_spot hc').2, hc'⟩
theorem trkz_next_at (w0 : World) (R : Nat) (salt : UInt64) (L : List TEnt) (Z : Nat → Prop) (w : World) (h : TrkZ w0 w R salt L Z) (n : Nat) (hp : n < 8) (l : List UInt64) (hl : nextL salt L n = l) : Calls Try.prog 20 #[.pointer (some ⟨R, 0, none⟩), .int .i64 n] w fun e w' =>
    ∃ a cap, e = .returned (.tuple #[.slice a l.length cap, .int .i64 0]) ∧ (l.length ≤ cap ∧ IdsAt w' a l) ∧ TrkZ w0 w' R salt L (fun k => Z k ∨ ∃ o sp, a = some ⟨k, o, sp⟩ ∧ 0 < l.length) ∧ SameOn Z w w' := trkz_next w0 R salt L Z w h n n rfl hp l hl
set_option maxHeartbeats 1600000 in
theorem trackOne_walk (salt : UInt64) (l : List OpD) (a : Option Addr) (cap : Nat) (hl : l.length ≤ maxLen) (w : World) (hi : OpsAt w a l) :
    Calls Try.prog 5 #[.int .u64 salt.toNat, .slice a l.length cap] w fun e w' => e = .returned (.bool true) ∧ Below w.heap.size w w' := by
  have HI := Lib.hid hi
  have hmm := @run_makeMap Try.prog
  clear hi
  go_enter Try.func5, Try.ntmps5
  go_wp2_with fail
  with_reducible refine (asked_any _).mono ?_
  rintro e w1 ⟨rfl, hb1⟩
  go_wp2_with fail
  with_reducible refine (done_any w salt l a cap hl _ hb1 HI.out).mono ?_
  rintro e w2 ⟨R, rfl, h2⟩
  have H2 := Lib.hid h2
  clear h2 hb1
  generalize stepsL [] l = L at H2
  have HSN : Hid (Seen (w2.alloc (.map #[] 0)) w2.heap.size 0 []) := Lib.hid (set_new w2)
  have HT0 : Hid (TrkZ w (w2.alloc (.map #[] 0)) R salt L (fun k => k = w2.heap.size)) := Lib.hid (H2.out.z.beside (Turn.of_below (kept_new w2 _)) (fun _ h => h) (fun k hk => ⟨.inr (by omega), by rw [hk]; simp⟩))
  go_wp2_with fail
  go_loopw [27] (fun i wr => ∃ (p n : Nat) (ks : List UInt64), p ≤ 8 ∧ n ≤ p * 20 ∧ i = .int .i64 p ∧ Hid (Seen wr w2.heap.size n ks) ∧ Hid (TrkZ w wr R salt L (fun k => k = w2.heap.size)) ∧ Hid (∀ y ∈ ks, ∃ q, q < p ∧ y ∈ nextL salt L q)) (fun i _ => 8 - (intOf i).toNat)
  case atStart => exact ⟨0, 0, [], by omega, by omega, rfl, HSN, HT0, Lib.hid (by simp)⟩
  case round =>
    obtain ⟨p, n, ks, hp, hn, rfl, HS, HT, HK⟩ := hrel
    by_cases hlt : p < 8
    · obtain ⟨ids, hids⟩ : ∃ ids, nextL salt L p = ids := ⟨_, rfl⟩
      have hlen : ids.length ≤ 20 := hids ▸ next_len HT.out.good hlt
      have HIDS := Lib.hid hids
      clear hids
      go_wp2_with fail
      with_reducible refine (trkz_next_at w R salt L _ _ HT.out p hlt ids HIDS.out).mono ?_
      rintro e w3 ⟨a3, cap3, rfl, ⟨_, hi3⟩, h3, s3⟩
      have HS3 := Lib.hid (seen_same HS.out (s3 w2.heap.size rfl))
      have HI3 := Lib.hid hi3
      have H3 := Lib.hid h3
      clear hi3 h3 s3
      go_wp2_with fail
      obtain ⟨wB, hwB⟩ : ∃ x, x = wr := ⟨_, rfl⟩
      subst hwB
      go_loopw [40] (fun i wr => ∃ (k n' : Nat) (ks' : List UInt64), k ≤ ids.length ∧ n' ≤ p * 20 + k ∧ i = .int .i64 k ∧ Hid (Seen wr w2.heap.size n' ks') ∧ Hid (IdsAt wr a3 ids) ∧ Hid (TrkZ w wr R salt L (fun k => k = w2.heap.size ∨ ∃ o sp, a3 = some ⟨k, o, sp⟩ ∧ 0 < ids.length)) ∧ Hid (∀ y ∈ ks', (∃ q, q < p ∧ y ∈ nextL salt L q) ∨ y ∈ ids.take k)) (fun i _ => ids.length - (intOf i).toNat)
      case atStart => exact ⟨0, n, ks, Nat.zero_le _, by omega, rfl, HS3, HI3, H3, Lib.hid (fun y hy => .inl (HK.out y hy))⟩
      case round =>
        obtain ⟨k, n', ks', hk, hn', rfl, HS4, HI4, H4, HK4⟩ := hrel
        by_cases hkl : k < ids.length
        · obtain ⟨g, o, rfl, hg, c0⟩ := HI4.out k hkl
          obtain ⟨x, hx⟩ : ∃ x, ids[k] = x := ⟨_, rfl⟩
          have hxm : x ∈ nextL salt L p := by rw [HIDS.out, ← hx]; exact List.getElem_mem hkl
          have hno : ks'.contains x = false := by
            rw [← Bool.not_eq_true, List.contains_iff_mem]
            intro hm
            rcases HK4.out x hm with ⟨q, hq, hqm⟩ | hm
            · have := next_one hqm hxm
              omega
            · have hnd := take_contains_nodup (HIDS.out ▸ next_nodup (salt := salt) H4.out.good p) hkl
              rw [hx, List.contains_iff_mem.2 hm] at hnd
              cases hnd
          have hlk := seen_look HS4.out x
          rw [hno] at hlk
          rw [hx] at c0
          have HX := Lib.hid hx
          have HXM := Lib.hid hxm
          clear hx hxm hno
          go_wp2_with fail
          with_reducible refine (trkz_holders w R salt L _ _ H4.out x _ rfl).mono ?_
          rintro e w5 ⟨a5, cap5, rfl, hi5, h5, hb5⟩
          have HI5 := Lib.hid hi5
          have H5 := Lib.hid h5
          have hsame : w5.heap[w2.heap.size]? = wr.heap[w2.heap.size]? := hb5.block _ (seen_lt HS4.out)
          have HS5 := Lib.hid (seen_same HS4.out hsame)
          have HI5' := Lib.hid (idsAt_kept hb5 HI4.out)
          have hhl := holders_len L x
          clear hi5 h5 hsame hlk
          go_wp2_with fail
          with_reducible refine (hasInt_any _ p true (Lib.hid (next_holds hlt HXM.out)) a5 cap5 _ (by unfold maxLen; omega) HI5.out).mono ?_
          rintro e w6 ⟨rfl, rfl⟩
          obtain ⟨w7, hput, hs7, hg7⟩ := seen_put HS5.out (by unfold maxLen; omega) x
          have HS7 := Lib.hid hs7
          have H7 : Hid (TrkZ w w7 R salt L (fun k => k = w2.heap.size ∨ ∃ o' sp, (some ⟨g, o, none⟩ : Option Addr) = some ⟨k, o', sp⟩ ∧ 0 < ids.length)) := Lib.hid (H5.out.grown hg7 (fun j hj => .inl (by cases hj; rfl)) (fun j hj => ⟨.inl hj, by
            obtain ⟨F, _, _, _, hz⟩ := H5.out
            exact Nat.lt_of_lt_of_le (hz j hj).2.1 hg7.size⟩))
          have HI7 : Hid (IdsAt w7 (some ⟨g, o, none⟩) ids) := Lib.hid (fun i hi => by
            obtain ⟨b', o', e', hb', hc'⟩ := HI5'.out i hi
            cases e'
            have hne : g ≠ w2.heap.size := fun e => by
              obtain ⟨D, ⟨es, clock, hbm, _⟩, _⟩ := HS5.out
              rw [← e] at hbm
              simp only [World.cell?, hbm] at hc'
              cases hc'
            have hcc : w7.cell? ⟨g, o + i, none⟩ = some (.int .u64 ids[i].toNat) := (World.cell?_of_block (a := ⟨g, o + i, none⟩) (hg7.block g hb' (fun e => hne (Option.some.inj e)))).trans hc'
            exact ⟨g, o, rfl, (cell_spot hcc).2, hcc⟩)
          have HK7 : Hid (∀ y ∈ ks' ++ [x], (∃ q, q < p ∧ y ∈ nextL salt L q) ∨ y ∈ ids.take (k + 1)) := Lib.hid (fun y hy => by
            rw [List.take_succ_eq_append_getElem hkl, HX.out]
            rcases List.mem_append.1 hy with hy | hy
            · exact (HK4.out y hy).imp id (fun h => List.mem_append.2 (.inl h))
            · exact .inr (List.mem_append.2 (.inr hy)))
          clear hs7 hg7
          go_wp2_with fail
          go_roundw
          case rel => exact ⟨k + 1, n' + 1, ks' ++ [x], by omega, by omega, by go_num, HS7, HI7, H7, HK7⟩
          case measure => simp [intOf]; omega
        · have he : ids.take k = ids := List.take_of_length_le (by omega)
          go_wp2_with fail
          go_roundw
          case rel => exact ⟨p + 1, n', ks', by omega, by omega, by go_num, HS4, Lib.hid (H4.out.less (fun k hk => .inl hk)), Lib.hid (fun y hy => by
            rcases HK4.out y hy with ⟨q, hq, hqm⟩ | hm
            · exact ⟨q, by omega, hqm⟩
            · rw [he] at hm
              exact ⟨p, by omega, by rw [HIDS.out]; exact hm⟩)⟩
          case measure => simp [intOf]; omega
    · obtain ⟨wC, hwC⟩ : ∃ x, x = wr := ⟨_, rfl⟩
      subst hwC
      have HTC := Lib.hid HT.out.trk
      clear HT HS HK
      go_wp2_with fail
      go_loopw [59] (fun i wr => ∃ (q : Nat) (M : List TEnt), q ≤ 8 ∧ i = .int .i64 q ∧ Hid (Trk w wr R salt M)) (fun i _ => 8 - (intOf i).toNat)
      case atStart => exact ⟨0, L, by omega, rfl, HTC⟩
      case round =>
        obtain ⟨q, M, hq, rfl, HM⟩ := hrel
        by_cases hq8 : q < 8
        · obtain ⟨ids, hids⟩ : ∃ ids, nextL salt M q = ids := ⟨_, rfl⟩
          have hlen : ids.length ≤ 20 := hids ▸ next_len HM.out.good hq8
          have HIDS := Lib.hid hids
          clear hids
          go_wp2_with fail
          with_reducible refine (trkz_next_at w R salt M _ _ HM.out.z q hq8 ids HIDS.out).mono ?_
          rintro e w3 ⟨a3, cap3, rfl, ⟨_, hi3⟩, h3, s3⟩
          have HI3 := Lib.hid hi3
          have H3 := Lib.hid h3
          clear hi3 h3 s3
          go_wp2_with fail
          obtain ⟨wD, hwD⟩ : ∃ x, x = wr := ⟨_, rfl⟩
          subst hwD
          go_loopw [70] (fun i wr => ∃ (k : Nat) (K : List TEnt), k ≤ ids.length ∧ i = .int .i64 k ∧ Hid (IdsAt wr a3 ids) ∧ Hid (TrkZ w wr R salt K (fun k => False ∨ ∃ o sp, a3 = some ⟨k, o, sp⟩ ∧ 0 < ids.length)) ∧ Hid (Asked salt M K q k)) (fun i _ => ids.length - (intOf i).toNat)
          case atStart => exact ⟨0, M, Nat.zero_le _, rfl, HI3, H3, Lib.hid (asked_start salt M q)⟩
          case round =>
            obtain ⟨k, K, hk, rfl, HI4, H4, HA4⟩ := hrel
            by_cases hkl : k < ids.length
            · obtain ⟨g, o, rfl, hg, c0⟩ := HI4.out k hkl
              obtain ⟨q1, q2, q3⟩ := asked_step HM.out.good hq8 HA4.out (by rw [HIDS.out]; exact hkl)
              obtain ⟨x, hx⟩ : ∃ x, ids[k] = x := ⟨_, rfl⟩
              have hx' : (nextL salt M q)[k]'(by rw [HIDS.out]; exact hkl) = x := (List.getElem_of_eq HIDS.out _).trans hx
              rw [hx'] at q1 q2 q3
              rw [hx] at c0
              have Q1 := Lib.hid q1
              have Q2 := Lib.hid q2
              have Q3 := Lib.hid q3
              clear q1 q2 q3 hx hx'
              go_wp2_with fail
              with_reducible refine (trkz_ask w R salt K _ _ H4.out q x 100 0 _ Q1.out).mono ?_
              rintro e w5 ⟨rfl, h5, s5⟩
              have HI5 := Lib.hid (idsAt_same HI4.out s5 (fun k' o' sp e hpos => .inr ⟨o', sp, e, hpos⟩))
              have H5 := Lib.hid h5
              clear h5 s5
              go_wp2_with fail
              with_reducible refine (trkz_ask w R salt _ _ _ H5.out q x 100 7 _ Q2.out).mono ?_
              rintro e w6 ⟨rfl, h6, s6⟩
              have HI6 := Lib.hid (idsAt_same HI5.out s6 (fun k' o' sp e hpos => .inr ⟨o', sp, e, hpos⟩))
              have H6 := Lib.hid h6
              clear h6 s6
              go_wp2_with fail
              go_roundw
              case rel => exact ⟨k + 1, _, by omega, by go_num, HI6, H6, Q3⟩
              case measure => simp [intOf]; omega
            · have HE := Lib.hid (asked_end HA4.out (by rw [HIDS.out]; omega))
              go_wp2_with fail
              with_reducible refine (trkz_next_at w R salt K _ _ H4.out q hq8 [] HE.out).mono ?_
              rintro e w5 ⟨a5, cap5, rfl, _, h5, _⟩
              have H5 := Lib.hid h5.trk
              clear h5
              go_wp2_with fail
              go_roundw
              case rel => exact ⟨q + 1, K, by omega, by go_num, H5⟩
              case measure => simp [intOf]; omega
        · go_wp2_with fail
          go_ret
          exact ⟨rfl, HM.out.below⟩
end Go.Proofs.Ytamiddnkgjfdhaa
