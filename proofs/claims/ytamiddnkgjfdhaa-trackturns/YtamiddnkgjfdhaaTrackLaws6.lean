/-
  The law that asks one after another: TrackTurns.
-/
import Derived.Test.YtamiddnkgjfdhaaTurnMath
import Derived.Test.YtamiddnkgjfdhaaTurnMem
namespace Go.Proofs.Ytamiddnkgjfdhaa
open Go.RowKit Go.Maps

theorem peers_few {qs : List (Nat × Bool)} (h1 : (peersOf qs).Nodup) (h2 : ∀ p ∈ peersOf qs, p < 8) : (peersOf qs).length ≤ 8 := by
  have := nodup_leN h1 (b := List.range 8) (fun p hp => List.mem_range.2 (h2 p hp))
  simpa using this
theorem prefs_le (qs : List (Nat × Bool)) : (prefsOf qs).length ≤ (peersOf qs).length := by
  unfold prefsOf peersOf
  rw [List.length_map, List.length_map]
  exact List.length_filter_le _ _
/-- What the first loop has done. -/
def Firsts (qs : List (Nat × Bool)) : Prop := (peersOf qs).Nodup ∧ ∀ p ∈ peersOf qs, p < 8
theorem firsts_nil : Firsts [] := ⟨List.nodup_nil, by simp [peersOf]⟩
theorem firsts_add {qs : List (Nat × Bool)} (h : Firsts qs) {p : Nat} (hp : p < 8) (hn : p ∉ peersOf qs) (f : Bool) : Firsts (qs ++ [(p, f)]) := by
  unfold Firsts
  rw [peersOf_append]
  refine ⟨?_, fun q hq => ?_⟩
  · rw [List.nodup_append]
    exact ⟨h.1, by simp, fun a ha b hb => by rw [List.mem_singleton.1 hb]; exact fun e => hn (e ▸ ha)⟩
  · rcases List.mem_append.1 hq with hq | hq
    · exact h.2 q hq
    · rw [List.mem_singleton.1 hq]; exact hp
theorem firsts_len {qs : List (Nat × Bool)} (h : Firsts qs) : (castL (peersOf qs)).length ≤ 8 := by rw [castL_length]; exact peers_few h.1 h.2
theorem firsts_len2 {qs : List (Nat × Bool)} (h : Firsts qs) : (castL (prefsOf qs)).length ≤ 8 := by rw [castL_length]; exact Nat.le_trans (prefs_le qs) (peers_few h.1 h.2)
/-- Whom the inner loop has found. -/
def foundAt (z n : Nat) : Int := if n ≤ z then -1 else z
theorem castL_at (T : List Nat) (j : Nat) (h : j < (castL T).length) (h' : j < T.length) : (castL T)[j] = ((T[j] : Nat) : Int) := List.getElem_map _
theorem turn_took {ps : List (Nat × Bool)} {x : UInt64} {T : List Nat} {L : List TEnt} (h : TurnSt ps x T L) (j : Nat) (hj : j < T.length) : ((castL T).take j).contains (T[j] : Int) = false ∧ (castL (peersOf ps)).contains (T[j] : Int) = true ∧ (castL (prefsOf ps)).contains (T[j] : Int) = decide ((j : Int) < ((castL (prefsOf ps)).length : Int)) := by
  refine ⟨?_, ?_, ?_⟩
  · rw [show (castL T).take j = castL (T.take j) by unfold castL; rw [List.map_take], castL_contains, ← Bool.not_eq_true, List.contains_iff_mem]
    intro hm
    obtain ⟨i, hi, e⟩ := List.getElem_of_mem hm
    rw [List.length_take] at hi
    rw [List.getElem_take] at e
    have := nodup_inj h.nodup (by omega) hj e
    omega
  · rw [castL_contains, List.contains_iff_mem]
    exact h.sub _ (List.getElem_mem hj)
  · rw [castL_contains, castL_length, Bool.eq_iff_iff, List.contains_iff_mem, decide_eq_true_iff, h.pref j hj]
    omega
set_option maxRecDepth 20000 in
set_option maxHeartbeats 4000000 in
theorem trackTurns_walk (salt x : UInt64) (ps : List Int) (a : Option Addr) (cap : Nat) (bs : List Bool) (b : Option Addr) (cb : Nat) (hl : ps.length ≤ maxLen) (_ : bs.length ≤ maxLen) (w : World) (hi : IntsAt w a ps) (hj : BoolsAt w b bs) :
    Calls Try.prog 8 #[.int .u64 salt.toNat, .int .u64 x.toNat, .slice a ps.length cap, .slice b bs.length cb] w fun e w' => e = .returned (.bool true) ∧ Below w.heap.size w w' := by
  unfold maxLen at hl
  have HI := Lib.hid hi
  have HJ := Lib.hid hj
  clear hi hj
  go_enter Try.func8, Try.ntmps8
  go_wp2_with fail
  with_reducible refine (asked_any _).mono ?_
  rintro e w1 ⟨rfl, hb1⟩
  go_wp2_with fail
  with_reducible refine (trk_new w salt _ hb1).mono ?_
  rintro e w2 ⟨R, rfl, h2⟩
  have H2 := Lib.hid (Bag.start h2)
  clear h2 hb1
  go_wp2_with fail
  go_loopw [10, 11, 31] (fun u v i wr => ∃ (k : Nat) (qs : List (Nat × Bool)), k ≤ ps.length ∧ i = .int .i64 k ∧ Hid (Bag w wr R salt (onesE x 0 qs) u (castL (peersOf qs)) v (castL (prefsOf qs)) (.slice none 0 0) []) ∧ Hid (Firsts qs)) (fun _ _ i _ => ps.length - (intOf i).toNat)
  case atStart => exact ⟨0, [], Nat.zero_le _, rfl, H2, Lib.hid firsts_nil⟩
  case round =>
    clear H2
    obtain ⟨k, qs, hk, rfl, HB, HQ⟩ := hrel
    have hf1 := firsts_len HQ.out
    have hf2 := firsts_len2 HQ.out
    obtain ⟨a1, cap1, e1, _, i1, _⟩ := ownInts_at HB.out.2.o1
    obtain ⟨a2, cap2, e2, _, i2, _⟩ := ownInts_at HB.out.2.o2
    subst e1 e2
    have I1 := Lib.hid i1
    have I2 := Lib.hid i2
    clear i1 i2
    by_cases hkl : k < ps.length
    · obtain ⟨g, o, rfl, hg, c0⟩ := intsAt_kept HB.out.below HI.out k hkl
      obtain ⟨q, hq⟩ : ∃ q : Nat, ps[k] % 8 = (q : Int) := ⟨(ps[k] % 8).toNat, by omega⟩
      have hq8 : q < 8 := by omega
      have HR := Lib.hid hq
      generalize ps[k] = pk at c0 HR
      clear hq
      cases hc : (peersOf qs).contains q with
      | true =>
        have HC : Hid ((castL (peersOf qs)).contains (q : Int) = true) := Lib.hid ((castL_contains _ _).trans hc)
        clear hc
        go_wp2_with fail
        with_reducible refine (rest_is pk 8 q _ (by decide) (by decide) HR.out).mono ?_
        rintro e w3 ⟨rfl, rfl⟩
        go_wp2_with fail
        with_reducible refine (hasInt_any _ q true HC a1 cap1 _ (by unfold maxLen; omega) I1.out).mono ?_
        rintro e w3 ⟨rfl, rfl⟩
        go_wp2_with fail
        go_roundw
        case rel => exact ⟨k + 1, qs, by omega, by go_num, HB, HQ⟩
        case measure => simp [intOf]; omega
      | false =>
        have HC : Hid ((castL (peersOf qs)).contains (q : Int) = false) := Lib.hid ((castL_contains _ _).trans hc)
        have HN : Hid (q ∉ peersOf qs) := Lib.hid (fun hm => by rw [List.contains_iff_mem.2 hm] at hc; cases hc)
        clear hc
        by_cases hkb : k < bs.length
        · obtain ⟨g9, o9, rfl, hg9, c9⟩ := boolsAt_kept HB.out.below HJ.out k hkb
          have hki : (k : Int) < (bs.length : Int) := by omega
          cases hf : bs[k] with
          | true =>
            rw [hf] at c9
            clear hf
            go_wp2_with fail
            with_reducible refine (rest_is pk 8 q _ (by decide) (by decide) HR.out).mono ?_
            rintro e w3 ⟨rfl, rfl⟩
            go_wp2_with fail
            with_reducible refine (hasInt_any _ q false HC a1 cap1 _ (by unfold maxLen; omega) I1.out).mono ?_
            rintro e w3 ⟨rfl, rfl⟩
            go_wp2_with fail
            with_reducible refine (bag_announce w R salt _ _ _ _ _ _ _ _ HB.out q x 0 true 0 _ (ones_ann hq8 HN.out true)).mono ?_
            rintro e w4 ⟨rfl, h4⟩
            have H4 := Lib.hid h4
            clear h4
            go_wp2_with (at_builtin; first | (refine append_int rfl _ _ rfl q rfl rfl H4.out.2.o1 (by omega) H4.out.below.size ?_; intro g5 cap5 w5 ho5 _ hg5 hat5; have H5 := Lib.hid (H4.out.grown hg5 hat5 ho5).swap; clear ho5 hg5 hat5) | (refine append_int rfl _ _ rfl q rfl rfl H5.out.2.o1 (by omega) H5.out.below.size ?_; intro g6 cap6 w6 ho6 _ hg6 hat6; have H6 := Lib.hid (H5.out.grown hg6 hat6 ho6).swap; clear ho6 hg6 hat6))
            go_roundw
            case rel => exact ⟨k + 1, qs ++ [(q, true)], by omega, by go_num, Lib.hid (by rw [peersOf_append, prefsOf_append, castL_append, if_pos rfl, castL_append]; exact H6.out), Lib.hid (firsts_add HQ.out hq8 HN.out true)⟩
            case measure => simp [intOf]; omega
          | false =>
            rw [hf] at c9
            clear hf
            go_wp2_with fail
            with_reducible refine (rest_is pk 8 q _ (by decide) (by decide) HR.out).mono ?_
            rintro e w3 ⟨rfl, rfl⟩
            go_wp2_with fail
            with_reducible refine (hasInt_any _ q false HC a1 cap1 _ (by unfold maxLen; omega) I1.out).mono ?_
            rintro e w3 ⟨rfl, rfl⟩
            go_wp2_with fail
            with_reducible refine (bag_announce w R salt _ _ _ _ _ _ _ _ HB.out q x 0 false 0 _ (ones_ann hq8 HN.out false)).mono ?_
            rintro e w4 ⟨rfl, h4⟩
            have H4 := Lib.hid h4
            clear h4
            go_wp2_with (at_builtin; refine append_int rfl _ _ rfl q rfl rfl H4.out.2.o1 (by omega) H4.out.below.size ?_; intro g5 cap5 w5 ho5 _ hg5 hat5)
            have H5 := Lib.hid (H4.out.grown hg5 hat5 ho5)
            clear ho5 hg5 hat5
            go_wp2_with fail
            go_roundw
            case rel => exact ⟨k + 1, qs ++ [(q, false)], by omega, by go_num, Lib.hid (by rw [peersOf_append, prefsOf_append, castL_append, if_neg (by decide), List.append_nil]; exact H5.out), Lib.hid (firsts_add HQ.out hq8 HN.out false)⟩
            case measure => simp [intOf]; omega
        · have hki : ¬ (k : Int) < (bs.length : Int) := by omega
          go_wp2_with fail
          with_reducible refine (rest_is pk 8 q _ (by decide) (by decide) HR.out).mono ?_
          rintro e w3 ⟨rfl, rfl⟩
          go_wp2_with fail
          with_reducible refine (hasInt_any _ q false HC a1 cap1 _ (by unfold maxLen; omega) I1.out).mono ?_
          rintro e w3 ⟨rfl, rfl⟩
          go_wp2_with fail
          with_reducible refine (bag_announce w R salt _ _ _ _ _ _ _ _ HB.out q x 0 false 0 _ (ones_ann hq8 HN.out false)).mono ?_
          rintro e w4 ⟨rfl, h4⟩
          have H4 := Lib.hid h4
          clear h4
          go_wp2_with (at_builtin; refine append_int rfl _ _ rfl q rfl rfl H4.out.2.o1 (by omega) H4.out.below.size ?_; intro g5 cap5 w5 ho5 _ hg5 hat5)
          have H5 := Lib.hid (H4.out.grown hg5 hat5 ho5)
          clear ho5 hg5 hat5
          go_wp2_with fail
          go_roundw
          case rel => exact ⟨k + 1, qs ++ [(q, false)], by omega, by go_num, Lib.hid (by rw [peersOf_append, prefsOf_append, castL_append, if_neg (by decide), List.append_nil]; exact H5.out), Lib.hid (firsts_add HQ.out hq8 HN.out false)⟩
          case measure => simp [intOf]; omega
    · obtain ⟨wB, hwB⟩ : ∃ x, x = wr := ⟨_, rfl⟩
      subst hwB
      clear HI HJ
      have HN : Hid ((castL (peersOf qs)).length = qs.length) := Lib.hid (by rw [castL_length]; exact List.length_map _)
      go_wp2_with fail
      with_reducible refine (bag_due w R salt _ _ _ _ _ _ _ _ HB.out 0).mono ?_
      rintro e w3 ⟨rfl, h3⟩
      rw [ones_due] at h3
      have H3 := Lib.hid h3
      clear h3
      go_wp2_with fail
      go_loopw [15, 16, 71] (fun nv y i wr => ∃ (k : Nat) (T : List Nat) (L : List TEnt), k ≤ (castL (peersOf qs)).length ∧ i = .int .i64 k ∧ nv = .int .i64 ((k : Int) + 1) ∧ T.length = k ∧ Hid (Bag w wr R salt L (.slice a1 (castL (peersOf qs)).length cap1) (castL (peersOf qs)) (.slice a2 (castL (prefsOf qs)).length cap2) (castL (prefsOf qs)) y (castL T)) ∧ Hid (TurnSt qs x T L)) (fun _ _ i _ => (castL (peersOf qs)).length - (intOf i).toNat)
      case atStart => exact ⟨0, [], _, Nat.zero_le _, rfl, rfl, rfl, H3, Lib.hid (turn_start x qs)⟩
      case round =>
        clear H3 HB I1 I2
        obtain ⟨k, T, L, hk, rfl, rfl, hT, HB, HT⟩ := hrel
        have HTL : Hid ((castL T).length = T.length) := Lib.hid (castL_length T)
        have hTl : (castL T).length ≤ 8 := by have := HTL.out; omega
        obtain ⟨a3, cap3, e3, hc3, i3, _⟩ := ownInts_at HB.out.2.o3
        subst e3
        have I3 := Lib.hid i3
        clear i3
        by_cases hkl : k < (castL (peersOf qs)).length
        · obtain ⟨z, hz8, hno, hyes, L', hask, hts⟩ := turn_step salt HB.out.1.good HQ.out.1 HT.out (by have := HN.out; omega) (now := (k : Int) + 1) (by unfold goodT; omega)
          have HNO := Lib.hid hno
          have HYES := Lib.hid hyes
          have HASK := Lib.hid hask
          have HTS := Lib.hid hts
          clear hno hyes hask hts
          obtain ⟨wC, hwC⟩ : ∃ x, x = wr := ⟨_, rfl⟩
          subst hwC
          go_wp2_with fail
          go_loopw [17, 73] (fun f i wr => ∃ q : Nat, q ≤ 8 ∧ i = .int .i64 q ∧ f = .int .i64 (foundAt z q) ∧ Hid (Bag w wr R salt L (.slice a1 (castL (peersOf qs)).length cap1) (castL (peersOf qs)) (.slice a2 (castL (prefsOf qs)).length cap2) (castL (prefsOf qs)) (.slice a3 (castL T).length cap3) (castL T))) (fun _ i _ => 8 - (intOf i).toNat)
          case atStart => exact ⟨0, by omega, rfl, by unfold foundAt; rw [if_pos (Nat.zero_le _)], HB⟩
          case round =>
            clear HB
            obtain ⟨q, hq, rfl, rfl, HB⟩ := hrel
            by_cases hq8 : q < 8
            · by_cases hqz : q = z
              · subst hqz
                rw [show foundAt q q = -1 from if_pos (Nat.le_refl _)]
                obtain ⟨ids, hids⟩ : ∃ ids, nextL salt L q = ids := ⟨_, rfl⟩
                have hpos : 0 < ids.length := by have := HYES.out; rw [hids] at this; exact List.length_pos_of_mem this
                have HIDS := Lib.hid hids
                clear hids
                go_wp2_with fail
                with_reducible refine (bag_next w R salt L _ _ _ _ _ _ _ HB.out q hq8 ids HIDS.out).mono ?_
                rintro e w4 ⟨a4, cap4, rfl, h4⟩
                have H4 := Lib.hid h4
                clear h4
                go_wp2_with fail
                go_roundw
                case rel => exact ⟨q + 1, by omega, by go_num, by unfold foundAt; rw [if_neg (by omega)], H4⟩
                case measure => simp [intOf]; omega
              · have hfq : foundAt z (q + 1) = foundAt z q := by unfold foundAt; by_cases h : q ≤ z; rw [if_pos (by omega), if_pos h]; rw [if_neg (by omega), if_neg h]
                have HE := Lib.hid (HNO.out q hqz)
                generalize foundAt z q = fq at hfq
                go_wp2_with fail
                with_reducible refine (bag_next w R salt L _ _ _ _ _ _ _ HB.out q hq8 [] HE.out).mono ?_
                rintro e w4 ⟨a4, cap4, rfl, h4⟩
                have H4 := Lib.hid h4
                clear h4
                go_wp2_with fail
                go_roundw
                case rel => exact ⟨q + 1, by omega, by go_num, by rw [hfq], H4⟩
                case measure => simp [intOf]; omega
            · rw [show foundAt z q = z from if_neg (by omega)]
              go_wp2_with fail
              with_reducible refine (bag_ask w R salt L _ _ _ _ _ _ _ HB.out z x _ 0 L' HASK.out).mono ?_
              rintro e w4 ⟨rfl, h4⟩
              have H4 := Lib.hid h4.rot.rot
              clear h4
              go_wp2_with (at_builtin; refine append_int rfl _ _ rfl z rfl rfl H4.out.2.o1 (by omega) H4.out.below.size ?_; intro g5 cap5 w5 ho5 _ hg5 hat5)
              have H5 := Lib.hid (H4.out.grown hg5 hat5 ho5).rot
              clear ho5 hg5 hat5
              go_wp2_with fail
              with_reducible refine (bag_due w R salt _ _ _ _ _ _ _ _ H5.out _).mono ?_
              rintro e w6 ⟨rfl, h6⟩
              have H6 := Lib.hid h6
              clear h6
              go_wp2_with fail
              go_roundw
              case rel => exact ⟨k + 1, T ++ [z], _, by omega, by go_num, by go_num, by rw [List.length_append, hT]; rfl, Lib.hid (by rw [castL_append]; exact H6.out), HTS⟩
              case measure => simp [intOf]; omega
        · have hTq : T.length = qs.length := by have := HN.out; omega
          have hL : L = [] := HT.out.less (by omega)
          subst hL
          obtain ⟨b1, d1, e1, _, i1, _⟩ := ownInts_at HB.out.2.o1
          cases e1
          obtain ⟨b2, d2, e2, _, i2, _⟩ := ownInts_at HB.out.2.o2
          cases e2
          have I1 := Lib.hid i1
          have I2 := Lib.hid i2
          clear i1 i2
          go_wp2_with fail
          obtain ⟨wC, hwC⟩ : ∃ x, x = wr := ⟨_, rfl⟩
          subst hwC
          go_loop [111] (fun i => ∃ j : Nat, j ≤ (castL T).length ∧ i = .int .i64 j) (fun i => (castL T).length - (intOf i).toNat)
          case atStart => exact ⟨0, Nat.zero_le _, rfl⟩
          case round =>
            obtain ⟨j, hj, rfl⟩ := hrel
            by_cases hjl : j < (castL T).length
            · obtain ⟨g, o, rfl, hg, c0⟩ := I3.out j hjl
              have hjT : j < T.length := by have := HTL.out; omega
              have ht := turn_took HT.out j hjT
              have hc0 : (castL T)[j] = ((T[j] : Nat) : Int) := castL_at T j hjl hjT
              rw [hc0] at c0
              obtain ⟨p, hp⟩ : ∃ p, T[j] = p := ⟨_, rfl⟩
              rw [hp] at c0 ht
              obtain ⟨t1, t2, t3⟩ := ht
              have T1 := Lib.hid t1
              have T2 := Lib.hid t2
              have T3 := Lib.hid t3
              clear t1 t2 t3 hp hc0
              go_wp2_with fail
              with_reducible refine (hasInt_take (castL T) j false p _ _ _ (by omega) (by unfold maxLen; omega) I3.out T1.out).mono ?_
              rintro e w5 ⟨rfl, rfl⟩
              go_wp2_with fail
              with_reducible refine (hasInt_any _ p true T2 a1 cap1 _ (by unfold maxLen; omega) I1.out).mono ?_
              rintro e w5 ⟨rfl, rfl⟩
              go_wp2_with fail
              with_reducible refine (hasInt_any _ p _ T3 a2 cap2 _ (by unfold maxLen; omega) I2.out).mono ?_
              rintro e w5 ⟨rfl, rfl⟩
              go_wp2_with fail
              go_round
              case rel => exact ⟨j + 1, by omega, by go_num⟩
              case measure => simp [intOf]; omega
            · go_wp2_with fail
              with_reducible refine (bag_holders w R salt [] _ _ _ _ _ _ _ HB.out x [] rfl).mono ?_
              rintro e w5 ⟨a5, cap5, rfl, h5⟩
              have H5 := Lib.hid h5
              clear h5
              go_wp2_with fail
              go_ret
              exact ⟨rfl, H5.out.below⟩
end Go.Proofs.Ytamiddnkgjfdhaa
