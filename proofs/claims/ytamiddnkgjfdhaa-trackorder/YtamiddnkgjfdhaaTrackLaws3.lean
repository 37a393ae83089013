/-
  TrackGone, TrackOrder and TrackHolders: their walks.
-/
import Derived.Test.YtamiddnkgjfdhaaTrackZ
namespace Go.Proofs.Ytamiddnkgjfdhaa
open Go.RowKit Go.Maps

/-! ### TrackGone -/
theorem gone_holders (L : List TEnt) (x : UInt64) : holdersL (forgetL L x) x = [] := by
  unfold holdersL
  rw [List.filter_eq_nil_iff.2]
  · rfl
  · intro p _ hp
    obtain ⟨e, he, hi⟩ := List.any_eq_true.1 hp
    have h1 := (List.mem_filter.1 he).2
    simp only [isE, Bool.and_eq_true, beq_iff_eq] at hi
    rw [hi.2] at h1
    simp at h1
theorem gone_peer (L : List TEnt) (p : Nat) : (dropL L p).filter (fun e => e.peer == p) = [] := by
  rw [List.filter_eq_nil_iff]
  intro e he hp
  have h1 := (List.mem_filter.1 (List.mem_filter.1 he).1).2
  rw [hp] at h1
  cases h1
theorem trackGone_walk (salt : UInt64) (l : List OpD) (a : Option Addr) (cap : Nat) (x : UInt64) (peer : Int) (hl : l.length ≤ maxLen) (_hp : -9223372036854775808 ≤ peer ∧ peer ≤ 9223372036854775807) (w : World) (hi : OpsAt w a l) :
    Calls Try.prog 7 #[.int .u64 salt.toNat, .slice a l.length cap, .int .u64 x.toNat, .int .i64 peer] w fun e w' => e = .returned (.bool true) ∧ Below w.heap.size w w' := by
  obtain ⟨n, hn, hn8⟩ : ∃ n : Nat, peer % 8 = (n : Int) ∧ n < 8 := ⟨(peer % 8).toNat, by omega, by omega⟩
  have HN := Lib.hid hn
  have HI := Lib.hid hi
  clear hi hn _hp
  go_enter Try.func7, Try.ntmps7
  go_wp2_with fail
  with_reducible refine (asked_any _).mono ?_
  rintro e w1 ⟨rfl, hb1⟩
  go_wp2_with fail
  with_reducible refine (done_any w salt l a cap hl _ hb1 HI.out).mono ?_
  rintro e w2 ⟨R, rfl, h2⟩
  have H2 := Lib.hid h2
  clear h2 hb1
  generalize stepsL [] l = L at H2
  go_wp2_with fail
  with_reducible refine (trk_forget w R salt L _ H2.out x).mono ?_
  rintro e w3 ⟨rfl, h3⟩
  have H3 := Lib.hid h3
  clear h3
  go_wp2_with fail
  with_reducible refine (rest_is peer 8 n _ (by decide) (by decide) HN.out).mono ?_
  rintro e w4 ⟨rfl, rfl⟩
  go_wp2_with fail
  with_reducible refine (trkz_holders w R salt _ _ _ H3.out.z x [] (gone_holders L x)).mono ?_
  rintro e w5 ⟨a5, cap5, rfl, _, h5, _⟩
  have H5 := Lib.hid h5.trk
  clear h5
  generalize forgetL L x = M at H5
  have hd : dropC M n = (0, dropL M n) := by unfold dropC; rw [if_pos ⟨by omega, by omega⟩]; rfl
  have HD := Lib.hid hd
  clear hd
  go_wp2_with fail
  with_reducible refine (trk_drop w R salt M _ H5.out n 0 _ HD.out).mono ?_
  rintro e w6 ⟨rfl, h6⟩
  have H6 := Lib.hid h6
  clear h6
  have hg := gone_peer M n
  have HC : Hid ((if goodP (n : Int) then ((((dropL M n).filter fun e => e.peer == (n : Int).toNat).length : Int), (((dropL M n).filter fun e => e.peer == (n : Int).toNat && e.st == 2).length : Int), (0 : Int)) else (0, 0, 1)) = ((0 : Int), (0 : Int), (0 : Int))) := Lib.hid (by
    rw [if_pos ⟨by omega, by omega⟩]
    have h2 : ((dropL M n).filter fun e => e.peer == n && e.st == 2).length ≤ ((dropL M n).filter fun e => e.peer == n).length := by
      generalize dropL M n = K
      induction K with
      | nil => simp
      | cons a r ih =>
        simp only [List.filter_cons]
        cases h1 : a.peer == n <;> cases h2 : a.st == 2 <;> simp <;> omega
    rw [hg] at h2
    simp only [Int.toNat_natCast, hg, List.length_nil, Nat.le_zero] at h2 ⊢
    rw [h2]
    rfl)
  have HX : Hid ((idsOf (dropL M n) n).filter ((ofL salt (dropL M n)).isNext n) = []) := Lib.hid (by unfold idsOf; rw [hg]; rfl)
  clear hg
  go_wp2_with fail
  with_reducible refine (trk_counts w R salt _ _ H6.out n 0 0 0 HC.out).mono ?_
  rintro e w7 ⟨rfl, h7⟩
  have H7 := Lib.hid h7
  clear h7
  go_wp2_with fail
  with_reducible refine (trk_next w R salt _ _ H7.out n n rfl hn8 [] HX.out).mono ?_
  rintro e w8 ⟨a8, cap8, rfl, _, h8⟩
  have H8 := Lib.hid h8
  clear h8
  go_wp2_with fail
  go_ret
  exact ⟨rfl, H8.out.below⟩

/-! ### TrackOrder -/
def sixL (st : Nat) (l : List UInt64) : List TEnt := l.map fun x => ⟨6, x, false, st, 0⟩
theorem six_any (st : Nat) (l : List UInt64) (x : UInt64) : (sixL st l).any (isE 6 x) = l.contains x := by
  rw [Bool.eq_iff_iff, List.any_eq_true, List.contains_iff_mem]
  unfold sixL
  constructor
  · rintro ⟨e, he, hi⟩
    obtain ⟨y, hy, rfl⟩ := List.mem_map.1 he
    simp only [isE, Bool.and_eq_true, beq_iff_eq] at hi
    rw [← hi.2]; exact hy
  · intro hx
    exact ⟨_, List.mem_map.2 ⟨x, hx, rfl⟩, by simp [isE]⟩
theorem six_count (st : Nat) (l : List UInt64) : ((sixL st l).filter fun e => e.peer == 6).length = l.length := by
  rw [List.filter_eq_self.2]
  · simp [sixL]
  · intro e he
    obtain ⟨y, _, rfl⟩ := List.mem_map.1 he
    rfl
theorem six_ann (l : List UInt64) (x : UInt64) : annC (sixL 0 l) 6 x 0 false = if l.contains x then (6, sixL 0 l) else if 20 ≤ l.length then (2, sixL 0 l) else (0, sixL 0 (l ++ [x])) := by
  unfold annC
  rw [if_pos ⟨by decide, by decide⟩]
  show annL (sixL 0 l) 6 x 0 false = _
  unfold annL
  rw [six_any, six_count]
  congr 1
  congr 1
  unfold sixL
  rw [List.map_append]
  rfl
theorem six_due (l : List UInt64) : dueL 0 (sixL 0 l) = sixL 1 l := by
  have h1 : (sixL 0 l).map (dueE 0) = sixL 1 l := by
    unfold sixL
    rw [List.map_map]
    rfl
  unfold dueL
  rw [h1]
  unfold settleL
  rw [List.filter_eq_self]
  intro e he
  unfold openL
  rw [List.any_eq_true]
  refine ⟨e, he, ?_⟩
  obtain ⟨y, _, rfl⟩ := List.mem_map.1 he
  simp
theorem six_next (salt : UInt64) {l : List UInt64} (hn : l.Nodup) : (idsOf (sixL 1 l) 6).filter ((ofL salt (sixL 1 l)).isNext 6) = l := by
  have hi : idsOf (sixL 1 l) 6 = l := by
    unfold idsOf
    rw [List.filter_eq_self.2]
    · unfold sixL
      rw [List.map_map]
      exact List.map_id' l
    · intro e he
      obtain ⟨y, _, rfl⟩ := List.mem_map.1 he
      rfl
  rw [hi, List.filter_eq_self]
  intro x hx
  have he : entsOf (sixL 1 l) x = [⟨6, x, false, 1, 0⟩] := by
    unfold entsOf sixL
    rw [List.filter_map]
    have : l.filter ((fun e : TEnt => e.id == x) ∘ fun x => ⟨6, x, false, 1, 0⟩) = [x] := by
      show l.filter (fun y => y == x) = [x]
      clear hi
      induction l with
      | nil => simp at hx
      | cons a r ih =>
        obtain ⟨ha, hr⟩ := List.nodup_cons.1 hn
        by_cases hax : a = x
        · subst hax
          rw [List.filter_cons_of_pos (by simp), List.filter_eq_nil_iff.2]
          intro y hy e
          exact ha (beq_iff_eq.1 e ▸ hy)
        · rw [List.filter_cons_of_neg (by simpa using hax)]
          exact ih hr ((List.mem_cons.1 hx).resolve_left (fun e => hax e.symm))
    rw [this]
    rfl
  unfold TS.isNext TS.best
  rw [ofL_ents, he]
  rfl
theorem trackOrder_walk (salt : UInt64) (l : List UInt64) (a : Option Addr) (cap : Nat) (hl : l.length ≤ maxLen) (w : World) (hi : IdsAt w a l) :
    Calls Try.prog 10 #[.int .u64 salt.toNat, .slice a l.length cap] w fun e w' => e = .returned (.bool true) ∧ Below w.heap.size w w' := by
  unfold maxLen at hl
  have HI := Lib.hid hi
  clear hi
  go_enter Try.func10, Try.ntmps10
  go_wp2_with fail
  with_reducible refine (asked_any _).mono ?_
  rintro e w1 ⟨rfl, hb1⟩
  go_wp2_with fail
  with_reducible refine (trk_new w salt _ hb1).mono ?_
  rintro e w2 ⟨R, rfl, h2⟩
  have H2 := Lib.hid h2
  clear h2 hb1
  go_wp2_with fail
  go_loopw [6, 20] (fun v i wr => ∃ (k : Nat) (d : List UInt64), k ≤ l.length ∧ i = .int .i64 k ∧ Hid (OwnIds wr w.heap.size v d) ∧ Hid (TrkZ w wr R salt (sixL 0 d) (fun k => v.ownBlock = some k)) ∧ Hid (d.Nodup) ∧ d.length ≤ 20) (fun _ i _ => l.length - (intOf i).toNat)
  case atStart => exact ⟨0, [], Nat.zero_le _, rfl, Lib.hid (ownIds_nil _ _), Lib.hid (H2.out.z.less (fun k hk => by cases hk)), Lib.hid List.nodup_nil, by simp⟩
  case round =>
    obtain ⟨k, d, hk, rfl, HO, HT, HN, hd20⟩ := hrel
    rename_i u6
    obtain ⟨vd, hvd⟩ : ∃ v, v = u6 := ⟨_, rfl⟩
    by_cases hlt : k < l.length
    · obtain ⟨b, o, rfl, hb, c0⟩ := idsAt_kept HT.out.below HI.out k hlt
      obtain ⟨x, hx⟩ : ∃ x, l[k] = x := ⟨_, rfl⟩
      rw [hx] at c0
      clear hx
      have hann := six_ann d x
      cases hc : d.contains x with
      | true =>
        rw [hc, if_pos rfl] at hann
        have HA := Lib.hid hann
        have HC := Lib.hid hc
        clear hann hc hvd
        go_wp2_with fail
        with_reducible refine (trkz_announce w R salt _ _ _ HT.out 6 x 0 false 6 _ HA.out).mono ?_
        rintro e w3 ⟨rfl, h3, s3⟩
        have HO3 := Lib.hid (s3.own HO.out (fun k hk => hk))
        have H3 := Lib.hid h3
        clear h3 s3
        obtain ⟨a3, cap3, rfl, _, hi3, _⟩ := owns_idsAt HO3.out
        have HI3 := Lib.hid hi3
        clear hi3
        go_wp2_with fail
        with_reducible refine (hasID_any d x true HC a3 cap3 _ (by unfold maxLen; omega) HI3.out).mono ?_
        rintro e w4 ⟨rfl, rfl⟩
        go_wp2_with fail
        go_roundw
        case rel => exact ⟨k + 1, d, by omega, by go_num, HO3, H3, HN, hd20⟩
        case measure => simp [intOf]; omega
      | false =>
        rw [hc, if_neg (by decide)] at hann
        by_cases h20 : 20 ≤ d.length
        · rw [if_pos h20] at hann
          have HA := Lib.hid hann
          have HC := Lib.hid hc
          have hni : ¬ ((d.length : Int) < 20) := by omega
          clear hann hc hvd
          go_wp2_with fail
          with_reducible refine (trkz_announce w R salt _ _ _ HT.out 6 x 0 false 2 _ HA.out).mono ?_
          rintro e w3 ⟨rfl, h3, s3⟩
          have HO3 := Lib.hid (s3.own HO.out (fun k hk => hk))
          have H3 := Lib.hid h3
          clear h3 s3
          obtain ⟨a3, cap3, rfl, _, hi3, _⟩ := owns_idsAt HO3.out
          have HI3 := Lib.hid hi3
          clear hi3
          go_wp2_with fail
          with_reducible refine (hasID_any d x false HC a3 cap3 _ (by unfold maxLen; omega) HI3.out).mono ?_
          rintro e w4 ⟨rfl, rfl⟩
          go_wp2_with fail
          go_roundw
          case rel => exact ⟨k + 1, d, by omega, by go_num, HO3, H3, HN, hd20⟩
          case measure => simp [intOf]; omega
        · rw [if_neg h20] at hann
          have HA := Lib.hid hann
          have HND : Hid ((d ++ [x]).Nodup) := Lib.hid (by
            rw [List.nodup_append]
            refine ⟨HN.out, List.pairwise_singleton _ _, fun y hy z hz e => ?_⟩
            rw [List.mem_singleton.1 hz] at e
            rw [e] at hy
            rw [List.contains_iff_mem.2 hy] at hc
            cases hc)
          clear hann hc hvd
          go_wp2_with fail
          with_reducible refine (trkz_announce w R salt _ _ _ HT.out 6 x 0 false 0 _ HA.out).mono ?_
          rintro e w3 ⟨rfl, h3, s3⟩
          have HO3 := Lib.hid (s3.own HO.out (fun k hk => hk))
          have H3 := Lib.hid h3
          clear h3 s3
          go_wp2_with (at_builtin; refine append_id2 rfl _ _ rfl x rfl rfl HO3.out (by omega) H3.out.below.size ?_; intro g4 cap4 w4 ho4 hg4 hat4)
          have HO4 := Lib.hid ho4
          have H4 := Lib.hid (H3.out.appended (n := d.length + 1) (cap := cap4) hg4 hat4 (ownIds_block ho4 g4 rfl).2)
          clear ho4 hg4 hat4
          go_wp2_with fail
          go_roundw
          case rel => exact ⟨k + 1, d ++ [x], by omega, by go_num, HO4, H4, HND, by simp; omega⟩
          case measure => simp [intOf]; omega
    · clear hvd
      go_wp2_with fail
      with_reducible refine (trkz_due w R salt _ _ _ HT.out 0).mono ?_
      rintro e w3 ⟨rfl, h3, s3⟩
      rw [six_due] at h3
      have HO3 := Lib.hid (s3.own HO.out (fun k hk => hk))
      have H3 := Lib.hid h3
      clear h3 s3
      go_wp2_with fail
      with_reducible refine (trkz_next w R salt _ _ _ H3.out 6 6 rfl (by decide) d (six_next salt HN.out)).mono ?_
      rintro e w4 ⟨a4, cap4, rfl, ⟨_, hi4⟩, h4, s4⟩
      have HO4 := Lib.hid (s4.own HO3.out (fun k hk => hk))
      have HI4 := Lib.hid hi4
      have H4 := Lib.hid h4.below
      clear h4 s4 hi4
      obtain ⟨a5, cap5, rfl, _, hi5, _⟩ := owns_idsAt HO4.out
      have HI5 := Lib.hid hi5
      clear hi5
      go_wp2_with fail
      with_reducible refine (eqID_is d d a4 a5 cap4 cap5 _ true (by unfold maxLen; omega) HI4.out HI5.out (by simp)).mono ?_
      rintro e w5 ⟨rfl, rfl⟩
      have hle : (d.length : Int) ≤ 20 := by omega
      go_wp2_with fail
      go_ret
      exact ⟨ret_bool (by simp), H4.out⟩

/-! ### TrackHolders -/
/-- All entries are of one ID; the peers are some of those that were named. -/
def OneId (L : List TEnt) (x : UInt64) (ps : List Int) : Prop := (∀ e ∈ L, e.id = x) ∧ ∀ p : Nat, p < 8 → L.any (isE p x) = ps.contains (p : Int)
theorem one_ann {L : List TEnt} {x : UInt64} {ps : List Int} (h : OneId L x ps) (p : Int) : ∃ c L', annC L p x 5 false = (c, L') ∧ OneId L' x (ps ++ [p]) := by
  have hcs : ∀ q : Int, (ps ++ [p]).contains q = (ps.contains q || q == p) := fun q => by
    rw [Bool.eq_iff_iff]
    simp
  unfold annC
  by_cases hc : goodP p
  · rw [if_pos ⟨hc, by decide⟩]
    obtain ⟨n, rfl, hn, hnn⟩ := peer_nat hc
    rw [hnn]
    unfold annL
    cases ha : L.any (isE n x) with
    | true =>
      rw [if_pos rfl]
      refine ⟨6, L, rfl, h.1, fun q hq => ?_⟩
      rw [hcs, h.2 q hq]
      by_cases hqn : q = n
      · subst hqn
        rw [← h.2 q hq, ha]
        rfl
      · have : ((q : Int) == (n : Int)) = false := beq_eq_false_iff_ne.2 (by omega)
        rw [this, Bool.or_false]
    | false =>
      rw [if_neg (by decide)]
      have h0 : L.filter (fun e => e.peer == n) = [] := by
        rw [List.filter_eq_nil_iff]
        intro e he hp
        rw [List.any_eq_false] at ha
        exact ha e he (by simp [isE, beq_iff_eq.1 hp, h.1 e he])
      rw [h0, if_neg (by simp)]
      refine ⟨0, _, rfl, fun e he => ?_, fun q hq => ?_⟩
      · rcases List.mem_append.1 he with he | he
        · exact h.1 e he
        · rw [List.mem_singleton.1 he]
      · rw [List.any_append, hcs, h.2 q hq]
        congr 1
        by_cases hqn : q = n
        · subst hqn; simp [isE]
        · have h1 : ((q : Int) == (n : Int)) = false := beq_eq_false_iff_ne.2 (by omega)
          have h2 : ¬ n = q := fun e => hqn e.symm
          simp [isE, h1, h2]
  · rw [if_neg (fun hh => hc hh.1)]
    refine ⟨1, L, rfl, h.1, fun q hq => ?_⟩
    rw [hcs, h.2 q hq]
    have : ((q : Int) == p) = false := beq_eq_false_iff_ne.2 (fun e => hc ⟨by omega, by omega⟩)
    rw [this, Bool.or_false]
/-- Those of the first k peers that were named. -/
def named (ps : List Int) (k : Nat) : List Int := ((List.range k).filter fun p : Nat => ps.contains (p : Int)).map fun p : Nat => (p : Int)
theorem named_step (ps : List Int) (k : Nat) : named ps (k + 1) = named ps k ++ if ps.contains (k : Int) then [(k : Int)] else [] := by
  unfold named
  rw [List.range_succ, List.filter_append, List.map_append]
  congr 1
  cases h : ps.contains (k : Int) with
  | true => rw [List.filter_cons_of_pos (p := fun p : Nat => ps.contains (p : Int)) h]; rfl
  | false => rw [List.filter_cons_of_neg (p := fun p : Nat => ps.contains (p : Int)) (by rw [h]; decide)]; rfl
theorem named_le (ps : List Int) (k : Nat) : (named ps k).length ≤ k := by
  unfold named
  rw [List.length_map]
  exact Nat.le_trans (List.length_filter_le _ _) (by simp)
theorem one_holders {L : List TEnt} {x : UInt64} {ps : List Int} (h : OneId L x ps) : holdersL L x = named ps 8 := by
  unfold holdersL named
  congr 1
  exact List.filter_congr fun p hp => h.2 p (List.mem_range.1 hp)
theorem one_other {L : List TEnt} {x y : UInt64} {ps : List Int} (h : OneId L x ps) (hy : y ≠ x) : holdersL L y = [] := by
  unfold holdersL
  rw [List.filter_eq_nil_iff.2]
  · rfl
  · intro p _ hp
    obtain ⟨e, he, hi⟩ := List.any_eq_true.1 hp
    simp only [isE, Bool.and_eq_true, beq_iff_eq] at hi
    exact hy (hi.2.symm.trans (h.1 e he))
theorem trackHolders_walk (salt x : UInt64) (ps : List Int) (a : Option Addr) (cap : Nat) (hl : ps.length ≤ maxLen) (w : World) (hi : IntsAt w a ps) :
    Calls Try.prog 11 #[.int .u64 salt.toNat, .int .u64 x.toNat, .slice a ps.length cap] w fun e w' => e = .returned (.bool true) ∧ Below w.heap.size w w' := by
  have hl' := hl
  unfold maxLen at hl
  have HI := Lib.hid hi
  clear hi
  go_enter Try.func11, Try.ntmps11
  go_wp2_with fail
  with_reducible refine (asked_any _).mono ?_
  rintro e w1 ⟨rfl, hb1⟩
  go_wp2_with fail
  with_reducible refine (trk_new w salt _ hb1).mono ?_
  rintro e w2 ⟨R, rfl, h2⟩
  have H2 := Lib.hid h2
  clear h2 hb1
  go_wp2_with fail
  go_loopw [8, 18] (fun v i wr => ∃ k : Nat, k ≤ 8 ∧ i = .int .i64 k ∧ Hid (OwnInts wr w.heap.size v (named ps k)) ∧ Hid (TrkZ w wr R salt [] (fun k => v.ownBlock = some k))) (fun _ i _ => 8 - (intOf i).toNat)
  case atStart => exact ⟨0, by omega, rfl, Lib.hid (ownInts_nil _ _), Lib.hid (H2.out.z.less (fun k hk => by cases hk))⟩
  case round =>
    obtain ⟨k, hk, rfl, HO, HT⟩ := hrel
    have hnl := named_le ps k
    by_cases hlt : k < 8
    · have HST := Lib.hid (named_step ps k)
      cases hc : ps.contains (k : Int) with
      | true =>
        rw [hc, if_pos rfl] at HST
        have HC := Lib.hid hc
        clear hc
        go_wp2_with fail
        with_reducible refine (hasInt_any ps k true HC a cap _ hl' (intsAt_kept HT.out.below HI.out)).mono ?_
        rintro e w3 ⟨rfl, rfl⟩
        go_wp2_with (at_builtin; refine append_int rfl _ _ rfl k rfl rfl HO.out (by omega) HT.out.below.size ?_; intro g4 cap4 w4 ho4 _ hg4 hat4)
        have HO4 := Lib.hid ho4
        have H4 := Lib.hid (HT.out.appended (n := (named ps k).length + 1) (cap := cap4) hg4 hat4 (ownInts_block ho4 g4 rfl).2)
        clear ho4 hg4 hat4
        go_wp2_with fail
        go_roundw
        case rel => exact ⟨k + 1, by omega, by go_num, Lib.hid (by rw [HST.out]; exact HO4.out), H4⟩
        case measure => simp [intOf]; omega
      | false =>
        rw [hc, if_neg (by decide), List.append_nil] at HST
        have HC := Lib.hid hc
        clear hc
        go_wp2_with fail
        with_reducible refine (hasInt_any ps k false HC a cap _ hl' (intsAt_kept HT.out.below HI.out)).mono ?_
        rintro e w3 ⟨rfl, rfl⟩
        go_wp2_with fail
        go_roundw
        case rel => exact ⟨k + 1, by omega, by go_num, Lib.hid (by rw [HST.out]; exact HO.out), HT⟩
        case measure => simp [intOf]; omega
    · rename_i u8
      have HO8 : Hid (OwnInts wr w.heap.size u8 (named ps 8)) := Lib.hid (by
        have h8 := HO.out
        rw [show k = 8 by omega] at h8
        exact h8)
      obtain ⟨vB, hvB⟩ : ∃ v, v = u8 := ⟨_, rfl⟩
      obtain ⟨wB, hwB⟩ : ∃ v, v = wr := ⟨_, rfl⟩
      subst hvB hwB
      go_wp2_with fail
      go_loopw [31] (fun i wr => ∃ (k : Nat) (L : List TEnt), k ≤ ps.length ∧ i = .int .i64 k ∧ Hid (OwnInts wr w.heap.size vB (named ps 8)) ∧ Hid (TrkZ w wr R salt L (fun k => vB.ownBlock = some k)) ∧ Hid (OneId L x (ps.take k))) (fun i _ => ps.length - (intOf i).toNat)
      case atStart => exact ⟨0, [], Nat.zero_le _, rfl, HO8, HT, Lib.hid ⟨by simp, fun p _ => rfl⟩⟩
      case round =>
        obtain ⟨k, L, hk, rfl, HO5, HT5, HD⟩ := hrel
        by_cases hlt : k < ps.length
        · obtain ⟨b, o, rfl, hb, c0⟩ := intsAt_kept HT5.out.below HI.out k hlt
          obtain ⟨c, L', hann, hone⟩ := one_ann HD.out ps[k]
          rw [← List.take_succ_eq_append_getElem hlt] at hone
          obtain ⟨q, hq⟩ : ∃ q, ps[k] = q := ⟨_, rfl⟩
          rw [hq] at c0 hann
          have HA := Lib.hid hann
          have HD' := Lib.hid hone
          clear hq hann hone
          go_wp2_with fail
          with_reducible refine (trkz_announce w R salt _ _ _ HT5.out q x 5 false c L' HA.out).mono ?_
          rintro e w6 ⟨rfl, h6, s6⟩
          have HO6 := Lib.hid (s6.own HO5.out (fun k hk => hk))
          have H6 := Lib.hid h6
          clear h6 s6
          go_wp2_with fail
          go_roundw
          case rel =>
            exact ⟨k + 1, L', by omega, by go_num, HO6, H6, HD'⟩
          case measure => simp [intOf]; omega
        · have he : ps.take k = ps := List.take_of_length_le (by omega)
          rw [he] at HD
          have hnx := u64_next x
          have hnl := named_le ps 8
          clear he
          go_wp2_with fail
          with_reducible refine (trkz_holders w R salt _ _ _ HT5.out x _ (one_holders HD.out)).mono ?_
          rintro e w7 ⟨a7, cap7, rfl, hi7, h7, hb7⟩
          have HO7 := owns_below HO5.out hb7
          obtain ⟨a8, cap8, rfl, _, hi8, _⟩ := ownInts_at HO7
          have HI7 := Lib.hid hi7
          have HI8 := Lib.hid hi8
          have H7 := Lib.hid h7
          clear HO7 hi7 hi8 h7
          go_wp2_with fail
          with_reducible refine (eqInt_is _ _ a7 a8 cap7 cap8 _ true (by unfold maxLen; omega) HI7.out HI8.out (by simp)).mono ?_
          rintro e w9 ⟨rfl, rfl⟩
          go_wp2_with fail
          rw [show ((x.toNat : Int) + 1) % 18446744073709551616 = ((x + 1).toNat : Int) from hnx]
          with_reducible refine (trkz_holders w R salt _ _ _ H7.out (x + 1) [] (one_other HD.out (u64_next_ne x))).mono ?_
          rintro e w10 ⟨a10, cap10, rfl, _, h10, _⟩
          have H10 := Lib.hid h10.below
          clear h10
          go_wp2_with fail
          go_ret
          exact ⟨rfl, H10.out⟩
end Go.Proofs.Ytamiddnkgjfdhaa
