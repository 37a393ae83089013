/-
  The walk of HomeShared.
-/
import Derived.Test.YtodhkphjlcjdoaaHomeK
namespace Go.Proofs.Ytodhkphjlcjdoaa
open Go.RowKit Go.Maps

variable {L : List LinkD} {n : Nat}

theorem wst_first (B : Nat → Int) : ∀ k p, p < k → p < wst B k → B p < B (wst B k)
  | 0, p, h, _ => by omega
  | k + 1, p, h, hw => by
    unfold wst at hw ⊢
    by_cases hk : B k > B (wst B k)
    · rw [if_pos hk] at hw ⊢
      have := wst_max B k p hw
      omega
    · rw [if_neg hk] at hw ⊢
      have hlt : wst B k < k ∨ wst B k = 0 := by
        clear hw hk h
        induction k with
        | zero => exact .inr rfl
        | succ k ih =>
          unfold wst
          split
          · exact .inl (Nat.lt_succ_self _)
          · rcases ih with h | h
            · exact .inl (by omega)
            · exact .inr h
      exact wst_first B k p (by omega) hw
/-- Peers 6 and 7 brought one and the same: 6 has nothing else, or nothing; 7 has nothing else. -/
structure TwoOf (x : UInt64) (d : DeedD) (L : List LinkD) : Prop where
  six : (L.filter fun l => l.peer == 6) = [⟨6, x, d⟩] ∨ (L.filter fun l => l.peer == 6) = []
  seven : (L.filter fun l => l.peer == 7) = [⟨7, x, d⟩] ∨ (L.filter fun l => l.peer == 7) = []
  order : (L.filter fun l => l.peer == 7) = [] → (L.filter fun l => l.peer == 6) = []
  only : ∀ l ∈ L, l.id = x → l.peer = 6 ∨ l.peer = 7
theorem filter_eraseP {q r : LinkD → Bool} (h : ∀ l, q l = true → r l = false) : ∀ (L : List LinkD), (L.eraseP q).filter r = L.filter r
  | [] => rfl
  | a :: t => by
    cases hq : q a with
    | true => rw [List.eraseP_cons_of_pos hq, List.filter_cons_of_neg (by rw [h a hq]; simp)]
    | false =>
      rw [List.eraseP_cons_of_neg (by rw [hq]; simp)]
      cases hr : r a with
      | true => rw [List.filter_cons_of_pos hr, List.filter_cons_of_pos hr, filter_eraseP h t]
      | false => rw [List.filter_cons_of_neg (by rw [hr]; simp), List.filter_cons_of_neg (by rw [hr]; simp), filter_eraseP h t]
theorem filter_eraseP_self {q : LinkD → Bool} : ∀ (L : List LinkD), (L.eraseP q).filter q = (L.filter q).tail
  | [] => rfl
  | a :: t => by
    cases hq : q a with
    | true => rw [List.eraseP_cons_of_pos hq, List.filter_cons_of_pos hq]; rfl
    | false => rw [List.eraseP_cons_of_neg (by rw [hq]; simp), List.filter_cons_of_neg (by rw [hq]; simp), List.filter_cons_of_neg (by rw [hq]; simp), filter_eraseP_self t]
theorem peer_out {p r : Nat} (h : p ≠ r) (l : LinkD) : (l.peer == p) = true → (l.peer == r) = false := fun e => by
  have := beq_iff_eq.1 e
  rw [this]
  exact beq_eq_false_iff_ne.2 h
theorem two_evict {x : UInt64} {d : DeedD} (h : TwoOf x d L) : TwoOf x d (evictL L) := by
  unfold evictL
  by_cases h6 : worstL L = 6
  · rw [h6]
    refine ⟨?_, ?_, fun _ => ?_, fun l hl e => h.only l (List.eraseP_subset hl) e⟩
    · rw [filter_eraseP_self]
      rcases h.six with e | e
      · rw [e]; exact .inr rfl
      · rw [e]; exact .inr rfl
    · rw [filter_eraseP (fun l => peer_out (by decide) l)]
      exact h.seven
    · rw [filter_eraseP_self]
      rcases h.six with e | e
      · rw [e]; rfl
      · rw [e]; rfl
  · by_cases h7 : worstL L = 7
    · rw [h7]
      have h60 : (L.filter fun l => l.peer == 6) = [] := by
        rcases h.six with e | e
        · rcases h.seven with e7 | e7
          · refine absurd (wst_first (fun p => burd (usageL L p)) 8 6 (by decide) (by unfold worstL at h7; rw [h7]; decide)) ?_
            unfold worstL at h7
            simp only [h7]
            unfold usageL
            rw [e, e7]
            exact Int.lt_irrefl _
          · exact h.order e7
        · exact e
      refine ⟨?_, ?_, fun _ => ?_, fun l hl e => h.only l (List.eraseP_subset hl) e⟩
      · rw [filter_eraseP (fun l => peer_out (by decide) l)]
        exact h.six
      · rw [filter_eraseP_self]
        rcases h.seven with e | e
        · rw [e]; exact .inr rfl
        · rw [e]; exact .inr rfl
      · rw [filter_eraseP (fun l => peer_out (by decide) l)]
        exact h60
    · refine ⟨?_, ?_, ?_, fun l hl e => h.only l (List.eraseP_subset hl) e⟩
      · rw [filter_eraseP (fun l => peer_out h6 l)]
        exact h.six
      · rw [filter_eraseP (fun l => peer_out h7 l)]
        exact h.seven
      · rw [filter_eraseP (fun l => peer_out h7 l), filter_eraseP (fun l => peer_out h6 l)]
        exact h.order
theorem two_room {x : UInt64} {d : DeedD} (h : TwoOf x d L) : TwoOf x d (room L) := by
  have key : ∀ n L, TwoOf x d L → TwoOf x d (roomN n L) := by
    intro n
    induction n with
    | zero => exact fun L h => h
    | succ n ih =>
      intro L h
      show TwoOf x d (if fullL L then roomN n (evictL L) else L)
      split
      · exact ih _ (two_evict h)
      · exact h
  exact key _ L h
/-- Nothing of peers 6 and 7, and no link of x. -/
structure NoneOf (x : UInt64) (L : List LinkD) : Prop where
  six : (L.filter fun l => l.peer == 6) = []
  seven : (L.filter fun l => l.peer == 7) = []
  id : ∀ l ∈ L, l.id ≠ x
theorem none_start (L : List LinkD) (x : UInt64) : NoneOf x (dropL (dropL (removeL L x) 6) 7) := by
  refine ⟨?_, ?_, fun l hl => ?_⟩
  · unfold dropL
    rw [List.filter_filter, List.filter_filter, List.filter_eq_nil_iff]
    intro l _
    cases h : l.peer == 6 <;> simp
  · unfold dropL
    rw [List.filter_filter, List.filter_eq_nil_iff]
    intro l _
    cases h : l.peer == 7 <;> simp
  · have h1 := (List.mem_filter.1 (List.mem_filter.1 (List.mem_filter.1 hl).1).1).2
    simpa using h1
/-- After the first addition: what 6 brought is there, or nothing of it is. -/
theorem two_first {x : UInt64} {d : DeedD} (h : NoneOf x L) : (∀ l ∈ room (newL L 6 x d), l.id = x → l.peer = 6) ∧ ((room (newL L 6 x d)).filter fun l => l.peer == 7) = [] ∧ (((room (newL L 6 x d)).filter fun l => l.peer == 6) = [⟨6, x, d⟩] ∨ ((room (newL L 6 x d)).filter fun l => l.peer == 6) = []) := by
  have hd : deedOf L x = none := deedOf_none.2 h.id
  have h6 : ((newL L 6 x d).filter fun l => l.peer == 6) = [⟨6, x, d⟩] := by
    unfold newL
    rw [List.filter_append, h.six, hd]
    rfl
  have h7 : ((newL L 6 x d).filter fun l => l.peer == 7) = [] := by
    unfold newL
    rw [List.filter_append, h.seven, hd]
    rfl
  have hs := room_sub (newL L 6 x d)
  refine ⟨fun l hl e => ?_, ?_, ?_⟩
  · rcases List.mem_append.1 (hs.subset hl) with hl | hl
    · exact absurd e (h.id l hl)
    · rw [List.mem_singleton.1 hl]
  · have := hs.filter (fun l => l.peer == 7)
    rw [h7] at this
    exact List.sublist_nil.1 this
  · have := hs.filter (fun l => l.peer == 6)
    rw [h6] at this
    rcases List.sublist_cons_iff.1 this with h | ⟨r, h, h2⟩
    · exact .inr (List.sublist_nil.1 h)
    · rw [List.sublist_nil.1 h2] at h
      exact .inl h
theorem mem_filter_peer {p : Nat} {x : UInt64} {d : DeedD} (h : (L.filter fun l => l.peer == p) = [⟨p, x, d⟩]) : (⟨p, x, d⟩ : LinkD) ∈ L := (List.mem_filter.1 (h ▸ List.mem_singleton.2 rfl : (⟨p, x, d⟩ : LinkD) ∈ L.filter fun l => l.peer == p)).1
/-- What the law asks: where both additions answer that the transaction is there it stays when 6 is dropped, and is gone when 7 is. -/
theorem shared_end {x : UInt64} {d : DeedD} {L1 : List LinkD} (hg : GoodL n L1) (h1 : ∀ l ∈ L1, l.id = x → l.peer = 6) (h2 : (L1.filter fun l => l.peer == 7) = []) (h3 : (L1.filter fun l => l.peer == 6) = [⟨6, x, d⟩] ∨ (L1.filter fun l => l.peer == 6) = []) (ha : (deedOf L1 x).isSome = true) (hb : (deedOf (room (newL L1 7 x d)) x).isSome = true) :
    (deedOf (dropL (room (newL L1 7 x d)) 6) x).isSome = true ∧ (deedOf (dropL (dropL (room (newL L1 7 x d)) 6) 7) x).isSome = false := by
  have h6 : (L1.filter fun l => l.peer == 6) = [⟨6, x, d⟩] := by
    rcases h3 with h | h
    · exact h
    · obtain ⟨l, hl, e⟩ := deedOf_isSome.1 ha
      have := h1 l hl e
      have hm : l ∈ L1.filter fun l => l.peer == 6 := List.mem_filter.2 ⟨hl, by simpa using this⟩
      rw [h] at hm
      cases hm
  have hd : deedOf L1 x = some d := deedOf_mem hg (mem_filter_peer h6)
  have ht : TwoOf x d (newL L1 7 x d) := by
    unfold newL
    rw [hd]
    refine ⟨.inl ?_, .inl ?_, fun e => ?_, fun l hl e => ?_⟩
    · rw [List.filter_append, h6]; rfl
    · rw [List.filter_append, h2]; rfl
    · rw [List.filter_append, h2] at e; cases e
    · rcases List.mem_append.1 hl with hl | hl
      · exact .inl (h1 l hl e)
      · rw [List.mem_singleton.1 hl]; exact .inr rfl
  have hr := two_room ht
  have h7 : ((room (newL L1 7 x d)).filter fun l => l.peer == 7) = [⟨7, x, d⟩] := by
    rcases hr.seven with h | h
    · exact h
    · have h60 := hr.order h
      obtain ⟨l, hl, e⟩ := deedOf_isSome.1 hb
      rcases hr.only l hl e with hp | hp
      · have hm : l ∈ (room (newL L1 7 x d)).filter fun l => l.peer == 6 := List.mem_filter.2 ⟨hl, by simpa using hp⟩
        rw [h60] at hm
        cases hm
      · have hm : l ∈ (room (newL L1 7 x d)).filter fun l => l.peer == 7 := List.mem_filter.2 ⟨hl, by simpa using hp⟩
        rw [h] at hm
        cases hm
  constructor
  · exact deedOf_isSome.2 ⟨_, List.mem_filter.2 ⟨mem_filter_peer h7, rfl⟩, rfl⟩
  · rw [Option.isSome_eq_false_iff, Option.isNone_iff_eq_none, deedOf_none]
    intro l hl e
    obtain ⟨hl1, hp7⟩ := List.mem_filter.1 hl
    obtain ⟨hl2, hp6⟩ := List.mem_filter.1 hl1
    rcases hr.only l hl2 e with hp | hp
    · rw [hp] at hp6; cases hp6
    · rw [hp] at hp7; cases hp7
theorem addC_bad {p : Nat} (hp : p < 8) (x : UInt64) {d : DeedD} (hd : checkD d ≠ 0) : addC L p x d = ((false, checkD d), L) := by
  unfold addC
  rw [if_neg (not_not_intro ⟨by omega, by omega⟩), if_pos hd]
theorem addC_new {p : Nat} (hp : p < 8) {x : UInt64} {d : DeedD} (hd : checkD d = 0) (ht : ¬ ∃ l ∈ L, l.peer = p ∧ l.id = x) : addC L p x d = (((deedOf (room (newL L p x d)) x).isSome, 0), room (newL L p x d)) := by
  unfold addC
  rw [if_neg (not_not_intro ⟨by omega, by omega⟩), if_neg (not_not_intro hd), show ((p : Int)).toNat = p from rfl, if_neg (fun h => ht (any_twice.1 h))]
theorem dropC_at {p : Nat} (hp : p < 8) : dropC L p = (0, dropL L p) := by
  unfold dropC
  rw [if_pos ⟨by omega, by omega⟩]
  rfl
theorem none_peer {p : Nat} {x : UInt64} (h : (L.filter fun l => l.peer == p) = []) : ¬ ∃ l ∈ L, l.peer = p ∧ l.id = x := by
  rintro ⟨l, hl, e, _⟩
  have hm : l ∈ L.filter fun l => l.peer == p := List.mem_filter.2 ⟨hl, by simpa using e⟩
  rw [h] at hm
  cases hm
set_option maxRecDepth 20000 in
set_option maxHeartbeats 1000000 in
theorem homeShared_walk (l : List OpH) (a : Option Addr) (cap : Nat) (id : UInt64) (d : DeedD) (da : Option Addr) (dc : Nat) (_ : d.ins.length ≤ dc) (hm : l.length ≤ maxLen) (w : World) (hi : OpsHAt w a l) (hid : InsAt w da d.ins) :
    Calls Try.prog 10 #[.slice a l.length cap, .int .u64 id.toNat, deedV da dc d] w fun e w' => e = .returned (.bool true) ∧ Below w.heap.size w w' := by
  unfold deedV
  have hk := kept_new w (.cells #[.slice da d.ins.length dc, .int .i64 d.outs, .int .i64 d.weight, .int .i64 d.fee] 32)
  obtain ⟨wX, hwX⟩ : ∃ x, w.alloc (.cells #[.slice da d.ins.length dc, .int .i64 d.outs, .int .i64 d.weight, .int .i64 d.fee] 32) = x := ⟨_, rfl⟩
  have hbx : BoxIs w.heap.size da dc d wX := hwX ▸ heap_alloc_new _ _
  have hiX : OpsHAt wX a l := fun i h => by
    rw [← hwX]
    obtain ⟨⟨b, o, e, hlt, hc⟩, h1, h2, h3⟩ := hi i h
    exact ⟨⟨b, o, e, Nat.lt_of_lt_of_le hlt hk.size, opHCells_kept hk hc⟩, h1, insAt_kept hk h2, h3⟩
  have hdX : InsAt wX da d.ins := hwX ▸ insAt_kept hk hid
  rw [hwX] at hk
  have HWX := Lib.hid hwX
  have HK := Lib.hid hk
  have HBX := Lib.hid hbx
  have HIX := Lib.hid hiX
  have HDX := Lib.hid hdX
  have HM := Lib.hid hm
  clear hwX hk hbx hiX hdX hm hi hid
  go_enter Try.func10, Try.ntmps10
  go_wp2_with fail
  rw [HWX.out]
  with_reducible refine (housed_any wX).mono ?_
  rintro e w1 ⟨rfl, hb1⟩
  go_wp2_with fail
  with_reducible refine (kept_any wX l a cap HM.out HIX.out w1 hb1).mono ?_
  rintro e w2 ⟨R, rfl, h2⟩
  obtain ⟨L, hL⟩ : ∃ L, runC l = L := ⟨_, rfl⟩
  rw [hL] at h2
  have H2 := Lib.hid h2
  clear h2 hL hb1
  go_wp2_with fail
  with_reducible refine (hd_remove wX _ R L w2 H2.out id _ rfl).mono ?_
  rintro e w3 ⟨rfl, h3, _⟩
  have H3 := Lib.hid h3
  clear h3
  go_wp2_with fail
  with_reducible refine (hd_drop wX _ R _ w3 H3.out 6 0 _ (dropC_at (p := 6) (by decide))).mono ?_
  rintro e w4 ⟨rfl, h4, _⟩
  have H4 := Lib.hid h4
  clear h4
  go_wp2_with fail
  with_reducible refine (hd_drop wX _ R _ w4 H4.out 7 0 _ (dropC_at (p := 7) (by decide))).mono ?_
  rintro e w5 ⟨rfl, h5, _⟩
  have HN := Lib.hid (none_start L id)
  obtain ⟨L0, hL0⟩ : ∃ L0, dropL (dropL (removeL L id) 6) 7 = L0 := ⟨_, rfl⟩
  rw [hL0] at h5 HN
  have H5 := Lib.hid h5
  obtain ⟨q0, q1, q2, q3, q4⟩ := boxIs_cells (boxIs_kept HBX.out h5.below)
  clear h5 hL0 H2 H3 H4
  by_cases hd : checkD d = 0
  · have HA1 : Hid (addC L0 6 id d = (((deedOf (room (newL L0 6 id d)) id).isSome, 0), room (newL L0 6 id d))) := Lib.hid (addC_new (L := L0) (p := 6) (by decide) hd (none_peer HN.out.six))
    obtain ⟨f1, f2, f3⟩ := two_first (d := d) HN.out
    obtain ⟨L1, hL1⟩ : ∃ L1, room (newL L0 6 id d) = L1 := ⟨_, rfl⟩
    rw [hL1] at HA1 f1 f2 f3
    have HA2 : Hid (addC L1 7 id d = (((deedOf (room (newL L1 7 id d)) id).isSome, 0), room (newL L1 7 id d))) := Lib.hid (addC_new (L := L1) (p := 7) (by decide) hd (none_peer (x := id) f2))
    have HE := Lib.hid (fun (hg : GoodL 24 L1) => shared_end hg f1 f2 f3)
    obtain ⟨L2, hL2⟩ : ∃ L2, room (newL L1 7 id d) = L2 := ⟨_, rfl⟩
    rw [hL2] at HA2 HE
    obtain ⟨s1, hs1⟩ : ∃ s, (deedOf L1 id).isSome = s := ⟨_, rfl⟩
    obtain ⟨s2, hs2⟩ : ∃ s, (deedOf L2 id).isSome = s := ⟨_, rfl⟩
    rw [hs1] at HA1 HE
    rw [hs2] at HA2 HE
    clear f1 f2 f3 hL1 hL2 hs1 hs2 hd HN
    go_wp2_with fail
    with_reducible refine (hd_add_is wX _ R _ w5 H5.out 6 id d da dc HDX.out s1 0 L1 HA1.out).mono ?_
    rintro e w6 ⟨rfl, h6, _⟩
    have H6 := Lib.hid h6
    obtain ⟨r0, r1, r2, r3, r4⟩ := boxIs_cells (boxIs_kept HBX.out h6.below)
    clear h6
    go_wp2_with fail
    with_reducible refine (hd_add_is wX _ R _ w6 H6.out 7 id d da dc HDX.out s2 0 L2 HA2.out).mono ?_
    rintro e w7 ⟨rfl, h7, _⟩
    have H7 := Lib.hid h7
    clear h7
    cases hs1 : s1 with
    | false =>
      go_wp2_with fail
      go_ret
      exact ⟨rfl, kept_trans HK.out H7.out.below⟩
    | true =>
      cases hs2 : s2 with
      | false =>
        go_wp2_with fail
        go_ret
        exact ⟨rfl, kept_trans HK.out H7.out.below⟩
      | true =>
        have HE2 := Lib.hid (HE.out H6.out.good hs1 hs2)
        clear HE HA1 HA2
        subst hs1 hs2
        go_wp2_with fail
        with_reducible refine (hd_drop wX _ R _ w7 H7.out 6 0 _ (dropC_at (p := 6) (by decide))).mono ?_
        rintro e w8 ⟨rfl, h8, _⟩
        have H8 := Lib.hid h8
        clear h8
        go_wp2_with fail
        with_reducible refine (hd_has wX _ R _ w8 H8.out id true HE2.out.1).mono ?_
        rintro e w9 ⟨rfl, hb9⟩
        have H9 := Lib.hid (H8.out.kept hb9)
        clear hb9
        go_wp2_with fail
        with_reducible refine (hd_drop wX _ R _ w9 H9.out 7 0 _ (dropC_at (p := 7) (by decide))).mono ?_
        rintro e w10 ⟨rfl, h10, _⟩
        have H10 := Lib.hid h10
        clear h10
        go_wp2_with fail
        with_reducible refine (hd_has wX _ R _ w10 H10.out id false HE2.out.2).mono ?_
        rintro e w11 ⟨rfl, hb11⟩
        have H11 := Lib.hid (H10.out.kept hb11)
        clear hb11
        go_wp2_with fail
        go_ret
        exact ⟨rfl, kept_trans HK.out H11.out.below⟩
  · obtain ⟨r, hr⟩ : ∃ r, checkD d = r := ⟨_, rfl⟩
    have HA1 : Hid (addC L0 6 id d = ((false, checkD d), L0)) := Lib.hid (addC_bad (L := L0) (p := 6) (by decide) id hd)
    have HA2 : Hid (addC L0 7 id d = ((false, checkD d), L0)) := Lib.hid (addC_bad (L := L0) (p := 7) (by decide) id hd)
    rw [hr] at HA1 HA2 hd
    have hne : (r != 0) = true := bne_iff_ne.2 hd
    clear hr hd HN
    go_wp2_with fail
    with_reducible refine (hd_add_is wX _ R _ w5 H5.out 6 id d da dc HDX.out false r L0 HA1.out).mono ?_
    rintro e w6 ⟨rfl, h6, _⟩
    have H6 := Lib.hid h6
    obtain ⟨r0, r1, r2, r3, r4⟩ := boxIs_cells (boxIs_kept HBX.out h6.below)
    clear h6
    go_wp2_with fail
    with_reducible refine (hd_add_is wX _ R _ w6 H6.out 7 id d da dc HDX.out false r L0 HA2.out).mono ?_
    rintro e w7 ⟨rfl, h7, _⟩
    have H7 := Lib.hid h7
    clear h7
    go_wp2_with fail
    go_ret
    exact ⟨ret_bool (by simp), kept_trans HK.out H7.out.below⟩
end Go.Proofs.Ytodhkphjlcjdoaa
