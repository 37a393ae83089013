/-
  A pool in which peer 0 keeps one deed that waits, whatever other peers add.
-/
import Derived.Test.YtaaaplbjeknbkabGreatFairPlain
import Derived.Test.YtaaaplbjeknbkabGreatChainMath
set_option maxRecDepth 20000
namespace Go.Proofs.YtaaaplbjeknbkabGreat
open Go.RowKit Go.Maps

variable {L : List Ho.LinkD} {l0 l1 d : DeedD} {x : UInt64} {p : Nat}

/-- The pool: peer 0's one link; the others' deeds spend neither of the two and are none of them. -/
structure FloodP (l0 l1 : DeedD) (L : List Ho.LinkD) : Prop where
  good : Ho.GoodL 24 L
  own : (L.filter fun l => l.peer == 0) = [⟨0, Ju.idD l1, l1⟩]
  rest : ∀ l ∈ L, l.peer ≠ 0 → l.id ≠ Ju.idD l0 ∧ l.id ≠ Ju.idD l1 ∧ spendsD l.d (Ju.idD l0) = false ∧ spendsD l.d (Ju.idD l1) = false
theorem FloodP.mem (h : FloodP l0 l1 L) : (⟨0, Ju.idD l1, l1⟩ : Ho.LinkD) ∈ L := by
  have : (⟨0, Ju.idD l1, l1⟩ : Ho.LinkD) ∈ L.filter fun l => l.peer == 0 := by rw [h.own]; simp
  exact (List.mem_filter.1 this).1
theorem FloodP.zero (h : FloodP l0 l1 L) {l : Ho.LinkD} (hl : l ∈ L) (h0 : l.peer = 0) : l = ⟨0, Ju.idD l1, l1⟩ := by
  have : l ∈ L.filter fun l => l.peer == 0 := List.mem_filter.2 ⟨hl, by simp [h0]⟩
  rw [h.own] at this
  exact List.mem_singleton.1 this
theorem FloodP.there (h : FloodP l0 l1 L) : Ju.idD l1 ∈ Ho.allL L := Ho.allL_mem.2 ⟨⟨0, Ju.idD l1, l1⟩, h.mem, by with_reducible rfl⟩
theorem FloodP.step (h : FloodP l0 l1 L) (hw : l1.weight = 10) (hp : p < 8) (hp0 : p ≠ 0) (hd : checkD d = 0) (hx0 : x ≠ Ju.idD l0) (hx1 : x ≠ Ju.idD l1) (hs0 : spendsD d (Ju.idD l0) = false) (hs1 : spendsD d (Ju.idD l1) = false) : FloodP l0 l1 (Ho.addC L p x d).2 := by
  by_cases ht : ∃ l ∈ L, l.peer = p ∧ l.id = x
  · have : (Ho.addC L p x d).2 = L := by
      unfold Ho.addC
      rw [if_neg (not_not_intro ⟨by omega, by omega⟩), if_neg (not_not_intro hd), Int.toNat_natCast, if_pos (Ho.any_twice.2 ht)]
    rw [this]
    exact h
  · have hn : ((Ho.newL L p x d).filter fun l => l.peer == 0) = L.filter fun l => l.peer == 0 := by
      unfold Ho.newL
      rw [List.filter_append, List.filter_cons_of_neg (by simpa using hp0)]
      simp
    have hg1 := Ho.newL_good h.good hp hd ht
    have hm : Ho.Modest (Ho.newL L p x d) 0 := by
      unfold Ho.Modest
      rw [Ho.usageL_filter hn]
      unfold Ho.usageL
      rw [h.own]
      simp [hw]
    refine ⟨Ho.addC_good h.good _ _ _, ?_, ?_⟩
    · rw [Ho.addC_new hp hd ht]
      exact (Ho.modest_room _ _ rfl hg1 hm).trans (hn.trans h.own)
    · rw [Ho.addC_new hp hd ht]
      intro l hl h0
      have hl2 := (Ho.room_sub _).subset hl
      unfold Ho.newL at hl2
      rcases List.mem_append.1 hl2 with h1 | h1
      · exact h.rest l h1 h0
      · rw [List.mem_singleton.1 h1]
        refine ⟨hx0, hx1, ?_⟩
        show spendsD ((Ho.deedOf L x).getD d) _ = false ∧ spendsD ((Ho.deedOf L x).getD d) _ = false
        cases hq : Ho.deedOf L x with
        | none => exact ⟨hs0, hs1⟩
        | some d' =>
          unfold Ho.deedOf at hq
          rw [Option.map_eq_some_iff] at hq
          obtain ⟨m, hm1, rfl⟩ := hq
          have hm2 := List.mem_of_find?_eq_some hm1
          have hm3 : m.id = x := by simpa using List.find?_some hm1
          have hm4 : m.peer ≠ 0 := fun e => hx1 (by rw [← hm3, h.zero hm2 e])
          exact (h.rest m hm2 hm4).2.2
/-- The node while others flood it. -/
structure FloodS (l0 l1 : DeedD) (s : NS) : Prop where
  A : s.A = []
  P : FloodP l0 l1 s.P
  W : s.W = Ri.RingS.none 50
theorem flood_judge {v : UInt64} {k : Int} (hd : checkD d = 0) (hi : d.ins = [(v, k)]) : Ju.judgeL [] d = (2, [v], 0) := by
  have hm : Ju.missL (Ju.findL []) d.ins = [v] := by rw [hi]; exact miss_one _ v k
  unfold Ju.judgeL Ju.stateL Ju.stateM
  rw [if_neg (not_not_intro hd), hm, if_pos (by simp)]
theorem lost_bring {s : NS} {v : UInt64} {k : Int} (hA : s.A = []) (hW : s.W = Ri.RingS.none 50) (hd : checkD d = 0) (hi : d.ins = [(v, k)]) : (s.bring p d).A = [] ∧ (s.bring p d).P = (Ho.addC s.P p (Ju.idD d) d).2 ∧ (s.bring p d).W = Ri.RingS.none 50 := by
  obtain ⟨t, ht⟩ : ∃ t : NS, ({ s with T := (Tr.answerC s.T p (Ju.idD d)).2 } : NS) = t := ⟨_, rfl⟩
  have htA : t.A = [] := by rw [← ht]; exact hA
  have htP : t.P = s.P := by rw [← ht]
  have htW : t.W = Ri.RingS.none 50 := by rw [← ht]; exact hW
  have hj : Ju.judgeL t.A d = (2, [v], 0) := by rw [htA]; exact flood_judge hd hi
  have he : t.examine (Ju.idD d) d = (t, []) := examine_lost (by rw [hj]; show (2 : Int) ≠ 0; decide) (by rw [hj]; show (2 : Int) ≠ 1; decide) (by rw [hj]; show (2 : Int) ≠ 3; decide)
  obtain ⟨h1, h2, h3⟩ := adopt_keep t p (Ju.idD d) d [v]
  rw [bring_new ht (by rw [hA]; rfl) (by rw [hW]; rfl), he, hj, if_pos (by simp), follow_nil, h1, h2, h3, htA, htP, htW]
  exact ⟨rfl, rfl, rfl⟩
/-- Another one brings what waits. -/
theorem FloodS.step {s : NS} {v : UInt64} {k : Int} (h : FloodS l0 l1 s) (hw : l1.weight = 10) (hp : p < 8) (hp0 : p ≠ 0) (hd : checkD d = 0) (hi : d.ins = [(v, k)]) (hx0 : Ju.idD d ≠ Ju.idD l0) (hx1 : Ju.idD d ≠ Ju.idD l1) (hv0 : v ≠ Ju.idD l0) (hv1 : v ≠ Ju.idD l1) : FloodS l0 l1 (s.bring p d) := by
  obtain ⟨h1, h2, h3⟩ := lost_bring (p := p) h.A h.W hd hi
  refine ⟨h1, ?_, h3⟩
  rw [h2]
  exact h.P.step hw hp hp0 hd hx0 hx1 (by unfold spendsD; rw [hi]; simpa using hv0) (by unfold spendsD; rw [hi]; simpa using hv1)
theorem filter_beq_one : ∀ {l : List UInt64}, l.Nodup → ∀ {a : UInt64}, a ∈ l → (l.filter fun y => y == a) = [a]
  | b :: r, hn, a, ha => by
    rw [List.nodup_cons] at hn
    by_cases e : b = a
    · subst e
      rw [List.filter_cons_of_pos (by simp), List.filter_eq_nil_iff.2 (fun y hy => by
        rw [beq_iff_eq]
        exact fun e => hn.1 (e ▸ hy))]
    · rcases List.mem_cons.1 ha with h1 | h1
      · exact absurd h1.symm e
      · rw [List.filter_cons_of_neg (by rw [beq_iff_eq]; exact e), filter_beq_one hn.2 h1]
/-- The parent comes at last. -/
theorem FloodS.both {s : NS} (h : FloodS l0 l1 s) (hc : Chain [l0, l1]) : (s.bring 0 l0).A = [l0, l1] := by
  have hj0 : Ju.judgeL [] l0 = (0, [], 0) := chain_good hc (m := 0) (by simp)
  have hj1 : Ju.judgeL [l0] l1 = (0, [], 0) := chain_good hc (m := 1) (by simp)
  have ha0 : Ju.acceptL [] l0 = (0, [l0]) := chain_accept hc (m := 0) (by simp)
  have ha1 : Ju.acceptL [l0] l1 = (0, [l0, l1]) := chain_accept hc (m := 1) (by simp)
  have hne : Ju.idD l1 ≠ Ju.idD l0 := fun e => absurd (hc.inj (i := 1) (j := 0) (by simp) (by simp) e) (by decide)
  have hi1 : l1.ins = [(Ju.idD l0, 0)] := hc.next 0 (by simp)
  obtain ⟨x0, hx0⟩ : ∃ x, Ju.idD l0 = x := ⟨_, rfl⟩
  obtain ⟨x1, hx1⟩ : ∃ x, Ju.idD l1 = x := ⟨_, rfl⟩
  have hmem := h.P.mem
  have hall : ∀ l ∈ s.P, l = ⟨0, x1, l1⟩ ∨ (l.id ≠ x0 ∧ l.id ≠ x1 ∧ spendsD l.d x0 = false ∧ spendsD l.d x1 = false) := fun l hl => by
    by_cases h0 : l.peer = 0
    · left
      rw [h.P.zero hl h0, hx1]
    · right
      have := h.P.rest l hl h0
      rw [hx0, hx1] at this
      exact this
  rw [hx1] at hmem hne
  rw [hx0] at hi1 hne
  have hrem : Ho.removeL s.P x0 = s.P := by
    unfold Ho.removeL
    rw [List.filter_eq_self]
    intro l hl
    rcases hall l hl with e | h1
    · rw [e]; simpa using hne
    · simpa using h1.1
  have hsp : spendsD l1 x0 = true := by unfold spendsD; rw [hi1]; simp
  have hsp1 : spendsD l1 x1 = false := by unfold spendsD; rw [hi1]; simpa using hne.symm
  have hch : Ho.childL s.P x0 = [x1] := by
    unfold Ho.childL
    rw [← filter_beq_one (Ho.allL_nodup s.P) (Ho.allL_mem.2 ⟨_, hmem, by with_reducible rfl⟩)]
    refine List.filter_congr fun y hy => ?_
    obtain ⟨l, hl, rfl⟩ := Ho.allL_mem.1 hy
    rw [Ho.deedOf_mem h.P.good hl, Option.getD_some]
    rcases hall l hl with e | h1
    · rw [e]; simpa using hsp
    · rw [h1.2.2.1]; exact (beq_eq_false_iff_ne.2 h1.2.1).symm
  have hch1 : Ho.childL (Ho.removeL s.P x1) x1 = [] := by
    unfold Ho.childL
    rw [List.filter_eq_nil_iff]
    intro y hy
    obtain ⟨l, hl, rfl⟩ := Ho.allL_mem.1 hy
    have hs : (Ho.removeL s.P x1).Sublist s.P := List.filter_sublist
    rw [Ho.deedOf_mem (h.P.good.sub hs) hl, Option.getD_some]
    rcases hall l (hs.subset hl) with e | h1
    · rw [e, hsp1]; decide
    · rw [h1.2.2.2]; decide
  have hd1 : Ho.deedOf s.P x1 = some l1 := Ho.deedOf_mem h.P.good hmem
  obtain ⟨t, ht⟩ : ∃ t : NS, ({ s with T := (Tr.answerC s.T ((0 : Nat) : Int) (Ju.idD l0)).2 } : NS) = t := ⟨_, rfl⟩
  have htA : t.A = [] := by rw [← ht]; exact h.A
  have htP : t.P = s.P := by rw [← ht]
  obtain ⟨u, hu⟩ : ∃ u, t.accept x0 l0 = u := ⟨_, rfl⟩
  have huA : u.A = [l0] := by
    rw [← hu]
    show (Ju.acceptL t.A l0).2 = _
    rw [htA, ha0]
  have huP : u.P = s.P := by
    rw [← hu]
    show Ho.removeL t.P x0 = _
    rw [htP, hrem]
  rw [bring_new ht (by rw [h.A]; rfl) (by rw [h.W]; rfl), hx0, htA, hj0, if_neg (by simp), examine_good (by rw [htA, hj0])]
  simp only [hu]
  rw [huP, hch, follow_some _ _ _ _ (by rw [huP]; exact hd1), examine_good (by rw [huA, hj1])]
  have hP2 : (u.accept x1 l1).P = Ho.removeL s.P x1 := by show Ho.removeL u.P x1 = _; rw [huP]
  simp only [List.nil_append]
  rw [hP2, hch1, follow_nil]
  show (Ju.acceptL u.A l1).2 = _
  rw [huA, ha1]
theorem first_add {d : DeedD} (hd : checkD d = 0) (hw : d.weight = 10) (x : UInt64) : (Ho.addC [] (0 : Nat) x d).2 = [⟨0, x, d⟩] := by
  have hf : Ho.fullL [⟨0, x, d⟩] = false := by
    unfold Ho.fullL Ho.fullF
    have h1 : Ho.allL [⟨0, x, d⟩] = [x] := by simp [Ho.allL, Ho.allI, Ho.lsOf, Ho.ldOf]
    have h2 : Ho.deedOf [⟨0, x, d⟩] x = some d := by simp [Ho.deedOf]
    have h3 : Ho.peersF (Ho.usageF (Ho.deedOf [⟨0, x, d⟩]) (Ho.lsOf [⟨0, x, d⟩])) 8 = 1 := by
      simp [Ho.peersF, Ho.usageF, Ho.lsOf, Ho.ldOf, List.range, List.range.loop, List.filter_cons]
    rw [h1, h3]
    simp [Ho.sumW, Ho.wI, h2, hw, Ho.lsOf]
  unfold Ho.addC
  rw [if_neg (not_not_intro ⟨by decide, by decide⟩), if_neg (not_not_intro hd), if_neg (by simp)]
  show Ho.room [⟨0, x, d⟩] = _
  unfold Ho.room
  simp only [List.length_cons, List.length_nil, Nat.zero_add, Ho.roomN]
  rw [hf]
  simp
/-- What waits comes first. -/
theorem flood_start {s : NS} (hA : s.A = []) (hP : s.P = []) (hW : s.W = Ri.RingS.none 50) (hc : Chain [l0, l1]) : FloodS l0 l1 (s.bring 0 l1) := by
  have hd : checkD l1 = 0 := hc.fine 1 (by simp)
  have hw : l1.weight = 10 := hc.weight 1 (by simp)
  obtain ⟨h1, h2, h3⟩ := lost_bring (p := 0) hA hW hd (hc.next 0 (by simp))
  have h4 : (s.bring 0 l1).P = [⟨0, Ju.idD l1, l1⟩] := by rw [h2, hP]; exact first_add hd hw _
  have hn : Ho.GoodL 24 [] := Ho.good_none
  refine ⟨h1, ⟨?_, ?_, ?_⟩, h3⟩
  · rw [h2, hP]
    exact Ho.addC_good hn _ _ _
  · rw [h4]
    rfl
  · rw [h4]
    intro l hl h0
    rw [List.mem_singleton.1 hl] at h0
    exact absurd rfl h0
/-- The deed of a round may be. -/
theorem flood_check (x : UInt64) {k w f : Int} (hk : 0 ≤ k ∧ k ≤ 2) (hw : 1 ≤ w ∧ w ≤ 1000) (hf : 0 ≤ f ∧ f ≤ 59) : checkD ⟨[(x, k)], 1, w, f⟩ = 0 := by
  have h1 : restB 1 w f = true := by
    unfold restB within
    simp
    omega
  have h2 : atsB [(x, k)] = true := by
    unfold atsB within
    simp
    omega
  unfold checkD
  simp only [h1, h2]
  simp [dupB]
end Go.Proofs.YtaaaplbjeknbkabGreat
