/-
  What a node's ledger and pool are, by the deeds that came: each is what came under its ID; what is accepted pays, and spends what was there and not spent; what waits lacks something.
-/
import Derived.Test.YtaaaplbjeknbkaaGreatJ33
import Derived.Test.YtaaaplbjeknbkaaGreatChainMath
set_option maxRecDepth 20000
namespace Go.Proofs.YtaaaplbjeknbkaaGreat
open Go.RowKit Go.Maps

variable {s t : NS} {M M' : UInt64 → Option DeedD} {q r : List UInt64} {x : UInt64} {d c : DeedD} {A : List DeedD} {P P' : List Ho.LinkD}

def feeL (L : List DeedD) : Int := (L.map fun d => d.fee).sum
def weightL (L : List DeedD) : Int := (L.map fun d => d.weight).sum
/-- Each spends outputs of what was there ahead, which none ahead of it spends. -/
def PaysA (L : List DeedD) : Prop := ∀ i (h : i < L.length), ∀ e ∈ L[i].ins, (Ju.findL (L.take i) e.1).isSome = true ∧ e.2 < ((Ju.findL (L.take i) e.1).getD nod).outs ∧ (Ju.insL (L.take i)).contains e = false
theorem paysA_snoc (h : PaysA A) (hs : ¬ Ju.stateL A d ≥ 2) : PaysA (A ++ [d]) := fun i hi e he => by
  rw [List.length_append, List.length_cons, List.length_nil] at hi
  by_cases hlt : i < A.length
  · rw [List.getElem_append_left hlt] at he
    rw [List.take_append_of_le_length (by omega)]
    exact h i hlt e he
  · obtain rfl : i = A.length := by omega
    have he : e ∈ d.ins := by simpa using he
    unfold Ju.stateL at hs
    obtain ⟨q1, q2, q3⟩ := Ju.stateM_may.1 hs e he
    rw [List.take_left]
    exact ⟨q1, q2, q3⟩
/-- The ledger and the pool, by the deeds that came, while q is to be looked at. -/
structure Sound (M : UInt64 → Option DeedD) (A : List DeedD) (P : List Ho.LinkD) (q : List UInt64) : Prop where
  fine : ∀ d ∈ A, checkD d = 0
  a : ∀ d ∈ A, M (Ju.idD d) = some d
  nodup : (A.map Ju.idD).Nodup
  pays : PaysA A
  worth : weightL A ≤ 10 * feeL A
  p : ∀ l ∈ P, l.id = Ju.idD l.d ∧ M l.id = some l.d ∧ checkD l.d = 0 ∧ Ju.findL A l.id = none
  lost : ∀ l ∈ P, l.id ∈ q ∨ Ju.missL (Ju.findL A) l.d.ins ≠ []
theorem sound_none : Sound M [] [] [] := ⟨fun _ h => (by cases h), fun _ h => (by cases h), List.nodup_nil, fun i h => absurd h (by simp), by decide, fun _ h => (by cases h), fun _ h => (by cases h)⟩
theorem Sound.mono (h : Sound M A P q) (hm : ∀ x d, M x = some d → M' x = some d) : Sound M' A P q :=
  ⟨h.fine, fun d hd => hm _ _ (h.a d hd), h.nodup, h.pays, h.worth, fun l hl => ⟨(h.p l hl).1, hm _ _ (h.p l hl).2.1, (h.p l hl).2.2⟩, h.lost⟩
theorem Sound.sub (h : Sound M A P q) (hs : ∀ l ∈ P', l ∈ P) : Sound M A P' q :=
  ⟨h.fine, h.a, h.nodup, h.pays, h.worth, fun l hl => h.p l (hs l hl), fun l hl => h.lost l (hs l hl)⟩
theorem mem_remove {l : Ho.LinkD} : l ∈ Ho.removeL P x ↔ l ∈ P ∧ l.id ≠ x := by unfold Ho.removeL; rw [List.mem_filter]; simp
theorem deedOf_known (hM : ∀ l ∈ P, M l.id = some l.d) {l : Ho.LinkD} (hl : l ∈ P) : Ho.deedOf P l.id = some l.d := by
  cases h : Ho.deedOf P l.id with
  | none => exact absurd rfl (Ho.deedOf_none.1 h l hl)
  | some e =>
    obtain ⟨m, hm, h1, h2⟩ := Ho.deedOf_some h
    have h3 := hM m hm
    rw [h1, hM l hl, h2] at h3
    exact h3.symm
theorem child_mem (hM : ∀ l ∈ P, M l.id = some l.d) {l : Ho.LinkD} (hl : l ∈ P) (hs : spendsD l.d x = true) : l.id ∈ Ho.childL P x := by
  unfold Ho.childL
  rw [List.mem_filter]
  refine ⟨Ho.allL_mem.2 ⟨l, hl, rfl⟩, ?_⟩
  rw [deedOf_known hM hl]
  exact hs
theorem miss_ex {f : UInt64 → Option DeedD} {l : List InD} : Ju.missL f l ≠ [] ↔ ∃ e ∈ l, f e.1 = none := by
  rw [Ne, Ju.missL_none]
  constructor
  · intro h
    refine Classical.byContradiction fun hn => h fun e he => ?_
    cases hf : f e.1 with
    | none => exact absurd ⟨e, he, hf⟩ hn
    | some _ => rfl
  · rintro ⟨e, he, hf⟩ h
    have := h e he
    rw [hf] at this
    cases this
/-- What lacks something lacks it still, or spends what came. -/
theorem lost_step (hM : ∀ l ∈ P, M l.id = some l.d) (h : ∀ l ∈ P, l.id ∈ q ∨ Ju.missL (Ju.findL A) l.d.ins ≠ []) (d : DeedD) : ∀ l ∈ P, l.id ∈ q ++ Ho.childL P (Ju.idD d) ∨ Ju.missL (Ju.findL (A ++ [d])) l.d.ins ≠ [] := fun l hl => by
  rcases h l hl with h1 | h1
  · exact .inl (List.mem_append_left _ h1)
  · obtain ⟨e, he, hf⟩ := miss_ex.1 h1
    by_cases hx : Ju.idD d = e.1
    · refine .inl (List.mem_append_right _ (child_mem hM hl ?_))
      unfold spendsD
      rw [List.any_eq_true]
      exact ⟨e, he, by rw [hx]; simp⟩
    · refine .inr (miss_ex.2 ⟨e, he, ?_⟩)
      rw [Ju.findL_snoc, hf, if_neg (by simp), if_neg hx]
theorem state_of (hc : checkD d = 0) : (Ju.judgeL A d).1 = Ju.stateL A d := by unfold Ju.judgeL; rw [if_neg (not_not_intro hc)]
theorem accept_new (hc : checkD d = 0) (hn : Ju.findL A (Ju.idD d) = none) (hs : ¬ Ju.stateL A d ≥ 2) : (Ju.acceptL A d).2 = A ++ [d] := by
  unfold Ju.acceptL
  rw [if_neg (not_not_intro hc), hn, if_neg (by simp), if_neg hs]
theorem state_cases (A : List DeedD) (d : DeedD) : (Ju.stateL A d = 2 ∧ Ju.missL (Ju.findL A) d.ins ≠ []) ∨ (Ju.missL (Ju.findL A) d.ins = [] ∧ (Ju.stateL A d = 3 ∨ (Ju.stateL A d = Ju.payI d.fee d.weight))) := by
  unfold Ju.stateL Ju.stateM
  by_cases h : Ju.missL (Ju.findL A) d.ins ≠ []
  · rw [if_pos h]; exact .inl ⟨rfl, h⟩
  · rw [if_neg h]
    refine .inr ⟨Classical.not_not.1 h, ?_⟩
    split
    · exact .inl rfl
    · exact .inr rfl
theorem pay_good {f w : Int} (h : Ju.payI f w = 0) : w ≤ 10 * f := by
  unfold Ju.payI at h
  split at h
  · omega
  · omega
theorem feeL_snoc (A : List DeedD) (d : DeedD) : feeL (A ++ [d]) = feeL A + d.fee := by unfold feeL; rw [List.map_append, List.sum_append]; simp
theorem weightL_snoc (A : List DeedD) (d : DeedD) : weightL (A ++ [d]) = weightL A + d.weight := by unfold weightL; rw [List.map_append, List.sum_append]; simp
theorem nodup_snoc (h : (A.map Ju.idD).Nodup) (hn : Ju.findL A (Ju.idD d) = none) : ((A ++ [d]).map Ju.idD).Nodup := by
  rw [List.map_append, List.nodup_append]
  refine ⟨h, by simp, fun a ha b hb e => ?_⟩
  simp only [List.map_cons, List.map_nil, List.mem_singleton] at hb
  obtain ⟨y, hy, e2⟩ := List.mem_map.1 ha
  exact Ju.findL_none.1 hn y hy (by rw [e2, e, hb])
theorem find_snoc_none (h : Ju.findL A x = none) (hx : x ≠ Ju.idD d) : Ju.findL (A ++ [d]) x = none := by
  rw [Ju.findL_snoc, h, if_neg (by simp), if_neg (fun e => hx e.symm)]
/-- A good one is accepted. -/
theorem Sound.accept (h : Sound M A P (x :: r)) (hx : Ju.idD d = x) (hM : M x = some d) (hc : checkD d = 0) (hn : Ju.findL A x = none) (hs : Ju.stateL A d = 0) : Sound M (Ju.acceptL A d).2 (Ho.removeL P x) (r ++ Ho.childL (Ho.removeL P x) x) := by
  have hpay : d.weight ≤ 10 * d.fee := by
    rcases state_cases A d with ⟨h1, _⟩ | ⟨_, h1 | h1⟩
    · omega
    · omega
    · exact pay_good (h1 ▸ hs)
  rw [accept_new hc (hx ▸ hn) (by omega)]
  have hPM : ∀ l ∈ Ho.removeL P x, M l.id = some l.d := fun l hl => (h.p l (mem_remove.1 hl).1).2.1
  refine ⟨fun e he => ?_, fun e he => ?_, nodup_snoc h.nodup (hx ▸ hn), paysA_snoc h.pays (by omega), ?_, fun l hl => ?_, ?_⟩
  · rcases List.mem_append.1 he with he | he
    · exact h.fine e he
    · rw [List.mem_singleton.1 he]; exact hc
  · rcases List.mem_append.1 he with he | he
    · exact h.a e he
    · rw [List.mem_singleton.1 he, hx]; exact hM
  · rw [feeL_snoc, weightL_snoc]
    have := h.worth
    omega
  · obtain ⟨h1, h2⟩ := mem_remove.1 hl
    obtain ⟨p1, p2, p3, p4⟩ := h.p l h1
    exact ⟨p1, p2, p3, find_snoc_none p4 (hx ▸ h2)⟩
  · have := lost_step (q := r) hPM (fun l hl => (h.lost l (mem_remove.1 hl).1).imp_left fun hm => (List.mem_cons.1 hm).resolve_left (mem_remove.1 hl).2) d
    rw [hx] at this
    exact this
/-- One is settled without being accepted. -/
theorem Sound.settle (h : Sound M A P (x :: r)) : Sound M A (Ho.removeL P x) r :=
  ⟨h.fine, h.a, h.nodup, h.pays, h.worth, fun l hl => h.p l (mem_remove.1 hl).1, fun l hl => (h.lost l (mem_remove.1 hl).1).imp_left fun hm => (List.mem_cons.1 hm).resolve_left (mem_remove.1 hl).2⟩
theorem pair_good (hs : Ju.stateL A d = 1) (h : Ju.pairL A d c = (0, 0)) : checkD c = 0 ∧ ¬ Ju.stateL (A ++ [d]) c ≥ 2 ∧ d.weight + c.weight ≤ 10 * (d.fee + c.fee) := by
  unfold Ju.pairL at h
  split at h
  · rename_i h1
    exact absurd (congrArg Prod.snd h) h1
  · split at h
    · rename_i h1
      exact absurd (congrArg Prod.snd h) h1
    · rename_i h2
      split at h
      · cases h
      · rw [if_neg (not_not_intro hs)] at h
        have h5 : Ju.withL A d c = 0 := congrArg Prod.fst h
        unfold Ju.withL at h5
        split at h5
        · cases h5
        · split at h5
          · cases h5
          · rename_i h6 h7
            refine ⟨Classical.not_not.1 h2, ?_, pay_good h5⟩
            unfold Ju.stateL Ju.stateM
            rw [if_neg h6, if_neg h7]
            have := Ju.payI_lt c.fee c.weight
            omega
/-- A poor one and its payer are accepted. -/
theorem Sound.pair {y : UInt64} (h : Sound M A P r) (hx : Ju.idD d = x) (hM : M x = some d) (hc : checkD d = 0) (hn : Ju.findL A x = none) (hnp : ∀ l ∈ P, l.id ≠ x) (hy : Ho.deedOf P y = some c) (hs : Ju.stateL A d = 1) (hp : Ju.pairL A d c = (0, 0)) :
    Sound M (Ju.acceptL (Ju.acceptL A d).2 c).2 (Ho.removeL (Ho.removeL P x) y) (r ++ (Ho.childL (Ho.removeL (Ho.removeL P x) y) x ++ Ho.childL (Ho.removeL (Ho.removeL P x) y) y)) := by
  obtain ⟨m, hm, hmy, hmc⟩ := Ho.deedOf_some hy
  obtain ⟨p1, p2, p3, p4⟩ := h.p m hm
  have hyc : Ju.idD c = y := by rw [← hmc, ← p1, hmy]
  have hMy : M y = some c := by rw [← hmy, p2, hmc]
  have hny : Ju.findL A y = none := by rw [← hmy]; exact p4
  have hyx : y ≠ x := by rw [← hmy]; exact hnp m hm
  obtain ⟨g1, g3, g4⟩ := pair_good hs hp
  have hny2 : Ju.findL (A ++ [d]) (Ju.idD c) = none := find_snoc_none (hyc ▸ hny) (by rw [hyc, hx]; exact hyx)
  rw [accept_new hc (hx ▸ hn) (by omega), accept_new g1 hny2 g3]
  obtain ⟨Q, hQ⟩ : ∃ Q, Ho.removeL (Ho.removeL P x) y = Q := ⟨_, rfl⟩
  have hQm : ∀ l ∈ Q, l ∈ P ∧ l.id ≠ x ∧ l.id ≠ y := fun l hl => by
    rw [← hQ] at hl
    obtain ⟨h1, h2⟩ := mem_remove.1 hl
    obtain ⟨h3, h4⟩ := mem_remove.1 h1
    exact ⟨h3, h4, h2⟩
  rw [hQ]
  have hPM : ∀ l ∈ Q, M l.id = some l.d := fun l hl => (h.p l (hQm l hl).1).2.1
  refine ⟨fun e he => ?_, fun e he => ?_, nodup_snoc (nodup_snoc h.nodup (hx ▸ hn)) hny2, paysA_snoc (paysA_snoc h.pays (by omega)) g3, ?_, fun l hl => ?_, ?_⟩
  · rcases List.mem_append.1 he with he | he
    · rcases List.mem_append.1 he with he | he
      · exact h.fine e he
      · rw [List.mem_singleton.1 he]; exact hc
    · rw [List.mem_singleton.1 he]; exact g1
  · rcases List.mem_append.1 he with he | he
    · rcases List.mem_append.1 he with he | he
      · exact h.a e he
      · rw [List.mem_singleton.1 he, hx]; exact hM
    · rw [List.mem_singleton.1 he, hyc]; exact hMy
  · rw [feeL_snoc, weightL_snoc, feeL_snoc, weightL_snoc]
    have := h.worth
    omega
  · obtain ⟨h1, h2, h3⟩ := hQm l hl
    obtain ⟨p1, p2, p3, p4⟩ := h.p l h1
    exact ⟨p1, p2, p3, find_snoc_none (find_snoc_none p4 (hx ▸ h2)) (hyc ▸ h3)⟩
  · have h1 := lost_step (q := r) hPM (fun l hl => h.lost l (hQm l hl).1) d
    have h2 := lost_step (A := A ++ [d]) hPM h1 c
    rw [hx, hyc, List.append_assoc] at h2
    exact h2
/-- An examination. -/
theorem examine_sound (h : Sound M s.A s.P (x :: r)) (hx : Ju.idD d = x) (hM : M x = some d) (hc : checkD d = 0) (hn : Ju.findL s.A x = none) : Sound M (s.examine x d).1.A (s.examine x d).1.P (r ++ (s.examine x d).2) := by
  have hst := state_of (A := s.A) hc
  unfold NS.examine
  rw [hst]
  split
  · rename_i h0
    exact h.accept hx hM hc hn h0
  · split
    · rename_i h0 h1
      obtain ⟨u, hu⟩ : ∃ u : NS, (({ s with Q := s.Q.put x } : NS).settle x) = u := ⟨_, rfl⟩
      have huA : u.A = s.A := by rw [← hu]; rfl
      have huP : u.P = Ho.removeL s.P x := by rw [← hu]; rfl
      have hS := h.settle
      rw [← huP, ← huA] at hS
      rw [hu]
      unfold NS.seek
      split
      · rw [List.append_nil]; exact hS
      · rename_i y hy
        unfold NS.payer at hy
        have h2 := List.find?_some hy
        have h3 : y ∈ Ho.childL u.P x := List.mem_of_find?_eq_some hy
        have h4 : y ∈ Ho.allL u.P := (List.mem_filter.1 h3).1
        obtain ⟨c, hcc⟩ := Option.isSome_iff_exists.1 ((Ho.allL_some y).2 h4)
        rw [hcc, Option.getD_some] at h2 ⊢
        exact hS.pair hx hM hc (huA ▸ hn) (fun l hl => (mem_remove.1 (huP ▸ hl)).2) hcc (huA ▸ h1) (of_decide_eq_true h2)
    · split
      · rw [List.append_nil]; exact h.settle
      · rename_i h0 h1 h3
        rw [List.append_nil]
        refine ⟨h.fine, h.a, h.nodup, h.pays, h.worth, h.p, fun l hl => ?_⟩
        rcases h.lost l hl with h4 | h4
        · rcases List.mem_cons.1 h4 with h5 | h5
          · right
            have h6 := (h.p l hl).2.1
            rw [h5, hM] at h6
            obtain rfl := Option.some.inj h6
            rcases state_cases s.A l.d with ⟨_, h7⟩ | ⟨_, h7 | h7⟩
            · exact h7
            · exact absurd h7 h3
            · exfalso
              have := Ju.payI_lt l.d.fee l.d.weight
              omega
          · exact .inl h5
        · exact .inr h4
theorem follow_sound (s : NS) (q : List UInt64) (h : Sound M s.A s.P q) : Sound M (s.follow q).A (s.follow q).P [] := by
  induction s, q using NS.follow.induct with
  | case1 s => rw [follow_nil]; exact h
  | case2 s x r hx ih =>
    rw [follow_none _ _ _ hx]
    refine ih ⟨h.fine, h.a, h.nodup, h.pays, h.worth, h.p, fun l hl => (h.lost l hl).imp_left fun hm => ?_⟩
    exact (List.mem_cons.1 hm).resolve_left (Ho.deedOf_none.1 hx l hl)
  | case3 s x r d hx ih =>
    rw [follow_some _ _ _ _ hx]
    obtain ⟨l, hl, h1, h2⟩ := Ho.deedOf_some hx
    obtain ⟨p1, p2, p3, p4⟩ := h.p l hl
    subst h2
    exact ih (examine_sound h (by rw [← p1]; exact h1) (by rw [← h1]; exact p2) p3 (by rw [← h1]; exact p4))
theorem addC_mem {L : List Ho.LinkD} {p : Int} {l : Ho.LinkD} (h : l ∈ (Ho.addC L p x d).2) : l ∈ L ∨ (l.id = x ∧ l.d = (Ho.deedOf L x).getD d) := by
  unfold Ho.addC at h
  split at h
  · exact .inl h
  · split at h
    · exact .inl h
    · split at h
      · exact .inl h
      · have h2 := (Ho.room_sub _).subset h
        unfold Ho.newL at h2
        rcases List.mem_append.1 h2 with h3 | h3
        · exact .inl h3
        · rw [List.mem_singleton.1 h3]; exact .inr ⟨rfl, rfl⟩
theorem adopt_sound (h : Sound M s.A s.P []) (p : Nat) (ms : List UInt64) (hx : Ju.idD d = x) (hM : M x = some d) (hc : checkD d = 0) (hn : Ju.findL s.A x = none) (hm : Ju.missL (Ju.findL s.A) d.ins ≠ []) : Sound M (s.adopt p x d ms).A (s.adopt p x d ms).P [] := by
  obtain ⟨e1, e2, _⟩ := adopt_keep s p x d ms
  rw [e1, e2]
  have hl2 : ∀ l ∈ (Ho.addC s.P p x d).2, l ∈ s.P ∨ (l.id = x ∧ l.d = d) := fun l hl => by
    rcases addC_mem hl with h1 | ⟨h1, h2⟩
    · exact .inl h1
    · refine .inr ⟨h1, ?_⟩
      cases hd : Ho.deedOf s.P x with
      | none => rw [h2, hd]; rfl
      | some d' =>
        rw [h2, hd, Option.getD_some]
        obtain ⟨m, hm1, hm2, hm3⟩ := Ho.deedOf_some hd
        have := (h.p m hm1).2.1
        rw [hm2, hM, hm3] at this
        exact (Option.some.inj this).symm
  refine ⟨h.fine, h.a, h.nodup, h.pays, h.worth, fun l hl => ?_, fun l hl => ?_⟩
  · rcases hl2 l hl with h1 | ⟨h1, h2⟩
    · exact h.p l h1
    · rw [h1, h2]
      exact ⟨hx.symm, hM, hc, hn⟩
  · rcases hl2 l hl with h1 | ⟨h1, h2⟩
    · exact h.lost l h1
    · rw [h2]; exact .inr hm
theorem bring_sound (h : Sound M s.A s.P []) (p : Nat) (hM : M (Ju.idD d) = some d) (hc : checkD d = 0) : Sound M (s.bring p d).A (s.bring p d).P [] := by
  by_cases hk : ((Ju.findL s.A (Ju.idD d)).isSome || s.W.has (Ju.idD d)) = true
  · rw [bring_known hk]
    exact h
  · rw [Bool.not_eq_true, Bool.or_eq_false_iff] at hk
    have hn : Ju.findL s.A (Ju.idD d) = none := by simpa using hk.1
    rw [bring_new rfl hk.1 hk.2]
    obtain ⟨u, hu⟩ : ∃ u : NS, ({ s with T := (Tr.answerC s.T p (Ju.idD d)).2 } : NS) = u := ⟨_, rfl⟩
    have huA : u.A = s.A := by rw [← hu]
    have huP : u.P = s.P := by rw [← hu]
    rw [hu]
    have h1 : Sound M u.A u.P (Ju.idD d :: []) := by
      rw [huA, huP]
      exact ⟨h.fine, h.a, h.nodup, h.pays, h.worth, h.p, fun l hl => (h.lost l hl).imp_left fun hm => by cases hm⟩
    refine follow_sound _ _ ?_
    have h2 := examine_sound h1 rfl hM hc (huA ▸ hn)
    rw [List.nil_append] at h2
    split
    · rename_i hm
      have hl := miss_lost hm
      have he := examine_lost (s := u) (x := Ju.idD d) (d := d) (by rw [hl]; decide) (by rw [hl]; decide) (by rw [hl]; decide)
      rw [he] at h2 ⊢
      refine adopt_sound h2 p _ rfl hM hc (huA ▸ hn) ?_
      unfold Ju.judgeL at hm
      rw [if_neg (not_not_intro hc)] at hm
      exact hm
    · exact h2
theorem announce_keep (p : Nat) : ∀ (l : List UInt64) (s : NS), (s.announce p l).A = s.A ∧ (s.announce p l).P = s.P
  | [], _ => ⟨rfl, rfl⟩
  | x :: r, s => by
    have e : s.announce p (x :: r) = (s.announce1 p x).announce p r := rfl
    obtain ⟨h1, h2⟩ := announce_keep p r (s.announce1 p x)
    rw [e, h1, h2]
    unfold NS.announce1
    split <;> exact ⟨rfl, rfl⟩
theorem missing_keep (p : Nat) : ∀ (l : List UInt64) (s : NS), (s.missing p l).A = s.A ∧ (s.missing p l).P = s.P
  | [], _ => ⟨rfl, rfl⟩
  | x :: r, s => missing_keep p r { s with T := (Tr.answerC s.T p x).2 }
/-- The deed that a message brings. -/
def broughtB (b : ByteArray) : Option DeedD := if Ms.errM b.data.toList = 0 ∧ (Ms.ansM b.data.toList).kind = 3 ∧ errD (Ms.ansM b.data.toList).body.data.toList = 0 then some (readD (Ms.ansM b.data.toList).body.data.toList) else none
theorem brought_check {b : ByteArray} (h : broughtB b = some d) : checkD d = 0 := by
  unfold broughtB at h
  split at h
  · rename_i hc
    rw [← Option.some.inj h]
    exact errD_check hc.2.2
  · cases h
theorem kind_some (b : ByteArray) (m : Int) (h : (Ms.ansM b.data.toList).kind = m) : m = 1 ∨ m = 2 ∨ m = 3 ∨ m = 4 ∨ Ms.errM b.data.toList ≠ 0 := by
  by_cases he : Ms.errM b.data.toList = 0
  · obtain ⟨_, h2⟩ := Ms.errM_zero he
    have h3 : Ms.readM b.data.toList = Ms.ansM b.data.toList := by unfold Ms.ansM; rw [if_pos he]
    rw [h3] at h2
    have h4 := (Ms.checkM_ok h2).1
    unfold within at h4
    simp only [decide_eq_true_eq] at h4
    omega
  · exact .inr (.inr (.inr (.inr he)))
theorem send_sound (h : Sound M s.A s.P []) (p : Int) (b : ByteArray) (hM : ∀ d, broughtB b = some d → M (Ju.idD d) = some d) (hk : ∀ m, (Ms.ansM b.data.toList).kind = m → m = 1 ∨ m = 2 ∨ m = 3 ∨ m = 4 ∨ Ms.errM b.data.toList ≠ 0) : Sound M (s.send p b).1.A (s.send p b).1.P [] := by
  unfold NS.send
  simp only
  split
  · exact h
  · split
    · exact h
    · rename_i he
      have he := Classical.not_not.1 he
      split
      · rw [(announce_keep _ _ _).1, (announce_keep _ _ _).2]; exact h
      · split
        · rw [(missing_keep _ _ _).1, (missing_keep _ _ _).2]; exact h
        · split
          · exact h
          · split
            · exact h
            · rename_i h1 h4 h2 hd
              have hd := Classical.not_not.1 hd
              have h3 : (Ms.ansM b.data.toList).kind = 3 := by
                rcases hk _ rfl with h5 | h5 | h5 | h5 | h5
                · exact absurd h5 h1
                · exact absurd h5 h2
                · exact h5
                · exact absurd h5 h4
                · exact absurd he h5
              have hb : broughtB b = some (readD (Ms.ansM b.data.toList).body.data.toList) := by unfold broughtB; rw [if_pos ⟨he, h3, hd⟩]
              exact bring_sound h _ (hM _ hb) (brought_check hb)
theorem did_sound (h : Sound M s.A s.P []) (hf : Fly s) (hg : Tr.Good s.T) (a : ActD) (hM : ∀ d, broughtB a.bytes = some d → M (Ju.idD d) = some d) : Sound M (s.did a).1.A (s.did a).1.P [] := by
  unfold NS.did
  split
  · show Sound M (s.join _ _).1.A (s.join _ _).1.P []
    unfold NS.join
    split
    · exact h
    · split
      · exact h
      · exact h
  · split
    · show Sound M (s.leave _).1.A (s.leave _).1.P []
      unfold NS.leave
      split
      · exact h
      · exact h.sub fun l hl => (List.mem_filter.1 hl).1
    · split
      · exact send_sound h _ _ hM (kind_some _)
      · split
        · obtain ⟨_, h2, h3⟩ := pass_keeps hf hg a.n
          rw [h2, h3]
          exact h
        · exact h
end Go.Proofs.YtaaaplbjeknbkaaGreat
