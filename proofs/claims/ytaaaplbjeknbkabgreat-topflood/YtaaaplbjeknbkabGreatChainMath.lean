/-
  Deeds each of which spends of the one ahead: what a node makes of them, in whatever order they are brought.
-/
import Derived.Test.YtaaaplbjeknbkabGreatLoneMath
set_option maxRecDepth 20000
namespace Go.Proofs.YtaaaplbjeknbkabGreat
open Go.RowKit Go.Maps

variable {s : NS}

/-- Each spends of the one ahead, and pays enough; all have their own IDs. -/
structure Chain (l : List DeedD) : Prop where
  fine : ∀ i (h : i < l.length), checkD l[i] = 0
  first : ∀ h : 0 < l.length, l[0].ins = []
  next : ∀ i (h : i + 1 < l.length), l[i + 1].ins = [(Ju.idD l[i], 0)]
  pays : ∀ i (h : i < l.length), ¬ 10 * l[i].fee < l[i].weight
  weight : ∀ i (h : i < l.length), l[i].weight = 10
  ids : (l.map Ju.idD).Nodup
theorem Chain.inj {l : List DeedD} (h : Chain l) {i j : Nat} (hi : i < l.length) (hj : j < l.length) (e : Ju.idD l[i] = Ju.idD l[j]) : i = j := by
  have hp := List.pairwise_iff_getElem.1 h.ids
  rcases Nat.lt_trichotomy i j with h1 | h1 | h1
  · exact absurd (by rw [List.getElem_map, List.getElem_map]; exact e) (hp i j (by simpa using hi) (by simpa using hj) h1)
  · exact h1
  · exact absurd (by rw [List.getElem_map, List.getElem_map]; exact e.symm) (hp j i (by simpa using hj) (by simpa using hi) h1)
theorem chain_find {l : List DeedD} (h : Chain l) {m i : Nat} (hm : m ≤ l.length) (hi : i < l.length) : Ju.findL (l.take m) (Ju.idD l[i]) = if i < m then some l[i] else none := by
  by_cases hlt : i < m
  · rw [if_pos hlt]
    cases hf : Ju.findL (l.take m) (Ju.idD l[i]) with
    | none =>
      have := Ju.findL_none.1 hf l[i] (List.mem_take_iff_getElem.2 ⟨i, by omega, rfl⟩)
      exact absurd rfl this
    | some d =>
      obtain ⟨h1, h2⟩ := Ju.findL_mem hf
      obtain ⟨j, hj, rfl⟩ := List.mem_take_iff_getElem.1 h1
      have := h.inj (by omega) hi h2
      subst this
      rfl
  · rw [if_neg hlt, Ju.findL_none]
    intro d hd e
    obtain ⟨j, hj, rfl⟩ := List.mem_take_iff_getElem.1 hd
    have := h.inj (by omega) hi e
    omega
theorem miss_one (M : UInt64 → Option DeedD) (x : UInt64) (k : Int) : Ju.missL M [(x, k)] = if (M x).isSome then [] else [x] := by
  unfold Ju.missL
  rw [List.foldl_cons, List.foldl_nil]
  simp
theorem chain_outs {l : List DeedD} (h : Chain l) {i : Nat} (hi : i < l.length) : 1 ≤ l[i].outs := by
  obtain ⟨_, _, _, h2, _, _⟩ := check_ok (h.fine i hi)
  omega
/-- The next one is Good. -/
theorem chain_good {l : List DeedD} (h : Chain l) {m : Nat} (hm : m < l.length) : Ju.judgeL (l.take m) l[m] = (0, [], 0) := by
  have hpay : Ju.payI l[m].fee l[m].weight = 0 := by unfold Ju.payI; rw [if_neg (h.pays m hm)]
  unfold Ju.judgeL Ju.stateL Ju.stateM
  rw [if_neg (not_not_intro (h.fine m hm))]
  match m, hm with
  | 0, hm =>
    rw [h.first hm, show Ju.missL (Ju.findL (l.take 0)) [] = [] from rfl, hpay]
    simp [Ju.wickedL]
  | k + 1, hm =>
    have hf := chain_find h (m := k + 1) (i := k) (by omega) (by omega)
    rw [if_pos (by omega)] at hf
    have hms : Ju.missL (Ju.findL (l.take (k + 1))) l[k + 1].ins = [] := by rw [h.next k hm, miss_one, hf]; rfl
    have hwk : Ju.wickedL (Ju.findL (l.take (k + 1))) (Ju.spentL (l.take (k + 1))) l[k + 1].ins = false := by
      rw [h.next k hm]
      unfold Ju.wickedL Ju.badIn
      rw [List.any_cons, List.any_nil, Bool.or_false, Bool.or_eq_false_iff]
      refine ⟨?_, ?_⟩
      · simp only [hf, Option.getD_some, decide_eq_false_iff_not]
        have := chain_outs h (i := k) (by omega)
        omega
      · show (Ju.insL (l.take (k + 1))).contains (Ju.idD l[k], 0) = false
        rw [← Bool.not_eq_true, List.contains_iff_mem]
        intro hc
        unfold Ju.insL at hc
        obtain ⟨d, hd, hx⟩ := List.mem_flatMap.1 hc
        obtain ⟨j, hj, rfl⟩ := List.mem_take_iff_getElem.1 hd
        match j, hj with
        | 0, hj =>
          rw [h.first (by omega)] at hx
          cases hx
        | j + 1, hj =>
          rw [h.next j (by omega), List.mem_singleton] at hx
          have hx1 := (Prod.mk.inj hx).1
          have := h.inj (i := k) (j := j) (by omega) (by omega) hx1
          omega
    rw [hms, hwk, hpay]
    simp
theorem chain_accept {l : List DeedD} (h : Chain l) {m : Nat} (hm : m < l.length) : Ju.acceptL (l.take m) l[m] = (0, l.take (m + 1)) := by
  have hj := chain_good h hm
  have hf := chain_find h (m := m) (i := m) (by omega) hm
  rw [if_neg (by omega)] at hf
  unfold Ju.judgeL at hj
  rw [if_neg (not_not_intro (h.fine m hm))] at hj
  unfold Ju.acceptL
  rw [if_neg (not_not_intro (h.fine m hm)), hf, if_neg (by simp), (Prod.mk.inj hj).1, if_neg (by decide), List.take_succ_eq_append_getElem hm]
/-- A later one is Lost. -/
theorem chain_lost {l : List DeedD} (h : Chain l) {m k : Nat} (hm : m ≤ k) (hk : k + 1 < l.length) : Ju.judgeL (l.take m) l[k + 1] = (2, [Ju.idD l[k]], 0) := by
  have hf := chain_find h (m := m) (i := k) (by omega) (by omega)
  rw [if_neg (by omega)] at hf
  have hms : Ju.missL (Ju.findL (l.take m)) l[k + 1].ins = [Ju.idD l[k]] := by rw [h.next k hk, miss_one, hf]; rfl
  unfold Ju.judgeL Ju.stateL Ju.stateM
  rw [if_neg (not_not_intro (h.fine (k + 1) hk)), hms, if_pos (by simp)]
/-- In order: the next one is accepted. -/
theorem chain_bring {l : List DeedD} (h : Chain l) {m p : Nat} (hm : m < l.length) (hA : s.A = l.take m) (hP : s.P = []) (hW : s.W.has (Ju.idD l[m]) = false) : s.bring p l[m] = { s with T := Tr.forgetL (Tr.answerC s.T p (Ju.idD l[m])).2 (Ju.idD l[m]), A := l.take (m + 1) } := by
  have hf := chain_find h (m := m) (i := m) (by omega) hm
  rw [if_neg (by omega)] at hf
  have ha := chain_accept h hm
  rw [bring_plain hP (by rw [hA]; exact hf) hW (by rw [hA]; exact chain_good h hm) (by rw [hA, ha, List.take_succ_eq_append_getElem hm]), hA, List.take_succ_eq_append_getElem hm]
/-- Links of one peer to some of the deeds. -/
def linksC (l : List DeedD) (p : Nat) (ks : List Nat) : List Ho.LinkD := ks.map fun k => ⟨p, Ju.idD (l.getD k nod), l.getD k nod⟩
theorem deed_at {l : List DeedD} {k : Nat} (h : k < l.length) : l.getD k nod = l[k] := by rw [List.getD_eq_getElem?_getD, List.getElem?_eq_getElem h]; rfl
theorem linksC_deed {l : List DeedD} (h : Chain l) {p : Nat} : ∀ {ks : List Nat}, (∀ k ∈ ks, k < l.length) → ∀ {k : Nat} (hk : k < l.length), Ho.deedOf (linksC l p ks) (Ju.idD l[k]) = if k ∈ ks then some l[k] else none
  | [], _, k, hk => by simp [linksC, Ho.deedOf]
  | j :: r, hks, k, hk => by
    have ih := linksC_deed h (p := p) (ks := r) (fun i hi => hks i (List.mem_cons_of_mem _ hi)) hk
    have hj := hks j List.mem_cons_self
    unfold Ho.deedOf linksC at ih ⊢
    rw [List.map_cons, List.find?_cons]
    simp only [deed_at hj]
    by_cases e : j = k
    · subst e
      simp
    · have : (Ju.idD l[j] == Ju.idD l[k]) = false := beq_eq_false_iff_ne.2 fun e2 => e (h.inj hj hk e2)
      rw [this]
      simp only
      rw [ih]
      have : k ∈ j :: r ↔ k ∈ r := by rw [List.mem_cons]; exact ⟨fun hh => hh.resolve_left fun e3 => e e3.symm, .inr⟩
      simp only [this]
theorem allI_ids : ∀ (ls : List Ho.LD) (acc : List UInt64), (acc ++ ls.map fun l => l.id).Nodup → ls.foldl (fun acc l => if acc.contains l.id then acc else acc ++ [l.id]) acc = acc ++ ls.map fun l => l.id
  | [], acc, _ => by simp
  | a :: r, acc, hn => by
    have hc : acc.contains a.id = false := by
      rw [← Bool.not_eq_true, List.contains_iff_mem]
      intro hm
      rw [List.nodup_append] at hn
      exact hn.2.2 a.id hm a.id (by simp) rfl
    rw [List.foldl_cons, hc]
    simp only [Bool.false_eq_true, if_false]
    rw [allI_ids r (acc ++ [a.id]) (by simpa using hn)]
    simp
theorem linksC_all {l : List DeedD} (h : Chain l) {p : Nat} {ks : List Nat} (hks : ∀ k ∈ ks, k < l.length) (hn : ks.Nodup) : Ho.allL (linksC l p ks) = ks.map fun k => Ju.idD (l.getD k nod) := by
  have e : ((Ho.lsOf (linksC l p ks)).map fun l => l.id) = ks.map fun k => Ju.idD (l.getD k nod) := by
    simp only [Ho.lsOf, linksC, List.map_map, Function.comp_def, Ho.ldOf]
  have := allI_ids (Ho.lsOf (linksC l p ks)) [] (by
    rw [List.nil_append, e]
    unfold List.Nodup
    rw [List.pairwise_map]
    refine List.Pairwise.imp_of_mem (fun {a b} ha hb hab => ?_) hn
    rw [deed_at (hks a ha), deed_at (hks b hb)]
    exact fun e => hab (h.inj (hks a ha) (hks b hb) e))
  rw [List.nil_append, e] at this
  exact this
theorem filter_one {a : Nat} : ∀ {ks : List Nat}, ks.Nodup → a ∈ ks → (ks.filter fun k => k == a) = [a]
  | k :: r, hn, hm => by
    rw [List.nodup_cons] at hn
    by_cases e : k = a
    · subst e
      rw [List.filter_cons_of_pos (by simp), List.filter_eq_nil_iff.2]
      intro j hj
      simp only [beq_iff_eq]
      exact fun e => hn.1 (e ▸ hj)
    · rw [List.filter_cons_of_neg (by simpa using e)]
      exact filter_one hn.2 ((List.mem_cons.1 hm).resolve_left fun e2 => e e2.symm)
theorem linksC_child {l : List DeedD} (h : Chain l) {p : Nat} {ks : List Nat} (hks : ∀ k ∈ ks, k < l.length) (hn : ks.Nodup) {m : Nat} (hm : m < l.length) : Ho.childL (linksC l p ks) (Ju.idD l[m]) = if m + 1 ∈ ks then [Ju.idD (l.getD (m + 1) nod)] else [] := by
  unfold Ho.childL
  rw [linksC_all h hks hn, List.filter_map]
  have e : (ks.filter ((fun y => spendsD ((Ho.deedOf (linksC l p ks) y).getD nod) (Ju.idD l[m])) ∘ fun k => Ju.idD (l.getD k nod))) = ks.filter fun k => k == m + 1 := by
    refine List.filter_congr fun k hk => ?_
    have hkl := hks k hk
    show spendsD ((Ho.deedOf (linksC l p ks) (Ju.idD (l.getD k nod))).getD nod) (Ju.idD l[m]) = (k == m + 1)
    rw [deed_at hkl, linksC_deed h hks hkl, if_pos hk]
    show spendsD l[k] _ = _
    unfold spendsD
    match k, hkl with
    | 0, hkl =>
      rw [h.first hkl]
      rfl
    | k + 1, hkl =>
      rw [h.next k hkl]
      simp only [List.any_cons, List.any_nil, Bool.or_false]
      rw [Bool.eq_iff_iff, beq_iff_eq, beq_iff_eq]
      exact ⟨fun e => by rw [h.inj (i := k) (j := m) (by omega) hm e], fun e => by
        have : k = m := by omega
        subst this
        rfl⟩
  rw [e]
  by_cases hmem : m + 1 ∈ ks
  · rw [if_pos hmem]
    have : (ks.filter fun k => k == m + 1) = [m + 1] := by
      exact filter_one hn hmem
    rw [this]
    rfl
  · rw [if_neg hmem, List.filter_eq_nil_iff.2 (fun k hk => by simp only [beq_iff_eq]; exact fun e => hmem (e ▸ hk))]
    rfl
theorem linksC_remove {l : List DeedD} (h : Chain l) {p : Nat} {ks : List Nat} (hks : ∀ k ∈ ks, k < l.length) {m : Nat} (hm : m < l.length) : Ho.removeL (linksC l p ks) (Ju.idD l[m]) = linksC l p (ks.filter fun k => !(k == m)) := by
  unfold Ho.removeL linksC
  rw [List.filter_map]
  refine congrArg (List.map _) (List.filter_congr fun k hk => ?_)
  simp only [Function.comp_apply]
  rw [deed_at (hks k hk)]
  congr 1
  rw [Bool.eq_iff_iff, beq_iff_eq, beq_iff_eq]
  exact ⟨fun e => h.inj (hks k hk) hm e, fun e => by subst e; rfl⟩
/-- What a node is once some of the deeds were brought (br: which, in their order): the first m are accepted, the m-th is not there. -/
structure ChainSt (l : List DeedD) (p : Nat) (br : List Nat) (m : Nat) (s : NS) : Prop where
  le : m ≤ l.length
  has : ∀ i, i < m → i ∈ br
  not : m ∉ br
  A : s.A = l.take m
  P : s.P = linksC l p (br.filter fun k => decide (m < k))
  W : s.W = Ri.RingS.none 50
/-- What follows. -/
theorem chain_follow {l : List DeedD} (h : Chain l) {p : Nat} {br : List Nat} (hn : br.Nodup) (hbr : ∀ k ∈ br, k < l.length) : ∀ (n m : Nat) (s : NS), l.length - m = n → m ≤ l.length → (∀ i, i < m → i ∈ br) → s.A = l.take m → s.P = linksC l p (br.filter fun k => decide (m ≤ k)) → s.W = Ri.RingS.none 50 → ∃ m', ChainSt l p br m' (s.follow (if m ∈ br then [Ju.idD (l.getD m nod)] else []))
  | n, m, s, hnm, hm, hhas, hA, hP, hW => by
    by_cases hmb : m ∈ br
    · have hml := hbr m hmb
      have hks : ∀ k ∈ (br.filter fun k => decide (m ≤ k)), k < l.length := fun k hk => hbr k (List.mem_filter.1 hk).1
      have hmk : m ∈ (br.filter fun k => decide (m ≤ k)) := List.mem_filter.2 ⟨hmb, by simp⟩
      rw [if_pos hmb, deed_at hml]
      have hd : Ho.deedOf s.P (Ju.idD l[m]) = some l[m] := by rw [hP, linksC_deed h hks hml, if_pos hmk]
      have hfil : ((br.filter fun k => decide (m ≤ k)).filter fun k => !(k == m)) = br.filter fun k => decide (m + 1 ≤ k) := by
        rw [List.filter_filter]
        refine List.filter_congr fun k _ => ?_
        rw [Bool.eq_iff_iff]
        simp only [Bool.and_eq_true, Bool.not_eq_true', beq_eq_false_iff_ne, decide_eq_true_eq]
        omega
      have hrem : Ho.removeL s.P (Ju.idD l[m]) = linksC l p (br.filter fun k => decide (m + 1 ≤ k)) := by rw [hP, linksC_remove h hks hml, hfil]
      have hks' : ∀ k ∈ (br.filter fun k => decide (m + 1 ≤ k)), k < l.length := fun k hk => hbr k (List.mem_filter.1 hk).1
      have hch : Ho.childL (Ho.removeL s.P (Ju.idD l[m])) (Ju.idD l[m]) = if m + 1 ∈ br then [Ju.idD (l.getD (m + 1) nod)] else [] := by
        rw [hrem, linksC_child h hks' (hn.filter _) hml]
        have : m + 1 ∈ (br.filter fun k => decide (m + 1 ≤ k)) ↔ m + 1 ∈ br := by rw [List.mem_filter]; simp
        simp only [this]
      rw [follow_some _ _ _ _ hd, examine_good (by rw [hA, chain_good h hml])]
      have hac : (s.accept (Ju.idD l[m]) l[m]).P = Ho.removeL s.P (Ju.idD l[m]) := rfl
      simp only [List.nil_append, hac, hch]
      have hA2 : (s.accept (Ju.idD l[m]) l[m]).A = l.take (m + 1) := by
        show (Ju.acceptL s.A l[m]).2 = _
        rw [hA, chain_accept h hml]
      have hhas' : ∀ i, i < m + 1 → i ∈ br := fun i hi => by
        by_cases e : i = m
        · subst e; exact hmb
        · exact hhas i (by omega)
      match n, hnm with
      | 0, hnm => omega
      | n + 1, hnm => exact chain_follow h hn hbr n (m + 1) _ (by omega) (by omega) hhas' hA2 hrem hW
    · rw [if_neg hmb, follow_nil]
      refine ⟨m, hm, hhas, hmb, hA, ?_, hW⟩
      rw [hP]
      congr 1
      refine List.filter_congr fun k hk => ?_
      rw [Bool.eq_iff_iff, decide_eq_true_eq, decide_eq_true_eq]
      have : k ≠ m := fun e => hmb (e ▸ hk)
      omega
theorem sum_ten : ∀ (M : UInt64 → Option DeedD) (ks : List UInt64), (∀ x ∈ ks, ((M x).getD nod).weight ≤ 10) → Ho.sumW M ks ≤ 10 * (ks.length : Int)
  | _, [], _ => by simp [Ho.sumW]
  | M, x :: r, h => by
    have ih := sum_ten M r (fun y hy => h y (List.mem_cons_of_mem _ hy))
    have h1 := h x List.mem_cons_self
    unfold Ho.sumW Ho.wI at ih ⊢
    rw [List.map_cons, List.sum_cons, List.length_cons]
    omega
theorem links_light {l : List DeedD} (h : Chain l) {p : Nat} (hp : p < 8) {ks : List Nat} (hks : ∀ k ∈ ks, k < l.length) (hn : ks.Nodup) (hl : ks.length ≤ 12) (h0 : ks ≠ []) : Ho.fullL (linksC l p ks) = false := by
  unfold Ho.fullL Ho.fullF
  have h1 : Ho.sumW (Ho.deedOf (linksC l p ks)) (Ho.allL (linksC l p ks)) ≤ 10 * ((Ho.allL (linksC l p ks)).length : Int) := sum_ten _ _ fun x hx => by
    rw [linksC_all h hks hn] at hx
    obtain ⟨k, hk, rfl⟩ := List.mem_map.1 hx
    rw [deed_at (hks k hk), linksC_deed h hks (hks k hk), if_pos hk]
    show (l[k]'(hks k hk)).weight ≤ 10
    rw [h.weight k (hks k hk)]
    omega
  have h2 : (Ho.allL (linksC l p ks)).length = ks.length := by rw [linksC_all h hks hn, List.length_map]
  have h3 : (Ho.lsOf (linksC l p ks)).length = ks.length := by rw [Ho.lsOf_len]; unfold linksC; rw [List.length_map]
  have h4 : 1 ≤ Ho.peersF (Ho.usageF (Ho.deedOf (linksC l p ks)) (Ho.lsOf (linksC l p ks))) 8 := by
    unfold Ho.peersF
    refine List.length_pos_of_mem (a := p) (List.mem_filter.2 ⟨List.mem_range.2 hp, ?_⟩)
    rw [decide_eq_true_eq]
    unfold Ho.usageF
    simp only
    obtain ⟨k, r, rfl⟩ := List.exists_cons_of_ne_nil h0
    have : 0 < ((Ho.lsOf (linksC l p (k :: r))).filter fun l => l.peer == p).length := List.length_pos_of_mem (a := ⟨p, Ju.idD (l.getD k nod)⟩) (List.mem_filter.2 ⟨by simp [Ho.lsOf, linksC, Ho.ldOf], by simp⟩)
    omega
  rw [Bool.or_eq_false_iff, decide_eq_false_iff_not, decide_eq_false_iff_not, h3]
  rw [h2] at h1
  constructor <;> omega
theorem linksC_add {l : List DeedD} (h : Chain l) {p : Nat} (hp : p < 8) {ks : List Nat} (hks : ∀ k ∈ ks, k < l.length) (hn : ks.Nodup) (hl : ks.length < 12) {k : Nat} (hk : k < l.length) (hnk : k ∉ ks) : (Ho.addC (linksC l p ks) (p : Int) (Ju.idD l[k]) l[k]).2 = linksC l p (ks ++ [k]) := by
  have hd : Ho.deedOf (linksC l p ks) (Ju.idD l[k]) = none := by rw [linksC_deed h hks hk, if_neg hnk]
  have hks' : ∀ j ∈ ks ++ [k], j < l.length := fun j hj => by
    rcases List.mem_append.1 hj with hj | hj
    · exact hks j hj
    · rw [List.mem_singleton.1 hj]; exact hk
  have hn' : (ks ++ [k]).Nodup := List.nodup_append.2 ⟨hn, by simp, fun a ha b hb e => hnk (by rw [← List.mem_singleton.1 hb, ← e]; exact ha)⟩
  have hnew : Ho.newL (linksC l p ks) p (Ju.idD l[k]) l[k] = linksC l p (ks ++ [k]) := by
    unfold Ho.newL
    rw [hd]
    unfold linksC
    rw [List.map_append, List.map_cons, List.map_nil, deed_at hk]
    rfl
  have hany : (linksC l p ks).any (fun q => q.peer == p && q.id == Ju.idD l[k]) = false := by
    rw [List.any_eq_false]
    intro q hq
    have := Ho.deedOf_none.1 hd q hq
    simp [this]
  unfold Ho.addC
  rw [if_neg (not_not_intro ⟨by omega, by omega⟩), if_neg (not_not_intro (h.fine k hk)), Int.toNat_natCast, hany, if_neg (by decide), hnew]
  exact Ho.room_not (links_light h hp hks' hn' (by simp; omega) (by simp))
theorem wants_keep (p : Nat) : ∀ (l : List UInt64) (u : NS), (l.foldl (fun s x => s.want p x) u).A = u.A ∧ (l.foldl (fun s x => s.want p x) u).P = u.P ∧ (l.foldl (fun s x => s.want p x) u).W = u.W
  | [], _ => ⟨rfl, rfl, rfl⟩
  | x :: r, u => by
    obtain ⟨h1, h2, h3⟩ := wants_keep p r (u.want p x)
    rw [List.foldl_cons, h1, h2, h3]
    unfold NS.want
    split
    · exact ⟨rfl, rfl, rfl⟩
    · exact ⟨rfl, rfl, rfl⟩
theorem adopt_keep (s : NS) (p : Nat) (x : UInt64) (d : DeedD) (ms : List UInt64) : (s.adopt p x d ms).A = s.A ∧ (s.adopt p x d ms).P = (Ho.addC s.P p x d).2 ∧ (s.adopt p x d ms).W = s.W := by
  unfold NS.adopt
  simp only
  split
  · exact wants_keep p ms _
  · exact ⟨rfl, rfl, rfl⟩
/-- One more is brought. -/
theorem chain_step {l : List DeedD} (h : Chain l) (hl : l.length ≤ 12) {p : Nat} (hp : p < 8) {br : List Nat} (hn : br.Nodup) (hbr : ∀ k ∈ br, k < l.length) {m k : Nat} (hk : k < l.length) (hkb : k ∉ br) (hs : ChainSt l p br m s) : ∃ m', ChainSt l p (br ++ [k]) m' (s.bring p l[k]) := by
  have hn' : (br ++ [k]).Nodup := List.nodup_append.2 ⟨hn, by simp, fun a ha b hb e => hkb (by rw [← List.mem_singleton.1 hb, ← e]; exact ha)⟩
  have hbr' : ∀ j ∈ br ++ [k], j < l.length := fun j hj => by
    rcases List.mem_append.1 hj with hj | hj
    · exact hbr j hj
    · rw [List.mem_singleton.1 hj]; exact hk
  have hmk : m ≤ k := by
    rcases Nat.lt_or_ge k m with h1 | h1
    · exact absurd (hs.has k h1) hkb
    · exact h1
  have hf := chain_find h (m := m) (i := k) hs.le hk
  rw [if_neg (by omega)] at hf
  have hks : ∀ j ∈ (br.filter fun j => decide (m < j)), j < l.length := fun j hj => hbr j (List.mem_filter.1 hj).1
  rw [bring_new rfl (by rw [hs.A, hf]; rfl) (by rw [hs.W]; rfl)]
  obtain ⟨t, ht⟩ : ∃ t : NS, ({ s with T := (Tr.answerC s.T p (Ju.idD l[k])).2 } : NS) = t := ⟨_, rfl⟩
  have htA : t.A = l.take m := by rw [← ht]; exact hs.A
  have htP : t.P = linksC l p (br.filter fun j => decide (m < j)) := by rw [← ht]; exact hs.P
  have htW : t.W = Ri.RingS.none 50 := by rw [← ht]; exact hs.W
  rw [ht]
  by_cases e : k = m
  · subst e
    rw [htA, chain_good h hk, if_neg (by simp), examine_good (by rw [htA, chain_good h hk])]
    have hrem : (t.accept (Ju.idD l[k]) l[k]).P = linksC l p ((br ++ [k]).filter fun j => decide (k + 1 ≤ j)) := by
      show Ho.removeL t.P (Ju.idD l[k]) = _
      rw [htP, linksC_remove h hks hk, List.filter_filter, List.filter_append]
      have e1 : ([k].filter fun j => decide (k + 1 ≤ j)) = [] := List.filter_eq_nil_iff.2 fun j hj => by rw [List.mem_singleton.1 hj]; simp
      rw [e1, List.append_nil]
      congr 1
      refine List.filter_congr fun j _ => ?_
      rw [Bool.eq_iff_iff]
      simp only [Bool.and_eq_true, Bool.not_eq_true', beq_eq_false_iff_ne, decide_eq_true_eq]
      omega
    have hks' : ∀ j ∈ ((br ++ [k]).filter fun j => decide (k + 1 ≤ j)), j < l.length := fun j hj => hbr' j (List.mem_filter.1 hj).1
    simp only
    have hch : Ho.childL (t.accept (Ju.idD l[k]) l[k]).P (Ju.idD l[k]) = if k + 1 ∈ br ++ [k] then [Ju.idD (l.getD (k + 1) nod)] else [] := by
      rw [hrem, linksC_child h hks' (hn'.filter _) hk]
      have : k + 1 ∈ ((br ++ [k]).filter fun j => decide (k + 1 ≤ j)) ↔ k + 1 ∈ br ++ [k] := by rw [List.mem_filter]; simp
      simp only [this]
    rw [hch]
    exact chain_follow h hn' hbr' _ (k + 1) _ rfl (by omega) (fun i hi => by
      by_cases e2 : i = k
      · subst e2; simp
      · exact List.mem_append.2 (.inl (hs.has i (by omega)))) (by show (Ju.acceptL t.A l[k]).2 = _; rw [htA, chain_accept h hk]) hrem htW
  · obtain ⟨j, rfl⟩ : ∃ j, k = j + 1 := ⟨k - 1, by omega⟩
    have hjud := chain_lost h (m := m) (k := j) (by omega) hk
    have hex : t.examine (Ju.idD l[j + 1]) l[j + 1] = (t, []) := examine_lost (by rw [htA, hjud]; show (2 : Int) ≠ 0; decide) (by rw [htA, hjud]; show (2 : Int) ≠ 1; decide) (by rw [htA, hjud]; show (2 : Int) ≠ 3; decide)
    rw [hex, htA, hjud, if_pos (by simp), follow_nil]
    obtain ⟨h1, h2, h3⟩ := adopt_keep t p (Ju.idD l[j + 1]) l[j + 1] [Ju.idD l[j]]
    have hlen : (br.filter fun i => decide (m < i)).length < 12 := by
      have h4 : (br.filter fun i => decide (m < i)).length ≤ br.length := List.length_filter_le _ _
      have h5 : (br ++ [j + 1]).length ≤ l.length := by
        have h6 : (br ++ [j + 1]).length ≤ (List.range l.length).length := hn'.length_le_of_subset fun i hi => List.mem_range.2 (hbr' i hi)
        rwa [List.length_range] at h6
      rw [List.length_append, List.length_singleton] at h5
      omega
    refine ⟨m, hs.le, fun i hi => List.mem_append.2 (.inl (hs.has i hi)), ?_, h1.trans htA, ?_, h3.trans htW⟩
    · rw [List.mem_append, List.mem_singleton]
      rintro (h4 | h4)
      · exact hs.not h4
      · omega
    · rw [h2, htP, linksC_add h hp hks (hn.filter _) hlen hk (fun h4 => hkb (List.mem_filter.1 h4).1), List.filter_append]
      congr 2
      exact (List.filter_eq_self.2 fun i hi => by rw [List.mem_singleton.1 hi]; simp; omega).symm
/-- All are brought: all are accepted. -/
theorem chain_end {l : List DeedD} {p : Nat} {br : List Nat} {m : Nat} (hbr : ∀ k ∈ br, k < l.length) (hall : ∀ k, k < l.length → k ∈ br) (hs : ChainSt l p br m s) : s.A = l ∧ s.P = [] := by
  have hm : m = l.length := by
    rcases Nat.lt_or_ge m l.length with h1 | h1
    · exact absurd (hall m h1) hs.not
    · have := hs.le
      omega
  subst hm
  refine ⟨by rw [hs.A, List.take_length], ?_⟩
  rw [hs.P, List.filter_eq_nil_iff.2 (fun k hk => by have := hbr k hk; simp; omega)]
  rfl
theorem chainSt_new (l : List DeedD) (p : Nat) (salt : UInt64) (f : Bool) : ChainSt l p [] 0 ((NS.new salt).setPeer p (true, f)) := ⟨Nat.zero_le _, fun i hi => absurd hi (by omega), by simp, rfl, rfl, rfl⟩
end Go.Proofs.YtaaaplbjeknbkabGreat
