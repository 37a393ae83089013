/-
  A parent that pays too little and its child: what a node makes of them.
-/
import Derived.Test.YtaaaplbjeknbkaaGreatPaidHash
import Derived.Test.YtaaaplbjeknbkaaGreatChainMath
import Derived.Test.YtaaaplbjeknbkaaGreatTopK
set_option maxRecDepth 20000
namespace Go.Proofs.YtaaaplbjeknbkaaGreat
open Go.RowKit Go.Maps

variable {s : NS} {W f : Nat} {x c : UInt64}

theorem par_check (h : 20 ≤ W ∧ W < 920) (hf : f < W / 10) : checkD (parD W f) = 0 := by
  have h1 : restB 2 (W : Int) (f : Int) = true := by
    unfold restB within
    simp
    omega
  unfold checkD parD
  simp [h1, atsB, dupB]
theorem kid_check (x : UInt64) (h : 20 ≤ W ∧ W < 920) : checkD (kidD x W) = 0 := by
  have h1 : restB 1 10 ((W / 10 + 2 : Nat) : Int) = true := by
    unfold restB within
    simp
    omega
  unfold checkD kidD
  simp only [h1]
  simp [atsB, dupB, within]
theorem par_state (_h : 20 ≤ W ∧ W < 920) (hf : f < W / 10) : Ju.stateL [] (parD W f) = 1 := by
  have hp : Ju.payI (parD W f).fee (parD W f).weight = 1 := by
    unfold Ju.payI parD
    rw [if_pos]
    show 10 * (f : Int) < (W : Int)
    omega
  unfold Ju.stateL Ju.stateM
  rw [hp]
  rfl
theorem par_judge (h : 20 ≤ W ∧ W < 920) (hf : f < W / 10) : Ju.judgeL [] (parD W f) = (1, [], 0) := by
  unfold Ju.judgeL
  rw [if_neg (not_not_intro (par_check h hf)), par_state h hf]
  rfl
theorem kid_judge (x : UInt64) (h : 20 ≤ W ∧ W < 920) : Ju.judgeL [] (kidD x W) = (2, [x], 0) := by
  have hm : Ju.missL (Ju.findL []) (kidD x W).ins = [x] := miss_one _ x 1
  unfold Ju.judgeL Ju.stateL Ju.stateM
  rw [if_neg (not_not_intro (kid_check x h)), hm, if_pos (by simp)]
/-- Nothing is accepted; these wait. -/
structure PSt (P : List Ho.LinkD) (T : List Tr.TEnt) (s : NS) : Prop where
  A : s.A = []
  P : s.P = P
  T : s.T = T
  W : s.W = Ri.RingS.none 50
  now : s.now = 0
  pref : (s.peers 1).2 = true
theorem ans_nil (p : Nat) (x : UInt64) : (Tr.answerC [] (p : Int) x).2 = [] := by
  unfold Tr.answerC
  split
  · rfl
  · rfl
theorem same_T {t : List Tr.TEnt} (h : t = s.T) : ({ s with T := t } : NS) = s := by subst h; rfl
/-- The parent comes first. -/
theorem PSt.poor (hs : PSt [] [] s) (h : 20 ≤ W ∧ W < 920) (hf : f < W / 10) : PSt [] [] (s.bring 1 (parD W f)) := by
  obtain ⟨x, hx⟩ : ∃ x, Ju.idD (parD W f) = x := ⟨_, rfl⟩
  have ht : ({ s with T := (Tr.answerC s.T ((1 : Nat) : Int) (Ju.idD (parD W f))).2 } : NS) = s := same_T (by rw [hs.T, ans_nil])
  have hp : (s.bring 1 (parD W f)).peers = s.peers := bring_peers _ _ _
  have hj : Ju.judgeL s.A (parD W f) = (1, [], 0) := by rw [hs.A]; exact par_judge h hf
  have he : s.examine x (parD W f) = (({ s with Q := s.Q.put x } : NS).settle x, []) := by
    rw [examine_poor (by rw [hj])]
    unfold NS.seek NS.payer
    have : Ho.childL (({ s with Q := s.Q.put x } : NS).settle x).P x = [] := by
      show Ho.childL (Ho.removeL s.P x) x = []
      rw [hs.P]
      rfl
    rw [this]
    rfl
  have hb : s.bring 1 (parD W f) = ({ s with Q := s.Q.put x } : NS).settle x := by
    rw [bring_new ht (by rw [hs.A]; rfl) (by rw [hs.W]; rfl), hx, he, hj, if_neg (by simp), follow_nil]
  refine ⟨by rw [hb]; exact hs.A, ?_, ?_, by rw [hb]; exact hs.W, by rw [hb]; exact hs.now, by rw [hp]; exact hs.pref⟩
  · rw [hb]
    show Ho.removeL s.P x = []
    rw [hs.P]
    rfl
  · rw [hb]
    show Tr.forgetL s.T x = []
    rw [hs.T]
    rfl
theorem kid_add {d : DeedD} (hd : checkD d = 0) (hw : d.weight = 10) (x : UInt64) : (Ho.addC [] (1 : Nat) x d).2 = [⟨1, x, d⟩] := by
  have hf : Ho.fullL [⟨1, x, d⟩] = false := by
    unfold Ho.fullL Ho.fullF
    have h1 : Ho.allL [⟨1, x, d⟩] = [x] := by simp [Ho.allL, Ho.allI, Ho.lsOf, Ho.ldOf]
    have h2 : Ho.deedOf [⟨1, x, d⟩] x = some d := by simp [Ho.deedOf]
    have h3 : Ho.peersF (Ho.usageF (Ho.deedOf [⟨1, x, d⟩]) (Ho.lsOf [⟨1, x, d⟩])) 8 = 1 := by
      simp [Ho.peersF, Ho.usageF, Ho.lsOf, Ho.ldOf, List.range, List.range.loop, List.filter_cons]
    rw [h1, h3]
    simp [Ho.sumW, Ho.wI, h2, hw, Ho.lsOf]
  unfold Ho.addC
  rw [if_neg (not_not_intro ⟨by decide, by decide⟩), if_neg (not_not_intro hd), if_neg (by simp)]
  show Ho.room [⟨1, x, d⟩] = _
  unfold Ho.room
  simp only [List.length_cons, List.length_nil, Nat.zero_add, Ho.roomN]
  rw [hf]
  simp
theorem kid_again {d : DeedD} (hd : checkD d = 0) (x : UInt64) : (Ho.addC [⟨1, x, d⟩] (1 : Nat) x d).2 = [⟨1, x, d⟩] := by
  unfold Ho.addC
  rw [if_neg (not_not_intro ⟨by decide, by decide⟩), if_neg (not_not_intro hd), if_pos (by simp)]
theorem want_new {u : NS} (hT : u.T = []) (hd : Ho.deedOf u.P x = none) (hW : u.W.has x = false) (h0 : u.now = 0) (h1 : (u.peers 1).2 = true) : u.want 1 x = { u with T := entsP 1 true 0 0 [x] } := by
  have e : (Tr.annC u.T ((1 : Nat) : Int) x 0 true).2 = entsP 1 true 0 0 [x] := by
    rw [hT]
    exact lone_ann (p0 := 1) (by decide) (f := true) (t := 0) ⟨by decide, by decide⟩ (m := []) (by simp) (by simp)
  unfold NS.want
  rw [if_neg (by rw [hd, hW]; decide), h0, h1, e]
theorem want_old {u : NS} {st : Nat} {t : Int} (hT : u.T = entsP 1 true st t [x]) : u.want 1 x = u := by
  unfold NS.want
  split
  · rfl
  · refine same_T ?_
    unfold Tr.annC
    split
    · unfold Tr.annL
      rw [if_pos (by rw [hT]; simp [entsP, Tr.isE])]
    · rfl
theorem deed_alone {d : DeedD} (hcx : c ≠ x) : Ho.deedOf [⟨1, c, d⟩] x = none := by simp [Ho.deedOf, hcx]
/-- The child comes: it waits, its parent is to be asked for. -/
theorem PSt.lost (hs : PSt [] [] s) (h : 20 ≤ W ∧ W < 920) (hc : Ju.idD (kidD x W) = c) (hcx : c ≠ x) : PSt [⟨1, c, kidD x W⟩] (entsP 1 true 0 0 [x]) (s.bring 1 (kidD x W)) := by
  have ht : ({ s with T := (Tr.answerC s.T ((1 : Nat) : Int) (Ju.idD (kidD x W))).2 } : NS) = s := same_T (by rw [hs.T, ans_nil])
  have hp : (s.bring 1 (kidD x W)).peers = s.peers := bring_peers _ _ _
  have hj : Ju.judgeL s.A (kidD x W) = (2, [x], 0) := by rw [hs.A]; exact kid_judge x h
  have he : s.examine c (kidD x W) = (s, []) := examine_lost (by rw [hj]; show (2 : Int) ≠ 0; decide) (by rw [hj]; show (2 : Int) ≠ 1; decide) (by rw [hj]; show (2 : Int) ≠ 3; decide)
  have ha : (Ho.addC s.P ((1 : Nat) : Int) c (kidD x W)).2 = [⟨1, c, kidD x W⟩] := by rw [hs.P]; exact kid_add (kid_check x h) rfl c
  have hft : Tr.forgetL s.T c = [] := by rw [hs.T]; rfl
  have hb : s.bring 1 (kidD x W) = { s with P := [⟨1, c, kidD x W⟩], T := entsP 1 true 0 0 [x] } := by
    rw [bring_new ht (by rw [hs.A]; rfl) (by rw [hs.W]; rfl), hc, he, hj, if_pos (by simp), follow_nil]
    unfold NS.adopt
    simp only [ha]
    rw [if_pos (by simp [Ho.deedOf]), List.foldl_cons, List.foldl_nil, want_new (u := ({ s with T := Tr.forgetL s.T c, P := [⟨1, c, kidD x W⟩] } : NS)) hft (deed_alone hcx) (by show s.W.has x = false; rw [hs.W]; rfl) hs.now hs.pref]
  refine ⟨by rw [hb]; exact hs.A, by rw [hb], by rw [hb], by rw [hb]; exact hs.W, by rw [hb]; exact hs.now, by rw [hp]; exact hs.pref⟩
/-- Its parent is asked for. -/
theorem PSt.ask {P : List Ho.LinkD} (hs : PSt P (entsP 1 true 0 0 [x]) s) : ∃ u t, s.pass 0 = (u, [⟨1, bytesM ⟨2, [x], ⟨#[]⟩⟩⟩], 0) ∧ PSt P (entsP 1 true 2 t [x]) u ∧ u.peers = s.peers := by
  have hp := ready_pass (p0 := 1) (by decide) (f := true) (.inl rfl) hs.T (by simp) (by rw [hs.now]; decide) (k := 0) (by rw [hs.now]; decide) (by rw [hs.now]; decide)
  have e1 : [x].take 4 = [x] := rfl
  rw [e1, message_is (by simp) (by simp) (by simp)] at hp
  exact ⟨_, _, hp, ⟨hs.A, hs.P, rfl, hs.W, by show s.now + 0 = 0; rw [hs.now]; rfl, hs.pref⟩, rfl⟩
/-- The child comes again. -/
theorem PSt.again {st : Nat} {t : Int} (hst : st ≠ 3) (hs : PSt [⟨1, c, kidD x W⟩] (entsP 1 true st t [x]) s) (h : 20 ≤ W ∧ W < 920) (hc : Ju.idD (kidD x W) = c) (hcx : c ≠ x) : PSt [⟨1, c, kidD x W⟩] (entsP 1 true st t [x]) (s.bring 1 (kidD x W)) := by
  have h3 : ∀ e ∈ entsP 1 true st t [x], e.st ≠ 3 := fun e he => by rw [(entsP_mem he).1]; exact hst
  have hne : c ∉ [x] := by simpa using hcx
  have hfi : (entsP 1 true st t [x]).filter (fun e => !(e.id == c)) = entsP 1 true st t [x] := entsP_filter _ _ _ _ hne
  have ht : ({ s with T := (Tr.answerC s.T ((1 : Nat) : Int) (Ju.idD (kidD x W))).2 } : NS) = s := same_T (by rw [hs.T, lone_answer (by decide) (entsP_lone 1 true st t (by simp)) h3, hc, hfi])
  have hp : (s.bring 1 (kidD x W)).peers = s.peers := bring_peers _ _ _
  have hj : Ju.judgeL s.A (kidD x W) = (2, [x], 0) := by rw [hs.A]; exact kid_judge x h
  have he : s.examine c (kidD x W) = (s, []) := examine_lost (by rw [hj]; show (2 : Int) ≠ 0; decide) (by rw [hj]; show (2 : Int) ≠ 1; decide) (by rw [hj]; show (2 : Int) ≠ 3; decide)
  have ha : (Ho.addC s.P ((1 : Nat) : Int) c (kidD x W)).2 = [⟨1, c, kidD x W⟩] := by rw [hs.P]; exact kid_again (kid_check x h) c
  have hft : Tr.forgetL s.T c = entsP 1 true st t [x] := by rw [hs.T]; exact hfi
  have hb : s.bring 1 (kidD x W) = { s with P := [⟨1, c, kidD x W⟩], T := entsP 1 true st t [x] } := by
    rw [bring_new ht (by rw [hs.A]; rfl) (by rw [hs.W]; rfl), hc, he, hj, if_pos (by simp), follow_nil]
    unfold NS.adopt
    simp only [ha, hft]
    rw [if_pos (by simp [Ho.deedOf]), List.foldl_cons, List.foldl_nil, want_old rfl]
  refine ⟨by rw [hb]; exact hs.A, by rw [hb], by rw [hb], by rw [hb]; exact hs.W, by rw [hb]; exact hs.now, by rw [hp]; exact hs.pref⟩
theorem paid_find (d : DeedD) (hx : Ju.idD d = x) : Ju.findL [d] x = some d := by simp [Ju.findL, hx]
theorem kid_pays (h : 20 ≤ W ∧ W < 920) : Ju.payI (kidD x W).fee (kidD x W).weight = 0 := by
  unfold Ju.payI kidD
  rw [if_neg]
  show ¬ 10 * ((W / 10 + 2 : Nat) : Int) < 10
  omega
theorem kid_miss (hx : Ju.idD (parD W f) = x) : Ju.missL (Ju.findL [parD W f]) (kidD x W).ins = [] := by
  have := miss_one (Ju.findL [parD W f]) x 1
  rw [paid_find _ hx] at this
  exact this
theorem kid_good (hx : Ju.idD (parD W f) = x) : Ju.wickedL (Ju.findL [parD W f]) (Ju.spentL [parD W f]) (kidD x W).ins = false := by
  show (Ju.badIn (Ju.findL [parD W f]) (Ju.spentL [parD W f]) (x, 1) || false) = false
  unfold Ju.badIn
  simp only [paid_find _ hx]
  rfl
theorem kid_state (h : 20 ≤ W ∧ W < 920) (hx : Ju.idD (parD W f) = x) : Ju.stateL [parD W f] (kidD x W) = 0 := by
  unfold Ju.stateL Ju.stateM
  rw [kid_miss hx, if_neg (by simp), kid_good hx, if_neg (by decide), kid_pays h]
theorem par_with (_h : 20 ≤ W ∧ W < 920) (hx : Ju.idD (parD W f) = x) : Ju.withL [] (parD W f) (kidD x W) = 0 := by
  unfold Ju.withL
  rw [List.nil_append, kid_miss hx, if_neg (by simp), kid_good hx, if_neg (by decide)]
  unfold Ju.payI parD kidD
  rw [if_neg]
  show ¬ 10 * ((f : Int) + ((W / 10 + 2 : Nat) : Int)) < (W : Int) + 10
  omega
theorem par_pair (h : 20 ≤ W ∧ W < 920) (hf : f < W / 10) (hx : Ju.idD (parD W f) = x) : Ju.pairL [] (parD W f) (kidD x W) = (0, 0) := by
  have hsp : spendsD (kidD x W) (Ju.idD (parD W f)) = true := by rw [hx]; simp [spendsD, kidD]
  unfold Ju.pairL
  rw [if_neg (not_not_intro (par_check h hf)), if_neg (not_not_intro (kid_check x h)), hsp, if_neg (by decide), par_state h hf, if_neg (by decide), par_with h hx]
theorem par_accept (h : 20 ≤ W ∧ W < 920) (hf : f < W / 10) : Ju.acceptL [] (parD W f) = (0, [parD W f]) := by
  unfold Ju.acceptL
  rw [if_neg (not_not_intro (par_check h hf)), if_neg (by simp [Ju.findL]), par_state h hf, if_neg (by decide)]
  rfl
theorem kid_accept (h : 20 ≤ W ∧ W < 920) (hx : Ju.idD (parD W f) = x) (hc : Ju.idD (kidD x W) = c) (hcx : c ≠ x) : Ju.acceptL [parD W f] (kidD x W) = (0, [parD W f, kidD x W]) := by
  have hn : Ju.findL [parD W f] c = none := by simp [Ju.findL, hx, hcx.symm]
  unfold Ju.acceptL
  rw [if_neg (not_not_intro (kid_check x h)), hc, hn, if_neg (by simp), kid_state h hx, if_neg (by decide)]
  rfl
/-- The parent comes: both are accepted. -/
theorem PSt.both {st : Nat} {t : Int} (hst : st ≠ 3) (hs : PSt [⟨1, c, kidD x W⟩] (entsP 1 true st t [x]) s) (h : 20 ≤ W ∧ W < 920) (hf : f < W / 10) (hx : Ju.idD (parD W f) = x) (hc : Ju.idD (kidD x W) = c) (hcx : c ≠ x) : (s.bring 1 (parD W f)).A = [parD W f, kidD x W] ∧ (s.bring 1 (parD W f)).P = [] := by
  have h3 : ∀ e ∈ entsP 1 true st t [x], e.st ≠ 3 := fun e he => by rw [(entsP_mem he).1]; exact hst
  obtain ⟨u, hu⟩ : ∃ u : NS, ({ s with T := (Tr.answerC s.T ((1 : Nat) : Int) (Ju.idD (parD W f))).2 } : NS) = u := ⟨_, rfl⟩
  have huA : u.A = [] := by rw [← hu]; exact hs.A
  have huP : u.P = [⟨1, c, kidD x W⟩] := by rw [← hu]; exact hs.P
  have hj : Ju.judgeL u.A (parD W f) = (1, [], 0) := by rw [huA]; exact par_judge h hf
  obtain ⟨v, hv⟩ : ∃ v : NS, ({ u with Q := u.Q.put x } : NS).settle x = v := ⟨_, rfl⟩
  have hvA : v.A = [] := by rw [← hv]; exact huA
  have hvP : v.P = [⟨1, c, kidD x W⟩] := by
    rw [← hv]
    show Ho.removeL u.P x = _
    rw [huP]
    simp [Ho.removeL, hcx]
  have hch : Ho.childL v.P x = [c] := by
    rw [hvP]
    have h1 : Ho.allL [⟨1, c, kidD x W⟩] = [c] := by simp [Ho.allL, Ho.allI, Ho.lsOf, Ho.ldOf]
    unfold Ho.childL
    rw [h1]
    simp [Ho.deedOf, spendsD, kidD]
  have hdc : (Ho.deedOf v.P c).getD nod = kidD x W := by rw [hvP]; simp [Ho.deedOf]
  have hpy : v.payer x (parD W f) = some c := by
    unfold NS.payer
    rw [hch, List.find?_cons_of_pos]
    rw [hdc, hvA, par_pair h hf hx]
    rfl
  have hPn : Ho.removeL (Ho.removeL v.P x) c = [] := by rw [hvP]; simp [Ho.removeL]
  have hse : v.seek x (parD W f) = ((v.accept x (parD W f)).accept c (kidD x W), []) := by
    unfold NS.seek
    rw [hpy]
    show ((v.accept x (parD W f)).accept c ((Ho.deedOf v.P c).getD nod), Ho.childL (Ho.removeL (Ho.removeL v.P x) c) x ++ Ho.childL (Ho.removeL (Ho.removeL v.P x) c) c) = _
    rw [hdc, hPn]
    rfl
  have he : u.examine x (parD W f) = ((v.accept x (parD W f)).accept c (kidD x W), []) := by
    rw [examine_poor (by rw [hj]), hv, hse]
  have hb : s.bring 1 (parD W f) = (v.accept x (parD W f)).accept c (kidD x W) := by
    rw [bring_new hu (by rw [hs.A]; rfl) (by rw [hs.W]; rfl), hx, he, hj, if_neg (by simp), follow_nil]
  rw [hb]
  constructor
  · show (Ju.acceptL (Ju.acceptL v.A (parD W f)).2 (kidD x W)).2 = _
    rw [hvA, par_accept h hf, kid_accept h hx hc hcx]
  · exact hPn
theorem PSt.fly {P : List Ho.LinkD} {st : Nat} {t : Int} (hs : PSt P (entsP 1 true st t [x]) s) : Fly s := fun p _ => by
  have : flies s.T p ≤ 1 := by
    unfold flies
    rw [hs.T]
    exact Nat.le_trans (List.length_filter_le _ _) (by simp [entsP])
  omega
end Go.Proofs.YtaaaplbjeknbkaaGreat
