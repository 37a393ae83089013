/-
  NodeFetched: the walk.
  NodeParents: what is asked for.
  Ins that a law builds by append.
-/
import Derived.Test.YtaaaplbjeknbkabGreatJ32
set_option maxRecDepth 20000
namespace Go.Proofs.YtaaaplbjeknbkabGreat
open Go.RowKit Go.Maps

variable {w w' w0 : World} {F : Nat → Prop} {R : Nat} {s : NS}

/-- The first n IDs of a slice of one's own. -/
theorem own_take {B : Nat} {a : Option Addr} {cap n : Nat} {l : List UInt64} (h : OwnIds w B (.slice a l.length cap) l) (hn : n ≤ l.length) : OwnIds w B (.slice a n cap) (l.take n) := by
  unfold OwnIds
  have e : (l.take n).length = n := by rw [List.length_take]; omega
  rw [e]
  refine ⟨by simp; omega, ?_⟩
  rcases h.2 with ⟨hv, h0⟩ | ⟨g, c, cur, hv, hB, hg, hc, hm, hs, ht⟩
  · simp only [Value.slice.injEq] at hv
    obtain ⟨rfl, _, rfl⟩ := hv
    obtain rfl : n = 0 := by omega
    exact .inl ⟨rfl, rfl⟩
  · simp only [Value.slice.injEq, true_and] at hv
    obtain ⟨rfl, rfl⟩ := hv
    refine .inr ⟨g, cap, cur, rfl, hB, hg, by omega, hm, hs, ?_⟩
    rw [Nat.mul_one] at ht ⊢
    rw [List.map_take, ← ht, List.take_take, Nat.min_eq_left hn]
theorem send_fetchB {p : Nat} {l : List UInt64} (hm : Ms.checkM ⟨2, l, ⟨#[]⟩⟩ = 0) (ht : s.thereE p = 0) : s.send p (bytesM ⟨2, l, ⟨#[]⟩⟩) = (s, s.fetch p l, 0) := by
  unfold NS.send bytesM
  rw [if_neg (not_not_intro ht), if_pos hm, str_data, if_neg (not_not_intro (Ms.errM_enc hm)), Ms.ansM_enc hm]
  simp only [Int.toNat_natCast]
  rw [if_neg (by decide), if_neg (by decide), if_pos trivial]
theorem bytesOf_fetch (l : List UInt64) (a : Option Addr) (cap : Nat) (B : ByteArray) (hB : bytesM ⟨2, l, ⟨#[]⟩⟩ = B) (w : World) (hi : IdsAt w a l) : Calls Tryz.prog 76 #[.agg #[.int .i64 2, .slice a l.length cap, .string ⟨#[]⟩]] w fun e w' => e = .returned (.string B) ∧ Below w.heap.size w w' :=
  bytesOf_any ⟨2, l, ⟨#[]⟩⟩ a cap w hi B hB
theorem bringB_bytes {d : DeedD} (h : checkD d = 0) : bringB d = bytesM ⟨3, [], str (encB d)⟩ := by
  unfold bringB bytesM
  rw [if_pos (bringM_ok h)]
theorem errD_enc {d : DeedD} (hd : checkD d = 0) : errD (encB d) = 0 ∧ readD (encB d) = d := by
  obtain ⟨c0, c1, _, c2, c3, c4⟩ := check_ok hd
  have hr := read_enc d c0 c1 c2 c3 c4
  refine ⟨?_, hr⟩
  unfold errD
  rw [if_neg (not_not_intro (form_enc d c0)), hr]
  exact hd
theorem eqID_one (x : UInt64) (a b : Option Addr) (ca cb : Nat) (w : World) (ha : IdsAt w a [x]) (hb : IdsAt w b [x]) : Calls Tryz.prog 14 #[.slice a 1 ca, .slice b 1 cb] w fun e w' => e = .returned (.bool true) ∧ w = w' :=
  eqID_is [x] [x] a b ca cb w true (by show 1 ≤ 9223372036854775807; omega) ha hb (by simp)
/-- What goes out is what was asked for. -/
structure Right (ids : List UInt64) (is : Bool) (x : UInt64) (ou : List OutD) : Prop where
  len : ou.length = ids.length
  peer : ∀ i (h : i < ou.length), ou[i].peer = 7
  last : ∀ i (h : i < ou.length), i + 1 = ids.length → is = false → ou[i].bytes = bytesM ⟨4, [x], ⟨#[]⟩⟩
  deed : ∀ i (h : i < ou.length) (h' : i < ids.length), ¬ (i + 1 = ids.length ∧ is = false) → ∃ d, checkD d = 0 ∧ ou[i].bytes = bringB d ∧ Ju.idD d = ids[i]
theorem right_true (hg : Ju.GoodJ s.A) (x : UInt64) {D : List DeedD} (hD : ∀ d ∈ D, d ∈ s.A) : Right (D.map Ju.idD) true x (s.fetch 7 (D.map Ju.idD)) := by
  rw [fetch_known hg 7 D hD]
  exact ⟨by simp, fun i h => by simp, fun i h _ h2 => by (cases h2), fun i h h' _ => ⟨D[i]'(by simpa using h), hg.fine _ (hD _ (List.getElem_mem _)), by simp, by simp⟩⟩
theorem right_false (hg : Ju.GoodJ s.A) (x : UInt64) {D : List DeedD} (hD : ∀ d ∈ D, d ∈ s.A) (hx : (s.A.map Ju.idD).contains x = false) : Right (D.map Ju.idD ++ [x]) false x (s.fetch 7 (D.map Ju.idD ++ [x])) := by
  rw [fetch_other hg 7 D hD x hx]
  refine ⟨by simp, fun i h => ?_, fun i h h1 _ => ?_, fun i h h' h1 => ?_⟩
  · by_cases hi : i < D.length
    · rw [List.getElem_append_left (by simpa using hi)]
      simp
    · rw [List.getElem_append_right (by simp; omega)]
      simp
  · rw [List.getElem_append_right (by simp at h1 ⊢; omega)]
    simp
  · have hi : i < D.length := by
      simp at h h1
      omega
    refine ⟨D[i], hg.fine _ (hD _ (List.getElem_mem _)), ?_, ?_⟩
    · rw [List.getElem_append_left (by simpa using hi)]
      simp
    · rw [List.getElem_append_left (by simpa using hi)]
      simp
theorem fetch_ok (hg : Ju.GoodJ s.A) (x : UInt64) (b : Bool) (hb : (s.A.map Ju.idD).contains x = b) {ids : List UInt64} (hi : ids = (s.A.map Ju.idD).take 19 ++ if b then [] else [x]) : Right ids b x (s.fetch 7 ids) ∧ 0 < ids.length ∧ ids.length ≤ 20 ∧ ids.Nodup := by
  have e : (s.A.map Ju.idD).take 19 = (s.A.take 19).map Ju.idD := List.map_take.symm
  have hD : ∀ d ∈ s.A.take 19, d ∈ s.A := fun d h => List.mem_of_mem_take h
  have hn : ((s.A.map Ju.idD).take 19).Nodup := hg.nodup.sublist (List.take_sublist _ _)
  cases b with
  | true =>
    simp only [if_true, List.append_nil] at hi
    subst hi
    refine ⟨by rw [e]; exact right_true hg x hD, ?_, by simp; omega, hn⟩
    have : s.A ≠ [] := fun h => by rw [h] at hb; simp at hb
    have := List.length_pos_iff.2 this
    simp
    omega
  | false =>
    simp only [Bool.false_eq_true, if_false] at hi
    subst hi
    refine ⟨by rw [e]; exact right_false hg x hD hb, by simp, by simp; omega, ?_⟩
    rw [List.nodup_append]
    refine ⟨hn, by simp, fun y hy z hz => ?_⟩
    rw [List.mem_singleton] at hz
    subst hz
    rintro rfl
    have := List.contains_iff_mem.2 (List.mem_of_mem_take hy)
    rw [hb] at this
    cases this
end Go.Proofs.YtaaaplbjeknbkabGreat
namespace Go.Proofs.YtaaaplbjeknbkabGreat
open Go.RowKit Go.Maps

variable {w w' w0 : World} {F : Nat → Prop} {R : Nat} {s : NS}

/-- Entries of one peer. -/
def pars (st : Nat) (t : Int) (l : List UInt64) : List Tr.TEnt := l.map fun x => ⟨5, x, true, st, t⟩
theorem five_ids {T : List Tr.TEnt} (h : ∀ e ∈ T, e.peer = 5) {p : Nat} (hp : p ≠ 5) : Tr.idsOf T p = [] := by
  unfold Tr.idsOf
  rw [List.filter_eq_nil_iff.2 (fun e he => by rw [h e he]; simpa using fun h => hp h.symm)]
  rfl
theorem five_asks (h : ∀ e ∈ s.T, e.peer = 5) {p : Nat} (hp : p ≠ 5) : s.asks p = [] := by
  unfold NS.asks
  rw [five_ids h hp]
  simp
theorem pars_five (st : Nat) (t : Int) (l : List UInt64) : ∀ e ∈ pars st t l, e.peer = 5 := fun e he => by
  obtain ⟨x, _, rfl⟩ := List.mem_map.1 he
  rfl
theorem pars_ids (st : Nat) (t : Int) (l : List UInt64) : Tr.idsOf (pars st t l) 5 = l := by
  unfold Tr.idsOf
  rw [List.filter_eq_self.2 (fun e he => by rw [pars_five st t l e he]; rfl)]
  unfold pars
  rw [List.map_map]
  exact List.map_id' l
theorem pars_none {st : Nat} {t : Int} {x : UInt64} : ∀ {l : List UInt64}, x ∉ l → Tr.entsOf (pars st t l) x = []
  | [], _ => rfl
  | y :: r, h => by
    rw [List.mem_cons, not_or] at h
    have ih := pars_none (st := st) (t := t) h.2
    unfold Tr.entsOf pars at ih ⊢
    rw [List.map_cons, List.filter_cons_of_neg (by simpa using fun e : y = x => h.1 e.symm)]
    exact ih
theorem pars_ents {st : Nat} {t : Int} {x : UInt64} : ∀ {l : List UInt64}, l.Nodup → x ∈ l → Tr.entsOf (pars st t l) x = [⟨5, x, true, st, t⟩]
  | y :: r, hn, hx => by
    rw [List.nodup_cons] at hn
    by_cases e : y = x
    · subst e
      have ih := pars_none (st := st) (t := t) hn.1
      unfold Tr.entsOf pars at ih ⊢
      rw [List.map_cons, List.filter_cons_of_pos (by simp), ih]
    · have hr : x ∈ r := by
        rcases List.mem_cons.1 hx with h | h
        · exact absurd h.symm e
        · exact h
      have ih := pars_ents (st := st) (t := t) hn.2 hr
      unfold Tr.entsOf pars at ih ⊢
      rw [List.map_cons, List.filter_cons_of_neg (by simpa using e)]
      exact ih
theorem pars_next {salt : UInt64} {t : Int} {l : List UInt64} (hn : l.Nodup) {x : UInt64} (hx : x ∈ l) : (Tr.ofL salt (pars 1 t l)).isNext 5 x = true := by
  unfold Tr.TS.isNext Tr.TS.best
  rw [Tr.ofL_ents, pars_ents hn hx]
  rfl
theorem pars_asks {t : Int} {l : List UInt64} (hs : s.T = pars 1 t l) (hn : l.Nodup) (h4 : l.length ≤ 4) : s.asks 5 = l := by
  unfold NS.asks
  rw [hs, pars_ids, List.filter_eq_self.2 (fun x hx => pars_next hn hx)]
  have : ((pars 1 t l).filter fun e => e.peer == 5 && e.st == 2) = [] := by
    rw [List.filter_eq_nil_iff]
    intro e he
    obtain ⟨x, _, rfl⟩ := List.mem_map.1 he
    simp
  rw [this]
  exact List.take_of_length_le (by simpa using h4)
theorem ask_five {T : List Tr.TEnt} (h : ∀ e ∈ T, e.peer = 5) (p : Int) (x : UInt64) (t : Int) : ∀ e ∈ (Tr.askC T p x t).2, e.peer = 5 := by
  unfold Tr.askC
  split
  · unfold Tr.askL
    split
    · split
      · intro e he
        obtain ⟨f, hf, rfl⟩ := List.mem_map.1 he
        unfold Tr.askE
        split
        · exact h f hf
        · exact h f hf
      · exact h
    · exact h
  · exact h
theorem asks_five (p : Nat) : ∀ (l : List UInt64) (u : NS), (∀ e ∈ u.T, e.peer = 5) → ∀ e ∈ (l.foldl (fun s x => { s with T := (Tr.askC s.T p x (s.later 10)).2 }) u).T, e.peer = 5
  | [], _, h => h
  | x :: r, u, h => asks_five p r { u with T := (Tr.askC u.T p x (u.later 10)).2 } (ask_five h p x _)
theorem foldl_keep {α β γ : Type} (g : α → γ) {f : α → β → α} (h : ∀ a b, g (f a b) = g a) : ∀ (l : List β) (a : α), g (l.foldl f a) = g a
  | [], _ => rfl
  | b :: r, a => (foldl_keep g h r (f a b)).trans (h a b)
theorem pars_wait {u : NS} {t : Int} {l : List UInt64} (hT : u.T = pars 1 t l) (hn : l.Nodup) (h4 : l.length ≤ 4) : ∃ v : NS, u.wait 8 = (v, message 5 ⟨2, l, ⟨#[]⟩⟩) ∧ v.P = u.P ∧ v.A = u.A := by
  have h5 : ∀ e ∈ u.T, e.peer = 5 := by rw [hT]; exact pars_five 1 t l
  have ha : ∀ p, u.asks p = if p = 5 then l else [] := fun p => by
    by_cases hp : p = 5
    · subst hp
      rw [if_pos rfl]
      exact pars_asks hT hn h4
    · rw [if_neg hp]
      exact five_asks h5 hp
  have hw5 : u.wait 5 = (u, []) := by
    simp only [NS.wait, NS.request, ha]
    simp [message_none, ha]
  have hr : ∀ e ∈ (u.request 5).T, e.peer = 5 := asks_five 5 _ u h5
  have h6 : u.wait 6 = (u.request 5, message 5 ⟨2, l, ⟨#[]⟩⟩) := by
    show NS.wait u (5 + 1) = _
    rw [NS.wait, hw5]
    simp only [ha, if_true, List.nil_append]
  have h8 := wait_more h6 (fun p hp => five_asks hr (by omega)) 2
  refine ⟨u.request 5, h8, ?_, ?_⟩
  · unfold NS.request
    refine foldl_keep (fun v : NS => v.P) ?_ _ u
    intro _ _
    rfl
  · unfold NS.request
    refine foldl_keep (fun v : NS => v.A) ?_ _ u
    intro _ _
    rfl
theorem miss_all : ∀ (l m : List UInt64), (m ++ l).Nodup → (l.map fun x => ((x, 0) : InD)).foldl (fun m e => if (Ju.findL [] e.1).isSome then m else if m.contains e.1 then m else m ++ [e.1]) m = m ++ l
  | [], m, _ => by simp
  | x :: r, m, h => by
    have hx : m.contains x = false := by
      rw [← Bool.not_eq_true, List.contains_iff_mem]
      intro hm
      rw [List.nodup_append] at h
      exact h.2.2 x hm x List.mem_cons_self rfl
    have ih := miss_all r (m ++ [x]) (by simpa using h)
    rw [List.map_cons, List.foldl_cons]
    simp only [hx]
    have hf : (Ju.findL [] x).isSome = false := rfl
    rw [hf]
    simp only [Bool.false_eq_true, if_false]
    rw [ih]
    simp
theorem parents_judge {d : DeedD} {l : List UInt64} (hd : checkD d = 0) (hi : d.ins = l.map fun x => (x, 0)) (hn : l.Nodup) (h0 : l ≠ []) : Ju.judgeL [] d = (2, l, 0) := by
  have hm : Ju.missL (Ju.findL []) d.ins = l := by
    unfold Ju.missL
    rw [hi]
    have := miss_all l [] (by simpa using hn)
    simpa using this
  unfold Ju.judgeL Ju.stateL Ju.stateM
  rw [if_neg (not_not_intro hd), hm, if_pos h0]
theorem parents_add {d : DeedD} (hd : checkD d = 0) (hw : d.weight = 10) (x : UInt64) : (Ho.addC [] (5 : Nat) x d).2 = [⟨5, x, d⟩] := by
  have hf : Ho.fullL [⟨5, x, d⟩] = false := by
    unfold Ho.fullL Ho.fullF
    have h1 : Ho.allL [⟨5, x, d⟩] = [x] := by simp [Ho.allL, Ho.allI, Ho.lsOf, Ho.ldOf]
    have h2 : Ho.deedOf [⟨5, x, d⟩] x = some d := by simp [Ho.deedOf]
    have h3 : Ho.peersF (Ho.usageF (Ho.deedOf [⟨5, x, d⟩]) (Ho.lsOf [⟨5, x, d⟩])) 8 = 1 := by
      simp [Ho.peersF, Ho.usageF, Ho.lsOf, Ho.ldOf, List.range, List.range.loop, List.filter_cons]
    rw [h1, h3]
    simp [Ho.sumW, Ho.wI, h2, hw, Ho.lsOf]
  unfold Ho.addC
  rw [if_neg (not_not_intro ⟨by decide, by decide⟩), if_neg (not_not_intro hd), if_neg (by simp)]
  show Ho.room [⟨5, x, d⟩] = _
  unfold Ho.room
  simp only [List.length_cons, List.length_nil, Nat.zero_add, Ho.roomN]
  rw [hf]
  simp
theorem ann_pars {m : List UInt64} {x : UInt64} (h : x ∉ m) (hl : m.length < 20) : (Tr.annC (pars 0 0 m) (5 : Nat) x 0 true).2 = pars 0 0 (m ++ [x]) := by
  unfold Tr.annC
  rw [if_pos ⟨⟨by decide, by decide⟩, by decide, by decide⟩]
  show (Tr.annL (pars 0 0 m) 5 x 0 true).2 = _
  unfold Tr.annL
  have h1 : (pars 0 0 m).any (Tr.isE 5 x) = false := by
    rw [← Bool.not_eq_true, List.any_eq_true]
    rintro ⟨e, he, h2⟩
    obtain ⟨y, hy, rfl⟩ := List.mem_map.1 he
    simp only [Tr.isE, Bool.and_eq_true, beq_iff_eq] at h2
    exact h (h2.2 ▸ hy)
  have h3 : ((pars 0 0 m).filter fun e => e.peer == 5).length = m.length := by
    rw [List.filter_eq_self.2 (fun e he => by rw [pars_five 0 0 m e he]; rfl)]
    unfold pars
    rw [List.length_map]
  rw [h1, h3]
  simp only [Bool.false_eq_true, if_false]
  rw [if_neg (by omega)]
  unfold pars
  simp
theorem wants_all : ∀ (l m : List UInt64) (u : NS), u.T = pars 0 0 m → (m ++ l).Nodup → (m ++ l).length ≤ 4 → (∀ x ∈ l, (Ho.deedOf u.P x).isSome = false) → (∀ x, u.W.has x = false) → u.now = 0 → (u.peers 5).2 = true → l.foldl (fun s x => s.want 5 x) u = { u with T := pars 0 0 (m ++ l) }
  | [], m, u, hT, _, _, _, _, _, _ => by rw [List.append_nil, ← hT]; rfl
  | x :: r, m, u, hT, hn, h4, hP, hW, h0, h5 => by
    have hx : x ∉ m := fun hm => by
      rw [List.nodup_append] at hn
      exact hn.2.2 x hm x List.mem_cons_self rfl
    have hw : u.want 5 x = { u with T := pars 0 0 (m ++ [x]) } := by
      unfold NS.want
      rw [if_neg (by rw [hP x List.mem_cons_self, hW]; decide), hT, h0, h5, ann_pars hx (by simp at h4; omega)]
    rw [List.foldl_cons, hw, wants_all r (m ++ [x]) { u with T := pars 0 0 (m ++ [x]) } rfl (by simpa using hn) (by simpa using h4) (fun y hy => hP y (List.mem_cons_of_mem _ hy)) hW h0 h5]
    simp
theorem parents_bring (salt : UInt64) {d : DeedD} {l : List UInt64} (hd : checkD d = 0) (hw : d.weight = 10) (hi : d.ins = l.map fun x => (x, 0)) (h0 : l ≠ []) (hn : l.Nodup) (h4 : l.length ≤ 4) (hx : Ju.idD d ∉ l) : ((NS.new salt).setPeer 5 (true, true)).bring 5 d = { (NS.new salt).setPeer 5 (true, true) with P := [⟨5, Ju.idD d, d⟩], T := pars 0 0 l } := by
  have hj := parents_judge hd hi hn h0
  have ha : (Tr.answerC [] ((5 : Nat) : Int) (Ju.idD d)).2 = [] := by
    unfold Tr.answerC
    rw [if_pos ⟨by decide, by decide⟩]
    rfl
  have ht : ({ (NS.new salt).setPeer 5 (true, true) with T := (Tr.answerC ((NS.new salt).setPeer 5 (true, true)).T ((5 : Nat) : Int) (Ju.idD d)).2 } : NS) = (NS.new salt).setPeer 5 (true, true) := by
    have : ((NS.new salt).setPeer 5 (true, true)).T = [] := rfl
    rw [this, ha]
    rfl
  rw [bring_new ht rfl rfl]
  have hA : ((NS.new salt).setPeer 5 (true, true)).A = [] := rfl
  have he : ((NS.new salt).setPeer 5 (true, true)).examine (Ju.idD d) d = ((NS.new salt).setPeer 5 (true, true), []) := by
    unfold NS.examine
    rw [hA, hj]
    simp
  rw [he, hA, hj, follow_nil, if_pos h0]
  unfold NS.adopt
  have hp : (Ho.addC ((NS.new salt).setPeer 5 (true, true)).P ((5 : Nat) : Int) (Ju.idD d) d).2 = [⟨5, Ju.idD d, d⟩] := parents_add hd hw _
  simp only [hp]
  rw [if_pos (by simp [Ho.deedOf])]
  rw [wants_all l [] _ rfl (by simpa using hn) (by simpa using h4) (fun x hxl => by
    have : ¬ Ju.idD d = x := fun e => hx (e ▸ hxl)
    simp [Ho.deedOf, this]) (fun _ => rfl) rfl (by simp [NS.setPeer])]
  rfl
theorem due_pars (l : List UInt64) : Tr.dueL 0 (pars 0 0 l) = pars 1 0 l := by
  have hm : (pars 0 0 l).map (Tr.dueE 0) = pars 1 0 l := by
    unfold pars
    rw [List.map_map]
    rfl
  unfold Tr.dueL
  rw [hm]
  unfold Tr.settleL
  rw [List.filter_eq_self]
  intro e he
  unfold Tr.openL
  rw [List.any_eq_true]
  refine ⟨e, he, ?_⟩
  obtain ⟨x, _, rfl⟩ := List.mem_map.1 he
  simp
theorem parents_pass {u : NS} {l : List UInt64} (hT : u.T = pars 0 0 l) (h0 : u.now = 0) (hn : l.Nodup) (h4 : l.length ≤ 4) : ∃ v : NS, u.pass 0 = (v, message 5 ⟨2, l, ⟨#[]⟩⟩, 0) ∧ v.P = u.P ∧ v.A = u.A := by
  unfold NS.pass
  rw [if_neg (by rw [h0]; decide)]
  obtain ⟨x, hx⟩ : ∃ x : NS, ({ u with now := u.now + 0, T := Tr.dueL (u.now + 0) u.T } : NS) = x := ⟨_, rfl⟩
  have hxT : x.T = pars 1 0 l := by rw [← hx]; show Tr.dueL (u.now + 0) u.T = _; rw [h0, hT]; exact due_pars l
  obtain ⟨v, hv, hP, hA⟩ := pars_wait hxT hn h4
  refine ⟨v, ?_, hP.trans (by rw [← hx]), hA.trans (by rw [← hx])⟩
  simp only [hx]
  rw [hv]
end Go.Proofs.YtaaaplbjeknbkabGreat
namespace Go.Proofs.YtaaaplbjeknbkabGreat
open Go.RowKit Go.Maps

/-- The slice v holds these Ins, in a block of its own from block B on. -/
abbrev OwnInB (w : World) (B : Nat) (v : Value) (l : List InD) : Prop := w.ownsRow B 50 2 v l.length (insC l)
theorem append_in {ops : Array Oper} {rest : List Oper} {o : Oper} {a : Act} {Q : Exit → Act → World → Prop} {w : World} (hgd : o.guard = none) (s x : Operand) (ho : o.op = .call { callee := .builtin .append, args := #[s, x], argTypes := #[33, 33] })
    {B : Nat} {v : Value} {d : List InD} (y : InD) (hs : a.eval s = v) (hx : a.eval x = .slice (some ⟨w.heap.size, 0, none⟩) 1 1) (hown : OwnInB w B v d) (hlen : d.length ≤ 1000000) (hB : B ≤ w.heap.size)
    (h : ∀ g cap w', OwnInB w' B (.slice (some ⟨g, 0, none⟩) (d.length + 1) cap) (d ++ [y]) → (w.alloc (.cells #[.int .u64 y.1.toNat, .int .i64 y.2] 50)).grownBy w' v.ownBlock → w.grownBy w' v.ownBlock → wpList Tryz.prog ops Q rest (a.put o.dst (.slice (some ⟨g, 0, none⟩) (d.length + 1) cap)) w') :
    wpList Tryz.prog ops Q (o :: rest) a (w.alloc (.cells #[.int .u64 y.1.toNat, .int .i64 y.2] 50)) := by
  obtain ⟨i0, hi0, hz0, hz1, hz2⟩ := info_parts info_in
  refine wpList_append_lies _ hgd s x 33 ho B 50 i0 _ 2 16 Tryz.underlying33 hi0 hz0 hz1 hz2 rfl (by decide) v d.length (insC d) hs (hown.alloc _) ⟨w.heap.size, 0, none⟩ 1 1 [.int .u64 y.1.toNat, .int .i64 y.2] hx rfl (cells_new w _ _) (by simp [Value.oneCell']) (by decide) (by unfold maxLen; omega) (by omega) (by simp; omega) _ rfl ?_
  intro g cap w1 hown' hgrow _ _
  refine h g cap w1 ?_ hgrow ((World.grownBy_alloc w _ _).trans hgrow)
  unfold OwnInB
  rw [List.length_append]
  have : insC (d ++ [y]) = insC d ++ [.int .u64 y.1.toNat, .int .i64 y.2] := by simp [insC, inC]
  rw [this]
  exact hown'
end Go.Proofs.YtaaaplbjeknbkabGreat
