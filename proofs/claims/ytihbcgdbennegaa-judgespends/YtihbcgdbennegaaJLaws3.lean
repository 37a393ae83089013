/-
  The walk of JudgeSpends.
-/
import Derived.Test.YtihbcgdbennegaaJLaws2
namespace Go.Proofs.Ytihbcgdbennegaa
open Go.RowKit Go.Maps

/-- Each deed spends what was there ahead of it, and what none ahead of it spends. -/
def PaysL (L : List DeedD) : Prop := ∀ i (h : i < L.length), ∀ e ∈ L[i].ins, e.2 < ((findL (L.take i) e.1).getD nod).outs ∧ (insL (L.take i)).contains e = false
theorem paysL_snoc {L : List DeedD} {d : DeedD} (h : PaysL L) (hs : ¬ stateL L d ≥ 2) : PaysL (L ++ [d]) := fun i hi e he => by
  rw [List.length_append, List.length_cons, List.length_nil] at hi
  by_cases hlt : i < L.length
  · rw [List.getElem_append_left hlt] at he
    rw [List.take_append_of_le_length (by omega)]
    exact h i hlt e he
  · obtain rfl : i = L.length := by omega
    have he : e ∈ d.ins := by simpa using he
    unfold stateL at hs
    obtain ⟨_, q2, q3⟩ := stateM_may.1 hs e he
    rw [List.take_left]
    exact ⟨q2, q3⟩
theorem acceptL_pays {L : List DeedD} (h : PaysL L) (d : DeedD) : PaysL (acceptL L d).2 := by
  unfold acceptL
  split
  · exact h
  · split
    · exact h
    · split
      · exact h
      · rename_i h3
        exact paysL_snoc h h3
theorem runJ_pays (l : List DeedH) : PaysL (runJ l) := by
  have : ∀ k, k ≤ l.length → PaysL (runJ (l.take k)) := fun k => by
    induction k with
    | zero => intro _ i hi; simp [runJ, acceptAll] at hi
    | succ k ih =>
      intro hk
      rw [runJ_step (by omega)]
      exact acceptL_pays (ih (by omega)) _
  have := this l.length (Nat.le_refl _)
  rwa [List.take_length] at this
theorem find_self {L : List DeedD} (h : (L.map idD).Nodup) {k : Nat} (hk : k < L.length) : findL L (idD L[k]) = some L[k] := by
  cases hf : findL L (idD L[k]) with
  | none => exact absurd rfl (findL_none.1 hf L[k] (List.getElem_mem hk))
  | some y =>
    obtain ⟨hy, e⟩ := findL_mem hf
    obtain ⟨j, hj, rfl⟩ := List.getElem_of_mem hy
    by_cases hjk : j = k
    · subst hjk; rfl
    · exfalso
      have hp := List.pairwise_iff_getElem.1 h
      rcases Nat.lt_or_gt_of_ne hjk with hlt | hgt
      · exact hp j k (by simpa using hj) (by simpa using hk) hlt (by simpa using e)
      · exact hp k j (by simpa using hk) (by simpa using hj) hgt (by simpa using e.symm)
theorem find_take_self {L : List DeedD} (h : (L.map idD).Nodup) {k : Nat} (hk : k < L.length) : findL (L.take k) (idD L[k]) = none := by
  rw [findL_none]
  intro d hd e
  obtain ⟨j, hj, rfl⟩ := List.mem_take_iff_getElem.1 hd
  exact (List.pairwise_iff_getElem.1 h) j k (by rw [List.length_map]; omega) (by simpa using hk) (by omega) (by simpa using e)
/-- How many outputs the deed of an ID has. -/
def outsOf (L : List DeedD) (x : UInt64) : Int := ((findL L x).getD nod).outs
theorem outsOf_step {L : List DeedD} (h : (L.map idD).Nodup) {k : Nat} (hk : k < L.length) : outsOf (L.take (k + 1)) = upd (outsOf (L.take k)) (idD L[k]) L[k].outs := by
  funext x
  unfold outsOf
  rw [List.take_succ_eq_append_getElem hk, findL_new (find_take_self h hk)]
  by_cases e : x = idD L[k]
  · rw [e, upd_same, upd_same]; rfl
  · rw [upd_other _ _ e, upd_other _ _ e]
theorem insL_step {L : List DeedD} {k : Nat} (hk : k < L.length) : insL (L.take (k + 1)) = insL (L.take k) ++ L[k].ins := by rw [List.take_succ_eq_append_getElem hk, insL_snoc]

/-- Block b is a map from IDs to ints that answers f. -/
def OutsIs (w : World) (b n : Nat) (f : UInt64 → Int) : Prop :=
  ∃ D : DataW Unit, w.ownsMap Try.prog 36 (plainElem Try.prog 3) b n D ∧ IsMap D ∧ ∀ x : UInt64, D.atKey (.int .u64 x.toNat) (.lit (.int .i64 0)) = .lit (.int .i64 (f x))
theorem zero_int (w : World) : (zeroValue 3).run Try.prog w = .ok (.int .i64 0) w := by kernel_rfl
theorem outs_new (w : World) : OutsIs (w.alloc (.map #[] 0)) w.heap.size 0 (fun _ => 0) := ⟨.map [], World.ownsMap_made w _ _ _, isMap_empty, fun _ => rfl⟩
theorem outs_same {w w' : World} {b n : Nat} {f : UInt64 → Int} (h : OutsIs w b n f) (e : w'.heap[b]? = w.heap[b]?) : OutsIs w' b n f := by
  obtain ⟨D, ⟨es, clock, hb, r⟩, r2⟩ := h
  exact ⟨D, ⟨es, clock, e.trans hb, r⟩, r2⟩
theorem outs_at {w : World} {b n : Nat} {f : UInt64 → Int} (h : OutsIs w b n f) : ∃ es clock, w.heap[b]? = some (.map es clock) := by
  obtain ⟨D, ⟨es, clock, hb, _⟩, _⟩ := h
  exact ⟨es, clock, hb⟩
theorem outs_look {w : World} {b n : Nat} {f : UInt64 → Int} (h : OutsIs w b n f) (x : UInt64) : (Instr.lookup 50 (.map (some b)) (.int .u64 x.toNat) false).run Try.prog w = .ok (.int .i64 (f x)) w := by
  obtain ⟨D, hD, _, hat⟩ := h
  obtain ⟨c, hrun, hc, _⟩ := hD.lookup_int u64_keyed Try.underlying50 Try.underlying3 (zero_int w) (u64_key x)
  rw [hat x] at hc
  simp only [DataW.lit.injEq, Lit.int.injEq, true_and] at hc
  rw [hrun, hc]
theorem outs_put {w : World} {b n : Nat} {f : UInt64 → Int} (h : OutsIs w b n f) (x : UInt64) (o : Int) (ho : 1 ≤ o ∧ o ≤ 16) (hn : n ≤ 10000000000000) :
    ∃ w', (Instr.mapUpdate 50 (.map (some b)) (.int .u64 x.toNat) (.int .i64 o)).run Try.prog w = .ok () w' ∧ OutsIs w' b (n + 1) (upd f x o) ∧ Turn (fun k => k = b) (fun k => k = b) w w' := by
  obtain ⟨D, hD, hm, hat⟩ := h
  have hwf : (Lit.int .i64 o).wf = true := by
    simp only [Lit.wf, Bool.and_eq_true, decide_eq_true_eq]
    exact ⟨by show (-9223372036854775808 : Int) ≤ _; omega, by show _ ≤ (9223372036854775807 : Int); omega⟩
  obtain ⟨w', hrun, hown, hg⟩ := hD.update u64_keyed Try.underlying50 (by unfold maxLen; omega) (u64_key x) (plainElem_int Try.underlying3 hwf)
  refine ⟨w', hrun, ⟨_, hown, hm.put _ _, fun y => ?_⟩, Turn.of_grown hg (fun k hk => by cases hk; rfl)⟩
  by_cases e : y = x
  · rw [e, atKey_put_same hm (u64_keyed.key (u64_key _)), upd_same]
  · rw [atKey_put_other (lit_ne e), hat y, upd_other _ _ e]
/-- Cells are as they were where a map turned. -/
theorem cell_turn {w w' : World} {b : Nat} (ht : Turn (fun k => k = b) (fun k => k = b) w w') (hm : ∃ es clock, w.heap[b]? = some (.map es clock)) {p : Addr} {v : Value} (hc : w.cell? p = some v) : w'.cell? p = some v := by
  have hne : p.block ≠ b := fun e => by
    obtain ⟨es, cl, hb⟩ := hm
    unfold World.cell? at hc
    rw [e, hb] at hc
    cases hc
  exact (World.cell?_of_block (a := p) (ht.block _ (cell_spot hc).2 hne)).trans hc
theorem insAt_map {w w' : World} {b : Nat} (ht : Turn (fun k => k = b) (fun k => k = b) w w') (hm : ∃ es clock, w.heap[b]? = some (.map es clock)) {a : Option Addr} {l : List InD} (h : InsAt w a l) : InsAt w' a l := fun i hi => by
  obtain ⟨bb, o, e, hb, c0, c1, c2⟩ := h i hi
  exact ⟨bb, o, e, Nat.lt_of_lt_of_le hb ht.size, cell_turn ht hm c0, cell_turn ht hm c1, c2⟩
theorem idsAt_map {w w' : World} {b : Nat} (ht : Turn (fun k => k = b) (fun k => k = b) w w') (hm : ∃ es clock, w.heap[b]? = some (.map es clock)) {a : Option Addr} {l : List UInt64} (h : IdsAt w a l) : IdsAt w' a l := fun i hi => by
  obtain ⟨bb, o, e, hb, c0⟩ := h i hi
  exact ⟨bb, o, e, Nat.lt_of_lt_of_le hb ht.size, cell_turn ht hm c0⟩
/-- What the law holds beside the ledger: its two maps and the slice of IDs. -/
structure Maps2 (wS w : World) (bS bO n m : Nat) (sp : List InD) (f : UInt64 → Int) (ia : Option Addr) (ids : List UInt64) : Prop where
  below : Below wS.heap.size wS w
  s : Seen w bS n sp
  o : OutsIs w bO m f
  ne : bS ≠ bO
  up : wS.heap.size ≤ bS ∧ wS.heap.size ≤ bO
  ids : IdsAt w ia ids
variable {wS w w' : World} {bS bO n m : Nat} {sp : List InD} {f : UInt64 → Int} {ia : Option Addr} {ids : List UInt64}
theorem Maps2.kept (h : Maps2 wS w bS bO n m sp f ia ids) (hb : Below w.heap.size w w') : Maps2 wS w' bS bO n m sp f ia ids := by
  obtain ⟨_, _, h1⟩ := seen_at h.s
  obtain ⟨_, _, h2⟩ := outs_at h.o
  exact ⟨kept_trans h.below hb, seen_same h.s (hb.block _ (Array.getElem?_eq_some_iff.1 h1).1), outs_same h.o (hb.block _ (Array.getElem?_eq_some_iff.1 h2).1), h.ne, h.up, idsAt_kept hb h.ids⟩
theorem Maps2.spend (h : Maps2 wS w bS bO n m sp f ia ids) (x : InD) (hx : inOk x) (hn : n ≤ 1000000000000000) :
    ∃ w', (Instr.mapUpdate 49 (.map (some bS)) (.agg #[.int .u64 x.1.toNat, .int .i64 x.2]) (.bool true)).run Try.prog w = .ok () w' ∧ Maps2 wS w' bS bO (n + 1) m (sp ++ [x]) f ia ids ∧ Turn (fun k => k = bS) (fun k => k = bS) w w' := by
  obtain ⟨w', h1, h2, h3⟩ := seen_put h.s x hx hn
  obtain ⟨_, _, h5⟩ := outs_at h.o
  exact ⟨w', h1, ⟨h.below.trans (h3.below (fun k hk => by rw [hk]; exact h.up.1) h.below.size), h2, outs_same h.o (h3.block _ (Array.getElem?_eq_some_iff.1 h5).1 (fun e => h.ne e.symm)), h.ne, h.up, idsAt_map h3 (seen_at h.s) h.ids⟩, h3⟩
theorem Maps2.put (h : Maps2 wS w bS bO n m sp f ia ids) (x : UInt64) (q : Int) (hq : 1 ≤ q ∧ q ≤ 16) (hm : m ≤ 10000000000000) :
    ∃ w', (Instr.mapUpdate 50 (.map (some bO)) (.int .u64 x.toNat) (.int .i64 q)).run Try.prog w = .ok () w' ∧ Maps2 wS w' bS bO n (m + 1) sp (upd f x q) ia ids := by
  obtain ⟨w', h1, h2, h3⟩ := outs_put h.o x q hq hm
  obtain ⟨_, _, h5⟩ := seen_at h.s
  exact ⟨w', h1, ⟨h.below.trans (h3.below (fun k hk => by rw [hk]; exact h.up.2) h.below.size), seen_same h.s (h3.block _ (Array.getElem?_eq_some_iff.1 h5).1 h.ne), h2, h.ne, h.up, idsAt_map h3 (outs_at h.o) h.ids⟩⟩
end Go.Proofs.Ytihbcgdbennegaa
