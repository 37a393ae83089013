/-
  Contracts of package track that take entries away: Forget, settle.
-/
import Derived.Test.YtamiddnkgjfdhaaTrackW1
import Derived.BigQuiet
import Derived.Deep.RegionLaw
namespace Go.Proofs.Ytamiddnkgjfdhaa
open Go.RowKit Go.Maps

variable {w : World} {F : Nat → Prop} {R : Nat} {it : Option It} {s : TS} {b : Nat} {ev : UInt64 → Option Value} {pv : Nat → Value}

theorem deleteId_nil (K : World → Prop) (hK : ∀ a b, K a → Below a.heap.size a b → K b) (f : FuncId) (fc : Array Value) (q : UInt64 → Bool) (hp : PicksI K f fc q) (w : World) (hw : K w) :
    Calls Try.prog 49 #[.slice none 0 0, .func (.func f) #[] fc] w fun e w' => e = .returned (.slice none 0 0) ∧ Below w.heap.size w w' := by
  have HP := Lib.hid hp
  have HK := Lib.hid hK
  have HW := Lib.hid hw
  clear hp hK hw
  go_enter Try.func49, Try.ntmps49
  go_wp2_with fail
  refine (indexId_any K HK.out f fc q HP.out [] none 0 w HW.out (by decide) (idsAt_nil _ _)).mono ?_
  rintro e w1 ⟨rfl, hb1⟩
  have e1 : firstAt q [] = -1 := rfl
  rw [e1]
  clear e1
  go_wp2
  go_ret
  exact ⟨rfl, hb1⟩
/-- Whatever the slice: it stays in its block, if it has one. -/
theorem deleteId_own (K : World → Prop) (hK : ∀ a b, K a → Below a.heap.size a b → K b) (f : FuncId) (fc : Array Value) (q : UInt64 → Bool) (hp : PicksI K f fc q) (l : List UInt64) (v : Value) (w : World) (hw : K w) (hKs : ∀ g, v.ownBlock = some g → ∀ a j u, K a → K (a.setCell ⟨g, j, none⟩ u)) (hl : l.length ≤ 20) (ho : OwnIds w 0 v l) :
    Calls Try.prog 49 #[v, .func (.func f) #[] fc] w fun e w' => ∃ a n c, e = .returned (.slice a n c) ∧ OwnIds w' 0 (.slice a n c) (l.filter fun e => !q e) ∧ (Value.slice a n c).ownBlock = v.ownBlock ∧ Turn (fun k => v.ownBlock = some k) (fun k => v.ownBlock = some k) w w' := by
  rcases ho.2 with ⟨rfl, hn⟩ | ⟨g, cap, cur, rfl, _, _, _, _, _, _⟩
  · obtain rfl : l = [] := List.eq_nil_of_length_eq_zero hn
    exact (deleteId_nil K hK f fc q hp w hw).mono fun e w' ⟨he, hb⟩ => ⟨none, 0, 0, he, World.ownsRow_nil _ _ _ _, rfl, Turn.of_below hb⟩
  · refine (deleteId_any K hK f fc q hp l g cap w hw (hKs g rfl) hl ho).mono fun e w' ⟨n, c, he, h1, h2⟩ => ⟨_, n, c, he, h1, rfl, ?_⟩
    have e1 : (fun k => Value.ownBlock (.slice (some ⟨g, 0, none⟩) l.length cap) = some k) = fun k => k = g := by
      funext k
      simp [Value.ownBlock, eq_comm]
    rw [e1]
    exact h2
/-- What is left of the peers' IDs where one ID is forgotten: as the loop does it. -/
def cutIds (x : UInt64) (I : Nat → List UInt64) (l : List TEnt) : Nat → List UInt64 := l.foldl (fun I e => upd I e.peer ((I e.peer).filter fun y => !(y == x))) I
theorem cutIds_step {x : UInt64} {I : Nat → List UInt64} {l : List TEnt} {k : Nat} (h : k < l.length) : cutIds x I (l.take (k + 1)) = upd (cutIds x I (l.take k)) l[k].peer ((cutIds x I (l.take k) l[k].peer).filter fun y => !(y == x)) := by
  unfold cutIds
  rw [List.take_succ_eq_append_getElem h, List.foldl_append]
  rfl
theorem cutIds_le {x : UInt64} {n : Nat} {l : List TEnt} : ∀ {I : Nat → List UInt64}, (∀ p, p < 8 → (I p).length ≤ n) → ∀ p, p < 8 → (cutIds x I l p).length ≤ n := by
  induction l with
  | nil => exact fun h => h
  | cons a r ih =>
    intro I h
    refine ih (I := upd I a.peer _) fun p hp => ?_
    by_cases hpa : p = a.peer
    · rw [← hpa, upd_same]
      exact Nat.le_trans (List.length_filter_le _ _) (h p hp)
    · rw [upd_other _ _ hpa]
      exact h p hp
def TS.forget (s : TS) (x : UInt64) : TS := { s with E := upd s.E x none, I := cutIds x s.I (s.ents x) }

theorem TrackAt.at (h : TrackAt w F R it s b ev pv) {x : UInt64} {a : Option Addr} {cp : Nat} (hv : (ev x).getD (.slice none 0 0) = .slice a (s.ents x).length cp) : EntsAt w a (s.ents x) := by
  obtain ⟨a', cp', hv', _, hat⟩ := ownEnts_form (h.slice x)
  rw [hv] at hv'
  simp only [Value.slice.injEq] at hv'
  rw [hv'.1]
  exact hat
/-- One peer's IDs without one ID: the call, and what the store behind it makes of the tracker. -/
theorem forget_call (x : UInt64) (c p : Nat) (hp : p < 8) (w : World) (h : TrackAt w F R it s b ev pv) (hl : (s.I p).length ≤ 20) (hc : CellIs c (.int .u64 x.toNat) w) (hcF : ¬ F c) :
    Calls Try.prog 49 #[pv p, .func (.func 50) #[] #[.pointer (some ⟨c, 0, none⟩)]] w fun e w' => ∃ a n cp, e = .returned (.slice a n cp) ∧ (∀ k, k < w.heap.size → ¬ F k → w'.heap[k]? = w.heap[k]?) ∧
      (w'.cell? ⟨R, 2 + p, none⟩ = some (pv p) ∧ w'.frozen? ⟨R, 2 + p, none⟩ = false ∧ w.heap.size ≤ w'.heap.size) ∧
      TrackAt (w'.setCell ⟨R, 2 + p, none⟩ (.slice a n cp)) (fun k => F k ∨ (Value.slice a n cp).ownBlock = some k) R it { s with I := upd s.I p ((s.I p).filter fun y => !(y == x)) } b ev (upd pv p (.slice a n cp)) ∧ Turn F (fun k => F k ∨ (Value.slice a n cp).ownBlock = some k) w (w'.setCell ⟨R, 2 + p, none⟩ (.slice a n cp)) := by
  refine (deleteId_own (CellIs c (.int .u64 x.toNat)) (cellIs_kept _ _) _ _ _ (picks_forget c x) (s.I p) (pv p) w hc (fun g hg => cellIs_set _ (fun e => hcF (by rw [e]; exact h.fp p g hp hg))) hl (h.ids p hp)).mono ?_
  rintro e w' ⟨a, n, cp, rfl, ho, hob, ht⟩
  obtain ⟨r1, r2⟩ := h.setIds hp (fun k hk => hk) ht ho (fun k hk => .inl (by rw [← hob]; exact hk))
  have hR := ht.block R h.lt (fun hk => (h.p_ne hp hk).1 rfl)
  refine ⟨a, n, cp, rfl, fun k hk hn => ht.block k hk (fun hk' => hn (h.fp p k hp hk')), ⟨?_, ?_, ht.size⟩, r1, r2⟩
  · exact (World.cell?_of_block (a := ⟨R, 2 + p, none⟩) hR).trans (h.idc p hp).1
  · exact (World.frozen?_of_block (a := ⟨R, 2 + p, none⟩) hR).trans (h.idc p hp).2

/-- An ID is taken out of the map. -/
theorem TrackAt.deleted (h : TrackAt w F R it s b ev pv) (x : UInt64) : ∃ w', (∀ ty, (Builtin.delete_ #[65, 22] ty #[.map (some b), .int .u64 x.toNat]).run Try.prog w = .ok (.tuple #[]) w') ∧ ∃ n, (∀ i, it = some i → n ≤ i.cnt) ∧
    TrackAt w' F R (it.map fun i => i.drop x n) { s with E := upd s.E x none } b (upd ev x none) pv ∧ Turn F F w w' := by
  obtain ⟨w5, hdel, ⟨n, hn, hm5⟩, ht5⟩ := tmap_delete h.map x
  refine ⟨w5, hdel, n, hn, ?_, ⟨ht5.os, ht5.tape, ht5.output, ht5.size, fun j hj hnj => ht5.block j hj (fun e => hnj (by rw [e]; exact h.fb)), fun j hj => .inl hj⟩⟩
  refine ⟨(ht5.block R h.lt h.R_ne).trans h.head, hm5, fun y => ?_, fun p hp => own_turn (h.ids p hp) ht5 (fun g hg e => (h.p_ne hp hg).2.1 e), fun y z u v g h1 h2 h3 h4 => ?_, h.papart, h.fR, h.fb, fun y v g h1 h2 => ?_, h.fp, h.there.later ht5.size, fun i hi => ?_⟩
  · by_cases hy : y = x
    · exact .inl ⟨by rw [hy, upd_same], by show upd s.E x none y = none; rw [hy, upd_same]⟩
    · rcases h.ents y with ⟨h1, h2⟩ | ⟨u, m, h1, h2, h3⟩
      · exact .inl ⟨(upd_other _ _ hy).trans h1, (upd_other _ _ hy).trans h2⟩
      · exact .inr ⟨u, m, (upd_other _ _ hy).trans h1, (upd_other _ _ hy).trans h2, own_turn h3 ht5 (fun g hg e => (h.e_ne h1 hg).2.1 e)⟩
  · have hy : y ≠ x := fun e => by rw [e, upd_same] at h1; cases h1
    have hz : z ≠ x := fun e => by rw [e, upd_same] at h2; cases h2
    rw [upd_other _ _ hy] at h1
    rw [upd_other _ _ hz] at h2
    exact h.eapart y z u v g h1 h2 h3 h4
  · have hy : y ≠ x := fun e => by rw [e, upd_same] at h1; cases h1
    rw [upd_other _ _ hy] at h1
    exact h.fe y v g h1 h2
  · cases it with
    | none => cases hi
    | some j =>
      cases hi
      exact ⟨(h.out j rfl).1, Nat.lt_of_lt_of_le (h.out j rfl).2 ht5.size⟩
theorem box_kept {w w' : World} {F : Nat → Prop} {v0 v1 v2 v3 v4 : Value} {t : TypeId} (h : ∀ k, k < (w.alloc (.cells #[v0, v1, v2, v3, v4] t)).drew.heap.size → ¬ F k → w'.heap[k]? = (w.alloc (.cells #[v0, v1, v2, v3, v4] t)).drew.heap[k]?) (hn : ¬ F w.heap.size) : w'.cell? ⟨w.heap.size, 0, none⟩ = some v0 :=
  (World.cell?_of_block (a := ⟨w.heap.size, 0, none⟩) (h w.heap.size (by show _ < (w.alloc _).heap.size; simp) hn)).trans (by show (w.alloc _).cell? _ = _; simp [go_sem])
theorem alloc_lt {w w' : World} {o : Obj} (h : (w.alloc o).drew.heap.size ≤ w'.heap.size) : w.heap.size < w'.heap.size := by
  have : (w.alloc o).drew.heap.size = w.heap.size + 1 := by show (w.alloc o).heap.size = _; simp
  omega
set_option maxHeartbeats 1600000 in
set_option maxRecDepth 20000 in
theorem forget_any (x : UInt64) (w : World) (h : TrackAt w F R it s b ev pv) (hf : s.Fine) :
    Calls Try.prog 27 #[.pointer (some ⟨R, 0, none⟩), .int .u64 x.toNat] w fun e w' => e = .returned (.tuple #[]) ∧ ∃ F' pv' n, (∀ i, it = some i → n ≤ i.cnt) ∧ TrackAt w' F' R (it.map fun i => i.drop x n) (s.forget x) b (upd ev x none) pv' ∧ Turn F F' w w' ∧ ∀ q, (∀ e ∈ s.ents x, e.peer ≠ q) → pv' q = pv q := by
  have H0 := Lib.hid (h.kept (kept_new w (.cells #[.int .u64 x.toNat] 22)))
  have HFW := Lib.hid h.there
  have hmc := h.mapc
  have hlk := fun n => (h.kept (below_drewN (kept_new w (.cells #[.int .u64 x.toNat] 22)) n)).look x
  have hlt := h.lt
  obtain ⟨a, cp, hv, hcp, hat⟩ := ownEnts_form (h.slice x)
  obtain ⟨hl8, hp8⟩ := hf.1 x
  have HF := Lib.hid hf.2
  have HV := Lib.hid hv
  have HP8 := Lib.hid hp8
  simp only [hv] at hlk
  clear h hf hv hat hp8
  go_enter Try.func27, Try.ntmps27
  go_wp2_with fail
  go_quiet (fail)
  generalize hw2 : World.drewN (w.alloc (.cells #[.int .u64 x.toNat] 22)) nq = w2
  have hb2 : Below w.heap.size w w2 := hw2 ▸ below_drewN (kept_new w (.cells #[.int .u64 x.toNat] 22)) _
  have HC2 : Hid (CellIs w.heap.size (.int .u64 x.toNat) w2) := Lib.hid (hw2 ▸ cellIs_kept _ _ _ _ (cellIs_new w _ 22) (below_drewN (Below.refl _ _) _))
  have HS2 : Hid (w.heap.size < w2.heap.size) := Lib.hid (by rw [← hw2]; simp)
  have H2 : Hid (TrackAt w2 F R it s b ev pv) := Lib.hid (hw2 ▸ H0.out.kept (below_drewN (Below.refl _ _) _))
  clear hw2 hlk
  go_wp2_with fail
  go_loopw [13] (fun i wr => ∃ (k : Nat) (F' : Nat → Prop) (pv' : Nat → Value), k ≤ (s.ents x).length ∧ i = .int .i64 k ∧ Hid (TrackAt wr F' R it { s with I := cutIds x s.I ((s.ents x).take k) } b ev pv') ∧ Hid (Turn F F' w wr) ∧ Hid (CellIs w.heap.size (.int .u64 x.toNat) wr) ∧ Hid (¬ F' w.heap.size) ∧ Hid (∀ q, (∀ e ∈ s.ents x, e.peer ≠ q) → pv' q = pv q)) (fun i _ => (s.ents x).length - (intOf i).toNat)
  case atStart => exact ⟨0, F, pv, Nat.zero_le _, rfl, H2, Lib.hid (Turn.of_below hb2), HC2, Lib.hid (fun hF => by have := HFW.out _ hF; omega), Lib.hid (fun _ _ => rfl)⟩
  case round =>
    obtain ⟨k, F', pv', hk, rfl, H, HT, HC, HN, HQ⟩ := hrel
    by_cases hlt : k < (s.ents x).length
    · have hat : EntsAt wr a (s.ents x) := H.out.at HV.out
      obtain ⟨g, o, rfl, hg, hc5⟩ := hat k hlt
      clear hat
      have hp : (s.ents x)[k].peer < 8 := HP8.out _ (List.getElem_mem hlt)
      obtain ⟨e0, he0⟩ : ∃ e0, (s.ents x)[k] = e0 := ⟨_, rfl⟩
      rw [he0] at hc5 hp
      obtain ⟨c0, c1, c2, c3, c4⟩ := hc5
      have HE0 := Lib.hid he0
      clear he0
      have hpi : (e0.peer : Int) < 8 := by omega
      have H3 := Lib.hid (H.out.kept (kept_new wr (.cells #[.int .i64 e0.peer, .int .u64 e0.id.toNat, .bool e0.pref, .int .i64 e0.st, .int .i64 e0.till] 73)))
      obtain ⟨i0, i1⟩ := H3.out.idc _ hp
      have hwlt : w.heap.size < wr.heap.size := (cell_spot HC.out).2
      have hRlt : R < wr.heap.size := H.out.lt
      have hl20 := cutIds_le (x := x) (l := (s.ents x).take k) HF.out _ hp
      have HD := Lib.hid (H3.out.kept (w' := (wr.alloc (.cells #[.int .i64 e0.peer, .int .u64 e0.id.toNat, .bool e0.pref, .int .i64 e0.st, .int .i64 e0.till] 73)).drew) ((Below.refl _ _).drew))
      have HCD : Hid (CellIs w.heap.size (.int .u64 x.toNat) (wr.alloc (.cells #[.int .i64 e0.peer, .int .u64 e0.id.toNat, .bool e0.pref, .int .i64 e0.st, .int .i64 e0.till] 73)).drew) := Lib.hid (cellIs_kept _ _ _ _ HC.out ((kept_new _ _).drew))
      have HNB : Hid (¬ F' wr.heap.size) := Lib.hid (fun hF => by have := H.out.there _ hF; omega)
      go_wp2_with fail
      go_region_law (first
        | (go_simp; go_at_call 49; (with_reducible refine (forget_call x w.heap.size e0.peer hp _ HD.out hl20 HCD.out HN.out).mono ?_); rintro e w1 ⟨a1, n1, cp1, rfl, hk1, ⟨j0, j1, jz⟩, t1, u1⟩; have d0 := box_kept hk1 HNB.out; have T1 := Lib.hid t1; have U1 := Lib.hid u1; have HK1 := Lib.hid hk1; clear t1 u1 hk1; have hz1 := alloc_lt jz; have hz2 := Nat.lt_trans hRlt hz1))
      all_goals
        go_wp2_with fail
        go_roundw
        case rel =>
          have hUT := (HT.out.trans (Turn.of_below ((kept_new _ _).drew))).trans U1.out
          have hwd : w.heap.size < (wr.alloc (.cells #[.int .i64 e0.peer, .int .u64 e0.id.toNat, .bool e0.pref, .int .i64 e0.st, .int .i64 e0.till] 73)).drew.heap.size := by
            show _ < (wr.alloc _).heap.size
            simp
            omega
          refine ⟨k + 1, _, upd pv' e0.peer (.slice a1 n1 cp1), by omega, by go_num, Lib.hid ?_, Lib.hid hUT, Lib.hid ?_, Lib.hid (fun hF => ?_), Lib.hid (fun q hq => ?_)⟩
          · have := T1.out
            rw [cutIds_step hlt, HE0.out]
            exact this
          · refine (World.cell?_of_block (a := ⟨w.heap.size, 0, none⟩) ?_).trans HCD.out
            exact (Below.heap_setCell _ _ _ _ (fun e => HN.out (by rw [show w.heap.size = R from e]; exact H.out.fR))).trans (HK1.out _ hwd HN.out)
          · rcases U1.out.own _ hF with hF | hF
            · exact HN.out hF
            · omega
          · rw [upd_other _ _ (fun e => hq _ (List.getElem_mem hlt) (by rw [HE0.out]; exact e.symm))]
            exact HQ.out q hq
        case measure => simp [intOf]; omega
    · obtain ⟨wd, hwd⟩ : ∃ wd, wr.drew = wd := ⟨_, rfl⟩
      have hbd : Below wr.heap.size wr wd := hwd ▸ (Below.refl _ _).drew
      have HD := H.out.kept hbd
      have hmd := HD.mapc
      have hRd := HD.lt
      have hcd : wd.cell? ⟨w.heap.size, 0, none⟩ = some (.int .u64 x.toNat) := cellIs_kept _ _ _ _ HC.out hbd
      have hwdl : w.heap.size < wd.heap.size := (cell_spot hcd).2
      obtain ⟨w5, hdel, n, hn, hm5, ht5⟩ := HD.deleted x
      have he : (s.ents x).take k = s.ents x := List.take_of_length_le (by omega)
      have HE : Hid (∃ F' pv' n, (∀ i, it = some i → n ≤ i.cnt) ∧ TrackAt w5 F' R (it.map fun i => i.drop x n) (s.forget x) b (upd ev x none) pv' ∧ Turn F F' w w5 ∧ ∀ q, (∀ e ∈ s.ents x, e.peer ≠ q) → pv' q = pv q) := Lib.hid (by
        refine ⟨F', pv', n, hn, ?_, (HT.out.trans (Turn.of_below hbd)).trans ht5, HQ.out⟩
        rw [he] at hm5
        exact hm5)
      have HWD := Lib.hid hwd
      clear hwd HD hn hm5 ht5 he hbd
      go_wp2_with fail
      refine region_tail 5 (by kernel_rfl) (by kernel_rfl) HWD.out ?_
      simp only [List.take_succ_cons, List.take_zero, List.drop_succ_cons, List.drop_zero]
      repeat still_step
      refine wpStill_nil ?_
      go_wp2_with fail
      go_end0
      exact ⟨rfl, HE.out⟩
/-- The entries of an ID go if all of them are done. -/
def TS.settle (s : TS) (x : UInt64) : TS := if (s.ents x).all (fun e => e.st == 3) then s.forget x else s
theorem found_open {s : TS} {ev : UInt64 → Option Value} {x : UInt64} {r : Option Addr} (h : Found s ev x (fun e => e.st != 3) r) : (r = none ∧ s.settle x = s.forget x) ∨ (∃ a, r = some a) ∧ s.settle x = s := by
  rcases h with ⟨h1, h2⟩ | ⟨g, n, cap, i, _, h1, h2⟩
  · refine .inl ⟨h1, if_pos ?_⟩
    rw [List.all_eq_true]
    intro e he
    have := List.findIdx?_eq_none_iff.1 h2 e he
    simpa using this
  · refine .inr ⟨⟨_, h1⟩, if_neg ?_⟩
    intro ha
    obtain ⟨hi, h3, _⟩ := List.findIdx?_eq_some_iff_getElem.1 h2
    have h4 := List.all_eq_true.1 ha _ (List.getElem_mem hi)
    simp at h3 h4
    exact h3 h4
/-- Whether a range over the map is under way or not: behind the call it is where it was, or has lost a key. -/
def ItStep (it it' : Option It) (x : UInt64) : Prop := it' = it ∨ ∃ n, (∀ i, it = some i → n ≤ i.cnt) ∧ it' = it.map fun i => i.drop x n
theorem settle_any (x : UInt64) (w : World) (h : TrackAt w F R it s b ev pv) (hf : s.Fine) :
    Calls Try.prog 53 #[.pointer (some ⟨R, 0, none⟩), .int .u64 x.toNat] w fun e w' => e = .returned (.tuple #[]) ∧ ∃ F' it' ev' pv', ItStep it it' x ∧ TrackAt w' F' R it' (s.settle x) b ev' pv' ∧ Turn F F' w w' ∧ ∀ q, (∀ e ∈ s.ents x, e.peer ≠ q) → pv' q = pv q := by
  have H := Lib.hid h
  have HF := Lib.hid hf
  clear h hf
  go_enter Try.func53, Try.ntmps53
  go_wp2_with fail
  refine (find_any (fun _ => True) (fun _ _ _ _ => trivial) _ _ _ picks_open x _ trivial H.out HF.out).mono ?_
  rintro e w1 ⟨r, rfl, hr, hb⟩
  rcases found_open hr with ⟨rfl, hs⟩ | ⟨⟨a, rfl⟩, hs⟩
  · have HS := Lib.hid hs
    clear hr hs
    go_wp2_with fail
    with_reducible refine (forget_any x _ (H.out.kept hb) HF.out).mono ?_
    rintro e w2 ⟨rfl, F', pv', n, hn, h2, t2, q2⟩
    have H2 := Lib.hid h2
    have T2 := Lib.hid t2
    have HN := Lib.hid hn
    have HQ := Lib.hid q2
    clear h2 t2 hn q2
    go_wp2_with fail
    go_end0
    exact ⟨rfl, F', _, _, pv', .inr ⟨n, HN.out, rfl⟩, by rw [HS.out]; exact H2.out, (Turn.of_below hb).trans T2.out, HQ.out⟩
  · have HS := Lib.hid hs
    clear hr hs
    go_wp2_with fail
    go_end0
    exact ⟨rfl, F, it, ev, pv, .inl rfl, by rw [HS.out]; exact H.out.kept hb, Turn.of_below hb, fun _ _ => rfl⟩
end Go.Proofs.Ytamiddnkgjfdhaa
