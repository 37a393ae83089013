/-
  The contracts of best and Next.
-/
import Derived.Test.YtamiddnkgjfdhaaBest
namespace Go.Proofs.Ytamiddnkgjfdhaa
open Go.RowKit Go.Maps

variable {w w' : World} {F : Nat → Prop} {R : Nat} {it : Option It} {s : TS} {b : Nat} {ev : UInt64 → Option Value} {pv : Nat → Value}

theorem deleteEnt_nil (K : World → Prop) (hK : ∀ a b, K a → Below a.heap.size a b → K b) (f : FuncId) (fc : Array Value) (q : TEnt → Bool) (hp : Picks K f fc q) (w : World) (hw : K w) :
    Calls Try.prog 51 #[.slice none 0 0, .func (.func f) #[] fc] w fun e w' => e = .returned (.slice none 0 0) ∧ Below w.heap.size w w' := by
  have HP := Lib.hid hp
  have HK := Lib.hid hK
  have HW := Lib.hid hw
  clear hp hK hw
  go_enter Try.func51, Try.ntmps51
  go_wp2_with fail
  refine (indexFunc_any K HK.out f fc q HP.out [] none 0 w HW.out (by decide) (entsAt_nil _ _)).mono ?_
  rintro e w1 ⟨rfl, hb1⟩
  have e1 : firstAt q [] = -1 := rfl
  rw [e1]
  clear e1
  go_wp2
  go_ret
  exact ⟨rfl, hb1⟩
/-- A slice that is new since w: what is left of it. -/
theorem deleteEnt_new (f : FuncId) (q : TEnt → Bool) (hp : Picks (fun _ => True) f #[] q) (l : List TEnt) (a : Option Addr) (cap : Nat) (w : World) (hl : l.length ≤ 8) (ho : OwnEnts w (.slice a l.length cap) l) {n : Nat} (hn : n ≤ w.heap.size) (hf : ∀ k, (Value.slice a l.length cap).ownBlock = some k → n ≤ k) :
    Calls Try.prog 51 #[.slice a l.length cap, .func (.func f) #[] #[]] w fun e w' => ∃ a m c, e = .returned (.slice a m c) ∧ OwnEnts w' (.slice a m c) (l.filter fun e => !q e) ∧ Below n w w' := by
  rcases ho.2 with ⟨hv, hn0⟩ | ⟨g, cap', cur, hv, _, _, _, _, _, _⟩
  · simp only [Value.slice.injEq] at hv
    obtain ⟨rfl, hl0, rfl⟩ := hv
    obtain rfl : l = [] := List.eq_nil_of_length_eq_zero hn0
    exact (deleteEnt_nil (fun _ => True) (fun _ _ _ _ => trivial) f #[] q hp w trivial).mono fun e w' ⟨he, hb⟩ => ⟨none, 0, 0, he, World.ownsRow_nil _ _ _ _, hb.mono hn⟩
  · simp only [Value.slice.injEq, true_and] at hv
    obtain ⟨rfl, rfl⟩ := hv
    exact (deleteFunc_any (fun _ => True) (fun _ _ _ _ => trivial) f #[] q hp l g cap w trivial (fun _ _ _ _ => trivial) hl ho).mono fun e w' ⟨m, c, he, h1, h2⟩ => ⟨_, m, c, he, h1, h2.below (fun k hk => by rw [hk]; exact hf g rfl) hn⟩

/-- Where an ID is in the map it has entries. -/
def TS.Full (s : TS) : Prop := ∀ x l, s.E x = some l → l ≠ []
/-- The entry by which an ID is to be asked for. -/
def TS.best (s : TS) (x : UInt64) : Option TEnt :=
  if (s.ents x).findIdx? (fun e => e.st == 2) = none then
    match (s.ents x).filter (fun e => !(e.st != 1)) with
    | [] => none
    | m :: r => some (minE s.salt m r)
  else none
/-- What best answers. -/
def GaveBest (o : Option TEnt) (e : Ending) : Prop := (o = none ∧ e = .returned (.tuple #[entV ⟨0, 0, false, 0, 0⟩, .bool false])) ∨ ∃ m, o = some m ∧ e = .returned (.tuple #[entV m, .bool true])

set_option maxRecDepth 20000 in
theorem best_any (x : UInt64) (w : World) (h : TrackAt w F R it s b ev pv) (hf : s.Fine) (hfull : s.Full) :
    Calls Try.prog 46 #[.pointer (some ⟨R, 0, none⟩), .int .u64 x.toNat] w fun e w' => GaveBest (s.best x) e ∧ Below w.heap.size w w' := by
  have H := Lib.hid h
  have HF := Lib.hid hf
  have HFU := Lib.hid hfull
  have HV0 : Hid (VarIs (w.alloc (.cells #[.int .i64 0, .int .u64 0, .bool false, .int .i64 0, .int .i64 0] 73)) w.heap.size ⟨0, 0, false, 0, 0⟩) := Lib.hid (heap_alloc_new w _)
  have hnb := kept_new w (.cells #[.int .i64 0, .int .u64 0, .bool false, .int .i64 0, .int .i64 0] 73)
  have HNB := Lib.hid hnb
  clear h hf hfull hnb
  go_enter Try.func46, Try.ntmps46
  go_wp2_with fail
  with_reducible refine (flight_any x _ (H.out.kept HNB.out) HF.out).mono ?_
  rintro e w1 ⟨r, rfl, hr, hb1⟩
  have HB1 : Hid (Below w.heap.size w w1) := Lib.hid (kept_trans HNB.out hb1)
  have HV1 := Lib.hid (varIs_kept HV0.out hb1)
  obtain ⟨⟨n0, n1, n2, n3, n4⟩, hnf, hnl⟩ := varIs_at HV1.out
  have f0 := hnf 0
  have f1 := hnf 1
  have f2 := hnf 2
  have f3 := hnf 3
  have f4 := hnf 4
  clear hnf
  rcases hr with ⟨rfl, hr⟩ | ⟨g', n', cap', i', he', rfl, hr⟩
  · have H1 := H.out.kept HB1.out
    have hlk := H1.look x
    have hmc := H1.mapc
    have hRlt := H1.lt
    obtain ⟨v, hvx⟩ : ∃ v, (ev x).getD (.slice none 0 0) = v := ⟨_, rfl⟩
    have hsl := H1.slice x
    rw [hvx] at hlk hsl
    have HNE : Hid (v.ownBlock ≠ none → s.ents x ≠ []) := Lib.hid (fun hv => by
      rcases H1.ents x with ⟨h1, h2⟩ | ⟨u, l, h1, h2, h3⟩
      · rw [h1] at hvx
        rw [← hvx] at hv
        exact absurd rfl hv
      · unfold TS.ents
        rw [h2]
        exact HFU.out x l h2)
    obtain ⟨hl8, hp8⟩ := HF.out.1 x
    have HSL := Lib.hid hsl
    have HR := Lib.hid hr
    have HP8 := Lib.hid hp8
    have hsalt := H1.salt
    have HH1 := Lib.hid H1
    clear hvx hsl hr hp8 H1
    go_wp2_with fail
    with_reducible refine (clone_any (s.ents x) v _ hl8 HSL.out HNE.out).mono ?_
    rintro e w2 ⟨a2, cap2, rfl, ho2, hfr2, hb2⟩
    have HO2 := Lib.hid ho2
    have HFR2 := Lib.hid hfr2
    clear ho2 hfr2
    go_wp2_with fail
    with_reducible refine (deleteEnt_new _ _ picks_unready (s.ents x) a2 cap2 _ hl8 HO2.out hb2.size HFR2.out).mono ?_
    rintro e w3 ⟨a3, m3, cap3, rfl, ho3, hb3⟩
    have hb13 : Below w1.heap.size w1 w3 := hb2.trans hb3
    obtain ⟨a4, cap4, e4, _, hat3⟩ := ownEnts_form ho3
    simp only [Value.slice.injEq] at e4
    obtain ⟨rfl, rfl, rfl⟩ := e4
    have HV3 := Lib.hid (varIs_kept HV1.out hb13)
    obtain ⟨⟨q0, q1, q2, q3, q4⟩, hqf, hql⟩ := varIs_at HV3.out
    have g0 := hqf 0
    have g1 := hqf 1
    have g2 := hqf 2
    have g3 := hqf 3
    have g4 := hqf 4
    have HAT := Lib.hid hat3
    have hs3 := kept_cell hb13 hsalt
    clear hqf ho3 hat3
    cases hcand : (s.ents x).filter (fun e => !(e.st != 1)) with
    | nil =>
      have HBE : Hid (s.best x = none) := Lib.hid (by unfold TS.best; rw [if_pos HR.out, hcand])
      rw [hcand] at HAT
      clear hcand
      go_wp2_with fail
      refine bodyPost_ret (v := .tuple #[entV ⟨0, 0, false, 0, 0⟩, .bool false]) (by simp [results, Try.results46, go_sem, entV, q0, q1, q2, q3, q4]) rfl ?_
      exact ⟨.inl ⟨HBE.out, rfl⟩, setV_below (e := ⟨0, 0, false, 0, 0⟩) (kept_trans HB1.out hb13) (Nat.le_refl _)⟩
    | cons m r =>
      have HBE : Hid (s.best x = some (minE s.salt m r)) := Lib.hid (by unfold TS.best; rw [if_pos HR.out, hcand])
      have hlen : (m :: r).length ≤ 8 := by rw [← hcand]; exact Nat.le_trans (List.length_filter_le _ _) hl8
      have HPM : Hid (∀ e ∈ m :: r, e.peer < 8) := Lib.hid (fun e he => HP8.out e (by rw [← hcand] at he; exact (List.mem_filter.1 he).1))
      rw [hcand] at HAT
      have hne0 : (((m :: r).length : Int) == 0) = false := by rw [beq_eq_false_iff_ne]; simp only [List.length_cons]; omega
      clear hcand
      go_wp2_with fail
      refine (minFunc_any s.salt R (m :: r) _ _ (by simp) hlen HPM.out _ hs3 HAT.out).mono ?_
      rintro e w4 ⟨rfl, hb4⟩
      have HV4 := Lib.hid (varIs_kept HV3.out hb4)
      obtain ⟨⟨p0, p1, p2, p3, p4⟩, hpf, hpl⟩ := varIs_at HV4.out
      have k0 := hpf 0
      have k1 := hpf 1
      have k2 := hpf 2
      have k3 := hpf 3
      have k4 := hpf 4
      have emin : minE s.salt (m :: r)[0] ((m :: r).drop 1) = minE s.salt m r := rfl
      rw [emin]
      obtain ⟨z, hz⟩ : ∃ z, minE s.salt m r = z := ⟨_, rfl⟩
      rw [hz] at HBE ⊢
      unfold entV
      clear hpf emin hz
      go_wp2_with fail
      refine bodyPost_ret (v := .tuple #[entV z, .bool true]) (by simp [results, Try.results46, go_sem, entV, p0, p1, p2, p3, p4]) rfl ?_
      exact ⟨.inr ⟨z, HBE.out, rfl⟩, setV_below (e := z) (kept_trans (kept_trans HB1.out hb13) hb4) (Nat.le_refl _)⟩
  · have HBE : Hid (s.best x = none) := Lib.hid (by unfold TS.best; rw [if_neg (by rw [hr]; simp)])
    clear hr he'
    go_wp2_with fail
    refine bodyPost_ret (v := .tuple #[entV ⟨0, 0, false, 0, 0⟩, .bool false]) (by simp [results, Try.results46, go_sem, entV, n0, n1, n2, n3, n4]) rfl ?_
    exact ⟨.inl ⟨HBE.out, rfl⟩, setV_below (e := ⟨0, 0, false, 0, 0⟩) HB1.out (Nat.le_refl _)⟩

theorem next_arg (p : Int) (h : ¬ (0 ≤ p ∧ p < 8)) (w : World) :
    Calls Try.prog 20 #[.pointer (some ⟨R, 0, none⟩), .int .i64 p] w fun e w' => e = .returned (.tuple #[.slice none 0 0, .int .i64 1]) ∧ w = w' := by
  have HP := Lib.hid h
  clear h
  go_enter Try.func20, Try.ntmps20
  go_wp2_with fail
  with_reducible refine (isPeer_no p HP.out _).mono ?_
  rintro e w1 ⟨rfl, rfl⟩
  go_wp2_with fail
  go_ret2
  exact ⟨rfl, rfl⟩
/-- An ID is to be asked for from a peer. -/
def TS.isNext (s : TS) (p : Nat) (x : UInt64) : Bool := match s.best x with
  | none => false
  | some m => m.peer == p
/-- What Next answers: a slice of IDs in memory of its own. -/
def GaveIds (w0 : World) (l : List UInt64) (e : Ending) (w' : World) : Prop := ∃ a cap, e = .returned (.tuple #[.slice a l.length cap, .int .i64 0]) ∧ l.length ≤ cap ∧ IdsAt w' a l ∧ Fresh w0.heap.size a
theorem filter_step {α : Type} {q : α → Bool} {l : List α} {k : Nat} (h : k < l.length) : (l.take (k + 1)).filter q = (l.take k).filter q ++ if q l[k] then [l[k]] else [] := by
  rw [List.take_succ_eq_append_getElem h, List.filter_append]
  cases hq : q l[k] <;> simp [hq]
set_option maxRecDepth 20000 in
set_option maxHeartbeats 800000 in
theorem next_any (p : Nat) (hp : p < 8) (w : World) (h : TrackAt w F R it s b ev pv) (hf : s.Fine) (hfull : s.Full) :
    Calls Try.prog 20 #[.pointer (some ⟨R, 0, none⟩), .int .i64 p] w fun e w' => GaveIds w ((s.I p).filter (s.isNext p)) e w' ∧ Below w.heap.size w w' := by
  obtain ⟨i0, _⟩ := h.idc p hp
  obtain ⟨a, cp, hv, hcp, hat, _⟩ := owns_idsAt (h.ids p hp)
  rw [hv] at i0
  have hpi : (p : Int) < 8 := by omega
  have hlt := h.lt
  have hl20 := hf.2 p hp
  have H := Lib.hid h
  have HF := Lib.hid hf
  have HFU := Lib.hid hfull
  have HA := Lib.hid hat
  clear h hf hat hv hfull
  go_enter Try.func20, Try.ntmps20
  go_wp2_with fail
  with_reducible refine (isPeer_yes p p rfl hp _).mono ?_
  rintro e w1 ⟨rfl, rfl⟩
  go_wp2_with fail
  go_loopw [6, 21] (fun v i wr => ∃ k : Nat, k ≤ (s.I p).length ∧ i = .int .i64 k ∧ Hid (OwnIds wr w.heap.size v (((s.I p).take k).filter (s.isNext p))) ∧ Hid (Below w.heap.size w wr)) (fun _ i _ => (s.I p).length - (intOf i).toNat)
  case atStart => exact ⟨0, Nat.zero_le _, rfl, Lib.hid (ownIds_nil _ _), Lib.hid (Below.refl _ _)⟩
  case round =>
    obtain ⟨k, hk, rfl, HO, HB⟩ := hrel
    rename_i u6
    by_cases hkl : k < (s.I p).length
    · obtain ⟨g, o, rfl, hg, c0⟩ := idsAt_kept HB.out HA.out k hkl
      obtain ⟨x, hx⟩ : ∃ x, (s.I p)[k] = x := ⟨_, rfl⟩
      rw [hx] at c0
      have hstep := filter_step (q := s.isNext p) hkl
      rw [hx] at hstep
      have HST := Lib.hid hstep
      have hlen20 : (((s.I p).take k).filter (s.isNext p)).length ≤ 20 := Nat.le_trans (List.length_filter_le _ _) (Nat.le_trans (List.length_take_le _ _) (by omega))
      clear hstep hx
      go_wp2_with fail
      with_reducible refine (best_any x _ (H.out.kept HB.out) HF.out HFU.out).mono ?_
      rintro e w2 ⟨hgb, hb2⟩
      rcases hgb with ⟨hbe, rfl⟩ | ⟨m, hbe, rfl⟩
      · have HN : Hid (s.isNext p x = false) := Lib.hid (by unfold TS.isNext; rw [hbe])
        clear hbe
        unfold entV
        go_wp2_with fail
        go_roundw
        case rel => exact ⟨k + 1, by omega, by go_num, Lib.hid (by rw [HST.out, HN.out]; simp only [Bool.false_eq_true, if_false, List.append_nil]; exact ownIds_below HO.out (kept_alloc hb2 _)), Lib.hid (kept_alloc (kept_trans HB.out hb2) _)⟩
        case measure => simp [intOf]; omega
      · have HN : Hid (s.isNext p x = (m.peer == p)) := Lib.hid (by unfold TS.isNext; rw [hbe])
        have hbq := beq_nat m.peer p
        unfold entV
        cases hbb : m.peer == p with
        | true =>
          rw [hbb] at HN hbq
          clear hbe hbb
          have HO2 := Lib.hid (ownIds_below HO.out (kept_alloc hb2 (.cells #[.int .i64 m.peer, .int .u64 m.id.toNat, .bool m.pref, .int .i64 m.st, .int .i64 m.till] 73)))
          have HB2 := Lib.hid (kept_alloc (kept_trans HB.out hb2) (.cells #[.int .i64 m.peer, .int .u64 m.id.toNat, .bool m.pref, .int .i64 m.st, .int .i64 m.till] 73))
          go_wp2_with (at_builtin; refine append_id rfl _ _ rfl x rfl (Eq.trans (b := .slice (some ⟨w2.heap.size + 1, 0, none⟩) 1 1) rfl (by simp)) HO2.out (by omega) HB2.out.size ?_; intro g2 cap2 w4 ho4 hg4 hg4')
          have HO4 := Lib.hid ho4
          have HB4 := Lib.hid (HB2.out.grown hg4' HB2.out.size (fun j hj => (ownIds_block HO2.out j hj).1))
          clear ho4 hg4 hg4'
          go_wp2_with fail
          go_roundw
          case rel => exact ⟨k + 1, by omega, by go_num, Lib.hid (by rw [HST.out, HN.out]; simp only [if_true]; exact HO4.out), HB4⟩
          case measure => simp [intOf]; omega
        | false =>
          rw [hbb] at HN hbq
          clear hbe hbb
          go_wp2_with fail
          go_roundw
          case rel => exact ⟨k + 1, by omega, by go_num, Lib.hid (by rw [HST.out, HN.out]; simp only [Bool.false_eq_true, if_false, List.append_nil]; exact ownIds_below HO.out (kept_alloc hb2 _)), Lib.hid (kept_alloc (kept_trans HB.out hb2) _)⟩
          case measure => simp [intOf]; omega
    · have he : (s.I p).take k = s.I p := List.take_of_length_le (by omega)
      have HO' := HO.out
      rw [he] at HO'
      obtain ⟨a5, cap5, e5, hc5, hat5, hfr5⟩ := owns_idsAt HO'
      subst e5
      have HE := Lib.hid (And.intro hc5 (And.intro hat5 hfr5))
      clear HO' hat5 hfr5 he
      go_wp2_with fail
      go_ret2
      exact ⟨⟨a5, cap5, rfl, HE.out.1, HE.out.2.1, HE.out.2.2⟩, HB.out⟩
end Go.Proofs.Ytamiddnkgjfdhaa
