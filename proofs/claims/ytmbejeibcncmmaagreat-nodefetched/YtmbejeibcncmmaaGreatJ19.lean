/-
  Acts one by one; NodeLeft: the walk.
  Two nodes; NodeErrors: the walk.
  NodeTwice: the walk.
  NodeDelay: the walk.
  Who is there, whatever is sent; NodeFetched: what goes out.
-/
import Derived.Test.YtmbejeibcncmmaaGreatJ18
import Derived.Test.YtmbejeibcncmmaaGreatJ6
set_option maxRecDepth 20000
namespace Go.Proofs.YtmbejeibcncmmaaGreat
open Go.RowKit Go.Maps

variable {w w' : World} {F : Nat → Prop} {R : Nat} {s : NS}

/-- What acts make of a node. -/
def NS.run (s : NS) (l : List ActD) : NS := l.foldl (fun s a => (s.did a).1) s
theorem run_step {l : List ActD} {k : Nat} (h : k < l.length) : s.run (l.take (k + 1)) = ((s.run (l.take k)).did l[k]).1 := by
  unfold NS.run
  rw [List.take_add_one, List.getElem?_eq_getElem h, List.foldl_append]
  rfl
/-- A boxed act. -/
theorem box_act (w : World) (a : ActD) : (w.alloc (.cells #[.int .i64 a.kind, .int .i64 a.peer, .int .i64 a.n, .bool a.flag, .string a.bytes] 28)).cell? ⟨w.heap.size, 0, none⟩ = some (.int .i64 a.kind) ∧ (w.alloc (.cells #[.int .i64 a.kind, .int .i64 a.peer, .int .i64 a.n, .bool a.flag, .string a.bytes] 28)).cell? ⟨w.heap.size, 1, none⟩ = some (.int .i64 a.peer) ∧ (w.alloc (.cells #[.int .i64 a.kind, .int .i64 a.peer, .int .i64 a.n, .bool a.flag, .string a.bytes] 28)).cell? ⟨w.heap.size, 2, none⟩ = some (.int .i64 a.n) ∧ (w.alloc (.cells #[.int .i64 a.kind, .int .i64 a.peer, .int .i64 a.n, .bool a.flag, .string a.bytes] 28)).cell? ⟨w.heap.size, 3, none⟩ = some (.bool a.flag) ∧ (w.alloc (.cells #[.int .i64 a.kind, .int .i64 a.peer, .int .i64 a.n, .bool a.flag, .string a.bytes] 28)).cell? ⟨w.heap.size, 4, none⟩ = some (.string a.bytes) :=
  ⟨by simp [go_sem], by simp [go_sem], by simp [go_sem], by simp [go_sem], by simp [go_sem]⟩
theorem join_there (s : NS) (p : Nat) (hp : p < 8) (f : Bool) : (s.join p f).1.thereE p = 0 := by
  unfold NS.join
  rw [if_neg (not_not_intro ⟨by omega, by omega⟩), Int.toNat_natCast]
  split
  · rename_i h
    unfold NS.thereE
    rw [if_pos ⟨by omega, by omega⟩, Int.toNat_natCast, h]
    rfl
  · unfold NS.thereE NS.setPeer
    rw [if_pos ⟨by omega, by omega⟩]
    simp
theorem leave_zero {p : Nat} (h : s.thereE p = 0) : s.leave p = ({ s.setPeer p (false, false) with T := Tr.dropL s.T p, P := Ho.dropL s.P p }, 0) := by
  unfold NS.leave
  rw [if_neg (not_not_intro h), Int.toNat_natCast]
theorem there_left {p : Nat} (hp : p < 8) {s' : NS} (h : s'.peers p = (false, false)) : s'.thereE p = 5 := by
  unfold NS.thereE
  rw [if_pos ⟨by omega, by omega⟩, Int.toNat_natCast, h]
  rfl
theorem drop_gone (T : List Tr.TEnt) (p : Nat) : ∀ e ∈ Tr.dropL T p, ¬ e.peer = p := fun e he => by
  unfold Tr.dropL Tr.settleL at he
  have h1 := (List.mem_filter.1 he).1
  have h2 := (List.mem_filter.1 h1).2
  simpa using h2
theorem count_gone (T : List Tr.TEnt) (p : Nat) (hp : p < 8) : (if Tr.goodP (p : Int) then ((((Tr.dropL T p).filter fun e => e.peer == (p : Int).toNat).length : Int), (((Tr.dropL T p).filter fun e => e.peer == (p : Int).toNat && e.st == 2).length : Int), (0 : Int)) else (0, 0, 1)) = (0, 0, 0) := by
  rw [if_pos ⟨by omega, by omega⟩, Int.toNat_natCast]
  rw [List.filter_eq_nil_iff.2 (fun e he => by simpa using drop_gone T p e he), List.filter_eq_nil_iff.2 (fun e he => by simp [drop_gone T p e he])]
  rfl
theorem join_left {p : Nat} (hp : p < 8) {s' : NS} (h : s'.peers p = (false, false)) (f : Bool) : s'.join p f = (s'.setPeer p (true, f), 0) := by
  unfold NS.join
  rw [if_neg (not_not_intro ⟨by omega, by omega⟩), Int.toNat_natCast, h]
  rfl
theorem join_again {p : Nat} (hp : p < 8) (s' : NS) (f : Bool) : (s'.setPeer p (true, f)).join p f = (s'.setPeer p (true, f), 6) := by
  unfold NS.join
  rw [if_neg (not_not_intro ⟨by omega, by omega⟩), Int.toNat_natCast]
  simp [NS.setPeer]
set_option maxRecDepth 20000 in
set_option maxHeartbeats 2000000 in
theorem nodeLeft_walk (salt : UInt64) (l : List ActD) (a : Option Addr) (cap : Nat) (pe : Int) (hl : l.length ≤ 2932031007402) (_hpe : -9223372036854775808 ≤ pe ∧ pe ≤ 9223372036854775807) (w : World) (hi : ActsAt w a l) : Calls Tryz.prog 8 #[.int .u64 salt.toNat, .slice a l.length cap, .int .i64 pe] w fun e w' => e = .returned (.bool true) ∧ Below w.heap.size w w' := by
  have HI := Lib.hid hi
  clear hi
  go_enter Tryz.func8, Tryz.ntmps8
  go_wp2_with fail
  with_reducible refine (met_any _).mono ?_
  rintro e w1 ⟨rfl, hb1⟩
  have HB1 := Lib.hid hb1
  obtain ⟨p, hpp⟩ : ∃ p : Nat, pe % 8 = p := ⟨(pe % 8).toNat, by omega⟩
  have hp : p < 8 := by omega
  have HP := Lib.hid hpp
  clear hb1 hpp
  go_wp2_with fail
  with_reducible refine (rest_is pe 8 p _ (by decide) (by decide) HP.out).mono ?_
  rintro e w2 ⟨rfl, rfl⟩
  go_wp2_with fail
  with_reducible refine (mine_new salt _ HB1.out).mono ?_
  rintro e w3 ⟨R, F, rfl, h3, _, _⟩
  have H3 := Lib.hid h3
  clear h3
  go_wp2_with fail
  go_loopw [25] (fun i wr => ∃ (k : Nat) (F' : Nat → Prop) (u : NS), k ≤ l.length ∧ i = .int .i64 k ∧ Hid (Mine w wr F' R u) ∧ Hid (NInv k u)) (fun i _ => l.length - (intOf i).toNat)
  case atStart => exact ⟨0, F, NS.new salt, Nat.zero_le _, rfl, H3, Lib.hid (inv_new salt)⟩
  case round =>
    obtain ⟨k, F4, u, hk, rfl, H4, HN4⟩ := hrel
    by_cases hkl : k < l.length
    · obtain ⟨⟨g, o, rfl, hg, c0⟩, hs⟩ := HI.out k hkl
      obtain ⟨y, hy⟩ : ∃ y, l[k] = y := ⟨_, rfl⟩
      rw [hy] at c0 hs
      obtain ⟨c0, c1, c2, c3, c4⟩ := c0
      have k0 := cell_later H4.out.below c0
      have k1 := cell_later H4.out.below c1
      have k2 := cell_later H4.out.below c2
      have k3 := cell_later H4.out.below c3
      have k4 := cell_later H4.out.below c4
      have l5 := (cell_spot k0).2
      obtain ⟨wy, hwy⟩ : ∃ wy, wr.alloc (.cells #[.int .i64 y.kind, .int .i64 y.peer, .int .i64 y.n, .bool y.flag, .string y.bytes] 28) = wy := ⟨_, rfl⟩
      have hby : Below wr.heap.size wr wy := hwy ▸ kept_new _ _
      obtain ⟨y0, y1, y2, y3, y4⟩ := box_act wr y
      rw [hwy] at y0 y1 y2 y3 y4
      have l6 := (cell_spot y0).2
      have H5 := Lib.hid (H4.out.kept hby)
      have HNN : Hid (NInv (k + 1) (u.did y).1) := Lib.hid (did_inv HN4.out H4.out.node.good.T y)
      have hk2 : k ≤ 2950000000000 := by omega
      clear hy c0 c1 c2 c3 c4 hby
      go_wp2_with fail
      with_reducible refine (did_any y k hk2 HN4.out hs _ rfl _ H5.out.node).mono ?_
      rintro e w6 ⟨v6, F6, rfl, ho6, h6, t6, _⟩
      have H6 := Lib.hid (H5.out.turned h6 t6)
      clear ho6 h6 t6
      go_wp2_with fail
      go_roundw
      case rel => exact ⟨k + 1, F6, _, by omega, by go_num, H6, HNN⟩
      case measure => simp [intOf]; omega
    · obtain ⟨s1, hs1⟩ : ∃ s1, u.join p false = s1 := ⟨_, rfl⟩
      have ht1 : s1.1.thereE p = 0 := hs1 ▸ join_there u p hp false
      have HS1 := Lib.hid hs1
      have HL1 := Lib.hid (leave_zero ht1)
      obtain ⟨s2, hs2⟩ : ∃ s2 : NS, ({ s1.1.setPeer p (false, false) with T := Tr.dropL s1.1.T p, P := Ho.dropL s1.1.P p } : NS) = s2 := ⟨_, rfl⟩
      rw [hs2] at HL1
      have hg2 : s2.peers p = (false, false) := by rw [← hs2]; simp [NS.setPeer]
      have hT2 : s2.T = Tr.dropL s1.1.T p := by rw [← hs2]
      have HT5 := Lib.hid (there_left hp hg2)
      have HL2 : Hid (s2.leave p = (s2, 5)) := Lib.hid (by unfold NS.leave; rw [if_pos (by rw [HT5.out]; decide), HT5.out])
      have HC2 : Hid ((if Tr.goodP (p : Int) then (((s2.T.filter fun e => e.peer == (p : Int).toNat).length : Int), ((s2.T.filter fun e => e.peer == (p : Int).toNat && e.st == 2).length : Int), (0 : Int)) else (0, 0, 1)) = (0, 0, 0)) := Lib.hid (by rw [hT2]; exact count_gone _ p hp)
      have HSD : Hid (s2.send p ⟨#[120]⟩ = (s2, [], 5)) := Lib.hid (by unfold NS.send; rw [if_pos (by rw [HT5.out]; decide), HT5.out])
      have HJ1 := Lib.hid (join_left hp hg2 true)
      have HJ2 := Lib.hid (join_again hp s2 true)
      have HA2 : Hid (s2.A.length ≤ 2950000000000) := Lib.hid (by
        have h1 := (join_grow u p false).inv HN4.out
        rw [hs1] at h1
        have h2 := h1.sum
        have : s2.A = s1.1.A := by rw [← hs2]; rfl
        rw [this]
        omega)
      clear hs1 ht1 hs2 hg2 hT2
      go_wp2_with fail
      with_reducible refine (join_any p false _ HS1.out _ H4.out.node).mono ?_
      rintro e w5 ⟨rfl, F5, h5, t5⟩
      have H5 := Lib.hid (H4.out.turned h5 t5)
      clear h5 t5
      obtain ⟨r1, hr1⟩ : ∃ r1, s1.2 = r1 := ⟨_, rfl⟩
      rw [hr1]
      clear hr1
      go_wp2_with fail
      with_reducible refine (leave_any p _ HL1.out _ H5.out.node).mono ?_
      rintro e w6 ⟨rfl, F6, h6, t6⟩
      have H6 := Lib.hid (H5.out.turned h6 t6)
      clear h6 t6
      go_wp2_with fail
      with_reducible refine (leave_any p _ HL2.out _ H6.out.node).mono ?_
      rintro e w7 ⟨rfl, F7, h7, t7⟩
      have H7 := Lib.hid (H6.out.turned h7 t7)
      clear h7 t7
      go_wp2_with fail
      with_reducible refine (countsN_any p 0 0 0 HC2.out _ H7.out.node).mono ?_
      rintro e w8 ⟨rfl, hb8⟩
      have H8 := Lib.hid (H7.out.kept hb8)
      clear hb8
      go_wp2_with fail
      with_reducible refine (send_any p ⟨#[120]⟩ (by decide) HA2.out _ HSD.out _ H8.out.node).mono ?_
      rintro e w9 ⟨v9, F9, rfl, ho9, h9, t9, _⟩
      obtain ⟨a9, c9, rfl, _⟩ := outs_form ho9
      have H9 := Lib.hid (H8.out.turned h9 t9)
      clear h9 t9 ho9
      go_wp2_with fail
      with_reducible refine (join_any p true _ HJ1.out _ H9.out.node).mono ?_
      rintro e w10 ⟨rfl, F10, h10, t10⟩
      have H10 := Lib.hid (H9.out.turned h10 t10)
      clear h10 t10
      go_wp2_with fail
      with_reducible refine (join_any p true _ HJ2.out _ H10.out.node).mono ?_
      rintro e w11 ⟨rfl, F11, h11, t11⟩
      have H11 := Lib.hid (H10.out.turned h11 t11)
      clear h11 t11
      go_wp2_with fail
      go_ret
      exact ⟨rfl, H11.out.below⟩
end Go.Proofs.YtmbejeibcncmmaaGreat
namespace Go.Proofs.YtmbejeibcncmmaaGreat
open Go.RowKit Go.Maps

variable {w w' : World} {F F' : Nat → Prop} {R R' : Nat} {s s' : NS}

/-- The memory behind a slice's address holds these messages. -/
def OutsAt (w : World) (a : Option Addr) (l : List OutD) : Prop := ∀ i (h : i < l.length), ∃ b o, a = some ⟨b, o, none⟩ ∧ b < w.heap.size ∧ w.cell? ⟨b, o + i * 2, none⟩ = some (.int .i64 l[i].peer) ∧ w.cell? ⟨b, o + i * 2 + 1, none⟩ = some (.string l[i].bytes)
theorem outsAt_kept {a : Option Addr} {l : List OutD} (hb : Below w.heap.size w w') (h : OutsAt w a l) : OutsAt w' a l := fun i hi => by
  obtain ⟨b, o, e, hlt, c0, c1⟩ := h i hi
  exact ⟨b, o, e, Nat.lt_of_lt_of_le hlt hb.size, kept_cell hb c0, kept_cell hb c1⟩
theorem outsC_at : ∀ (l : List OutD) (i : Nat) (h : i < l.length), (outsC l)[i * 2]? = some (.int .i64 l[i].peer) ∧ (outsC l)[i * 2 + 1]? = some (.string l[i].bytes)
  | o :: r, 0, _ => ⟨rfl, rfl⟩
  | o :: r, i + 1, h => by
    have := outsC_at r i (by simpa using h)
    have e1 : (i + 1) * 2 = i * 2 + 1 + 1 := by omega
    rw [e1]
    exact this
theorem owns_outsAt {B : Nat} {v : Value} {l : List OutD} (h : OwnOuts w B v l) : ∃ a cap, v = .slice a l.length cap ∧ l.length ≤ cap ∧ OutsAt w a l := by
  rcases h.2 with ⟨hv, hn⟩ | ⟨g, cap, cur, hv, hB, hg, hc, _, _, _⟩
  · exact ⟨none, 0, by rw [hn]; exact hv, by omega, fun i hi => absurd hi (by omega)⟩
  · refine ⟨some ⟨g, 0, none⟩, cap, hv, hc, fun i hi => ⟨g, 0, rfl, (Array.getElem?_eq_some_iff.1 hg).1, ?_, ?_⟩⟩
    · have a0 := h.cells (g := g) (by rw [hv]; rfl) (i * 2) _ (outsC_at l i hi).1
      have f0 : (⟨g, 0, none⟩ : Addr).add (i * 2) = ⟨g, 0 + i * 2, none⟩ := by unfold Addr.add; split <;> simp_all
      rw [f0] at a0
      exact a0
    · have a0 := h.cells (g := g) (by rw [hv]; rfl) (i * 2 + 1) _ (outsC_at l i hi).2
      have f0 : (⟨g, 0, none⟩ : Addr).add (i * 2 + 1) = ⟨g, 0 + i * 2 + 1, none⟩ := by unfold Addr.add; split <;> simp_all
      rw [f0] at a0
      exact a0
set_option maxRecDepth 20000 in
set_option maxHeartbeats 1000000 in
theorem eqOut_same (l : List OutD) (a b : Option Addr) (ca cb : Nat) (w : World) (hl : l.length ≤ 1000000) (ha : OutsAt w a l) (hb : OutsAt w b l) : Calls Tryz.prog 18 #[.slice a l.length ca, .slice b l.length cb] w fun e w' => e = .returned (.bool true) ∧ Below w.heap.size w w' := by
  have HA := Lib.hid ha
  have HB := Lib.hid hb
  clear ha hb
  go_enter Tryz.func18, Tryz.ntmps18
  go_wp2_with fail
  go_loopw [14] (fun i wr => ∃ k : Nat, k ≤ l.length ∧ i = .int .i64 k ∧ Hid (Below w.heap.size w wr)) (fun i _ => l.length - (intOf i).toNat)
  case atStart => exact ⟨0, Nat.zero_le _, rfl, Lib.hid (Below.refl _ _)⟩
  case round =>
    obtain ⟨k, hk, rfl, HBW⟩ := hrel
    by_cases hkl : k < l.length
    · obtain ⟨g, o, rfl, hg, c0, c1⟩ := outsAt_kept HBW.out HA.out k hkl
      obtain ⟨g', o', rfl, hg', d0, d1⟩ := outsAt_kept HBW.out HB.out k hkl
      obtain ⟨y, hy⟩ : ∃ y, l[k] = y := ⟨_, rfl⟩
      rw [hy] at c0 c1 d0 d1
      obtain ⟨wy, hwy⟩ : ∃ wy, wr.alloc (.cells #[.int .i64 y.peer, .string y.bytes] 35) = wy := ⟨_, rfl⟩
      have hby : Below wr.heap.size wr wy := hwy ▸ kept_new _ _
      have y0 : wy.cell? ⟨wr.heap.size, 0, none⟩ = some (.int .i64 y.peer) := by rw [← hwy]; simp [go_sem]
      have y1 : wy.cell? ⟨wr.heap.size, 1, none⟩ = some (.string y.bytes) := by rw [← hwy]; simp [go_sem]
      have e0 := kept_cell hby d0
      have e1 := kept_cell hby d1
      have l1 := (cell_spot y0).2
      have l2 := (cell_spot e0).2
      have l3 : g < wr.heap.size := hg
      have hki : (k : Int) < l.length := by omega
      have HBY := Lib.hid (kept_trans HBW.out hby)
      clear hy hby
      go_wp2_with fail
      go_quiet (fail)
      generalize hw2 : World.drewN wy nq = w2
      have HB2 : Hid (Below w.heap.size w w2) := Lib.hid (by rw [← hw2]; exact below_drewN HBY.out _)
      go_wp2_with fail
      go_roundw
      case rel => exact ⟨k + 1, by omega, by go_num, HB2⟩
      case measure => simp [intOf]; omega
    · go_wp2_with fail
      go_ret
      exact ⟨rfl, HBW.out⟩
/-- An error changes nothing, and nothing goes out. -/
theorem did_err (a : ActD) (h : (s.did a).2.2 ≠ 0) : (s.did a).2.1 = [] ∧ (s.did a).1 = s := by
  unfold NS.did at h ⊢
  split at h
  · rename_i h1
    rw [if_pos h1]
    refine ⟨rfl, ?_⟩
    unfold NS.join at h ⊢
    simp only at h ⊢
    split
    · rfl
    · rename_i h2
      rw [if_neg h2] at h
      split
      · rfl
      · rename_i h3
        rw [if_neg h3] at h
        exact absurd rfl h
  · rename_i h1
    rw [if_neg h1]
    split at h
    · rename_i h2
      rw [if_pos h2]
      refine ⟨rfl, ?_⟩
      unfold NS.leave at h ⊢
      simp only at h ⊢
      split
      · rfl
      · rename_i h3
        rw [if_neg h3] at h
        exact absurd rfl h
    · rename_i h2
      rw [if_neg h2]
      split at h
      · rename_i h3
        rw [if_pos h3]
        unfold NS.send at h ⊢
        simp only at h ⊢
        split
        · exact ⟨rfl, rfl⟩
        · rename_i k1
          rw [if_neg k1] at h
          split
          · exact ⟨rfl, rfl⟩
          · rename_i k2
            rw [if_neg k2] at h
            split at h
            · exact absurd rfl h
            · rename_i k3
              rw [if_neg k3]
              split at h
              · exact absurd rfl h
              · rename_i k4
                rw [if_neg k4]
                split at h
                · exact absurd rfl h
                · rename_i k5
                  rw [if_neg k5]
                  split at h
                  · rename_i k6
                    rw [if_pos k6]
                    exact ⟨rfl, rfl⟩
                  · exact absurd rfl h
      · rename_i h3
        rw [if_neg h3]
        split at h
        · rename_i h4
          rw [if_pos h4]
          unfold NS.pass at h ⊢
          split
          · exact ⟨rfl, rfl⟩
          · rename_i h5
            rw [if_neg h5] at h
            exact absurd rfl h
        · rename_i h4
          rw [if_neg h4]
          exact ⟨rfl, rfl⟩
theorem fetch_few (p : Nat) (l : List UInt64) : (s.fetch p l).length ≤ l.length + 1 := by
  have h1 := flat_len (s := s) p l
  have h2 := message_len p ⟨4, l.filter (fun x => (Ju.findL s.A x).isNone), ⟨#[]⟩⟩
  show (l.flatMap (s.fetch1 p) ++ message p ⟨4, l.filter (fun x => (Ju.findL s.A x).isNone), ⟨#[]⟩⟩).length ≤ _
  rw [List.length_append]
  omega
theorem ans_few {l : List UInt8} (h : Ms.errM l = 0) : (Ms.ansM l).ids.length ≤ 20 := by
  obtain ⟨_, h2⟩ := Ms.errM_zero h
  have : Ms.ansM l = Ms.readM l := by unfold Ms.ansM; rw [if_pos h]
  rw [this]
  rcases (Ms.checkM_ok h2).2 with ⟨_, h1, _⟩ | ⟨_, _, _, h1, _⟩
  · rw [h1]; simp
  · exact h1
theorem did_few {a : ActD} {q1 : NS} {q2 : List OutD} {q3 : Int} (h : s.did a = (q1, q2, q3)) : q2.length ≤ 1000000 := by
  have e : q2 = (s.did a).2.1 := by rw [h]
  rw [e]
  unfold NS.did
  split
  · simp
  · split
    · simp
    · split
      · unfold NS.send
        simp only
        split
        · simp
        · split
          · simp
          · rename_i k2
            have hz := ans_few (Classical.not_not.1 k2)
            split
            · simp
            · split
              · simp
              · split
                · have := fetch_few (s := s) a.peer.toNat (Ms.ansM a.bytes.data.toList).ids
                  simp only
                  omega
                · split
                  · simp
                  · simp
      · split
        · by_cases hk : a.n < 0 ∨ a.n > 1099511627776 - s.now
          · have : s.pass a.n = (s, [], 1) := by unfold NS.pass; rw [if_pos hk]
            rw [this]
            simp
          · obtain ⟨u, hu⟩ : ∃ u : NS, ({ s with now := s.now + a.n, T := Tr.dueL (s.now + a.n) s.T } : NS) = u := ⟨_, rfl⟩
            have he : s.pass a.n = ((u.wait 8).1, (u.wait 8).2, 0) := by unfold NS.pass; rw [if_neg hk, hu]
            have h8 := wait_len u 8
            obtain ⟨r, hr⟩ : ∃ r, u.wait 8 = r := ⟨_, rfl⟩
            rw [hr] at h8 he
            rw [he]
            simp only
            omega
        · simp
/-- Two nodes that a law has made since the world w0. -/
structure Mine2 (w0 w : World) (F : Nat → Prop) (R : Nat) (s : NS) (F' : Nat → Prop) (R' : Nat) (s' : NS) : Prop where
  one : NodeAt w F R s
  two : NodeAt w F' R' s'
  apart : Apart F F'
  above1 : ∀ k, F k → w0.heap.size ≤ k
  above2 : ∀ k, F' k → w0.heap.size ≤ k
  below : Below w0.heap.size w0 w
variable {w0 : World}
theorem Mine2.kept (h : Mine2 w0 w F R s F' R' s') (hb : Below w.heap.size w w') : Mine2 w0 w' F R s F' R' s' := ⟨h.one.kept hb, h.two.kept hb, h.apart, h.above1, h.above2, kept_trans h.below hb⟩
theorem Mine2.turn1 {G : Nat → Prop} {t : NS} (h : Mine2 w0 w F R s F' R' s') (hn : NodeAt w' G R t) (ht : Turn F G w w') : Mine2 w0 w' G R t F' R' s' :=
  ⟨hn, h.two.turn ht h.apart.symm, ht.apart h.apart h.two.there, ht.above h.above1 h.below.size, h.above2, h.below.trans (ht.below h.above1 h.below.size)⟩
theorem Mine2.turn2 {G : Nat → Prop} {t : NS} (h : Mine2 w0 w F R s F' R' s') (hn : NodeAt w' G R' t) (ht : Turn F' G w w') : Mine2 w0 w' F R s G R' t :=
  ⟨h.one.turn ht h.apart, hn, (ht.apart h.apart.symm h.one.there).symm, h.above1, ht.above h.above2 h.below.size, h.below.trans (ht.below h.above2 h.below.size)⟩
set_option maxRecDepth 20000 in
set_option maxHeartbeats 4000000 in
theorem nodeErrors_walk (salt : UInt64) (l : List ActD) (a : Option Addr) (cap : Nat) (hl : l.length ≤ 2932031007402) (w : World) (hi : ActsAt w a l) : Calls Tryz.prog 3 #[.int .u64 salt.toNat, .slice a l.length cap] w fun e w' => e = .returned (.bool true) ∧ Below w.heap.size w w' := by
  have HI := Lib.hid hi
  clear hi
  go_enter Tryz.func3, Tryz.ntmps3
  go_wp2_with fail
  with_reducible refine (met_any _).mono ?_
  rintro e w1 ⟨rfl, hb1⟩
  have HB1 := Lib.hid hb1
  clear hb1
  go_wp2_with fail
  with_reducible refine (mine_new salt _ HB1.out).mono ?_
  rintro e w2 ⟨R, F, rfl, h2, _, _⟩
  have H2 := Lib.hid h2
  clear h2
  go_wp2_with fail
  with_reducible refine (mine_new salt _ H2.out.below).mono ?_
  rintro e w3 ⟨R', F', rfl, h3, hF3, hb3⟩
  have H3 : Hid (Mine2 w w3 F R (NS.new salt) F' R' (NS.new salt)) := Lib.hid ⟨H2.out.node.kept hb3, h3.node, (fun k h1 h2 => by have h4 := H2.out.node.there k h1; have h5 := hF3 k h2; omega), H2.out.above, h3.above, h3.below⟩
  clear h3 hF3 hb3
  go_wp2_with fail
  go_loopw [27] (fun i wr => ∃ (k : Nat) (G G' : Nat → Prop) (u : NS), k ≤ l.length ∧ i = .int .i64 k ∧ Hid (Mine2 w wr G R u G' R' u) ∧ Hid (NInv k u)) (fun i _ => l.length - (intOf i).toNat)
  case atStart => exact ⟨0, F, F', NS.new salt, Nat.zero_le _, rfl, H3, Lib.hid (inv_new salt)⟩
  case round =>
    obtain ⟨k, G, G', u, hk, rfl, H4, HN4⟩ := hrel
    by_cases hkl : k < l.length
    · obtain ⟨⟨g, o, rfl, hg, c0⟩, hs⟩ := HI.out k hkl
      obtain ⟨y, hy⟩ : ∃ y, l[k] = y := ⟨_, rfl⟩
      rw [hy] at c0 hs
      obtain ⟨c0, c1, c2, c3, c4⟩ := c0
      have k0 := cell_later H4.out.below c0
      have k1 := cell_later H4.out.below c1
      have k2 := cell_later H4.out.below c2
      have k3 := cell_later H4.out.below c3
      have k4 := cell_later H4.out.below c4
      have l5 := (cell_spot k0).2
      obtain ⟨wy, hwy⟩ : ∃ wy, wr.alloc (.cells #[.int .i64 y.kind, .int .i64 y.peer, .int .i64 y.n, .bool y.flag, .string y.bytes] 28) = wy := ⟨_, rfl⟩
      have hby : Below wr.heap.size wr wy := hwy ▸ kept_new _ _
      obtain ⟨y0, y1, y2, y3, y4⟩ := box_act wr y
      rw [hwy] at y0 y1 y2 y3 y4
      have l6 := (cell_spot y0).2
      have H5 := Lib.hid (H4.out.kept hby)
      have HNN : Hid (NInv (k + 1) (u.did y).1) := Lib.hid (did_inv HN4.out H4.out.one.good.T y)
      have hk2 : k ≤ 2950000000000 := by omega
      have HNX : Hid (¬ G wr.heap.size) := Lib.hid fun hf => by have := H4.out.one.there _ hf; omega
      obtain ⟨q1, q2, q3, hq⟩ : ∃ q1 q2 q3, u.did y = (q1, q2, q3) := ⟨_, _, _, rfl⟩
      have HQ := Lib.hid hq
      have HER : Hid (q3 ≠ 0 → q2 = [] ∧ q1 = u) := Lib.hid fun h0 => by have := did_err (s := u) y (by rw [hq]; exact h0); rw [hq] at this; exact this
      rw [hq] at HNN
      clear hy c0 c1 c2 c3 c4 hby hq
      go_wp2_with fail
      with_reducible refine (did_any y k hk2 HN4.out hs _ HQ.out _ H5.out.one).mono ?_
      rintro e w6 ⟨v6, G6, rfl, ho6, h6, t6, hn6⟩
      simp only at ho6 h6 ⊢
      obtain ⟨a6, c6, rfl, _, hat6⟩ := owns_outsAt ho6
      have H6 := Lib.hid (H5.out.turn1 h6 t6)
      have HO6 := Lib.hid ho6
      have e6 := t6.block wr.heap.size l6 HNX.out
      have z0 := (World.cell?_of_block (w := wy) (a := ⟨wr.heap.size, 0, none⟩) e6).trans y0
      have z1 := (World.cell?_of_block (w := wy) (a := ⟨wr.heap.size, 1, none⟩) e6).trans y1
      have z2 := (World.cell?_of_block (w := wy) (a := ⟨wr.heap.size, 2, none⟩) e6).trans y2
      have z3 := (World.cell?_of_block (w := wy) (a := ⟨wr.heap.size, 3, none⟩) e6).trans y3
      have z4 := (World.cell?_of_block (w := wy) (a := ⟨wr.heap.size, 4, none⟩) e6).trans y4
      have l7 := (cell_spot z0).2
      have HS6 : Hid (wy.heap.size ≤ w6.heap.size) := Lib.hid t6.size
      clear h6 t6 hn6 e6 y0 y1 y2 y3 y4 hat6 ho6
      by_cases h0 : q3 = 0
      · subst h0
        have hth := H5.out.two.there
        go_wp2_with fail
        with_reducible refine (did_any y k hk2 HN4.out hs _ HQ.out _ H6.out.two).mono ?_
        rintro e w7 ⟨v7, G7, rfl, ho7, h7, t7, hn7⟩
        simp only at ho7 h7 ⊢
        obtain ⟨a7, c7, rfl, _, hat7⟩ := owns_outsAt ho7
        have H7 := Lib.hid (H6.out.turn2 h7 t7)
        have ho67 := own_turn HO6.out t7 (fun gg hgg hf => by have h1 := hth gg hf; have h2 := (HO6.out.lt gg hgg).1; omega)
        obtain ⟨a6', c6', e6', _, hat6⟩ := owns_outsAt ho67
        simp only [Value.slice.injEq, true_and] at e6'
        obtain ⟨rfl, rfl⟩ := e6'
        have HA6 := Lib.hid hat6
        have HA7 := Lib.hid hat7
        have hql : q2.length ≤ 1000000 := did_few HQ.out
        clear h7 t7 hn7 ho7 hat7 ho67 hat6 hth
        go_wp2_with fail
        with_reducible refine (eqOut_same q2 a6 a7 c6 c7 _ hql HA6.out HA7.out).mono ?_
        rintro e w8 ⟨rfl, hb8⟩
        have H8 := Lib.hid (H7.out.kept hb8)
        clear hb8
        go_wp2_with fail
        go_roundw
        case rel => exact ⟨k + 1, G6, G7, q1, by omega, by go_num, H8, HNN⟩
        case measure => simp [intOf]; omega
      · obtain ⟨rfl, rfl⟩ := HER.out h0
        go_wp2_with fail
        go_roundw
        case rel => exact ⟨k + 1, G6, G', q1, by omega, by go_num, H6, HNN⟩
        case measure => simp [intOf]; omega
    · have HAL : Hid (u.A.length ≤ 10000000000000) := Lib.hid (by have := HN4.out.sum; omega)
      have hAl : (u.A.map Ju.idD).length ≤ maxLen := by rw [List.length_map]; have := HAL.out; have : maxLen = 9223372036854775807 := rfl; omega
      have hPl : (Ho.allL u.P).length ≤ maxLen := by
        have h1 := H4.out.one.good.P.len
        have h2 := Ho.allL_len u.P
        have : maxLen = 9223372036854775807 := rfl
        omega
      have HLA := Lib.hid hAl
      have HLP := Lib.hid hPl
      clear hAl hPl
      go_wp2_with fail
      with_reducible refine (accepted_any HAL.out _ H4.out.one).mono ?_
      rintro e w5 ⟨a5, c5, rfl, ho5, hb5⟩
      have H5 := Lib.hid (H4.out.kept hb5)
      obtain ⟨x1, hx1⟩ : ∃ x1, u.A.map Ju.idD = x1 := ⟨_, rfl⟩
      have HX1 := Lib.hid hx1
      rw [hx1] at ho5 HLA ⊢
      obtain ⟨a5', c5', e5, _, hat5, _⟩ := owns_idsAt ho5
      simp only [Value.slice.injEq, true_and] at e5
      obtain ⟨rfl, rfl⟩ := e5
      have HA5 := Lib.hid hat5
      clear hb5 ho5 hat5 hx1
      go_wp2_with fail
      with_reducible refine (accepted_any HAL.out _ H5.out.two).mono ?_
      rintro e w6 ⟨a6, c6, rfl, ho6, hb6⟩
      rw [HX1.out] at ho6 ⊢
      have H6 := Lib.hid (H5.out.kept hb6)
      obtain ⟨a6', c6', e6, _, hat6, _⟩ := owns_idsAt ho6
      simp only [Value.slice.injEq, true_and] at e6
      obtain ⟨rfl, rfl⟩ := e6
      have HA6 := Lib.hid hat6
      have HA56 := Lib.hid (idsAt_kept hb6 HA5.out)
      clear hb6 ho6 hat6
      go_wp2_with fail
      with_reducible refine (eqID_is x1 x1 a5 a6 c5 c6 _ true HLA.out HA56.out HA6.out (by simp)).mono ?_
      rintro e w7 ⟨rfl, rfl⟩
      have H7 := H6
      go_wp2_with fail
      with_reducible refine (orphans_any _ H7.out.one).mono ?_
      rintro e w8 ⟨a8, c8, rfl, ho8, hb8⟩
      have H8 := Lib.hid (H7.out.kept hb8)
      obtain ⟨x2, hx2⟩ : ∃ x2, Ho.allL u.P = x2 := ⟨_, rfl⟩
      have HX2 := Lib.hid hx2
      rw [hx2] at ho8 HLP ⊢
      obtain ⟨a8', c8', e8, _, hat8, _⟩ := owns_idsAt ho8
      simp only [Value.slice.injEq, true_and] at e8
      obtain ⟨rfl, rfl⟩ := e8
      have HA8 := Lib.hid hat8
      clear hb8 ho8 hat8 hx2
      go_wp2_with fail
      with_reducible refine (orphans_any _ H8.out.two).mono ?_
      rintro e w9 ⟨a9, c9, rfl, ho9, hb9⟩
      rw [HX2.out] at ho9 ⊢
      have H9 := Lib.hid (H8.out.kept hb9)
      obtain ⟨a9', c9', e9, _, hat9, _⟩ := owns_idsAt ho9
      simp only [Value.slice.injEq, true_and] at e9
      obtain ⟨rfl, rfl⟩ := e9
      have HA9 := Lib.hid hat9
      have HA89 := Lib.hid (idsAt_kept hb9 HA8.out)
      clear hb9 ho9 hat9
      go_wp2_with fail
      with_reducible refine (eqID_is x2 x2 a8 a9 c8 c9 _ true HLP.out HA89.out HA9.out (by simp)).mono ?_
      rintro e w10 ⟨rfl, rfl⟩
      have H10 := H9
      go_wp2_with fail
      with_reducible refine (now_any _ H10.out.one).mono ?_
      rintro e w11 ⟨rfl, rfl⟩
      go_wp2_with fail
      with_reducible refine (now_any _ H10.out.two).mono ?_
      rintro e w12 ⟨rfl, rfl⟩
      go_wp2_with fail
      go_ret
      exact ⟨rfl, H10.out.below⟩
end Go.Proofs.YtmbejeibcncmmaaGreat
namespace Go.Proofs.YtmbejeibcncmmaaGreat
open Go.RowKit Go.Maps

variable {w w' w0 : World} {F : Nat → Prop} {R : Nat} {s : NS}

/-- A brought deed that is accepted is brought once more. -/
theorem again_same {a : ActD} {ids : List UInt64} {body : ByteArray} (hk : a.kind = 3) (hr : Ms.errM a.bytes.data.toList = 0) (hm : Ms.ansM a.bytes.data.toList = ⟨3, ids, body⟩) (hd : errD body.data.toList = 0) (hh : (s.A.map Ju.idD).contains (Ju.idD (readD body.data.toList)) = true) : (s.did a).1.A = s.A ∧ (s.did a).1.P = s.P ∧ Calm s.T (s.did a).1.T := by
  unfold NS.did
  rw [if_neg (by rw [hk]; decide), if_neg (by rw [hk]; decide), if_pos hk]
  unfold NS.send
  by_cases ht : s.thereE a.peer = 0
  · rw [if_neg (not_not_intro ht), if_neg (not_not_intro hr)]
    simp only [hm]
    rw [if_neg (by decide), if_neg (by decide), if_neg (by decide), if_neg (not_not_intro hd)]
    have hf : (Ju.findL s.A (Ju.idD (readD body.data.toList))).isSome = true := by
      rw [Ju.findL_some]
      obtain ⟨d, hd1, hd2⟩ := List.mem_map.1 (List.contains_iff_mem.1 hh)
      exact ⟨d, hd1, hd2⟩
    simp only
    rw [bring_known (by rw [hf]; rfl)]
    exact ⟨rfl, rfl, calm_answer _ _ _⟩
  · rw [if_pos ht]
    exact ⟨rfl, rfl, Calm.refl _⟩
set_option maxRecDepth 20000 in
set_option maxHeartbeats 4000000 in
theorem nodeTwice_walk (salt : UInt64) (l : List ActD) (a : Option Addr) (cap : Nat) (hl : l.length ≤ 2932031007402) (w : World) (hi : ActsAt w a l) : Calls Tryz.prog 14 #[.int .u64 salt.toNat, .slice a l.length cap] w fun e w' => e = .returned (.bool true) ∧ Below w.heap.size w w' := by
  have HI := Lib.hid hi
  have hml : maxLen = 9223372036854775807 := rfl
  clear hi
  go_enter Tryz.func14, Tryz.ntmps14
  go_wp2_with fail
  with_reducible refine (met_any _).mono ?_
  rintro e w1 ⟨rfl, hb1⟩
  have HB1 := Lib.hid hb1
  clear hb1
  go_wp2_with fail
  with_reducible refine (mine_new salt _ HB1.out).mono ?_
  rintro e w2 ⟨R, F, rfl, h2, _, _⟩
  have H2 := Lib.hid h2
  clear h2
  go_wp2_with fail
  go_loopw [23] (fun i wr => ∃ (k : Nat) (F' : Nat → Prop) (u : NS), k ≤ l.length ∧ i = .int .i64 k ∧ Hid (Mine w wr F' R u) ∧ Hid (NInv k u)) (fun i _ => l.length - (intOf i).toNat)
  case atStart => exact ⟨0, F, NS.new salt, Nat.zero_le _, rfl, H2, Lib.hid (inv_new salt)⟩
  case round =>
    obtain ⟨k, F4, u, hk, rfl, H4, HN4⟩ := hrel
    by_cases hkl : k < l.length
    · obtain ⟨⟨g, o, rfl, hg, c0⟩, hs⟩ := HI.out k hkl
      obtain ⟨y, hy⟩ : ∃ y, l[k] = y := ⟨_, rfl⟩
      rw [hy] at c0 hs
      obtain ⟨c0, c1, c2, c3, c4⟩ := c0
      have k0 := cell_later H4.out.below c0
      have k1 := cell_later H4.out.below c1
      have k2 := cell_later H4.out.below c2
      have k3 := cell_later H4.out.below c3
      have k4 := cell_later H4.out.below c4
      have l5 := (cell_spot k0).2
      obtain ⟨wy, hwy⟩ : ∃ wy, wr.alloc (.cells #[.int .i64 y.kind, .int .i64 y.peer, .int .i64 y.n, .bool y.flag, .string y.bytes] 28) = wy := ⟨_, rfl⟩
      have hby : Below wr.heap.size wr wy := hwy ▸ kept_new _ _
      obtain ⟨y0, y1, y2, y3, y4⟩ := box_act wr y
      rw [hwy] at y0 y1 y2 y3 y4
      have l6 := (cell_spot y0).2
      have H5 := Lib.hid (H4.out.kept hby)
      have HNX : Hid (¬ F4 wr.heap.size) := Lib.hid fun hf => by have := H4.out.node.there _ hf; omega
      have HNN : Hid (NInv (k + 1) (u.did y).1) := Lib.hid (did_inv HN4.out H4.out.node.good.T y)
      have hk2 : k ≤ 2950000000000 := by omega
      obtain ⟨u1, hu1⟩ : ∃ u1, (u.did y).1 = u1 := ⟨_, rfl⟩
      rw [hu1] at HNN
      have HU1 := Lib.hid hu1
      clear hy c0 c1 c2 c3 c4 hby hu1
      go_wp2_with fail
      with_reducible refine (did_any y k hk2 HN4.out hs _ rfl _ H5.out.node).mono ?_
      rintro e w6 ⟨v6, F6, rfl, ho6, h6, t6, _⟩
      rw [HU1.out] at h6
      have H6 := Lib.hid (H5.out.turned h6 t6)
      have e6 := t6.block wr.heap.size l6 HNX.out
      have HN6 : Hid (¬ F6 wr.heap.size) := Lib.hid fun hf => (t6.own _ hf).elim HNX.out (fun hle => by omega)
      have z0 := (World.cell?_of_block (w := wy) (a := ⟨wr.heap.size, 0, none⟩) e6).trans y0
      have z1 := (World.cell?_of_block (w := wy) (a := ⟨wr.heap.size, 1, none⟩) e6).trans y1
      have z2 := (World.cell?_of_block (w := wy) (a := ⟨wr.heap.size, 2, none⟩) e6).trans y2
      have z3 := (World.cell?_of_block (w := wy) (a := ⟨wr.heap.size, 3, none⟩) e6).trans y3
      have z4 := (World.cell?_of_block (w := wy) (a := ⟨wr.heap.size, 4, none⟩) e6).trans y4
      have l7 := (cell_spot z0).2
      obtain ⟨r6, hr6⟩ : ∃ r6, (u.did y).2.2 = r6 := ⟨_, rfl⟩
      obtain ⟨a6, c6, rfl, _⟩ := outs_form ho6
      obtain ⟨n6, hn6⟩ : ∃ n6, (u.did y).2.1.length = n6 := ⟨_, rfl⟩
      rw [hr6, hn6]
      obtain ⟨r, hr⟩ : ∃ r, Ms.errM y.bytes.data.toList = r := ⟨_, rfl⟩
      obtain ⟨kd, ids, body, hm⟩ : ∃ kd ids body, Ms.ansM y.bytes.data.toList = ⟨kd, ids, body⟩ := ⟨_, _, _, rfl⟩
      have HR := Lib.hid hr
      have HM := Lib.hid hm
      clear h6 t6 ho6 y0 y1 y2 y3 y4 e6 hr6 hn6 hr hm
      go_wp2_with fail
      with_reducible refine (Ms.mdecode_all y.bytes r _ _ hs HR.out HM.out).mono ?_
      rintro e w7 ⟨a7, c7, rfl, _, _, _, hb7⟩
      obtain ⟨wz, hwz⟩ : ∃ wz, w7.alloc (.cells #[.int .i64 kd, .slice a7 ids.length c7, .string body] 43) = wz := ⟨_, rfl⟩
      have hbz : Below w6.heap.size w6 wz := kept_trans hb7 (hwz ▸ kept_new _ _)
      obtain ⟨m0, m1, m2⟩ : MsgBox wz w7.heap.size a7 c7 ⟨kd, ids, body⟩ := hwz ▸ box_msg w7 a7 c7 ⟨kd, ids, body⟩
      simp only at m0 m1 m2
      have H7 := Lib.hid (H6.out.kept hbz)
      have z0 := kept_cell hbz z0
      have z1 := kept_cell hbz z1
      have z2 := kept_cell hbz z2
      have z3 := kept_cell hbz z3
      have z4 := kept_cell hbz z4
      have l7 := (cell_spot z0).2
      have l8 := (cell_spot m0).2
      clear hb7 hbz
      by_cases hk3 : y.kind = 3
      · rw [hk3] at z0
        by_cases hr0 : r = 0
        · subst hr0
          by_cases hkd : kd = 3
          · subst hkd
            have hbl : body.size ≤ 100 := by
              obtain ⟨_, h2⟩ := Ms.errM_zero HR.out
              have : Ms.readM y.bytes.data.toList = ⟨3, ids, body⟩ := by rw [← HM.out]; unfold Ms.ansM; rw [if_pos HR.out]
              rw [this] at h2
              exact Ms.check_body h2
            have HAL : Hid (u1.A.length ≤ 10000000000000) := Lib.hid (by have := HNN.out.sum; omega)
            have HK3 := Lib.hid hk3
            clear hk3
            go_wp2_with fail
            with_reducible refine (accepted_any HAL.out _ H7.out.node).mono ?_
            rintro e w8 ⟨a8, c8, rfl, ho8, hb8⟩
            obtain ⟨x1, hx1⟩ : ∃ x1, u1.A.map Ju.idD = x1 := ⟨_, rfl⟩
            have HX1 := Lib.hid hx1
            have HXL : Hid (x1.length ≤ maxLen) := Lib.hid (by rw [← hx1, List.length_map]; have := HAL.out; omega)
            rw [hx1] at ho8 ⊢
            obtain ⟨a8', c8', e8, _, hat8, hfr8⟩ := owns_idsAt ho8
            simp only [Value.slice.injEq, true_and] at e8
            obtain ⟨rfl, rfl⟩ := e8
            have HA8 := Lib.hid hat8
            have H8 := Lib.hid (H7.out.kept hb8)
            have hth8 := H7.out.node.there
            have HO8 : Hid (∀ bb oo, x1 ≠ [] → a8 = some ⟨bb, oo, none⟩ → ¬ F6 bb) := Lib.hid fun bb oo _ h2 hf => by have h3 := hth8 bb hf; have h4 := hfr8 bb oo none h2; omega
            have m2 := kept_cell hb8 m2
            have z0 := kept_cell hb8 z0
            have z1 := kept_cell hb8 z1
            have z2 := kept_cell hb8 z2
            have z3 := kept_cell hb8 z3
            have z4 := kept_cell hb8 z4
            have l8 := (cell_spot m2).2
            obtain ⟨rd, hrd⟩ : ∃ rd, errD body.data.toList = rd := ⟨_, rfl⟩
            obtain ⟨dd, hdd⟩ : ∃ D, (if errD body.data.toList = 0 then readD body.data.toList else De.zeroD) = D := ⟨_, rfl⟩
            have HRD := Lib.hid hrd
            have HDD := Lib.hid hdd
            clear hx1 ho8 hat8 hb8 hrd hdd hth8 hfr8
            go_wp2_with fail
            with_reducible refine (decode_ans body rd _ (by omega) HRD.out dd HDD.out).mono ?_
            rintro e w9 ⟨a9, c9, rfl, _, hi9, _, hb9⟩
            obtain ⟨wq, hwq⟩ : ∃ wq, w9.alloc (.cells #[.slice a9 dd.ins.length c9, .int .i64 dd.outs, .int .i64 dd.weight, .int .i64 dd.fee] 53) = wq := ⟨_, rfl⟩
            have hbq0 : Below w9.heap.size w9 wq := hwq ▸ kept_new _ _
            have hbq := kept_trans hb9 hbq0
            obtain ⟨q0, q1, q2, q3⟩ : DeedBox wq w9.heap.size a9 c9 dd := hwq ▸ box_deed w9 a9 c9 dd
            have H9 := Lib.hid (H8.out.kept hbq)
            have HA9 := Lib.hid (idsAt_kept hbq HA8.out)
            have HI9 := Lib.hid (insAt_kept hbq0 hi9)
            have z0 := kept_cell hbq z0
            have z1 := kept_cell hbq z1
            have z2 := kept_cell hbq z2
            have z3 := kept_cell hbq z3
            have z4 := kept_cell hbq z4
            have l9 := (cell_spot q0).2
            clear hb9 hbq hbq0 hi9
            by_cases hrd0 : rd = 0
            · subst hrd0
              have hdr : readD body.data.toList = dd := by have := HDD.out; rw [if_pos HRD.out] at this; exact this
              have HCK : Hid (checkD dd = 0) := Lib.hid (hdr ▸ errD_check HRD.out)
              have HDR := Lib.hid hdr
              clear hdr
              go_wp2_with fail
              with_reducible refine (Ju.id_ok dd a9 c9 _ HI9.out HCK.out).mono ?_
              rintro e w10 ⟨rfl, hb10⟩
              obtain ⟨ix, hix⟩ : ∃ ix, Ju.idD dd = ix := ⟨_, rfl⟩
              have HIX := Lib.hid hix
              rw [hix]
              have H10 := Lib.hid (H9.out.kept hb10)
              have HA10 := Lib.hid (idsAt_kept hb10 HA9.out)
              have z0 := kept_cell hb10 z0
              have z1 := kept_cell hb10 z1
              have z2 := kept_cell hb10 z2
              have z3 := kept_cell hb10 z3
              have z4 := kept_cell hb10 z4
              have l10 := (cell_spot z0).2
              obtain ⟨hc, hhc⟩ : ∃ hc, x1.contains ix = hc := ⟨_, rfl⟩
              have HHC := Lib.hid hhc
              clear hb10 hix hhc
              go_wp2_with fail
              with_reducible refine (hasID_any x1 ix hc HHC a8 c8 _ HXL.out HA10.out).mono ?_
              rintro e w11 ⟨rfl, rfl⟩
              cases hc with
              | false =>
                go_wp2_with fail
                go_roundw
                case rel => exact ⟨k + 1, F6, u1, by omega, by go_num, H10, HNN⟩
                case measure => simp [intOf]; omega
              | true =>
                obtain ⟨u2, hu2⟩ : ∃ u2, (u1.did y).1 = u2 := ⟨_, rfl⟩
                have hag : u2.A = u1.A ∧ u2.P = u1.P ∧ Calm u1.T u2.T := hu2 ▸ again_same HK3.out HR.out HM.out HRD.out (by rw [HX1.out, HDR.out, HIX.out]; exact HHC.out)
                have HN2 : Hid (NInv (k + 1) u2) := Lib.hid ⟨fun p hp => Nat.le_trans (hag.2.2 p) (HNN.out.fly p hp), by rw [hag.1, hag.2.1]; exact HNN.out.sum⟩
                have HA2 : Hid (u2.A = u1.A) := Lib.hid hag.1
                have HU2 := Lib.hid hu2
                have hk3 : k + 1 ≤ 2950000000000 := by omega
                have z0' : w10.cell? ⟨wr.heap.size, 0, none⟩ = some (.int .i64 y.kind) := by rw [HK3.out]; exact z0
                clear hag hu2 z0
                go_wp2_with fail
                with_reducible refine (did_any y (k + 1) hk3 HNN.out hs _ rfl _ H10.out.node).mono ?_
                rintro e w12 ⟨v12, F12, rfl, ho12, h12, t12, _⟩
                rw [HU2.out] at h12
                have H12 := Lib.hid (H10.out.turned h12 t12)
                have HA12 : Hid (IdsAt w12 a8 x1) := Lib.hid (idsAt_turn HA10.out t12 HO8.out)
                obtain ⟨a12, c12, rfl, _⟩ := outs_form ho12
                obtain ⟨r12, hr12⟩ : ∃ r12, (u1.did y).2.2 = r12 := ⟨_, rfl⟩
                obtain ⟨n12, hn12⟩ : ∃ n12, (u1.did y).2.1.length = n12 := ⟨_, rfl⟩
                rw [hr12, hn12]
                have HAL2 : Hid (u2.A.length ≤ 10000000000000) := Lib.hid (by rw [HA2.out]; exact HAL.out)
                clear ho12 h12 t12 hr12 hn12
                go_wp2_with fail
                with_reducible refine (accepted_any HAL2.out _ H12.out.node).mono ?_
                rintro e w13 ⟨a13, c13, rfl, ho13, hb13⟩
                rw [HA2.out, HX1.out] at ho13 ⊢
                obtain ⟨a13', c13', e13, _, hat13, _⟩ := owns_idsAt ho13
                simp only [Value.slice.injEq, true_and] at e13
                obtain ⟨rfl, rfl⟩ := e13
                have HA13 := Lib.hid hat13
                have HA813 := Lib.hid (idsAt_kept hb13 HA12.out)
                have H13 := Lib.hid (H12.out.kept hb13)
                clear ho13 hat13 hb13
                go_wp2_with fail
                with_reducible refine (eqID_is x1 x1 a8 a13 c8 c13 _ true HXL.out HA813.out HA13.out (by simp)).mono ?_
                rintro e w14 ⟨rfl, rfl⟩
                go_wp2_with fail
                go_roundw
                case rel => exact ⟨k + 1, F12, u2, by omega, by go_num, H13, HN2⟩
                case measure => simp [intOf]; omega
            · have hrd1 : (rd == 0) = false := by simpa using hrd0
              go_wp2_with fail
              go_roundw
              case rel => exact ⟨k + 1, F6, u1, by omega, by go_num, H9, HNN⟩
              case measure => simp [intOf]; omega
          · have hkd1 : (kd != 3) = true := by simpa using hkd
            go_wp2_with fail
            go_roundw
            case rel => exact ⟨k + 1, F6, u1, by omega, by go_num, H7, HNN⟩
            case measure => simp [intOf]; omega
        · have hr1 : (r != 0) = true := by simpa using hr0
          go_wp2_with fail
          go_roundw
          case rel => exact ⟨k + 1, F6, u1, by omega, by go_num, H7, HNN⟩
          case measure => simp [intOf]; omega
      · have hk1 : (y.kind != 3) = true := by simpa using hk3
        go_wp2_with fail
        go_roundw
        case rel => exact ⟨k + 1, F6, u1, by omega, by go_num, H7, HNN⟩
        case measure => simp [intOf]; omega
    · go_wp2_with fail
      go_ret
      exact ⟨rfl, H4.out.below⟩
end Go.Proofs.YtmbejeibcncmmaaGreat
namespace Go.Proofs.YtmbejeibcncmmaaGreat
open Go.RowKit Go.Maps

variable {w w' w0 : World} {F : Nat → Prop} {R : Nat} {s : NS}

/-- Peers that are not to be asked. -/
theorem wait_more {u x : NS} {ou : List OutD} {k0 : Nat} (h : u.wait k0 = (x, ou)) (ha : ∀ p, k0 ≤ p → x.asks p = []) : ∀ j, u.wait (k0 + j) = (x, ou)
  | 0 => h
  | j + 1 => by
    have ih := wait_more h ha j
    have e := ha (k0 + j) (by omega)
    show NS.wait u (k0 + j + 1) = _
    simp only [NS.wait, ih]
    unfold NS.request
    rw [e, message_none]
    simp
theorem one_asks (s : NS) (x : UInt64) (f : Bool) (st : Nat) (t : Int) (p : Nat) : ({ s with T := [⟨3, x, f, st, t⟩] } : NS).asks p = if p = 3 ∧ st = 1 then [x] else [] := by
  unfold NS.asks
  by_cases hp : p = 3
  · subst hp
    have hi : Tr.idsOf [⟨3, x, f, st, t⟩] 3 = [x] := rfl
    have he : Tr.entsOf [⟨3, x, f, st, t⟩] x = [⟨3, x, f, st, t⟩] := by unfold Tr.entsOf; simp
    have hn : (Tr.ofL s.salt [⟨3, x, f, st, t⟩]).isNext 3 x = decide (st = 1) := by
      unfold Tr.TS.isNext Tr.TS.best
      rw [Tr.ofL_ents, he]
      by_cases h1 : st = 1
      · subst h1
        rfl
      · by_cases h2 : st = 2
        · subst h2
          rfl
        · simp [h1, h2]
    by_cases h1 : st = 1
    · subst h1
      have e1 : (Tr.idsOf [⟨3, x, f, 1, t⟩] 3).filter ((Tr.ofL s.salt [⟨3, x, f, 1, t⟩]).isNext 3) = [x] := by rw [hi, List.filter_cons_of_pos (by rw [hn]; rfl)]; rfl
      show ((Tr.idsOf [⟨3, x, f, 1, t⟩] 3).filter ((Tr.ofL s.salt [⟨3, x, f, 1, t⟩]).isNext 3)).take _ = _
      rw [e1]
      rfl
    · have e1 : (Tr.idsOf [⟨3, x, f, st, t⟩] 3).filter ((Tr.ofL s.salt [⟨3, x, f, st, t⟩]).isNext 3) = [] := by rw [hi, List.filter_cons_of_neg (by rw [hn]; simpa using h1)]; rfl
      show ((Tr.idsOf [⟨3, x, f, st, t⟩] 3).filter ((Tr.ofL s.salt [⟨3, x, f, st, t⟩]).isNext 3)).take _ = _
      rw [e1, if_neg (fun h => h1 h.2)]
      simp
  · rw [if_neg (fun h => hp h.1)]
    have hi : Tr.idsOf [⟨3, x, f, st, t⟩] p = [] := by
      unfold Tr.idsOf
      have : ¬ (3 == p) = true := by simpa using fun h : 3 = p => hp h.symm
      simp [this]
    show ((Tr.idsOf [⟨3, x, f, st, t⟩] p).filter _).take _ = _
    rw [hi]
    simp
theorem ids_ok (k : Int) (hk : within k 1 4 = true) (h3 : k ≠ 3) (l : List UInt64) (h0 : 0 < l.length) (h20 : l.length ≤ 20) (hn : l.Nodup) : Ms.checkM ⟨k, l, ⟨#[]⟩⟩ = 0 := by
  have hz : (⟨#[]⟩ : ByteArray).size = 0 := rfl
  rw [Ms.checkM_rest hk (by
    rintro (⟨h, _⟩ | ⟨_, h⟩)
    · exact h3 h
    · simp only [hz] at h
      omega) (by
    rintro (h | h)
    · simp only at h
      omega
    · simp only [hz] at h
      omega) (by
    rintro ⟨h, _⟩
    simp only at h
    omega), if_pos hn]
theorem message_one (p : Nat) (x : UInt64) : (message p ⟨2, [x], ⟨#[]⟩⟩).length = 1 := by
  have h : Ms.checkM ⟨2, [x], ⟨#[]⟩⟩ = 0 := ids_ok 2 (by decide) (by decide) [x] (by simp) (by simp) (by simp)
  unfold message
  rw [if_pos h]
  rfl
theorem ask_one (x : UInt64) (f : Bool) (t t' : Int) (ht : 0 ≤ t' ∧ t' ≤ 1099511627776) : (Tr.askC [⟨3, x, f, 1, t⟩] (3 : Nat) x t').2 = [⟨3, x, f, 2, t'⟩] := by
  unfold Tr.askC
  rw [if_pos ⟨⟨by decide, by decide⟩, ht⟩]
  simp [Tr.askL, Tr.isE, Tr.mayAsk, Tr.askE]
/-- One entry: who is asked. -/
theorem wait_one (s : NS) (hn : 0 ≤ s.now ∧ s.now ≤ 1099511627776) (x : UInt64) (f : Bool) (st : Nat) (t : Int) : (({ s with T := [⟨3, x, f, st, t⟩] } : NS).wait 8).2.length = if st = 1 then 1 else 0 := by
  by_cases h1 : st = 1
  · subst h1
    rw [if_pos rfl]
    obtain ⟨u, hu⟩ : ∃ u : NS, ({ s with T := [⟨3, x, f, 1, t⟩] } : NS) = u := ⟨_, rfl⟩
    rw [hu]
    have ha : ∀ p, u.asks p = if p = 3 then [x] else [] := fun p => by rw [← hu, one_asks]; simp
    have h3 : u.wait 3 = (u, []) := by
      simp only [NS.wait, NS.request, ha]
      simp [message_none, ha]
    have hr : u.request 3 = { s with T := [⟨3, x, f, 2, s.later 10⟩] } := by
      unfold NS.request
      rw [ha, if_pos rfl, List.foldl_cons, List.foldl_nil, ← hu]
      have : s.later 10 = (({ s with T := [⟨3, x, f, 1, t⟩] } : NS)).later 10 := rfl
      rw [← this]
      have e := ask_one x f t (s.later 10) (by unfold NS.later; omega)
      show ({ s with T := (Tr.askC [⟨3, x, f, 1, t⟩] (3 : Nat) x (s.later 10)).2 } : NS) = _
      rw [e]
    have h4 : u.wait 4 = ({ s with T := [⟨3, x, f, 2, s.later 10⟩] }, message 3 ⟨2, [x], ⟨#[]⟩⟩) := by
      show NS.wait u (3 + 1) = _
      rw [NS.wait, h3]
      simp only [hr, ha, if_true, List.nil_append]
    have h8 := wait_more h4 (fun p _ => by rw [one_asks]; simp) 4
    rw [show 4 + 4 = 8 from rfl] at h8
    rw [h8]
    exact message_one 3 x
  · rw [if_neg h1]
    have h8 := wait_more (u := ({ s with T := [⟨3, x, f, st, t⟩] } : NS)) (k0 := 0) rfl (fun p _ => by rw [one_asks, if_neg (fun h => h1 h.2)]) 8
    rw [show 0 + 8 = 8 from rfl] at h8
    rw [h8]
    rfl
theorem announce_one (salt id : UInt64) (f : Bool) : ((NS.new salt).setPeer 3 (true, f)).announce 3 [id] = { (NS.new salt).setPeer 3 (true, f) with T := [⟨3, id, f, 0, if f then 0 else 3⟩] } := by
  unfold NS.announce
  rw [List.foldl_cons, List.foldl_nil, ann1_new rfl]
  have hp : (((NS.new salt).setPeer 3 (true, f)).peers 3).2 = f := by simp [NS.setPeer]
  rw [hp]
  have hl : ((NS.new salt).setPeer 3 (true, f)).later 3 = 3 := rfl
  have hn : ((NS.new salt).setPeer 3 (true, f)).now = 0 := rfl
  rw [hl, hn]
  have : (Tr.annC ((NS.new salt).setPeer 3 (true, f)).T (3 : Nat) id (if f = true then 0 else 3) f).2 = [⟨3, id, f, 0, if f then 0 else 3⟩] := by
    unfold Tr.annC
    rw [if_pos ⟨⟨by decide, by decide⟩, by cases f <;> exact ⟨by decide, by decide⟩⟩]
    rfl
  rw [this]
  rfl
theorem due_one (id : UInt64) (f : Bool) (t k : Int) : Tr.dueL k [⟨3, id, f, 0, t⟩] = [⟨3, id, f, if t ≤ k then 1 else 0, t⟩] := by
  unfold Tr.dueL Tr.settleL Tr.openL Tr.dueE
  by_cases h : t ≤ k <;> simp [h]
theorem bytes_ann (id : UInt64) : Ms.checkM ⟨1, [id], ⟨#[]⟩⟩ = 0 := ids_ok 1 (by decide) (by decide) [id] (by simp) (by simp) (by simp)
theorem send_ann {p : Nat} {l : List UInt64} (hm : Ms.checkM ⟨1, l, ⟨#[]⟩⟩ = 0) (ht : s.thereE p = 0) : s.send p (bytesM ⟨1, l, ⟨#[]⟩⟩) = (s.announce p l, [], 0) := by
  unfold NS.send bytesM
  rw [if_neg (not_not_intro ht), if_pos hm, str_data, if_neg (not_not_intro (Ms.errM_enc hm)), Ms.ansM_enc hm]
  simp only [Int.toNat_natCast, if_true]
theorem bytesOf_ann (l : List UInt64) (a : Option Addr) (cap : Nat) (B : ByteArray) (hB : bytesM ⟨1, l, ⟨#[]⟩⟩ = B) (w : World) (hi : IdsAt w a l) : Calls Tryz.prog 31 #[.agg #[.int .i64 1, .slice a l.length cap, .string ⟨#[]⟩]] w fun e w' => e = .returned (.string B) ∧ Below w.heap.size w w' :=
  bytesOf_any ⟨1, l, ⟨#[]⟩⟩ a cap w hi B hB
theorem bytesOf_one (id : UInt64) (a : Option Addr) (cap : Nat) (B : ByteArray) (hB : bytesM ⟨1, [id], ⟨#[]⟩⟩ = B) (w : World) (hi : IdsAt w a [id]) : Calls Tryz.prog 31 #[.agg #[.int .i64 1, .slice a 1 cap, .string ⟨#[]⟩]] w fun e w' => e = .returned (.string B) ∧ Below w.heap.size w w' :=
  bytesOf_any ⟨1, [id], ⟨#[]⟩⟩ a cap w hi B hB
theorem bytes_small (m : Ms.MsgD) : (bytesM m).size ≤ maxLen := by
  unfold bytesM
  split
  · rename_i h
    have hs : (str (Ms.encM m)).size = (Ms.encM m).length := by rw [← str_list (Ms.encM m)]; simp [str]; rfl
    have : (Ms.encM m).length ≤ 1000 := by
      rcases (Ms.checkM_ok h).2 with ⟨h1, h2, h3, h4⟩ | ⟨h1, h2, h3, h4, h5⟩
      · rw [Ms.encM_bring h1]
        simp
        have : m.body.data.toList.length = m.body.size := by simp
        omega
      · rw [(Ms.ids_enc h h1).2.2.1]
        omega
    have : maxLen = 9223372036854775807 := rfl
    omega
  · decide
theorem new_ann (salt id : UInt64) (f : Bool) (B : ByteArray) (hB : bytesM ⟨1, [id], ⟨#[]⟩⟩ = B) (w : World) (h : NodeAt w F R ((NS.new salt).setPeer 3 (true, f))) : Calls Tryz.prog 30 #[.pointer (some ⟨R, 0, none⟩), .int .i64 3, .string B] w (SentN w F R ({ (NS.new salt).setPeer 3 (true, f) with T := [⟨3, id, f, 0, if f then 0 else 3⟩] }, [], 0)) :=
  send_any 3 B (hB ▸ bytes_small _) (by show (0 : Nat) ≤ _; omega) _ (by rw [← hB, ← announce_one]; exact send_ann (p := 3) (bytes_ann id) (new_there salt 3 (by decide) f)) w h
theorem join3 (salt : UInt64) (f : Bool) (w : World) (h : NodeAt w F R (NS.new salt)) : Calls Tryz.prog 29 #[.pointer (some ⟨R, 0, none⟩), .int .i64 3, .bool f] w (TurnsN w F R (.int .i64 0) ((NS.new salt).setPeer 3 (true, f))) := join_any 3 f _ (join_new salt 3 (by decide) f) w h
theorem delay_pass (salt id : UInt64) (f : Bool) (k : Nat) (hk : k < 8) : ∃ u ou, (({ (NS.new salt).setPeer 3 (true, f) with T := [⟨3, id, f, 0, if f then 0 else 3⟩] } : NS).pass k) = (u, ou, 0) ∧ ou.length = if (f || decide (3 ≤ k)) then 1 else 0 := by
  have hb : ¬ ((k : Int) < 0 ∨ (k : Int) > 1099511627776 - (({ (NS.new salt).setPeer 3 (true, f) with T := [⟨3, id, f, 0, if f then 0 else 3⟩] } : NS)).now) := by
    have : (({ (NS.new salt).setPeer 3 (true, f) with T := [⟨3, id, f, 0, if f then 0 else 3⟩] } : NS)).now = 0 := rfl
    rw [this]
    omega
  have hw := wait_one ({ (NS.new salt).setPeer 3 (true, f) with now := k } : NS) ⟨by show (0 : Int) ≤ k; omega, by show (k : Int) ≤ _; omega⟩ id f (if (if f = true then (0 : Int) else 3) ≤ (k : Int) then 1 else 0) (if f then 0 else 3)
  have he : ({ ({ (NS.new salt).setPeer 3 (true, f) with T := [⟨3, id, f, 0, if f then 0 else 3⟩] } : NS) with now := (({ (NS.new salt).setPeer 3 (true, f) with T := [⟨3, id, f, 0, if f then 0 else 3⟩] } : NS)).now + (k : Int), T := Tr.dueL ((({ (NS.new salt).setPeer 3 (true, f) with T := [⟨3, id, f, 0, if f then 0 else 3⟩] } : NS)).now + (k : Int)) [⟨3, id, f, 0, if f then 0 else 3⟩] } : NS) = ({ ({ (NS.new salt).setPeer 3 (true, f) with now := k } : NS) with T := [⟨3, id, f, if (if f = true then (0 : Int) else 3) ≤ (k : Int) then 1 else 0, if f then 0 else 3⟩] } : NS) := by
    have h0 : (({ (NS.new salt).setPeer 3 (true, f) with T := [⟨3, id, f, 0, if f then 0 else 3⟩] } : NS)).now + (k : Int) = k := by show (0 : Int) + k = k; omega
    rw [h0, due_one]
  unfold NS.pass
  rw [if_neg hb]
  simp only at he ⊢
  rw [he]
  refine ⟨_, _, rfl, hw.trans ?_⟩
  cases f
  · by_cases h3 : 3 ≤ k
    · have : (3 : Int) ≤ k := by omega
      simp [h3, this]
    · have : ¬ (3 : Int) ≤ k := by omega
      simp [h3, this]
  · have : (0 : Int) ≤ k := by omega
    simp [this]
set_option maxRecDepth 20000 in
set_option maxHeartbeats 2000000 in
theorem nodeDelay_walk (salt id : UInt64) (f : Bool) (kk : Int) (_hk : -9223372036854775808 ≤ kk ∧ kk ≤ 9223372036854775807) (w : World) : Calls Tryz.prog 11 #[.int .u64 salt.toNat, .int .u64 id.toNat, .bool f, .int .i64 kk] w fun e w' => e = .returned (.bool true) ∧ Below w.heap.size w w' := by
  obtain ⟨k, hkk⟩ : ∃ k : Nat, kk % 8 = k := ⟨(kk % 8).toNat, by omega⟩
  have hk8 : k < 8 := by omega
  have HK := Lib.hid hkk
  obtain ⟨u, ou, hpass, hlen⟩ := delay_pass salt id f k hk8
  have HP := Lib.hid hpass
  have HLN := Lib.hid hlen
  obtain ⟨B, hB⟩ : ∃ B, bytesM ⟨1, [id], ⟨#[]⟩⟩ = B := ⟨_, rfl⟩
  have HB := Lib.hid hB
  clear hkk hpass hlen hB
  go_enter Tryz.func11, Tryz.ntmps11
  go_wp2_with fail
  with_reducible refine (met_any _).mono ?_
  rintro e w1 ⟨rfl, hb1⟩
  have HB1 := Lib.hid hb1
  clear hb1
  go_wp2_with fail
  with_reducible refine (mine_new salt _ HB1.out).mono ?_
  rintro e w2 ⟨R, F, rfl, h2, _, _⟩
  have H2 := Lib.hid h2
  clear h2
  go_wp2_with fail
  with_reducible refine (join3 salt f _ H2.out.node).mono ?_
  rintro e w3 ⟨rfl, F3, h3, t3⟩
  have H3 := Lib.hid (H2.out.turned h3 t3)
  clear h3 t3
  have HI : Hid (IdsAt (w3.alloc (.cells #[.int .u64 id.toNat] 22)) (some ⟨w3.heap.size, 0, none⟩) [id]) := Lib.hid fun i hi => by
    obtain rfl : i = 0 := by simpa using hi
    exact ⟨_, _, rfl, by simp, by simp [go_sem]⟩
  have H4 := Lib.hid (H3.out.kept (kept_new w3 (.cells #[.int .u64 id.toNat] 22)))
  go_wp2_with fail
  with_reducible refine (bytesOf_one id _ _ B HB.out _ HI.out).mono ?_
  rintro e w5 ⟨rfl, hb5⟩
  have H5 := Lib.hid (H4.out.kept hb5)
  clear hb5
  go_wp2_with fail
  with_reducible refine (new_ann salt id f B HB.out _ H5.out.node).mono ?_
  rintro e w6 ⟨v6, F6, rfl, ho6, h6, t6, _⟩
  obtain ⟨a6, c6, rfl, _⟩ := outs_form ho6
  have H6 := Lib.hid (H5.out.turned h6 t6)
  clear h6 t6 ho6
  go_wp2_with fail
  with_reducible refine (rest_is kk 8 k _ (by decide) (by decide) HK.out).mono ?_
  rintro e w7 ⟨rfl, rfl⟩
  have HFL : Hid (Fly ({ (NS.new salt).setPeer 3 (true, f) with T := [⟨3, id, f, 0, if f then 0 else 3⟩] } : NS)) := Lib.hid fun p _ => by unfold flies; simp
  go_wp2_with fail
  with_reducible refine (wait_any k HFL.out _ HP.out _ H6.out.node).mono ?_
  rintro e w8 ⟨v8, F8, rfl, ho8, h8, t8, _⟩
  simp only at ho8 h8 ⊢
  obtain ⟨a8, c8, rfl, _⟩ := outs_form ho8
  have H8 := Lib.hid (H6.out.turned h8 t8)
  clear h8 t8 ho8
  obtain ⟨n, hn⟩ : ∃ n, ou.length = n := ⟨_, rfl⟩
  have HN : Hid (n = if (f || decide (3 ≤ k)) then 1 else 0) := Lib.hid (hn ▸ HLN.out)
  rw [hn]
  clear hn
  cases f with
  | true =>
    obtain rfl : n = 1 := HN.out
    go_wp2_with fail
    go_ret
    exact ⟨rfl, H8.out.below⟩
  | false =>
    by_cases h3 : 3 ≤ k
    · obtain rfl : n = 1 := by have := HN.out; simpa [h3] using this
      have h3' : (k : Int) ≥ 3 := by omega
      go_wp2_with fail
      go_ret
      exact ⟨rfl, H8.out.below⟩
    · obtain rfl : n = 0 := by have := HN.out; simpa [h3] using this
      have h3' : ¬ (k : Int) ≥ 3 := by omega
      go_wp2_with fail
      go_ret
      exact ⟨rfl, H8.out.below⟩
end Go.Proofs.YtmbejeibcncmmaaGreat
namespace Go.Proofs.YtmbejeibcncmmaaGreat
open Go.RowKit Go.Maps

variable {w w' w0 : World} {F : Nat → Prop} {R : Nat} {s : NS}

theorem seek_peers (s : NS) (x : UInt64) (d : DeedD) : (s.seek x d).1.peers = s.peers := by
  unfold NS.seek
  split <;> rfl
theorem examine_peers (s : NS) (x : UInt64) (d : DeedD) : (s.examine x d).1.peers = s.peers := by
  unfold NS.examine
  split
  · rfl
  · split
    · exact seek_peers _ x d
    · split <;> rfl
theorem follow_peers (s : NS) (q : List UInt64) : (s.follow q).peers = s.peers := by
  induction s, q using NS.follow.induct with
  | case1 s => rw [follow_nil]
  | case2 s x r h ih => rw [follow_none _ _ _ h]; exact ih
  | case3 s x r d h ih => rw [follow_some _ _ _ _ h]; exact ih.trans (examine_peers s x d)
theorem want_peers (s : NS) (p : Nat) (x : UInt64) : (s.want p x).peers = s.peers := by unfold NS.want; split <;> rfl
theorem ann1_peers (s : NS) (p : Nat) (x : UInt64) : (s.announce1 p x).peers = s.peers := by unfold NS.announce1; split <;> rfl
theorem wants_peers (p : Nat) : ∀ (l : List UInt64) (s : NS), (l.foldl (fun s m => s.want p m) s).peers = s.peers
  | [], _ => rfl
  | x :: r, s => (wants_peers p r _).trans (want_peers s p x)
theorem adopt_peers (s : NS) (p : Nat) (x : UInt64) (d : DeedD) (ms : List UInt64) : (s.adopt p x d ms).peers = s.peers := by
  unfold NS.adopt
  simp only
  split
  · exact wants_peers p ms _
  · rfl
theorem bring_peers (s : NS) (p : Nat) (d : DeedD) : (s.bring p d).peers = s.peers := by
  by_cases hk : ((Ju.findL s.A (Ju.idD d)).isSome || s.W.has (Ju.idD d)) = true
  · rw [bring_known hk]
  · rw [Bool.not_eq_true, Bool.or_eq_false_iff] at hk
    rw [bring_new rfl hk.1 hk.2, follow_peers]
    split
    · rw [adopt_peers, examine_peers]
    · rw [examine_peers]
theorem announce_peers (p : Nat) : ∀ (l : List UInt64) (s : NS), (s.announce p l).peers = s.peers
  | [], _ => rfl
  | x :: r, s => (announce_peers p r _).trans (ann1_peers s p x)
theorem missing_peers (p : Nat) : ∀ (l : List UInt64) (s : NS), (s.missing p l).peers = s.peers
  | [], _ => rfl
  | _ :: r, _ => missing_peers p r _
theorem send_peers (s : NS) (p : Int) (b : ByteArray) : (s.send p b).1.peers = s.peers := by
  unfold NS.send
  simp only
  split
  · rfl
  · split
    · rfl
    · split
      · exact announce_peers _ _ _
      · split
        · exact missing_peers _ _ _
        · split
          · rfl
          · split
            · rfl
            · exact bring_peers _ _ _
theorem asks_peers (p : Nat) : ∀ (l : List UInt64) (u : NS), (l.foldl (fun s x => { s with T := (Tr.askC s.T p x (s.later 10)).2 }) u).peers = u.peers
  | [], _ => rfl
  | x :: r, u => asks_peers p r { u with T := (Tr.askC u.T p x (u.later 10)).2 }
theorem wait_peers (u : NS) : ∀ k, (u.wait k).1.peers = u.peers
  | 0 => rfl
  | k + 1 => by
    simp only [NS.wait]
    unfold NS.request
    rw [asks_peers, wait_peers u k]
theorem pass_peers (s : NS) (k : Int) : (s.pass k).1.peers = s.peers := by
  by_cases hk : k < 0 ∨ k > 1099511627776 - s.now
  · have : s.pass k = (s, [], 1) := by unfold NS.pass; rw [if_pos hk]
    rw [this]
  · obtain ⟨u, hu⟩ : ∃ u : NS, ({ s with now := s.now + k, T := Tr.dueL (s.now + k) s.T } : NS) = u := ⟨_, rfl⟩
    have he : s.pass k = ((u.wait 8).1, (u.wait 8).2, 0) := by unfold NS.pass; rw [if_neg hk, hu]
    have hw := wait_peers u 8
    obtain ⟨r, hr⟩ : ∃ r, u.wait 8 = r := ⟨_, rfl⟩
    rw [hr] at hw he
    rw [he]
    exact hw.trans (by rw [← hu])
theorem did_peers (a : ActD) (q : Nat) (h : a.peer ≠ q) : (s.did a).1.peers q = s.peers q := by
  unfold NS.did
  split
  · unfold NS.join
    split
    · rfl
    · rename_i hp
      have hp := Classical.not_not.1 hp
      split
      · rfl
      · show (s.setPeer a.peer.toNat (true, a.flag)).peers q = _
        unfold NS.setPeer
        simp only
        rw [if_neg (by omega)]
  · split
    · unfold NS.leave
      split
      · rfl
      · rename_i hp
        obtain ⟨n, hn, hn8, _⟩ := there_zero (Classical.not_not.1 hp)
        show (s.setPeer a.peer.toNat (false, false)).peers q = _
        unfold NS.setPeer
        simp only
        rw [if_neg (by omega)]
    · split
      · rw [send_peers]
      · split
        · rw [pass_peers]
        · rfl
/-- What is accepted goes out whole. -/
theorem fetch1_some {p : Nat} {x : UInt64} {d : DeedD} (h : Ju.findL s.A x = some d) (hd : checkD d = 0) : s.fetch1 p x = [⟨p, bringB d⟩] := by
  unfold NS.fetch1
  rw [h]
  simp only
  unfold message
  rw [if_pos (bringM_ok hd)]
  rfl
theorem find_self : ∀ {L : List DeedD}, (L.map Ju.idD).Nodup → ∀ {d : DeedD}, d ∈ L → L.find? (fun e => Ju.idD e == Ju.idD d) = some d
  | e :: r, hn, d, hd => by
    rw [List.map_cons, List.nodup_cons] at hn
    rw [List.find?_cons]
    by_cases h : Ju.idD e = Ju.idD d
    · rcases List.mem_cons.1 hd with rfl | hr
      · simp
      · exact absurd (List.mem_map.2 ⟨d, hr, h.symm⟩) hn.1
    · have h' : (Ju.idD e == Ju.idD d) = false := by simpa using h
      rw [h']
      rcases List.mem_cons.1 hd with rfl | hr
      · exact absurd rfl h
      · exact find_self hn.2 hr
theorem findL_self {L : List DeedD} (hg : Ju.GoodJ L) {d : DeedD} (hd : d ∈ L) : Ju.findL L (Ju.idD d) = some d := find_self hg.nodup hd
/-- The messages that bring what is accepted. -/
theorem fetch_all (hg : Ju.GoodJ s.A) (p : Nat) : ∀ (D : List DeedD), (∀ d ∈ D, d ∈ s.A) → (D.map Ju.idD).flatMap (s.fetch1 p) = D.map fun d => ⟨p, bringB d⟩
  | [], _ => rfl
  | d :: r, h => by
    rw [List.map_cons, List.flatMap_cons, List.map_cons, fetch1_some (findL_self hg (h d List.mem_cons_self)) (hg.fine d (h d List.mem_cons_self)), fetch_all hg p r (fun x hx => h x (List.mem_cons_of_mem _ hx))]
    rfl
theorem none_known (hg : Ju.GoodJ s.A) (D : List DeedD) (h : ∀ d ∈ D, d ∈ s.A) : (D.map Ju.idD).filter (fun x => (Ju.findL s.A x).isNone) = [] := by
  rw [List.filter_eq_nil_iff]
  intro x hx
  obtain ⟨d, hd, rfl⟩ := List.mem_map.1 hx
  rw [findL_self hg (h d hd)]
  simp
theorem find_none {x : UInt64} (h : (s.A.map Ju.idD).contains x = false) : Ju.findL s.A x = none := by
  cases hf : Ju.findL s.A x with
  | none => rfl
  | some d =>
    obtain ⟨h1, h2⟩ := Ju.findL_mem hf
    have : (s.A.map Ju.idD).contains x = true := List.contains_iff_mem.2 (List.mem_map.2 ⟨d, h1, h2⟩)
    rw [h] at this
    cases this
theorem fetch_known (hg : Ju.GoodJ s.A) (p : Nat) (D : List DeedD) (h : ∀ d ∈ D, d ∈ s.A) : s.fetch p (D.map Ju.idD) = D.map fun d => ⟨p, bringB d⟩ := by
  show (D.map Ju.idD).flatMap (s.fetch1 p) ++ message p ⟨4, (D.map Ju.idD).filter (fun x => (Ju.findL s.A x).isNone), ⟨#[]⟩⟩ = _
  rw [fetch_all hg p D h, none_known hg D h]
  have : message p ⟨4, [], ⟨#[]⟩⟩ = [] := by unfold message; rw [if_neg (by decide)]
  rw [this, List.append_nil]
theorem fetch_other (hg : Ju.GoodJ s.A) (p : Nat) (D : List DeedD) (h : ∀ d ∈ D, d ∈ s.A) (x : UInt64) (hx : (s.A.map Ju.idD).contains x = false) : s.fetch p (D.map Ju.idD ++ [x]) = (D.map fun d => (⟨p, bringB d⟩ : OutD)) ++ [⟨p, bytesM ⟨4, [x], ⟨#[]⟩⟩⟩] := by
  show (D.map Ju.idD ++ [x]).flatMap (s.fetch1 p) ++ message p ⟨4, (D.map Ju.idD ++ [x]).filter (fun x => (Ju.findL s.A x).isNone), ⟨#[]⟩⟩ = _
  have hn := find_none hx
  have h1 : s.fetch1 p x = [] := by unfold NS.fetch1; rw [hn]
  have hc : Ms.checkM ⟨4, [x], ⟨#[]⟩⟩ = 0 := ids_ok 4 (by decide) (by decide) [x] (by simp) (by simp) (by simp)
  rw [List.flatMap_append, fetch_all hg p D h, List.filter_append, none_known hg D h]
  simp only [List.flatMap_cons, List.flatMap_nil, h1, List.append_nil, List.filter_cons, hn, Option.isNone_none, if_true, List.filter_nil, List.nil_append]
  unfold message bytesM
  rw [if_pos hc, if_pos hc]
end Go.Proofs.YtmbejeibcncmmaaGreat
