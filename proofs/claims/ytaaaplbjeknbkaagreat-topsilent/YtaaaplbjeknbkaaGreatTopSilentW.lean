/-
  TopSilent: the walk.
-/
import Derived.Test.YtaaaplbjeknbkaaGreatTopOnceW
import Derived.Test.YtaaaplbjeknbkaaGreatIntRow
import Derived.Test.YtaaaplbjeknbkaaGreatSilentMath
set_option maxRecDepth 20000
namespace Go.Proofs.YtaaaplbjeknbkaaGreat
open Go.RowKit Go.Maps

variable {w w' w0 : World} {F F' : Nat → Prop} {R : Nat} {s u : NS}

/-- A node, and ints of the law's own. -/
structure NodeInts (w0 w : World) (F : Nat → Prop) (R : Nat) (u : NS) (v : Value) (l : List Int) : Prop where
  mine : Mine w0 w F R u
  own : OwnInt w w0.heap.size v l
  out : ∀ g, v.ownBlock = some g → ¬ F g
variable {v : Value} {l : List Int}
theorem NodeInts.kept (h : NodeInts w0 w F R u v l) (hb : Below w.heap.size w w') : NodeInts w0 w' F R u v l := ⟨h.mine.kept hb, owns_below h.own hb, h.out⟩
theorem NodeInts.turned (h : NodeInts w0 w F R u v l) {u' : NS} (hn : NodeAt w' F' R u') (ht : Turn F F' w w') : NodeInts w0 w' F' R u' v l :=
  ⟨h.mine.turned hn ht, own_turn h.own ht h.out, fun g hg hf => (ht.own g hf).elim (h.out g hg) (fun hle => by have := (h.own.lt g hg).2; omega)⟩
theorem NodeInts.grown (h : NodeInts w0 w F R u v l) {g n cap : Nat} {l' : List Int} (hg : w.grownBy w' v.ownBlock) (ho : OwnInt w' w0.heap.size (.slice (some ⟨g, 0, none⟩) n cap) l') (hat : v.ownBlock = some g ∨ w.heap.size ≤ g) : NodeInts w0 w' F R u (.slice (some ⟨g, 0, none⟩) n cap) l' := by
  refine ⟨⟨h.mine.node.turn (Turn.of_grown (F := fun k => v.ownBlock = some k) hg (fun k hk => hk)) (fun k hf hk => h.out k hk hf), h.mine.above, h.mine.below.grown hg h.mine.below.size (fun k hk => (h.own.lt k hk).1)⟩, ho, fun k hk hf => ?_⟩
  have e : g = k := by simpa [Value.ownBlock] using hk
  subst e
  exact hat.elim (fun e => h.out g e hf) (fun hle => by have := h.mine.node.there g hf; omega)
/-- Peers as ints. -/
def asI (l : List Nat) : List Int := l.map Int.ofNat
theorem asI_len (l : List Nat) : (asI l).length = l.length := by simp [asI]
theorem asI_snoc (l : List Nat) (p : Nat) : asI (l ++ [p]) = asI l ++ [(p : Int)] := by simp [asI]
theorem asI_contains (l : List Nat) (p : Nat) : (asI l).contains (p : Int) = l.contains p := by
  rw [Bool.eq_iff_iff, List.contains_iff_mem, List.contains_iff_mem]
  unfold asI
  rw [List.mem_map]
  constructor
  · rintro ⟨q, hq, e⟩
    have : q = p := Int.ofNat.inj e
    exact this ▸ hq
  · exact fun h => ⟨p, h, rfl⟩
/-- Where the node stands behind j waits: the one that is not silent was not asked yet, or the deed is accepted. -/
def SilEnd (x : UInt64) (d : DeedD) (own : List Nat) (gd : Nat) (asked : List Nat) (j : Nat) (u : NS) : Prop := (Sil x own asked j u ∧ gd ∉ asked) ∨ (OSt [d] 1 (10 * (j : Int)) u ∧ gd ∈ asked ∧ asked.length ≤ 8)
theorem hasInt_len (l : List Int) (n : Nat) (hn : l.length = n) (x : Int) (r : Bool) (HR : Hid (l.contains x = r)) (a : Option Addr) (cap : Nat) (w : World) (hl : l.length ≤ maxLen) (hi : Tr.IntsAt w a l) : Calls Tryz.prog 48 #[.slice a n cap, .int .i64 x] w fun e w' => e = .returned (.bool r) ∧ w = w' := by
  subst hn
  exact Tr.hasInt_any l x r HR a cap w hl hi
theorem root_judge {k : Int} (hk : 0 ≤ k ∧ k < 900) : Ju.judgeL [] (rootD k) = (0, [], 0) := by
  unfold Ju.judgeL Ju.stateL Ju.stateM
  rw [if_neg (not_not_intro (root_check hk))]
  have hp : Ju.payI (rootD k).fee (rootD k).weight = 0 := by
    unfold Ju.payI rootD
    rw [if_neg]
    show ¬ 10 * (1 + k) < 10
    omega
  rw [hp]
  rfl
theorem root_accept {k : Int} (hk : 0 ≤ k ∧ k < 900) : Ju.acceptL [] (rootD k) = (0, [rootD k]) := by
  have hj := root_judge hk
  unfold Ju.judgeL at hj
  rw [if_neg (not_not_intro (root_check hk))] at hj
  unfold Ju.acceptL
  rw [if_neg (not_not_intro (root_check hk)), (Prod.mk.inj hj).1]
  rfl
theorem chain_single (f : Int) : chainD [f] = [rootD (f % 900)] := rfl
set_option maxRecDepth 20000 in
set_option maxHeartbeats 8000000 in
theorem topSilent_walk (salt : UInt64) (fee : Int) (lp : List Int) (ap : Option Addr) (cp : Nat) (hon : Int) (_hf : -9223372036854775808 ≤ fee ∧ fee ≤ 9223372036854775807) (hlp : lp.length ≤ maxLen) (_hh : -9223372036854775808 ≤ hon ∧ hon ≤ 9223372036854775807) (w : World) (hip : Tr.IntsAt w ap lp) : Calls Tryz.prog 11 #[.int .u64 salt.toNat, .int .i64 fee, .slice ap lp.length cp, .int .i64 hon] w fun e w' => e = .returned (.bool true) ∧ Below w.heap.size w w' := by
  have HIP := Lib.hid hip
  have hml : maxLen = 9223372036854775807 := rfl
  clear hip
  go_enter Tryz.func11, Tryz.ntmps11
  go_wp2_with fail
  with_reducible refine (works_any _).mono ?_
  rintro e w1 ⟨rfl, hb1⟩
  have hk1 := kept_new w1 (.cells #[.int .i64 fee] 3)
  have HB1 := Lib.hid (kept_trans hb1 hk1)
  have HI1 : Hid (Tr.IntsAt (w1.alloc (.cells #[.int .i64 fee] 3)) (some ⟨w1.heap.size, 0, none⟩) [fee]) := Lib.hid fun i hi => by
    obtain rfl : i = 0 := by simpa using hi
    exact ⟨_, _, rfl, by simp, by simp [go_sem]⟩
  clear hb1 hk1
  go_wp2_with fail
  with_reducible refine (chained_is [fee] 1 _ 1 rfl (by decide) _ HI1.out).mono ?_
  rintro e w2 ⟨v2, H, rfl, hd2, hm2, hb2⟩
  obtain ⟨q, rfl⟩ : ∃ q, H = [q] := by
    have hl := congrArg List.length hm2
    rw [List.length_map, chain_single] at hl
    exact List.length_eq_one_iff.1 hl
  obtain ⟨k, hkk⟩ : ∃ k : Int, fee % 900 = k := ⟨_, rfl⟩
  have hk : 0 ≤ k ∧ k < 900 := by omega
  have hqd : q.d = rootD k := by
    rw [chain_single, hkk] at hm2
    exact (List.cons.inj hm2).1
  obtain ⟨av, cv, rfl, hcv, hat2, _⟩ := hd2.form
  obtain ⟨⟨b, o, rfl, hb, d0, d1, d2, d3⟩, hins, _⟩ := hat2 0 (by simp)
  have hia : q.ia = none := by
    rcases hd2.ins q (by simp) with ⟨h1, _⟩ | ⟨g, x, _, _, h3, _⟩
    · exact h1
    · rw [hqd] at h3
      cases h3
  obtain ⟨qa, qc, qd⟩ := q
  simp only at hqd hia
  subst hqd hia
  simp only [List.getElem_cons_zero, Nat.zero_mul, Nat.add_zero, rootD, List.length_nil, List.length_cons, Nat.zero_add] at d0 d1 d2 d3 hcv
  have l2 := (cell_spot d0).2
  have HB2 := Lib.hid (kept_trans HB1.out hb2)
  have HK := Lib.hid hk
  clear hd2 hm2 hat2 hins hb2 hkk hk
  simp only [List.length_cons, List.length_nil, Nat.zero_add]
  obtain ⟨wd, hwd⟩ : ∃ wd, w2.alloc (.cells #[.slice none 0 qc, .int .i64 1, .int .i64 10, .int .i64 (1 + k)] 50) = wd := ⟨_, rfl⟩
  obtain ⟨D, hD⟩ : ∃ D, w2.heap.size = D := ⟨_, rfl⟩
  have HBX : Hid (DeedBox wd D none qc (rootD k)) := Lib.hid (hwd ▸ hD ▸ box_deed w2 none qc (rootD k))
  have HBD := Lib.hid (kept_trans HB2.out (hwd ▸ kept_new w2 (.cells #[.slice none 0 qc, .int .i64 1, .int .i64 10, .int .i64 (1 + k)] 50)))
  go_wp2_with fail
  with_reducible refine (mine_new salt _ (Below.refl _ _)).mono ?_
  rintro e w3 ⟨R, F, rfl, h3, _, _⟩
  obtain ⟨x, hx⟩ : ∃ x, Ju.idD (rootD k) = x := ⟨_, rfl⟩
  obtain ⟨B, hB⟩ : ∃ B, bringB (rootD k) = B := ⟨_, rfl⟩
  obtain ⟨BA, hBA⟩ : ∃ B, bytesM ⟨1, [x], ⟨#[]⟩⟩ = B := ⟨_, rfl⟩
  obtain ⟨B2, hB2⟩ : ∃ B, bytesM ⟨2, [x], ⟨#[]⟩⟩ = B := ⟨_, rfl⟩
  have HX := Lib.hid hx
  have HBB := Lib.hid hB
  have HBA := Lib.hid hBA
  have HB2' := Lib.hid hB2
  have HBS : Hid (B.size ≤ maxLen) := Lib.hid (by rw [← hB]; exact bring_small (root_check HK.out))
  have HBAS : Hid (BA.size ≤ maxLen) := Lib.hid (by rw [← hBA]; exact bytes_small _)
  have HIN : Hid (∀ w', InsAt w' none (rootD k).ins) := Lib.hid fun w' i hi => absurd hi (by simp [rootD])
  have HID : Hid (∀ w', Calls Tryz.prog 46 #[.agg #[.slice none 0 qc, .int .i64 1, .int .i64 10, .int .i64 (1 + k)]] w' fun e w'' => e = .returned (.int .u64 x.toNat) ∧ Below w'.heap.size w' w'') := Lib.hid fun w' => tidOf_any (rootD k) (root_check HK.out) none qc x hx w' (HIN.out w')
  have HBR : Hid (∀ w', Calls Tryz.prog 45 #[.agg #[.slice none 0 qc, .int .i64 1, .int .i64 10, .int .i64 (1 + k)]] w' fun e w'' => e = .returned (.string B) ∧ Below w'.heap.size w' w'') := Lib.hid fun w' => tbringB_any (rootD k) (root_check HK.out) none qc B hB w' (HIN.out w')
  have HN3 : Hid (NodeInts wd w3 F R (NS.new salt) (.slice none 0 0) (asI [])) := Lib.hid ⟨h3, ownInt_nil _ _, fun g hg => by cases hg⟩
  have HJ3 : Hid (SilJ x [] (NS.new salt)) := Lib.hid (silJ_new x salt)
  clear h3 hx hB hBA hB2 d0 d1 d2 d3 l2
  go_wp2_with fail
  go_loopw [11, 33] (fun v11 i wr => ∃ (j : Nat) (own : List Nat) (G : Nat → Prop) (u : NS), j ≤ lp.length ∧ i = .int .i64 j ∧ Hid (NodeInts wd wr G R u v11 (asI own)) ∧ Hid (SilJ x own u) ∧ own.length ≤ 8) (fun _ i _ => lp.length - (intOf i).toNat)
  case atStart => exact ⟨0, [], F, NS.new salt, Nat.zero_le _, rfl, HN3, HJ3, by simp⟩
  case round =>
    obtain ⟨j, own, G, u, hj, rfl, HN, HJ, ho8⟩ := hrel
    by_cases hjl : j < lp.length
    · obtain ⟨g, o, rfl, hg, c0⟩ := HIP.out j hjl
      obtain ⟨z, hz⟩ : ∃ z, lp[j] = z := ⟨_, rfl⟩
      rw [hz] at c0
      have k0 := cell_later (kept_trans HBD.out HN.out.mine.below) c0
      have l5 := (cell_spot k0).2
      obtain ⟨p, hpp⟩ : ∃ p : Nat, z % 8 = p := ⟨(z % 8).toNat, by omega⟩
      have hp : p < 8 := by omega
      have HP := Lib.hid hpp
      obtain ⟨f, hf⟩ : ∃ f : Bool, ((p : Int) % 2 == 0) = f := ⟨_, rfl⟩
      clear hz c0 hpp
      go_wp2_with fail
      with_reducible refine (rest_is z 8 p _ (by decide) (by decide) HP.out).mono ?_
      rintro e w13 ⟨rfl, rfl⟩
      by_cases hpo : p ∈ own
      · have HJN := Lib.hid (HJ.out.join_old hpo f)
        go_wp2_with fail
        with_reducible refine (join_any p f _ HJN.out _ HN.out.mine.node).mono ?_
        rintro e w14 ⟨rfl, F14, h14, t14⟩
        simp only at h14 ⊢
        have H14 := Lib.hid (HN.out.turned h14 t14)
        clear h14 t14
        go_wp2_with fail
        go_roundw
        case rel => exact ⟨j + 1, own, F14, u, by omega, by go_num, H14, HJ, ho8⟩
        case measure => simp [intOf]; omega
      · have HJN := Lib.hid (HJ.out.join_new hp hpo f)
        obtain ⟨u1, hu1⟩ : ∃ u1, u.setPeer p (true, f) = u1 := ⟨_, rfl⟩
        obtain ⟨u2, hu2⟩ : ∃ u2, u1.announce p [x] = u2 := ⟨_, rfl⟩
        have HJ2 : Hid (SilJ x (own ++ [p]) u2) := Lib.hid (hu2 ▸ hu1 ▸ HJ.out.announce hp hpo f)
        have ht1 : u1.thereE p = 0 := by
          rw [← hu1]
          unfold NS.thereE NS.setPeer
          rw [if_pos ⟨by omega, by omega⟩, Int.toNat_natCast]
          simp
        have HSA : Hid (u1.send p BA = (u2, [], 0)) := Lib.hid (by rw [← HBA.out, send_ann (bytes_ann x) ht1, hu2])
        have HAL : Hid (u1.A.length ≤ 2950000000000) := Lib.hid (by rw [← hu1]; show u.A.length ≤ _; rw [HJ.out.A]; simp)
        have ho9 : (own ++ [p]).length ≤ 8 := by
          have := nat_nodup_le (a := own ++ [p]) (b := List.range 8) (HJ2.out.own' ▸ HJ2.out.one.peers) (fun q hq => List.mem_range.2 (HJ2.out.small q hq))
          rwa [List.length_range] at this
        rw [hu1] at HJN
        clear hu1 hu2 ht1
        go_wp2_with fail
        with_reducible refine (join_any p f _ HJN.out _ HN.out.mine.node).mono ?_
        rintro e w14 ⟨rfl, F14, h14, t14⟩
        simp only at h14 ⊢
        have H14 := Lib.hid (HN.out.turned h14 t14)
        clear h14 t14
        have hol : (asI own).length ≤ 1000000000000 := by rw [asI_len]; omega
        have HS := Lib.hid H14.out.mine.below.size
        go_wp2_with (at_builtin; refine append_int rfl _ _ rfl (p : Int) rfl rfl H14.out.own hol HS.out ?_; intro g7 cap7 w7 ho7 hg7 hat7; refine Hid.out ?_)
        refine Lib.hid ?_
        have HN7 : Hid (NodeInts wd w7 F14 R u1 (.slice (some ⟨g7, 0, none⟩) ((asI own).length + 1) cap7) (asI (own ++ [p]))) := Lib.hid (H14.out.grown hg7 (by rw [asI_snoc]; exact ho7) hat7)
        obtain ⟨b0, b1, b2, b3⟩ := HBX.out.kept HN7.out.mine.below
        have l7 := (cell_spot b0).2
        simp only [rootD, List.length_nil] at b0 b1 b2 b3
        clear ho7 hg7 hat7 hol
        go_wp2_with fail
        with_reducible refine (HID.out _).mono ?_
        rintro e w8 ⟨rfl, hb8⟩
        have hk8 := kept_new w8 (.cells #[.int .u64 x.toNat] 22)
        have HN8 := Lib.hid (HN7.out.kept (kept_trans hb8 hk8))
        have HI8 := Lib.hid (ids_new w8 x)
        clear hb8 hk8 b0 b1 b2 b3 l7
        go_wp2_with fail
        with_reducible refine (tbytesOf_one x _ _ BA HBA.out _ HI8.out).mono ?_
        rintro e w9 ⟨rfl, hb9⟩
        have HN9 := Lib.hid (HN8.out.kept hb9)
        clear hb9
        go_wp2_with fail
        with_reducible refine (send_any p BA HBAS.out HAL.out _ HSA.out _ HN9.out.mine.node).mono ?_
        rintro e w10 ⟨v10, F10, rfl, ho10, h10, t10, _⟩
        simp only at ho10 h10 ⊢
        obtain ⟨a10, c10, rfl, _⟩ := outs_form ho10
        have HN10 := Lib.hid (HN9.out.turned h10 t10)
        clear ho10 h10 t10
        go_wp2_with fail
        go_roundw
        case rel => exact ⟨j + 1, own ++ [p], F10, u2, by omega, by go_num, HN10, HJ2, ho9⟩
        case measure => simp [intOf]; omega
    · obtain ⟨a11, c11, rfl, hc11, hat11, _⟩ := owns_intsAt HN.out.own
      have HA11 := Lib.hid hat11
      have HNL : Hid ((asI own).length = own.length) := Lib.hid (asI_len own)
      obtain ⟨n, hn⟩ : ∃ n, (asI own).length = n := ⟨_, rfl⟩
      have hn8 : n ≤ 8 := by rw [← hn, HNL.out]; exact ho8
      have HNN : Hid (own.length = n) := Lib.hid (by rw [← hn, HNL.out])
      rw [hn] at hc11 ⊢
      clear hat11 hn ho8
      by_cases hn0 : n = 0
      · subst hn0
        have HM := Lib.hid HN.out.mine.below
        go_wp2_with fail
        go_ret
        exact ⟨rfl, kept_trans HBD.out HM.out⟩
      · obtain ⟨g2, hg2⟩ : ∃ g2 : Nat, hon % (n : Int) = g2 := ⟨(hon % (n : Int)).toNat, by have := Int.emod_nonneg hon (show (n : Int) ≠ 0 by omega); omega⟩
        have hg2n : g2 < n := by have := Int.emod_lt_of_pos hon (show (0 : Int) < n by omega); omega
        have HG2 := Lib.hid hg2
        have hne : ¬ (n : Int) = 0 := by omega
        clear hg2
        go_wp2_with fail
        with_reducible refine (rest_is hon n g2 _ (by omega) (by omega) HG2.out).mono ?_
        rintro e w13 ⟨rfl, rfl⟩
        have hgo : g2 < own.length := by rw [HNN.out]; exact hg2n
        obtain ⟨gg, oo, rfl, hgg, cg⟩ := HA11.out g2 (by rw [asI_len]; exact hgo)
        obtain ⟨gd, hgd⟩ : ∃ gd, own[g2] = gd := ⟨_, rfl⟩
        have hcg : (asI own)[g2]'(by rw [asI_len]; exact hgo) = (gd : Int) := by
          unfold asI
          rw [List.getElem_map, hgd]
          rfl
        rw [hcg] at cg
        have l5 := (cell_spot cg).2
        have HGO : Hid (gd ∈ own) := Lib.hid (hgd ▸ List.getElem_mem _)
        have HGS : Hid (gd < 8) := Lib.hid (HJ.out.small gd HGO.out)
        have HST : Hid (SilEnd x (rootD k) own gd [] 0 u) := Lib.hid (Or.inl ⟨HJ.out.start, by simp⟩)
        have HPE : Hid (∀ p ∈ own, (u.peers p).1 = true) := Lib.hid fun p hp => (HJ.out.there p (HJ.out.small p hp)).2 hp
        have HN0 : Hid (NodeInts wd wr G R u (.slice none 0 0) (asI [])) := Lib.hid ⟨HN.out.mine, ownInt_nil _ _, fun g hg => by cases hg⟩
        obtain ⟨wB, hwB⟩ : ∃ x, x = wr := ⟨_, rfl⟩
        subst hwB
        clear hgd hcg
        go_wp2_with fail
        go_loopw [15, 72] (fun v15 i wr => ∃ (j : Nat) (asked : List Nat) (G : Nat → Prop) (u : NS), j ≤ n + 1 ∧ i = .int .i64 j ∧ Hid (NodeInts wd wr G R u v15 (asI asked)) ∧ Hid (SilEnd x (rootD k) own gd asked j u) ∧ Hid (∀ p ∈ own, (u.peers p).1 = true)) (fun _ i _ => n + 1 - (intOf i).toNat)
        case atStart => exact ⟨0, [], G, u, Nat.zero_le _, rfl, HN0, HST, HPE⟩
        case round =>
          obtain ⟨j, asked, G, u, hj, rfl, HN, HSTj, HPEj⟩ := hrel
          by_cases hjl : j < n + 1
          · obtain ⟨a15, c15, rfl, hc15, hat15, _⟩ := owns_intsAt HN.out.own
            have HA15 := Lib.hid hat15
            obtain ⟨m, hm⟩ : ∃ m, (asI asked).length = m := ⟨_, rfl⟩
            have HML : Hid (asked.length = m) := Lib.hid (by rw [← hm, asI_len])
            rw [hm] at hc15 HN ⊢
            clear hat15 hm
            rcases HSTj.out with ⟨hs, hga⟩ | ⟨hs, hga, hal⟩
            · obtain ⟨q, u', hqo, hqa, hps, hs', hpe⟩ := hs.pass HGO.out hga
              have HFL := Lib.hid (one_fly hs.one)
              rw [message_is (by simp) (by simp) (by simp), HB2'.out] at hps
              have HPS := Lib.hid hps
              have HS' := Lib.hid hs'
              have HQO := Lib.hid hqo
              have HQA : Hid ((asI asked).contains (q : Int) = false) := Lib.hid (by rw [asI_contains]; rw [← Bool.not_eq_true, List.contains_iff_mem]; exact hqa)
              have HGA := Lib.hid hga
              have HPE' : Hid (∀ p ∈ own, (u'.peers p).1 = true) := Lib.hid (hpe ▸ HPEj.out)
              have hm8 : m ≤ 8 := by
                rw [← HML.out]
                have := nat_nodup_le hs.nodup (b := List.range 8) (fun q hq => List.mem_range.2 (hs.small q (hs.sub q hq)))
                rwa [List.length_range] at this
              have hq8 : q < 8 := hs.small q hqo
              have hnd := hs'.nodup
              have HM9 : Hid ((asked ++ [q]).length ≤ 8) := Lib.hid (by
                have := nat_nodup_le hnd (b := List.range 8) (fun q hq => List.mem_range.2 (hs'.small q (hs'.sub q hq)))
                rwa [List.length_range] at this)
              clear hs hga hqo hqa hps hs' hpe hnd
              go_wp2_with fail
              with_reducible refine (wait_any 10 HFL.out _ HPS.out _ HN.out.mine.node).mono ?_
              rintro e w7 ⟨v7, F7, rfl, ho7, h7, t7, _⟩
              simp only at ho7 h7 ⊢
              obtain ⟨a7, c7, rfl, _, hat7⟩ := owns_outsAt ho7
              obtain ⟨g7, o7, rfl, hg7, q0, q1⟩ := hat7 0 (by simp)
              simp only [List.getElem_cons_zero, Nat.zero_mul, Nat.add_zero, List.length_cons, List.length_nil, Nat.zero_add] at q0 q1 ⊢
              have HN7 := Lib.hid (HN.out.turned h7 t7)
              have HQ0 := Lib.hid q0
              have HQ1 := Lib.hid q1
              obtain ⟨wC, hwC⟩ : ∃ x, x = wr := ⟨_, rfl⟩
              subst hwC
              clear ho7 h7 t7 hat7 q0 q1
              go_wp2_with fail
              go_loopw [15, 88] (fun v15 i wi => Hid ((i = .int .i64 0 ∧ v15 = .slice a15 m c15 ∧ wi = w7) ∨ (i = .int .i64 1 ∧ ∃ (G8 : Nat → Prop) (u8 : NS), Hid (NodeInts wd wi G8 R u8 v15 (asI (asked ++ [q]))) ∧ Hid (SilEnd x (rootD k) own gd (asked ++ [q]) (j + 1) u8) ∧ Hid (∀ p ∈ own, (u8.peers p).1 = true)))) (fun _ i _ => 1 - (intOf i).toNat)
              case atStart => exact Lib.hid (.inl ⟨rfl, rfl, rfl⟩)
              case round =>
                rcases hrel.out with ⟨rfl, rfl, rfl⟩ | ⟨rfl, G8, u8, HN8, HS8, HP8⟩
                · have q0 := HQ0.out
                  have q1 := HQ1.out
                  have l7 := (cell_spot q0).2
                  have hm9 : m ≤ 1000000000000 := by omega
                  obtain ⟨wo, hwo⟩ : ∃ wo, wr.alloc (.cells #[.int .i64 q, .string B2] 35) = wo := ⟨_, rfl⟩
                  have hbo : Below wr.heap.size wr wo := hwo ▸ kept_new _ _
                  have o0 : wo.cell? ⟨wr.heap.size, 0, none⟩ = some (.int .i64 q) := by rw [← hwo]; simp [go_sem]
                  have l8 := (cell_spot o0).2
                  have HNo := Lib.hid (HN7.out.kept hbo)
                  obtain ⟨a15', c15', e15, _, hat15, _⟩ := owns_intsAt HNo.out.own
                  simp only [Value.slice.injEq] at e15
                  obtain ⟨rfl, e15, rfl⟩ := e15
                  have HAo := Lib.hid hat15
                  have HLo : Hid ((asI asked).length = m) := Lib.hid e15.symm
                  clear hbo hat15 e15
                  go_wp2_with fail
                  with_reducible refine (hasInt_len (asI asked) m HLo.out q false HQA _ _ _ (by rw [HLo.out]; omega) HAo.out).mono ?_
                  rintro e w9 ⟨rfl, rfl⟩
                  have HSo := Lib.hid HNo.out.mine.below.size
                  have hml2 : (asI asked).length ≤ 1000000000000 := by rw [HLo.out]; exact hm9
                  have HRo : Hid (OwnInt wo wd.heap.size (.slice a15 m c15) (asI asked)) := Lib.hid HNo.out.own
                  have hlm := HLo.out
                  have HBN : Hid ((Value.slice a15 m c15).ownBlock ≠ some wr.heap.size) := Lib.hid fun e => by
                    have h1 := (HN7.out.own.lt wr.heap.size e).2
                    omega
                  clear hlm
                  go_wp2_with (at_builtin; refine append_int rfl _ _ rfl (q : Int) rfl rfl HRo.out hml2 HSo.out ?_; intro g9 cap9 w9 ho9 hg9 hat9; refine Hid.out ?_)
                  refine Lib.hid ?_
                  have HN9 : Hid (NodeInts wd w9 F7 R u' (.slice (some ⟨g9, 0, none⟩) ((asI asked).length + 1) cap9) (asI (asked ++ [q]))) := Lib.hid (HNo.out.grown hg9 (by rw [asI_snoc]; exact ho9) hat9)
                  have o0 : w9.cell? ⟨wr.heap.size, 0, none⟩ = some (.int .i64 q) := (World.cell?_of_block (w := wo) (a := ⟨wr.heap.size, 0, none⟩) (hg9.block wr.heap.size l8 (fun e => HBN.out e.symm))).trans o0
                  have l9 := (cell_spot o0).2
                  clear ho9 hg9 hat9 hml2
                  by_cases hqg : q = gd
                  · have HQG := Lib.hid hqg
                    have hqb : ((q : Int) == (gd : Int)) = true := by rw [hqg]; simp
                    clear hqg
                    obtain ⟨b0, b1, b2, b3⟩ := HBX.out.kept HN9.out.mine.below
                    have l10 := (cell_spot b0).2
                    simp only [rootD, List.length_nil] at b0 b1 b2 b3
                    obtain ⟨u8, hu8⟩ : ∃ u8, u'.bring gd (rootD k) = u8 := ⟨_, rfl⟩
                    have hth : u'.thereE gd = 0 := by
                      unfold NS.thereE
                      have := HGS.out
                      rw [if_pos ⟨by omega, by omega⟩, Int.toNat_natCast, if_pos (HPE'.out gd HGO.out)]
                    have HSB : Hid (u'.send gd B = (u8, [], 0)) := Lib.hid (by rw [← HBB.out, send_brought (root_check HK.out) hth, hu8])
                    have HAL : Hid (u'.A.length ≤ 2950000000000) := Lib.hid (by rw [HS'.out.A]; simp)
                    obtain ⟨t1, t2, t3, t4, t5⟩ := HS'.out.bring HX.out (root_judge HK.out) (root_accept HK.out) gd
                    rw [hu8] at t1 t2 t3 t4 t5
                    have HS8 : Hid (SilEnd x (rootD k) own gd (asked ++ [q]) (j + 1) u8) := Lib.hid (Or.inr ⟨⟨t1, t2, t3, t4, t5⟩, by rw [HQG.out]; simp, HM9.out⟩)
                    have HP8 : Hid (∀ p ∈ own, (u8.peers p).1 = true) := Lib.hid (by rw [← hu8, bring_peers]; exact HPE'.out)
                    clear t1 t2 t3 t4 t5 hu8 hth
                    go_wp2_with fail
                    with_reducible refine (HBR.out _).mono ?_
                    rintro e w10 ⟨rfl, hb10⟩
                    have HN10 := Lib.hid (HN9.out.kept hb10)
                    clear hb10 b0 b1 b2 b3
                    go_wp2_with fail
                    with_reducible refine (send_any gd B HBS.out HAL.out _ HSB.out _ HN10.out.mine.node).mono ?_
                    rintro e w11 ⟨v11, F11, rfl, ho11, h11, t11, _⟩
                    simp only at ho11 h11 ⊢
                    obtain ⟨a11', c11', rfl, _⟩ := outs_form ho11
                    have HN11 := Lib.hid (HN10.out.turned h11 t11)
                    clear ho11 h11 t11
                    go_wp2_with fail
                    go_roundw
                    case rel =>
                      repeat apply Exists.intro
                      apply And.intro
                      · exact Lib.hid (Or.inr ⟨rfl, F11, u8, HN11, HS8, HP8⟩)
                      · rw [show decide ((j : Int) < (n : Int) + 1) = true from decide_eq_true (by omega)]
                        repeat (first | exact rfl | apply And.intro)
                    case measure => simp [intOf]
                  · have hqb : ¬ (q : Int) = gd := by omega
                    have HS8 : Hid (SilEnd x (rootD k) own gd (asked ++ [q]) (j + 1) u') := Lib.hid (Or.inl ⟨HS'.out, by
                      rw [List.mem_append, List.mem_singleton]
                      exact fun h => h.elim HGA.out (fun e => hqg e.symm)⟩)
                    go_wp2_with fail
                    go_roundw
                    case rel =>
                      repeat apply Exists.intro
                      apply And.intro
                      · exact Lib.hid (Or.inr ⟨rfl, F7, u', HN9, HS8, HPE'⟩)
                      · repeat (first | exact rfl | apply And.intro)
                    case measure => simp [intOf]
                · go_wp2_with fail
                  go_roundw
                  case rel => exact ⟨j + 1, asked ++ [q], G8, u8, by omega, by go_num, HN8, HS8, HP8⟩
                  case measure => simp [intOf]; omega
            · obtain ⟨hps, hws⟩ := hs.pass (k := 10) (by decide) (by omega)
              obtain ⟨u4, hu4⟩ : ∃ u4 : NS, { u with now := u.now + 10 } = u4 := ⟨_, rfl⟩
              rw [hu4] at hps hws
              have HPS := Lib.hid hps
              have HS4 : Hid (SilEnd x (rootD k) own gd asked (j + 1) u4) := Lib.hid (Or.inr ⟨(show 10 * ((j + 1 : Nat) : Int) = 10 * (j : Int) + 10 by omega) ▸ hws, hga, hal⟩)
              have HFL := Lib.hid (fly_none hs.T)
              have HP4 : Hid (∀ p ∈ own, (u4.peers p).1 = true) := Lib.hid (hu4 ▸ HPEj.out)
              clear hps hws hu4 hs hga hal
              go_wp2_with fail
              with_reducible refine (wait_any 10 HFL.out _ HPS.out _ HN.out.mine.node).mono ?_
              rintro e w7 ⟨v7, F7, rfl, ho7, h7, t7, _⟩
              simp only at ho7 h7 ⊢
              obtain ⟨a7, c7, rfl, _⟩ := outs_form ho7
              have HN7 := Lib.hid (HN.out.turned h7 t7)
              obtain ⟨wC, hwC⟩ : ∃ x, x = wr := ⟨_, rfl⟩
              subst hwC
              clear ho7 h7 t7
              go_wp2_with fail
              go_loopw [15, 88] (fun v15 i wi => i = .int .i64 0 ∧ v15 = .slice a15 m c15 ∧ wi = w7) (fun _ _ _ => 0)
              case atStart => exact ⟨rfl, rfl, rfl⟩
              case round =>
                obtain ⟨rfl, rfl, rfl⟩ := hrel
                go_wp2_with fail
                go_roundw
                case rel => exact ⟨j + 1, asked, F7, u4, by omega, by go_num, HN7, HS4, HP4⟩
                case measure => simp [intOf]; omega
          · obtain rfl : j = n + 1 := by omega
            rcases HSTj.out with ⟨hs, hga⟩ | ⟨hs, hga, hal⟩
            · exfalso
              have h1 := nat_nodup_le hs.nodup hs.sub
              rw [hs.len, HNN.out] at h1
              omega
            · obtain ⟨a15, c15, rfl, hc15, hat15, _⟩ := owns_intsAt HN.out.own
              have HA15 := Lib.hid hat15
              have HAC : Hid ((asI asked).contains (gd : Int) = true) := Lib.hid (by rw [asI_contains, List.contains_iff_mem]; exact hga)
              have HL8 : Hid ((asI asked).length ≤ maxLen) := Lib.hid (by rw [asI_len]; omega)
              have HAE : Hid (u.A.map Ju.idD = [x]) := Lib.hid (by rw [hs.A, ← HX.out]; rfl)
              have H9 := Lib.hid HN.out.mine
              clear hs hga hal hat15
              obtain ⟨m, hm⟩ : ∃ m, (asI asked).length = m := ⟨_, rfl⟩
              have HMM := Lib.hid hm
              have HAL4 : Hid (u.A.length ≤ 2950000000000) := Lib.hid (by have := congrArg List.length HAE.out; rw [List.length_map] at this; simp only [List.length_cons, List.length_nil] at this; omega)
              rw [hm] at hc15 HL8 ⊢
              clear hm
              have H9d := Lib.hid (H9.out.kept ((Below.refl wr.heap.size wr).drew))
              obtain ⟨b0, b1, b2, b3⟩ := HBX.out.kept H9d.out.below
              have l10 := (cell_spot b0).2
              simp only [rootD, List.length_nil] at b0 b1 b2 b3
              have HT0 := Lib.hid (intsAt_kept ((Below.refl wr.heap.size wr).drew) HA15.out)
              go_wp2_with fail
              go_region_law (first
                | (go_simp; go_at_call 24; (with_reducible refine (accepted_is [x] 1 HAE.out rfl (by decide) _ H9d.out.node).mono ?_); rintro e w10 ⟨a10, c10, rfl, hat10, hb10⟩; have b0 := kept_cell hb10 b0; have b1 := kept_cell hb10 b1; have b2 := kept_cell hb10 b2; have b3 := kept_cell hb10 b3; have l10 := (cell_spot b0).2; have HA10 := Lib.hid hat10; have H10 := Lib.hid (H9d.out.kept hb10); have HT1 := Lib.hid (intsAt_kept hb10 HT0.out); clear hat10 hb10)
                | (go_simp; go_at_call 46; (with_reducible refine (HID.out _).mono ?_); rintro e w11 ⟨rfl, hb11⟩; have HA11' := Lib.hid (idsAt_kept (kept_trans hb11 (kept_new w11 (.cells #[.int .u64 x.toNat] 22))) HA10.out); have H11 := Lib.hid (H10.out.kept (kept_trans hb11 (kept_new w11 (.cells #[.int .u64 x.toNat] 22)))); have HT2 := Lib.hid (intsAt_kept (kept_trans hb11 (kept_new w11 (.cells #[.int .u64 x.toNat] 22))) HT1.out); have HIX := Lib.hid (ids_new w11 x); clear hb11)
                | (go_simp; go_at_call 33; (with_reducible refine (eqID_one x _ _ _ _ _ HA11'.out HIX.out).mono ?_); rintro e w12 ⟨rfl, rfl⟩)
                | (go_simp; go_at_call 48; (with_reducible refine (hasInt_len (asI asked) m HMM.out gd true HAC _ _ _ (by rw [HMM.out]; exact HL8.out) HT2.out).mono ?_); rintro e w13 ⟨rfl, rfl⟩))
              all_goals
                go_wp2_with fail
                go_ret
                exact ⟨rfl, kept_trans HBD.out H11.out.below⟩
end Go.Proofs.YtaaaplbjeknbkaaGreat
