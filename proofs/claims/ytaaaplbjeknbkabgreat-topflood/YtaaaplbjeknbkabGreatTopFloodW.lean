/-
  TopFlood: the walk.
-/
import Derived.Test.YtaaaplbjeknbkabGreatTopOnceW
import Derived.Test.YtaaaplbjeknbkabGreatFloodMath
set_option maxRecDepth 20000
namespace Go.Proofs.YtaaaplbjeknbkabGreat
open Go.RowKit Go.Maps

variable {w w' w0 : World} {F F' : Nat → Prop} {R b : Nat} {s u : NS} {q0 q1 : DeedH} {l0 l1 : DeedD}

theorem join0t (salt : UInt64) (w : World) (h : NodeAt w F R (NS.new salt)) : Calls Tryz.prog 9 #[.pointer (some ⟨R, 0, none⟩), .int .i64 0, .bool true] w (TurnsN w F R (.int .i64 0) ((NS.new salt).setPeer 0 (true, true))) := join_any 0 true _ (join_new salt 0 (by decide) true) w h
/-- The law's two deeds, in one block. -/
structure LL (w : World) (b : Nat) (q0 q1 : DeedH) : Prop where
  a0 : w.cell? ⟨b, 0, none⟩ = some (.slice q0.ia q0.d.ins.length q0.ic)
  a1 : w.cell? ⟨b, 1, none⟩ = some (.int .i64 q0.d.outs)
  a2 : w.cell? ⟨b, 2, none⟩ = some (.int .i64 q0.d.weight)
  a3 : w.cell? ⟨b, 3, none⟩ = some (.int .i64 q0.d.fee)
  b0 : w.cell? ⟨b, 4, none⟩ = some (.slice q1.ia q1.d.ins.length q1.ic)
  b1 : w.cell? ⟨b, 5, none⟩ = some (.int .i64 q1.d.outs)
  b2 : w.cell? ⟨b, 6, none⟩ = some (.int .i64 q1.d.weight)
  b3 : w.cell? ⟨b, 7, none⟩ = some (.int .i64 q1.d.fee)
  i0 : InsAt w q0.ia q0.d.ins
  i1 : InsAt w q1.ia q1.d.ins
theorem LL.kept (h : LL w b q0 q1) (hb : Below w.heap.size w w') : LL w' b q0 q1 :=
  ⟨kept_cell hb h.a0, kept_cell hb h.a1, kept_cell hb h.a2, kept_cell hb h.a3, kept_cell hb h.b0, kept_cell hb h.b1, kept_cell hb h.b2, kept_cell hb h.b3, insAt_kept hb h.i0, insAt_kept hb h.i1⟩
theorem ll_of {v : Value} {C : Nat} (h : Deeds w C v [q0, q1]) : ∃ g cap, v = .slice (some ⟨g, 0, none⟩) 2 cap ∧ LL w g q0 q1 := by
  obtain ⟨av, cv, hv, _, hat, _⟩ := h.form
  rcases h.row.2 with ⟨_, hn⟩ | ⟨g, cap, cur, hv2, _⟩
  · simp at hn
  · rw [hv2] at hv
    simp only [Value.slice.injEq] at hv
    obtain ⟨rfl, _, _⟩ := hv
    refine ⟨g, cap, hv2, ?_⟩
    obtain ⟨⟨b, o, e, _, a0, a1, a2, a3⟩, i0, _⟩ := hat 0 (by simp)
    cases e
    obtain ⟨⟨b, o, e, _, b0, b1, b2, b3⟩, i1, _⟩ := hat 1 (by simp)
    cases e
    exact ⟨a0, a1, a2, a3, b0, b1, b2, b3, i0, i1⟩
theorem FloodS.join (h : FloodS l0 l1 u) (p : Int) (f : Bool) : FloodS l0 l1 (u.join p f).1 := by
  unfold NS.join
  split
  · exact h
  · split
    · exact h
    · exact ⟨h.A, h.P, h.W⟩
theorem there_join {p : Int} {f : Bool} (h : u.thereE (0 : Nat) = 0) : (u.join p f).1.thereE (0 : Nat) = 0 := by
  unfold NS.join
  split
  · exact h
  · split
    · exact h
    · unfold NS.thereE NS.setPeer at *
      by_cases hp : (0 : Nat) = p.toNat
      · simp [← hp]
      · simpa [hp] using h
theorem there_bring {p : Nat} {d : DeedD} (h : u.thereE (0 : Nat) = 0) : (u.bring p d).thereE (0 : Nat) = 0 := by unfold NS.thereE at *; rw [bring_peers]; exact h
theorem tid_rd {v : UInt64} {k wt f : Int} (hc : checkD ⟨[(v, k)], 1, wt, f⟩ = 0) (a : Option Addr) (x : UInt64) (hx : Ju.idD ⟨[(v, k)], 1, wt, f⟩ = x) (w : World) (hi : InsAt w a [(v, k)]) : Calls Tryz.prog 13 #[.agg #[.slice a 1 1, .int .i64 1, .int .i64 wt, .int .i64 f]] w fun e w' => e = .returned (.int .u64 x.toNat) ∧ Below w.heap.size w w' :=
  tidOf_any ⟨[(v, k)], 1, wt, f⟩ hc a 1 x hx w hi
theorem tbring_rd {v : UInt64} {k wt f : Int} (hc : checkD ⟨[(v, k)], 1, wt, f⟩ = 0) (a : Option Addr) (B : ByteArray) (hB : bringB ⟨[(v, k)], 1, wt, f⟩ = B) (w : World) (hi : InsAt w a [(v, k)]) : Calls Tryz.prog 12 #[.agg #[.slice a 1 1, .int .i64 1, .int .i64 wt, .int .i64 f]] w fun e w' => e = .returned (.string B) ∧ Below w.heap.size w w' :=
  tbringB_any ⟨[(v, k)], 1, wt, f⟩ hc a 1 B hB w hi
theorem orphans_at (L : List UInt64) (n : Nat) (hL : Ho.allL s.P = L) (hn : L.length = n) (w : World) (h : NodeAt w F R s) : Calls Tryz.prog 20 #[.pointer (some ⟨R, 0, none⟩)] w fun e w' => ∃ a c, e = .returned (.slice a n c) ∧ IdsAt w' a L ∧ Below w.heap.size w w' := by
  refine (orphans_any w h).mono ?_
  rintro e w' ⟨a, c, rfl, ho, hb⟩
  obtain ⟨a', c', e', _, hat, _⟩ := owns_idsAt ho
  simp only [Value.slice.injEq, true_and] at e'
  obtain ⟨rfl, rfl⟩ := e'
  refine ⟨a, c, ?_, hL ▸ hat, hb⟩
  rw [hL, hn]
theorem hasID_at (l : List UInt64) (n : Nat) (hn : l.length = n) (x : UInt64) (r : Bool) (HR : Hid (l.contains x = r)) (a : Option Addr) (cap : Nat) (w : World) (hl : l.length ≤ maxLen) (hi : IdsAt w a l) : Calls Tryz.prog 19 #[.slice a n cap, .int .u64 x.toNat] w fun e w' => e = .returned (.bool r) ∧ w = w' := by
  subst hn
  exact hasID_any l x r HR a cap w hl hi
theorem eqID_two (x c : UInt64) (a b : Option Addr) (ca cb : Nat) (w : World) (ha : IdsAt w a [x, c]) (hb : IdsAt w b [x, c]) : Calls Tryz.prog 14 #[.slice a 2 ca, .slice b 2 cb] w fun e w' => e = .returned (.bool true) ∧ w = w' :=
  eqID_is [x, c] [x, c] a b ca cb w true (by show 2 ≤ maxLen; unfold maxLen; omega) ha hb (by simp)
theorem ids_pair (w : World) (x c : UInt64) : IdsAt (w.alloc (.cells #[.int .u64 x.toNat, .int .u64 c.toNat] 22)) (some ⟨w.heap.size, 0, none⟩) [x, c] := fun i hi => by
  match i, hi with
  | 0, _ => exact ⟨_, _, rfl, by simp, by simp [go_sem]⟩
  | 1, _ => exact ⟨_, _, rfl, by simp, by simp [go_sem]⟩
theorem u64_next_of {j : Nat} (h : j < 60) : ∃ v : UInt64, (j : Int) + 1 = v.toNat := ⟨UInt64.ofNat (j + 1), by rw [UInt64.toNat_ofNat']; omega⟩
theorem u64_eq {x y : UInt64} : ((x.toNat : Int) == y.toNat) = (x == y) := by
  rw [Bool.eq_iff_iff, beq_iff_eq, beq_iff_eq]
  constructor
  · intro h; exact UInt64.toNat_inj.1 (by omega)
  · intro h; rw [h]
theorem apart_two (q0 q1 : DeedH) (a : Option Addr) (cap : Nat) (hck : ∀ q ∈ [q0, q1], checkD q.d = 0) (w : World) (hi : DeedsAt w a [q0, q1]) (r : Bool) (hr : decide ((([q0, q1] : List DeedH).map fun q => Ju.idD q.d).Nodup) = r) :
    Calls Tryz.prog 10 #[.slice a 2 cap] w fun e w' => e = .returned (.bool r) ∧ Below w.heap.size w w' := apart_any [q0, q1] a cap (by simp) hck w hi r hr
set_option maxRecDepth 20000 in
set_option maxHeartbeats 8000000 in
theorem topFlood_walk (salt : UInt64) (fee : Int) (lp : List Int) (ap : Option Addr) (cp : Nat) (hcap : lp.length ≤ cp) (_hf : -9223372036854775808 ≤ fee ∧ fee ≤ 9223372036854775807) (_hlp : lp.length ≤ maxLen) (w : World) (hip : Tr.IntsAt w ap lp) : Calls Tryz.prog 4 #[.int .u64 salt.toNat, .int .i64 fee, .slice ap lp.length cp] w fun e w' => e = .returned (.bool true) ∧ Below w.heap.size w w' := by
  have HIP := Lib.hid hip
  have hml : maxLen = 9223372036854775807 := rfl
  clear hip
  go_enter Tryz.func4, Tryz.ntmps4
  go_wp2_with fail
  with_reducible refine (works_any _).mono ?_
  rintro e w1 ⟨rfl, hb1⟩
  have hk1 := kept_new w1 (.cells #[.int .i64 fee, .int .i64 fee] 3)
  have HB1 := Lib.hid (kept_trans hb1 hk1)
  have HI1 : Hid (Tr.IntsAt (w1.alloc (.cells #[.int .i64 fee, .int .i64 fee] 3)) (some ⟨w1.heap.size, 0, none⟩) [fee, fee]) := Lib.hid fun i hi => by
    match i, hi with
    | 0, _ => exact ⟨_, _, rfl, by simp, by simp [go_sem]⟩
    | 1, _ => exact ⟨_, _, rfl, by simp, by simp [go_sem]⟩
  clear hb1 hk1
  go_wp2_with fail
  with_reducible refine (chained_is [fee, fee] 2 _ 2 rfl (by decide) _ HI1.out).mono ?_
  rintro e w2 ⟨v2, H, rfl, hd2, hm2, hb2⟩
  obtain ⟨q0, q1, rfl⟩ : ∃ q0 q1, H = [q0, q1] := by
    have hl := congrArg List.length hm2
    rw [List.length_map, chainD_length] at hl
    match H, hl with
    | [a, b], _ => exact ⟨a, b, rfl⟩
  obtain ⟨g, cap, rfl, hll⟩ := ll_of hd2
  have HGF : Hid (ChainF [q0.d, q1.d]) := Lib.hid (by
    have h1 : [q0.d, q1.d] = chainD [fee, fee] := hm2
    rw [h1]
    exact chainD_good _)
  have hat2 : DeedsAt w2 (some ⟨g, 0, none⟩) [q0, q1] := by
    obtain ⟨a', c', e', _, hat, _⟩ := hd2.form
    simp only [Value.slice.injEq] at e'
    obtain ⟨rfl, _, _⟩ := e'
    exact hat
  have HAT2 := Lib.hid hat2
  have HLL := Lib.hid hll
  have HC0 : Hid (checkD q0.d = 0) := Lib.hid (HGF.out.fine 0 (by simp))
  have HC1 : Hid (checkD q1.d = 0) := Lib.hid (HGF.out.fine 1 (by simp))
  have HB2 := Lib.hid (kept_trans HB1.out hb2)
  clear hd2 hm2 hb2 hll hat2
  go_wp2_with fail
  with_reducible refine (mine_new salt _ (Below.refl _ _)).mono ?_
  rintro e w3 ⟨R, F, rfl, h3, _, _⟩
  have H3 := Lib.hid h3
  clear h3
  go_wp2_with fail
  with_reducible refine (join0t salt _ H3.out.node).mono ?_
  rintro e w4 ⟨rfl, F4, h4, t4⟩
  have H4 := Lib.hid (H3.out.turned h4 t4)
  have HAT4 := Lib.hid (deedsAt_kept H4.out.below HAT2.out)
  clear h4 t4
  obtain ⟨r, hr⟩ : ∃ r, decide ((([q0, q1] : List DeedH).map fun q => Ju.idD q.d).Nodup) = r := ⟨_, rfl⟩
  have HR := Lib.hid hr
  have HCK : Hid (∀ q ∈ [q0, q1], checkD q.d = 0) := Lib.hid fun q hq => by
    rcases List.mem_cons.1 hq with rfl | hq
    · exact HC0.out
    · rw [List.mem_singleton.1 hq]; exact HC1.out
  clear hr
  go_wp2_with fail
  with_reducible refine (apart_two q0 q1 (some ⟨g, 0, none⟩) cap HCK.out _ HAT4.out r HR.out).mono ?_
  rintro e w5 ⟨rfl, hb5⟩
  have H5 := Lib.hid (H4.out.kept hb5)
  clear hb5
  cases r with
  | false =>
    go_wp2_with fail
    go_ret
    exact ⟨rfl, kept_trans HB2.out H5.out.below⟩
  | true =>
    have HCH : Hid (Chain [q0.d, q1.d]) := Lib.hid (chain_of HGF.out (of_decide_eq_true HR.out))
    obtain ⟨u0, hu0⟩ : ∃ u0, (NS.new salt).setPeer 0 (true, true) = u0 := ⟨_, rfl⟩
    obtain ⟨B1, hB1⟩ : ∃ B, bringB q1.d = B := ⟨_, rfl⟩
    obtain ⟨u1, hu1⟩ : ∃ u1, u0.bring 0 q1.d = u1 := ⟨_, rfl⟩
    have ht0 : u0.thereE (0 : Nat) = 0 := hu0 ▸ new_there salt 0 (by decide) true
    have HS1 : Hid (FloodS q0.d q1.d u1) := Lib.hid (hu1 ▸ hu0 ▸ flood_start rfl rfl rfl HCH.out)
    have HT1 : Hid (u1.thereE (0 : Nat) = 0) := Lib.hid (hu1 ▸ there_bring ht0)
    have HSD1 : Hid (u0.send (0 : Nat) B1 = (u1, [], 0)) := Lib.hid (by rw [← hB1, ← hu1]; exact send_brought HC1.out ht0)
    have HBS1 : Hid (B1.size ≤ maxLen) := Lib.hid (by rw [← hB1]; exact bring_small HC1.out)
    have HL0 : Hid (u0.A.length ≤ 2950000000000) := Lib.hid (by rw [← hu0]; exact Nat.zero_le _)
    have HBB1 := Lib.hid hB1
    rw [hu0] at H5
    obtain ⟨_, _, _, _, b0, b1, b2, b3, _, i1⟩ := HLL.out.kept H5.out.below
    have HI5 := Lib.hid i1
    have lb := (cell_spot b0).2
    clear hu0 hB1 hu1 ht0 i1
    go_wp2_with fail
    with_reducible refine (tbringB_any q1.d HC1.out q1.ia q1.ic B1 HBB1.out _ HI5.out).mono ?_
    rintro e w6 ⟨rfl, hb6⟩
    have H6 := Lib.hid (H5.out.kept hb6)
    clear hb6 b0 b1 b2 b3 lb
    go_wp2_with fail
    with_reducible refine (send_any 0 B1 HBS1.out HL0.out _ HSD1.out _ H6.out.node).mono ?_
    rintro e w7 ⟨v7, F7, rfl, ho7, h7, t7, _⟩
    simp only at ho7 h7 ⊢
    obtain ⟨a7, c7, rfl, _⟩ := outs_form ho7
    simp only [List.length_nil]
    have H7 := Lib.hid (H6.out.turned h7 t7)
    clear ho7 h7 t7
    obtain ⟨l', hl'⟩ : ∃ l', lp.take 60 = l' := ⟨_, rfl⟩
    have HI7 : Hid (Tr.IntsAt w ap l') := Lib.hid (hl' ▸ Tr.intsAt_take 60 HIP.out)
    have hll : l'.length ≤ 60 := by rw [← hl', List.length_take]; omega
    obtain ⟨m, hm⟩ : ∃ m, l'.length = m := ⟨_, rfl⟩
    have HML := Lib.hid hm
    have hmm : (if (60 : Int) < lp.length then (60 : Int) else lp.length) = m := by
      rw [← hm, ← hl', List.length_take]
      split <;> omega
    have hmc : (m : Int) ≤ cp := by rw [← hm, ← hl', List.length_take]; omega
    clear hl' hm
    go_wp2_with fail
    clear hmm hmc
    have hm60 : m ≤ 60 := by rw [← HML.out]; exact hll
    go_loopw [50] (fun i wr => ∃ (j : Nat) (G : Nat → Prop) (u : NS), j ≤ m ∧ i = .int .i64 j ∧ Hid (Mine w2 wr G R u) ∧ Hid (FloodS q0.d q1.d u) ∧ Hid (u.thereE (0 : Nat) = 0)) (fun i _ => m - (intOf i).toNat)
    case atStart => exact ⟨0, F7, u1, Nat.zero_le _, rfl, H7, HS1, HT1⟩
    case round =>
      obtain ⟨j, G, u, hj, rfl, H8, HS8, HT8⟩ := hrel
      by_cases hjm : j < m
      · obtain ⟨bb, o, rfl, hb, c0⟩ := HI7.out j (by rw [HML.out]; exact hjm)
        obtain ⟨f, hf⟩ : ∃ f, l'[j]'(by rw [HML.out]; exact hjm) = f := ⟨_, rfl⟩
        rw [hf] at c0
        have k0 := cell_later (kept_trans HB2.out H8.out.below) c0
        have l5 := (cell_spot k0).2
        obtain ⟨r, hr⟩ : ∃ r : Nat, f % 7 = r := ⟨(f % 7).toNat, by omega⟩
        have hr7 : r < 7 := by omega
        have HRR := Lib.hid hr
        clear hf c0 hr
        go_wp2_with fail
        with_reducible refine (rest_is f 7 r _ (by decide) (by decide) HRR.out).mono ?_
        rintro e w13 ⟨rfl, rfl⟩
        go_wp2_with fail
        obtain ⟨P, hP, hP8, hP0⟩ : ∃ P : Nat, (1 : Int) + r = P ∧ P < 8 ∧ P ≠ 0 := ⟨1 + r, by omega, by omega, by omega⟩
        rw [hP]
        clear hP HRR hr7
        obtain ⟨u3, hu3⟩ : ∃ u3, (u.join P false).1 = u3 := ⟨_, rfl⟩
        obtain ⟨r3, hr3⟩ : ∃ r3, (u.join P false).2 = r3 := ⟨_, rfl⟩
        have HJ : Hid (u.join P false = (u3, r3)) := Lib.hid (by rw [← hu3, ← hr3])
        have HS3 : Hid (FloodS q0.d q1.d u3) := Lib.hid (hu3 ▸ HS8.out.join P false)
        have HT3 : Hid (u3.thereE (0 : Nat) = 0) := Lib.hid (hu3 ▸ there_join HT8.out)
        have HP3 : Hid (u3.thereE P = 0) := Lib.hid (hu3 ▸ join_there u P hP8 false)
        clear hu3 hr3
        with_reducible refine (join_any P false _ HJ.out _ H8.out.node).mono ?_
        rintro e w14 ⟨rfl, F14, h14, t14⟩
        simp only at h14 ⊢
        have H14 := Lib.hid (H8.out.turned h14 t14)
        clear h14 t14
        go_wp2_with fail
        obtain ⟨W, hW⟩ : ∃ W, wrap64 (f.tdiv 7) = W := ⟨_, rfl⟩
        obtain ⟨v, hv⟩ := u64_next_of (j := j) (by omega)
        obtain ⟨k, hk⟩ : ∃ k : Int, (j : Int) % 3 = k := ⟨_, rfl⟩
        obtain ⟨z, hz⟩ : ∃ z : Int, W % 1000 = z := ⟨_, rfl⟩
        have hz1 : 0 ≤ z ∧ z < 1000 := by omega
        have hk1 : 0 ≤ k ∧ k ≤ 2 := by omega
        obtain ⟨I, hI⟩ : ∃ I, w14.heap.size = I := ⟨_, rfl⟩
        obtain ⟨wI, hwI⟩ : ∃ wI, w14.alloc (.cells #[.int .u64 v.toNat, .int .i64 k] 50) = wI := ⟨_, rfl⟩
        rw [hW, hv, hk, hwI, hI]
        have HZ := Lib.hid hz
        have HV := Lib.hid hv
        clear hW hk hz
        obtain ⟨D, hD⟩ : ∃ D, wI.heap.size = D := ⟨_, rfl⟩
        obtain ⟨wd, hwd⟩ : ∃ wd, wI.alloc (.cells #[.slice (some ⟨I, 0, none⟩) 1 1, .int .i64 1, .int .i64 (1 + z), .int .i64 j] 35) = wd := ⟨_, rfl⟩
        have hsI : wI.heap.size = w14.heap.size + 1 := by rw [← hwI]; simp
        have hld := lawDeed_one (w := w14) H14.out.node.there v k ⟨by omega, by omega⟩ 1 (1 + z) j
        rw [hwI, ← hsI, hI, hwd, hD] at hld
        have hbd : Below w14.heap.size w14 wd := kept_trans (hwI ▸ kept_new _ _) (hwd ▸ kept_new _ _)
        have HLD := Lib.hid hld
        have HCD : Hid (checkD ⟨[(v, k)], 1, 1 + z, j⟩ = 0) := Lib.hid (flood_check v hk1 ⟨by omega, by omega⟩ ⟨by omega, by omega⟩)
        have H15 := Lib.hid (H14.out.kept hbd)
        obtain ⟨x, hx⟩ : ∃ x, Ju.idD ⟨[(v, k)], 1, 1 + z, j⟩ = x := ⟨_, rfl⟩
        obtain ⟨x0, hx0⟩ : ∃ x, Ju.idD q0.d = x := ⟨_, rfl⟩
        obtain ⟨x1, hx1⟩ : ∃ x, Ju.idD q1.d = x := ⟨_, rfl⟩
        have HX := Lib.hid hx
        have HX0 := Lib.hid hx0
        have HX1 := Lib.hid hx1
        obtain ⟨c, hc⟩ : ∃ c, ((x == x0) || (x == x1) || (x0 == v) || (x1 == v)) = c := ⟨_, rfl⟩
        have HC := Lib.hid hc
        clear hv hx hx0 hx1 hc hsI hld hbd
        obtain ⟨hz1, hz2⟩ := hz1
        with_reducible refine (rest_is W 1000 z _ (by decide) (by decide) HZ.out).mono ?_
        rintro e w16 ⟨rfl, rfl⟩
        go_upto_region 18 with fail
        obtain ⟨d0, d1, d2, d3⟩ := HLD.out.box
        simp only [List.length_cons, List.length_nil, Nat.zero_add] at d0 d1 d2 d3
        obtain ⟨a0, a1, a2, a3, b0, b1, b2, b3, i0, i1⟩ := HLL.out.kept H15.out.below
        have ld := (cell_spot d0).2
        have la := (cell_spot a0).2
        have HI0 := Lib.hid i0
        have HI1' := Lib.hid i1
        clear i0 i1
        have hdr := (Below.refl wd.heap.size wd).drew
        have d0 := kept_cell hdr d0
        have d1 := kept_cell hdr d1
        have d2 := kept_cell hdr d2
        have d3 := kept_cell hdr d3
        have a0 := kept_cell hdr a0
        have a1 := kept_cell hdr a1
        have a2 := kept_cell hdr a2
        have a3 := kept_cell hdr a3
        have b0 := kept_cell hdr b0
        have b1 := kept_cell hdr b1
        have b2 := kept_cell hdr b2
        have b3 := kept_cell hdr b3
        have ld := (cell_spot d0).2
        have la := (cell_spot a0).2
        go_cut [109] from 74 to 109 (fun v wx => v = .bool c ∧ Hid (Below wd.heap.size wd wx))
        case first =>
          have h1 : ((x.toNat : Int) == x0.toNat) = (x == x0) := u64_eq
          have h2 : ((x.toNat : Int) == x1.toNat) = (x == x1) := u64_eq
          have h3 : ((x0.toNat : Int) == (j : Int) + 1) = (x0 == v) := by rw [HV.out]; exact u64_eq
          have h4 : ((x1.toNat : Int) == (j : Int) + 1) = (x1 == v) := by rw [HV.out]; exact u64_eq
          have hwj : IntKind.u64.wrap (j : Int) = j := by rw [IntKind.wrap_u64]; omega
          have hwj1 : IntKind.u64.wrap ((j : Int) + 1) = (j : Int) + 1 := by rw [IntKind.wrap_u64]; omega
          have hv2 : (j : Int) + 1 = v.toNat := HV.out
          by_cases e1 : x = x0
          case pos =>
            have HCE : Hid (c = true) := Lib.hid (by rw [← HC.out, e1]; simp)
            clear h1 h2 h3 h4 hv2
            subst e1
            refine wp_region_held_drew (S := fun w' => w'.cell? ⟨D, 0, none⟩ = some (.slice (some ⟨I, 0, none⟩) 1 1) ∧ w'.cell? ⟨D, 1, none⟩ = some (.int .i64 1) ∧ w'.cell? ⟨D, 2, none⟩ = some (.int .i64 (1 + z)) ∧ w'.cell? ⟨D, 3, none⟩ = some (.int .i64 j) ∧ w'.cell? ⟨g, 0, none⟩ = some (.slice q0.ia q0.d.ins.length q0.ic) ∧ w'.cell? ⟨g, 1, none⟩ = some (.int .i64 q0.d.outs) ∧ w'.cell? ⟨g, 2, none⟩ = some (.int .i64 q0.d.weight) ∧ w'.cell? ⟨g, 3, none⟩ = some (.int .i64 q0.d.fee) ∧ w'.cell? ⟨g, 4, none⟩ = some (.slice q1.ia q1.d.ins.length q1.ic) ∧ w'.cell? ⟨g, 5, none⟩ = some (.int .i64 q1.d.outs) ∧ w'.cell? ⟨g, 6, none⟩ = some (.int .i64 q1.d.weight) ∧ w'.cell? ⟨g, 7, none⟩ = some (.int .i64 q1.d.fee)) (by kernel_rfl) ⟨d0, d1, d2, d3, a0, a1, a2, a3, b0, b1, b2, b3⟩ (fun hHeld => ?_)
            (try simp only [Act.put, List.setIfInBounds_toArray, List.set_cons_zero, List.set_cons_succ])
            refine wpAnyH_take (i := 0) (oi := ⟨some 74, _, _, _, _, _⟩) (v := ?_) rfl (by kernel_rfl) (by kernel_rfl) (by decide +kernel) (fun _ _ _ h => h) (Or.inl ⟨by rfl, fun w hSw => ?_⟩) (by assumption) ?_
            rotate_left 1
            next => ((try dsimp only at hSw); go_simp; first | done | with_reducible rfl)
            (try simp only [Act.put, List.setIfInBounds_toArray, List.set_cons_zero, List.set_cons_succ])
            refine wpAnyH_take (i := 2) (oi := ⟨some 76, _, _, _, _, _⟩) (v := ?_) rfl (by kernel_rfl) (by kernel_rfl) (by decide +kernel) (fun _ _ _ h => h) (Or.inl ⟨by rfl, fun w hSw => ?_⟩) (by assumption) ?_
            rotate_left 1
            next => ((try dsimp only at hSw); go_simp; first | done | with_reducible rfl)
            (try simp only [Act.put, List.setIfInBounds_toArray, List.set_cons_zero, List.set_cons_succ])
            refine wpAnyH_take (i := 3) (oi := ⟨some 77, _, _, _, _, _⟩) (v := ?_) rfl (by kernel_rfl) (by kernel_rfl) (by decide +kernel) (fun _ _ _ h => h) (Or.inl ⟨by rfl, fun w hSw => ?_⟩) (by assumption) ?_
            rotate_left 1
            next => ((try dsimp only at hSw); go_simp; first | done | with_reducible rfl)
            (try simp only [Act.put, List.setIfInBounds_toArray, List.set_cons_zero, List.set_cons_succ])
            refine wpAnyH_take (i := 4) (oi := ⟨some 78, _, _, _, _, _⟩) (v := ?_) rfl (by kernel_rfl) (by kernel_rfl) (by decide +kernel) (fun _ _ _ h => h) (Or.inl ⟨by rfl, fun w hSw => ?_⟩) (by assumption) ?_
            rotate_left 1
            next => ((try dsimp only at hSw); go_simp; first | done | with_reducible rfl)
            (try simp only [Act.put, List.setIfInBounds_toArray, List.set_cons_zero, List.set_cons_succ])
            refine wpAnyH_ready (rs := [1]) (by kernel_rfl) (by simp) ?_
            refine AllReadyH.cons (o := _) rfl (fun K hK => ?_) AllReadyH.nil
            go_simp
            go_at_call 13; (with_reducible refine (tid_rd HCD.out _ _ HX.out _ (insAt_kept hdr HLD.out.ins)).mono ?_); rintro e w31 ⟨rfl, hb⟩
            have d0 := kept_cell hb d0; have d1 := kept_cell hb d1; have d2 := kept_cell hb d2; have d3 := kept_cell hb d3; have a0 := kept_cell hb a0; have a1 := kept_cell hb a1; have a2 := kept_cell hb a2; have a3 := kept_cell hb a3; have b0 := kept_cell hb b0; have b1 := kept_cell hb b1; have b2 := kept_cell hb b2; have b3 := kept_cell hb b3
            have HBw31 := Lib.hid (kept_trans hdr hb)
            clear hb
            go_wp2_with fail
            refine hK.out _ _ ⟨d0, d1, d2, d3, a0, a1, a2, a3, b0, b1, b2, b3⟩ (fun hHeld => ?_)
            clear hK K
            (try simp only [Act.put, List.setIfInBounds_toArray, List.set_cons_zero, List.set_cons_succ])
            refine wpAnyH_ready (rs := [5]) (by kernel_rfl) (by simp) ?_
            refine AllReadyH.cons (o := _) rfl (fun K hK => ?_) AllReadyH.nil
            go_simp
            go_at_call 13; (with_reducible refine (tidOf_any q0.d HC0.out q0.ia q0.ic _ HX0.out _ (insAt_kept HBw31.out HI0.out)).mono ?_); rintro e w32 ⟨rfl, hb⟩
            have d0 := kept_cell hb d0; have d1 := kept_cell hb d1; have d2 := kept_cell hb d2; have d3 := kept_cell hb d3; have a0 := kept_cell hb a0; have a1 := kept_cell hb a1; have a2 := kept_cell hb a2; have a3 := kept_cell hb a3; have b0 := kept_cell hb b0; have b1 := kept_cell hb b1; have b2 := kept_cell hb b2; have b3 := kept_cell hb b3
            have HBw32 := Lib.hid (kept_trans HBw31.out hb)
            clear hb
            go_wp2_with fail
            refine hK.out _ _ ⟨d0, d1, d2, d3, a0, a1, a2, a3, b0, b1, b2, b3⟩ (fun hHeld => ?_)
            clear hK K
            (try simp only [Act.put, List.setIfInBounds_toArray, List.set_cons_zero, List.set_cons_succ])
            refine wpAnyH_take (i := 6) (oi := ⟨some 80, _, _, _, _, _⟩) (v := .bool true) rfl (by kernel_rfl) (by kernel_rfl) (by decide +kernel) (fun _ _ _ h => h) (Or.inl ⟨by rfl, fun w hSw => ?_⟩) (by assumption) ?_
            next => ((try dsimp only at hSw); go_simp; first | done | with_reducible rfl)
            (try simp only [Act.put, List.setIfInBounds_toArray, List.set_cons_zero, List.set_cons_succ])
            refine wpAnyH_take (i := 7) (oi := ⟨some 81, _, _, _, _, _⟩) (v := ?_) rfl (by kernel_rfl) (by kernel_rfl) (by decide +kernel) (fun _ _ _ h => h) (Or.inl ⟨by rfl, fun w hSw => ?_⟩) (by assumption) ?_
            rotate_left 1
            next => ((try dsimp only at hSw); go_simp; first | done | with_reducible rfl)
            (try simp only [Act.put, List.setIfInBounds_toArray, List.set_cons_zero, List.set_cons_succ])
            refine wpAnyH_take (i := 8) (oi := ⟨some 82, _, _, _, _, _⟩) (v := undef) rfl (by kernel_rfl) (by kernel_rfl) (by decide +kernel) (fun _ _ _ h => h) (Or.inr ⟨by rfl, rfl⟩) (by assumption) ?_
            (try simp only [Act.put, List.setIfInBounds_toArray, List.set_cons_zero, List.set_cons_succ])
            refine wpAnyH_take (i := 9) (oi := ⟨some 83, _, _, _, _, _⟩) (v := undef) rfl (by kernel_rfl) (by kernel_rfl) (by decide +kernel) (fun _ _ _ h => h) (Or.inr ⟨by rfl, rfl⟩) (by assumption) ?_
            (try simp only [Act.put, List.setIfInBounds_toArray, List.set_cons_zero, List.set_cons_succ])
            refine wpAnyH_take (i := 10) (oi := ⟨some 84, _, _, _, _, _⟩) (v := undef) rfl (by kernel_rfl) (by kernel_rfl) (by decide +kernel) (fun _ _ _ h => h) (Or.inr ⟨by rfl, rfl⟩) (by assumption) ?_
            (try simp only [Act.put, List.setIfInBounds_toArray, List.set_cons_zero, List.set_cons_succ])
            refine wpAnyH_take (i := 11) (oi := ⟨some 85, _, _, _, _, _⟩) (v := undef) rfl (by kernel_rfl) (by kernel_rfl) (by decide +kernel) (fun _ _ _ h => h) (Or.inr ⟨by rfl, rfl⟩) (by assumption) ?_
            (try simp only [Act.put, List.setIfInBounds_toArray, List.set_cons_zero, List.set_cons_succ])
            refine wpAnyH_take (i := 12) (oi := ⟨some 86, _, _, _, _, _⟩) (v := undef) rfl (by kernel_rfl) (by kernel_rfl) (by decide +kernel) (fun _ _ _ h => h) (Or.inr ⟨by rfl, rfl⟩) (by assumption) ?_
            (try simp only [Act.put, List.setIfInBounds_toArray, List.set_cons_zero, List.set_cons_succ])
            refine wpAnyH_take (i := 13) (oi := ⟨some 87, _, _, _, _, _⟩) (v := undef) rfl (by kernel_rfl) (by kernel_rfl) (by decide +kernel) (fun _ _ _ h => h) (Or.inr ⟨by rfl, rfl⟩) (by assumption) ?_
            (try simp only [Act.put, List.setIfInBounds_toArray, List.set_cons_zero, List.set_cons_succ])
            refine wpAnyH_take (i := 14) (oi := ⟨some 88, _, _, _, _, _⟩) (v := undef) rfl (by kernel_rfl) (by kernel_rfl) (by decide +kernel) (fun _ _ _ h => h) (Or.inr ⟨by rfl, rfl⟩) (by assumption) ?_
            (try simp only [Act.put, List.setIfInBounds_toArray, List.set_cons_zero, List.set_cons_succ])
            refine wpAnyH_take (i := 15) (oi := ⟨some 89, _, _, _, _, _⟩) (v := ?_) rfl (by kernel_rfl) (by kernel_rfl) (by decide +kernel) (fun _ _ _ h => h) (Or.inl ⟨by rfl, fun w hSw => ?_⟩) (by assumption) ?_
            rotate_left 1
            next => ((try dsimp only at hSw); go_simp; first | done | with_reducible rfl)
            (try simp only [Act.put, List.setIfInBounds_toArray, List.set_cons_zero, List.set_cons_succ])
            refine wpAnyH_take (i := 16) (oi := ⟨some 90, _, _, _, _, _⟩) (v := ?_) rfl (by kernel_rfl) (by kernel_rfl) (by decide +kernel) (fun _ _ _ h => h) (Or.inl ⟨by rfl, fun w hSw => ?_⟩) (by assumption) ?_
            rotate_left 1
            next => ((try dsimp only at hSw); go_simp; first | done | with_reducible rfl)
            (try simp only [Act.put, List.setIfInBounds_toArray, List.set_cons_zero, List.set_cons_succ])
            refine wpAnyH_take (i := 17) (oi := ⟨some 91, _, _, _, _, _⟩) (v := undef) rfl (by kernel_rfl) (by kernel_rfl) (by decide +kernel) (fun _ _ _ h => h) (Or.inr ⟨by rfl, rfl⟩) (by assumption) ?_
            (try simp only [Act.put, List.setIfInBounds_toArray, List.set_cons_zero, List.set_cons_succ])
            refine wpAnyH_take (i := 18) (oi := ⟨some 92, _, _, _, _, _⟩) (v := undef) rfl (by kernel_rfl) (by kernel_rfl) (by decide +kernel) (fun _ _ _ h => h) (Or.inr ⟨by rfl, rfl⟩) (by assumption) ?_
            (try simp only [Act.put, List.setIfInBounds_toArray, List.set_cons_zero, List.set_cons_succ])
            refine wpAnyH_take (i := 19) (oi := ⟨some 93, _, _, _, _, _⟩) (v := undef) rfl (by kernel_rfl) (by kernel_rfl) (by decide +kernel) (fun _ _ _ h => h) (Or.inr ⟨by rfl, rfl⟩) (by assumption) ?_
            (try simp only [Act.put, List.setIfInBounds_toArray, List.set_cons_zero, List.set_cons_succ])
            refine wpAnyH_take (i := 20) (oi := ⟨some 94, _, _, _, _, _⟩) (v := undef) rfl (by kernel_rfl) (by kernel_rfl) (by decide +kernel) (fun _ _ _ h => h) (Or.inr ⟨by rfl, rfl⟩) (by assumption) ?_
            (try simp only [Act.put, List.setIfInBounds_toArray, List.set_cons_zero, List.set_cons_succ])
            refine wpAnyH_take (i := 21) (oi := ⟨some 95, _, _, _, _, _⟩) (v := undef) rfl (by kernel_rfl) (by kernel_rfl) (by decide +kernel) (fun _ _ _ h => h) (Or.inr ⟨by rfl, rfl⟩) (by assumption) ?_
            (try simp only [Act.put, List.setIfInBounds_toArray, List.set_cons_zero, List.set_cons_succ])
            refine wpAnyH_take (i := 22) (oi := ⟨some 96, _, _, _, _, _⟩) (v := undef) rfl (by kernel_rfl) (by kernel_rfl) (by decide +kernel) (fun _ _ _ h => h) (Or.inr ⟨by rfl, rfl⟩) (by assumption) ?_
            (try simp only [Act.put, List.setIfInBounds_toArray, List.set_cons_zero, List.set_cons_succ])
            refine wpAnyH_take (i := 23) (oi := ⟨some 97, _, _, _, _, _⟩) (v := undef) rfl (by kernel_rfl) (by kernel_rfl) (by decide +kernel) (fun _ _ _ h => h) (Or.inr ⟨by rfl, rfl⟩) (by assumption) ?_
            (try simp only [Act.put, List.setIfInBounds_toArray, List.set_cons_zero, List.set_cons_succ])
            refine wpAnyH_take (i := 24) (oi := ⟨some 98, _, _, _, _, _⟩) (v := undef) rfl (by kernel_rfl) (by kernel_rfl) (by decide +kernel) (fun _ _ _ h => h) (Or.inr ⟨by rfl, rfl⟩) (by assumption) ?_
            (try simp only [Act.put, List.setIfInBounds_toArray, List.set_cons_zero, List.set_cons_succ])
            refine wpAnyH_take (i := 25) (oi := ⟨some 99, _, _, _, _, _⟩) (v := ?_) rfl (by kernel_rfl) (by kernel_rfl) (by decide +kernel) (fun _ _ _ h => h) (Or.inl ⟨by rfl, fun w hSw => ?_⟩) (by assumption) ?_
            rotate_left 1
            next => ((try dsimp only at hSw); go_simp; first | done | with_reducible rfl)
            (try simp only [Act.put, List.setIfInBounds_toArray, List.set_cons_zero, List.set_cons_succ])
            refine wpAnyH_take (i := 26) (oi := ⟨some 100, _, _, _, _, _⟩) (v := ?_) rfl (by kernel_rfl) (by kernel_rfl) (by decide +kernel) (fun _ _ _ h => h) (Or.inl ⟨by rfl, fun w hSw => ?_⟩) (by assumption) ?_
            rotate_left 1
            next => ((try dsimp only at hSw); go_simp; first | done | with_reducible rfl)
            (try simp only [Act.put, List.setIfInBounds_toArray, List.set_cons_zero, List.set_cons_succ])
            refine wpAnyH_take (i := 27) (oi := ⟨some 101, _, _, _, _, _⟩) (v := undef) rfl (by kernel_rfl) (by kernel_rfl) (by decide +kernel) (fun _ _ _ h => h) (Or.inr ⟨by rfl, rfl⟩) (by assumption) ?_
            (try simp only [Act.put, List.setIfInBounds_toArray, List.set_cons_zero, List.set_cons_succ])
            refine wpAnyH_take (i := 28) (oi := ⟨some 102, _, _, _, _, _⟩) (v := undef) rfl (by kernel_rfl) (by kernel_rfl) (by decide +kernel) (fun _ _ _ h => h) (Or.inr ⟨by rfl, rfl⟩) (by assumption) ?_
            (try simp only [Act.put, List.setIfInBounds_toArray, List.set_cons_zero, List.set_cons_succ])
            refine wpAnyH_take (i := 29) (oi := ⟨some 103, _, _, _, _, _⟩) (v := undef) rfl (by kernel_rfl) (by kernel_rfl) (by decide +kernel) (fun _ _ _ h => h) (Or.inr ⟨by rfl, rfl⟩) (by assumption) ?_
            (try simp only [Act.put, List.setIfInBounds_toArray, List.set_cons_zero, List.set_cons_succ])
            refine wpAnyH_take (i := 30) (oi := ⟨some 104, _, _, _, _, _⟩) (v := undef) rfl (by kernel_rfl) (by kernel_rfl) (by decide +kernel) (fun _ _ _ h => h) (Or.inr ⟨by rfl, rfl⟩) (by assumption) ?_
            (try simp only [Act.put, List.setIfInBounds_toArray, List.set_cons_zero, List.set_cons_succ])
            refine wpAnyH_take (i := 31) (oi := ⟨some 105, _, _, _, _, _⟩) (v := undef) rfl (by kernel_rfl) (by kernel_rfl) (by decide +kernel) (fun _ _ _ h => h) (Or.inr ⟨by rfl, rfl⟩) (by assumption) ?_
            (try simp only [Act.put, List.setIfInBounds_toArray, List.set_cons_zero, List.set_cons_succ])
            refine wpAnyH_take (i := 32) (oi := ⟨some 106, _, _, _, _, _⟩) (v := undef) rfl (by kernel_rfl) (by kernel_rfl) (by decide +kernel) (fun _ _ _ h => h) (Or.inr ⟨by rfl, rfl⟩) (by assumption) ?_
            (try simp only [Act.put, List.setIfInBounds_toArray, List.set_cons_zero, List.set_cons_succ])
            refine wpAnyH_take (i := 33) (oi := ⟨some 107, _, _, _, _, _⟩) (v := undef) rfl (by kernel_rfl) (by kernel_rfl) (by decide +kernel) (fun _ _ _ h => h) (Or.inr ⟨by rfl, rfl⟩) (by assumption) ?_
            (try simp only [Act.put, List.setIfInBounds_toArray, List.set_cons_zero, List.set_cons_succ])
            refine wpAnyH_take (i := 34) (oi := ⟨some 108, _, _, _, _, _⟩) (v := undef) rfl (by kernel_rfl) (by kernel_rfl) (by decide +kernel) (fun _ _ _ h => h) (Or.inr ⟨by rfl, rfl⟩) (by assumption) ?_
            (try simp only [Act.put, List.setIfInBounds_toArray, List.set_cons_zero, List.set_cons_succ])
            refine wpAnyH_take (i := 35) (oi := ⟨some 109, _, _, _, _, _⟩) (v := ?_) rfl (by kernel_rfl) (by kernel_rfl) (by decide +kernel) (fun _ _ _ h => h) (Or.inl ⟨by rfl, fun w hSw => ?_⟩) (by assumption) ?_
            rotate_left 1
            next => ((try dsimp only at hSw); go_simp; first | done | with_reducible rfl)
            (try simp only [Act.put, List.setIfInBounds_toArray, List.set_cons_zero, List.set_cons_succ])
            refine wpAnyH_done (by kernel_rfl) ?_ _
            go_wp2_with fail
            go_meet
            case rel => exact ⟨by rw [HCE.out], HBw32⟩
          case neg =>
            have g1 : ((x.toNat : Int) == x0.toNat) = false := by rw [h1]; simpa using e1
            by_cases e2 : x = x1
            case pos =>
              have HCE : Hid (c = true) := Lib.hid (by rw [← HC.out, e2]; simp)
              clear h1 h2 h3 h4 hv2
              clear e1; subst e2
              refine wp_region_held_drew (S := fun w' => w'.cell? ⟨D, 0, none⟩ = some (.slice (some ⟨I, 0, none⟩) 1 1) ∧ w'.cell? ⟨D, 1, none⟩ = some (.int .i64 1) ∧ w'.cell? ⟨D, 2, none⟩ = some (.int .i64 (1 + z)) ∧ w'.cell? ⟨D, 3, none⟩ = some (.int .i64 j) ∧ w'.cell? ⟨g, 0, none⟩ = some (.slice q0.ia q0.d.ins.length q0.ic) ∧ w'.cell? ⟨g, 1, none⟩ = some (.int .i64 q0.d.outs) ∧ w'.cell? ⟨g, 2, none⟩ = some (.int .i64 q0.d.weight) ∧ w'.cell? ⟨g, 3, none⟩ = some (.int .i64 q0.d.fee) ∧ w'.cell? ⟨g, 4, none⟩ = some (.slice q1.ia q1.d.ins.length q1.ic) ∧ w'.cell? ⟨g, 5, none⟩ = some (.int .i64 q1.d.outs) ∧ w'.cell? ⟨g, 6, none⟩ = some (.int .i64 q1.d.weight) ∧ w'.cell? ⟨g, 7, none⟩ = some (.int .i64 q1.d.fee)) (by kernel_rfl) ⟨d0, d1, d2, d3, a0, a1, a2, a3, b0, b1, b2, b3⟩ (fun hHeld => ?_)
              (try simp only [Act.put, List.setIfInBounds_toArray, List.set_cons_zero, List.set_cons_succ])
              refine wpAnyH_take (i := 0) (oi := ⟨some 74, _, _, _, _, _⟩) (v := ?_) rfl (by kernel_rfl) (by kernel_rfl) (by decide +kernel) (fun _ _ _ h => h) (Or.inl ⟨by rfl, fun w hSw => ?_⟩) (by assumption) ?_
              rotate_left 1
              next => ((try dsimp only at hSw); go_simp; first | done | with_reducible rfl)
              (try simp only [Act.put, List.setIfInBounds_toArray, List.set_cons_zero, List.set_cons_succ])
              refine wpAnyH_take (i := 2) (oi := ⟨some 76, _, _, _, _, _⟩) (v := ?_) rfl (by kernel_rfl) (by kernel_rfl) (by decide +kernel) (fun _ _ _ h => h) (Or.inl ⟨by rfl, fun w hSw => ?_⟩) (by assumption) ?_
              rotate_left 1
              next => ((try dsimp only at hSw); go_simp; first | done | with_reducible rfl)
              (try simp only [Act.put, List.setIfInBounds_toArray, List.set_cons_zero, List.set_cons_succ])
              refine wpAnyH_take (i := 3) (oi := ⟨some 77, _, _, _, _, _⟩) (v := ?_) rfl (by kernel_rfl) (by kernel_rfl) (by decide +kernel) (fun _ _ _ h => h) (Or.inl ⟨by rfl, fun w hSw => ?_⟩) (by assumption) ?_
              rotate_left 1
              next => ((try dsimp only at hSw); go_simp; first | done | with_reducible rfl)
              (try simp only [Act.put, List.setIfInBounds_toArray, List.set_cons_zero, List.set_cons_succ])
              refine wpAnyH_take (i := 4) (oi := ⟨some 78, _, _, _, _, _⟩) (v := ?_) rfl (by kernel_rfl) (by kernel_rfl) (by decide +kernel) (fun _ _ _ h => h) (Or.inl ⟨by rfl, fun w hSw => ?_⟩) (by assumption) ?_
              rotate_left 1
              next => ((try dsimp only at hSw); go_simp; first | done | with_reducible rfl)
              (try simp only [Act.put, List.setIfInBounds_toArray, List.set_cons_zero, List.set_cons_succ])
              refine wpAnyH_ready (rs := [1]) (by kernel_rfl) (by simp) ?_
              refine AllReadyH.cons (o := _) rfl (fun K hK => ?_) AllReadyH.nil
              go_simp
              go_at_call 13; (with_reducible refine (tid_rd HCD.out _ _ HX.out _ (insAt_kept hdr HLD.out.ins)).mono ?_); rintro e w31 ⟨rfl, hb⟩
              have d0 := kept_cell hb d0; have d1 := kept_cell hb d1; have d2 := kept_cell hb d2; have d3 := kept_cell hb d3; have a0 := kept_cell hb a0; have a1 := kept_cell hb a1; have a2 := kept_cell hb a2; have a3 := kept_cell hb a3; have b0 := kept_cell hb b0; have b1 := kept_cell hb b1; have b2 := kept_cell hb b2; have b3 := kept_cell hb b3
              have HBw31 := Lib.hid (kept_trans hdr hb)
              clear hb
              go_wp2_with fail
              refine hK.out _ _ ⟨d0, d1, d2, d3, a0, a1, a2, a3, b0, b1, b2, b3⟩ (fun hHeld => ?_)
              clear hK K
              (try simp only [Act.put, List.setIfInBounds_toArray, List.set_cons_zero, List.set_cons_succ])
              refine wpAnyH_ready (rs := [5]) (by kernel_rfl) (by simp) ?_
              refine AllReadyH.cons (o := _) rfl (fun K hK => ?_) AllReadyH.nil
              go_simp
              go_at_call 13; (with_reducible refine (tidOf_any q0.d HC0.out q0.ia q0.ic _ HX0.out _ (insAt_kept HBw31.out HI0.out)).mono ?_); rintro e w32 ⟨rfl, hb⟩
              have d0 := kept_cell hb d0; have d1 := kept_cell hb d1; have d2 := kept_cell hb d2; have d3 := kept_cell hb d3; have a0 := kept_cell hb a0; have a1 := kept_cell hb a1; have a2 := kept_cell hb a2; have a3 := kept_cell hb a3; have b0 := kept_cell hb b0; have b1 := kept_cell hb b1; have b2 := kept_cell hb b2; have b3 := kept_cell hb b3
              have HBw32 := Lib.hid (kept_trans HBw31.out hb)
              clear hb
              go_wp2_with fail
              refine hK.out _ _ ⟨d0, d1, d2, d3, a0, a1, a2, a3, b0, b1, b2, b3⟩ (fun hHeld => ?_)
              clear hK K
              (try simp only [Act.put, List.setIfInBounds_toArray, List.set_cons_zero, List.set_cons_succ])
              refine wpAnyH_take (i := 6) (oi := ⟨some 80, _, _, _, _, _⟩) (v := .bool false) rfl (by kernel_rfl) (by kernel_rfl) (by decide +kernel) (fun _ _ _ h => h) (Or.inl ⟨by rfl, fun w hSw => ?_⟩) (by assumption) ?_
              next => ((try dsimp only at hSw); go_simp; first | done | with_reducible rfl)
              (try simp only [Act.put, List.setIfInBounds_toArray, List.set_cons_zero, List.set_cons_succ])
              refine wpAnyH_take (i := 7) (oi := ⟨some 81, _, _, _, _, _⟩) (v := ?_) rfl (by kernel_rfl) (by kernel_rfl) (by decide +kernel) (fun _ _ _ h => h) (Or.inl ⟨by rfl, fun w hSw => ?_⟩) (by assumption) ?_
              rotate_left 1
              next => ((try dsimp only at hSw); go_simp; first | done | with_reducible rfl)
              (try simp only [Act.put, List.setIfInBounds_toArray, List.set_cons_zero, List.set_cons_succ])
              refine wpAnyH_take (i := 8) (oi := ⟨some 82, _, _, _, _, _⟩) (v := ?_) rfl (by kernel_rfl) (by kernel_rfl) (by decide +kernel) (fun _ _ _ h => h) (Or.inl ⟨by rfl, fun w hSw => ?_⟩) (by assumption) ?_
              rotate_left 1
              next => ((try dsimp only at hSw); go_simp; first | done | with_reducible rfl)
              (try simp only [Act.put, List.setIfInBounds_toArray, List.set_cons_zero, List.set_cons_succ])
              refine wpAnyH_take (i := 10) (oi := ⟨some 84, _, _, _, _, _⟩) (v := ?_) rfl (by kernel_rfl) (by kernel_rfl) (by decide +kernel) (fun _ _ _ h => h) (Or.inl ⟨by rfl, fun w hSw => ?_⟩) (by assumption) ?_
              rotate_left 1
              next => ((try dsimp only at hSw); go_simp; first | done | with_reducible rfl)
              (try simp only [Act.put, List.setIfInBounds_toArray, List.set_cons_zero, List.set_cons_succ])
              refine wpAnyH_take (i := 11) (oi := ⟨some 85, _, _, _, _, _⟩) (v := ?_) rfl (by kernel_rfl) (by kernel_rfl) (by decide +kernel) (fun _ _ _ h => h) (Or.inl ⟨by rfl, fun w hSw => ?_⟩) (by assumption) ?_
              rotate_left 1
              next => ((try dsimp only at hSw); go_simp; first | done | with_reducible rfl)
              (try simp only [Act.put, List.setIfInBounds_toArray, List.set_cons_zero, List.set_cons_succ])
              refine wpAnyH_take (i := 12) (oi := ⟨some 86, _, _, _, _, _⟩) (v := ?_) rfl (by kernel_rfl) (by kernel_rfl) (by decide +kernel) (fun _ _ _ h => h) (Or.inl ⟨by rfl, fun w hSw => ?_⟩) (by assumption) ?_
              rotate_left 1
              next => ((try dsimp only at hSw); go_simp; first | done | with_reducible rfl)
              (try simp only [Act.put, List.setIfInBounds_toArray, List.set_cons_zero, List.set_cons_succ])
              refine wpAnyH_ready (rs := [9]) (by kernel_rfl) (by simp) ?_
              refine AllReadyH.cons (o := _) rfl (fun K hK => ?_) AllReadyH.nil
              go_simp
              go_at_call 13; (with_reducible refine (tid_rd HCD.out _ _ HX.out _ (insAt_kept HBw32.out HLD.out.ins)).mono ?_); rintro e w33 ⟨rfl, hb⟩
              have d0 := kept_cell hb d0; have d1 := kept_cell hb d1; have d2 := kept_cell hb d2; have d3 := kept_cell hb d3; have a0 := kept_cell hb a0; have a1 := kept_cell hb a1; have a2 := kept_cell hb a2; have a3 := kept_cell hb a3; have b0 := kept_cell hb b0; have b1 := kept_cell hb b1; have b2 := kept_cell hb b2; have b3 := kept_cell hb b3
              have HBw33 := Lib.hid (kept_trans HBw32.out hb)
              clear hb
              go_wp2_with fail
              refine hK.out _ _ ⟨d0, d1, d2, d3, a0, a1, a2, a3, b0, b1, b2, b3⟩ (fun hHeld => ?_)
              clear hK K
              (try simp only [Act.put, List.setIfInBounds_toArray, List.set_cons_zero, List.set_cons_succ])
              refine wpAnyH_ready (rs := [13]) (by kernel_rfl) (by simp) ?_
              refine AllReadyH.cons (o := _) rfl (fun K hK => ?_) AllReadyH.nil
              go_simp
              go_at_call 13; (with_reducible refine (tidOf_any q1.d HC1.out q1.ia q1.ic _ HX1.out _ (insAt_kept HBw33.out HI1'.out)).mono ?_); rintro e w34 ⟨rfl, hb⟩
              have d0 := kept_cell hb d0; have d1 := kept_cell hb d1; have d2 := kept_cell hb d2; have d3 := kept_cell hb d3; have a0 := kept_cell hb a0; have a1 := kept_cell hb a1; have a2 := kept_cell hb a2; have a3 := kept_cell hb a3; have b0 := kept_cell hb b0; have b1 := kept_cell hb b1; have b2 := kept_cell hb b2; have b3 := kept_cell hb b3
              have HBw34 := Lib.hid (kept_trans HBw33.out hb)
              clear hb
              go_wp2_with fail
              refine hK.out _ _ ⟨d0, d1, d2, d3, a0, a1, a2, a3, b0, b1, b2, b3⟩ (fun hHeld => ?_)
              clear hK K
              (try simp only [Act.put, List.setIfInBounds_toArray, List.set_cons_zero, List.set_cons_succ])
              refine wpAnyH_take (i := 14) (oi := ⟨some 88, _, _, _, _, _⟩) (v := .bool true) rfl (by kernel_rfl) (by kernel_rfl) (by decide +kernel) (fun _ _ _ h => h) (Or.inl ⟨by rfl, fun w hSw => ?_⟩) (by assumption) ?_
              next => ((try dsimp only at hSw); go_simp; first | done | with_reducible rfl)
              (try simp only [Act.put, List.setIfInBounds_toArray, List.set_cons_zero, List.set_cons_succ])
              refine wpAnyH_take (i := 15) (oi := ⟨some 89, _, _, _, _, _⟩) (v := ?_) rfl (by kernel_rfl) (by kernel_rfl) (by decide +kernel) (fun _ _ _ h => h) (Or.inl ⟨by rfl, fun w hSw => ?_⟩) (by assumption) ?_
              rotate_left 1
              next => ((try dsimp only at hSw); go_simp; first | done | with_reducible rfl)
              (try simp only [Act.put, List.setIfInBounds_toArray, List.set_cons_zero, List.set_cons_succ])
              refine wpAnyH_take (i := 16) (oi := ⟨some 90, _, _, _, _, _⟩) (v := ?_) rfl (by kernel_rfl) (by kernel_rfl) (by decide +kernel) (fun _ _ _ h => h) (Or.inl ⟨by rfl, fun w hSw => ?_⟩) (by assumption) ?_
              rotate_left 1
              next => ((try dsimp only at hSw); go_simp; first | done | with_reducible rfl)
              (try simp only [Act.put, List.setIfInBounds_toArray, List.set_cons_zero, List.set_cons_succ])
              refine wpAnyH_take (i := 17) (oi := ⟨some 91, _, _, _, _, _⟩) (v := undef) rfl (by kernel_rfl) (by kernel_rfl) (by decide +kernel) (fun _ _ _ h => h) (Or.inr ⟨by rfl, rfl⟩) (by assumption) ?_
              (try simp only [Act.put, List.setIfInBounds_toArray, List.set_cons_zero, List.set_cons_succ])
              refine wpAnyH_take (i := 18) (oi := ⟨some 92, _, _, _, _, _⟩) (v := undef) rfl (by kernel_rfl) (by kernel_rfl) (by decide +kernel) (fun _ _ _ h => h) (Or.inr ⟨by rfl, rfl⟩) (by assumption) ?_
              (try simp only [Act.put, List.setIfInBounds_toArray, List.set_cons_zero, List.set_cons_succ])
              refine wpAnyH_take (i := 19) (oi := ⟨some 93, _, _, _, _, _⟩) (v := undef) rfl (by kernel_rfl) (by kernel_rfl) (by decide +kernel) (fun _ _ _ h => h) (Or.inr ⟨by rfl, rfl⟩) (by assumption) ?_
              (try simp only [Act.put, List.setIfInBounds_toArray, List.set_cons_zero, List.set_cons_succ])
              refine wpAnyH_take (i := 20) (oi := ⟨some 94, _, _, _, _, _⟩) (v := undef) rfl (by kernel_rfl) (by kernel_rfl) (by decide +kernel) (fun _ _ _ h => h) (Or.inr ⟨by rfl, rfl⟩) (by assumption) ?_
              (try simp only [Act.put, List.setIfInBounds_toArray, List.set_cons_zero, List.set_cons_succ])
              refine wpAnyH_take (i := 21) (oi := ⟨some 95, _, _, _, _, _⟩) (v := undef) rfl (by kernel_rfl) (by kernel_rfl) (by decide +kernel) (fun _ _ _ h => h) (Or.inr ⟨by rfl, rfl⟩) (by assumption) ?_
              (try simp only [Act.put, List.setIfInBounds_toArray, List.set_cons_zero, List.set_cons_succ])
              refine wpAnyH_take (i := 22) (oi := ⟨some 96, _, _, _, _, _⟩) (v := undef) rfl (by kernel_rfl) (by kernel_rfl) (by decide +kernel) (fun _ _ _ h => h) (Or.inr ⟨by rfl, rfl⟩) (by assumption) ?_
              (try simp only [Act.put, List.setIfInBounds_toArray, List.set_cons_zero, List.set_cons_succ])
              refine wpAnyH_take (i := 23) (oi := ⟨some 97, _, _, _, _, _⟩) (v := undef) rfl (by kernel_rfl) (by kernel_rfl) (by decide +kernel) (fun _ _ _ h => h) (Or.inr ⟨by rfl, rfl⟩) (by assumption) ?_
              (try simp only [Act.put, List.setIfInBounds_toArray, List.set_cons_zero, List.set_cons_succ])
              refine wpAnyH_take (i := 24) (oi := ⟨some 98, _, _, _, _, _⟩) (v := undef) rfl (by kernel_rfl) (by kernel_rfl) (by decide +kernel) (fun _ _ _ h => h) (Or.inr ⟨by rfl, rfl⟩) (by assumption) ?_
              (try simp only [Act.put, List.setIfInBounds_toArray, List.set_cons_zero, List.set_cons_succ])
              refine wpAnyH_take (i := 25) (oi := ⟨some 99, _, _, _, _, _⟩) (v := ?_) rfl (by kernel_rfl) (by kernel_rfl) (by decide +kernel) (fun _ _ _ h => h) (Or.inl ⟨by rfl, fun w hSw => ?_⟩) (by assumption) ?_
              rotate_left 1
              next => ((try dsimp only at hSw); go_simp; first | done | with_reducible rfl)
              (try simp only [Act.put, List.setIfInBounds_toArray, List.set_cons_zero, List.set_cons_succ])
              refine wpAnyH_take (i := 26) (oi := ⟨some 100, _, _, _, _, _⟩) (v := ?_) rfl (by kernel_rfl) (by kernel_rfl) (by decide +kernel) (fun _ _ _ h => h) (Or.inl ⟨by rfl, fun w hSw => ?_⟩) (by assumption) ?_
              rotate_left 1
              next => ((try dsimp only at hSw); go_simp; first | done | with_reducible rfl)
              (try simp only [Act.put, List.setIfInBounds_toArray, List.set_cons_zero, List.set_cons_succ])
              refine wpAnyH_take (i := 27) (oi := ⟨some 101, _, _, _, _, _⟩) (v := undef) rfl (by kernel_rfl) (by kernel_rfl) (by decide +kernel) (fun _ _ _ h => h) (Or.inr ⟨by rfl, rfl⟩) (by assumption) ?_
              (try simp only [Act.put, List.setIfInBounds_toArray, List.set_cons_zero, List.set_cons_succ])
              refine wpAnyH_take (i := 28) (oi := ⟨some 102, _, _, _, _, _⟩) (v := undef) rfl (by kernel_rfl) (by kernel_rfl) (by decide +kernel) (fun _ _ _ h => h) (Or.inr ⟨by rfl, rfl⟩) (by assumption) ?_
              (try simp only [Act.put, List.setIfInBounds_toArray, List.set_cons_zero, List.set_cons_succ])
              refine wpAnyH_take (i := 29) (oi := ⟨some 103, _, _, _, _, _⟩) (v := undef) rfl (by kernel_rfl) (by kernel_rfl) (by decide +kernel) (fun _ _ _ h => h) (Or.inr ⟨by rfl, rfl⟩) (by assumption) ?_
              (try simp only [Act.put, List.setIfInBounds_toArray, List.set_cons_zero, List.set_cons_succ])
              refine wpAnyH_take (i := 30) (oi := ⟨some 104, _, _, _, _, _⟩) (v := undef) rfl (by kernel_rfl) (by kernel_rfl) (by decide +kernel) (fun _ _ _ h => h) (Or.inr ⟨by rfl, rfl⟩) (by assumption) ?_
              (try simp only [Act.put, List.setIfInBounds_toArray, List.set_cons_zero, List.set_cons_succ])
              refine wpAnyH_take (i := 31) (oi := ⟨some 105, _, _, _, _, _⟩) (v := undef) rfl (by kernel_rfl) (by kernel_rfl) (by decide +kernel) (fun _ _ _ h => h) (Or.inr ⟨by rfl, rfl⟩) (by assumption) ?_
              (try simp only [Act.put, List.setIfInBounds_toArray, List.set_cons_zero, List.set_cons_succ])
              refine wpAnyH_take (i := 32) (oi := ⟨some 106, _, _, _, _, _⟩) (v := undef) rfl (by kernel_rfl) (by kernel_rfl) (by decide +kernel) (fun _ _ _ h => h) (Or.inr ⟨by rfl, rfl⟩) (by assumption) ?_
              (try simp only [Act.put, List.setIfInBounds_toArray, List.set_cons_zero, List.set_cons_succ])
              refine wpAnyH_take (i := 33) (oi := ⟨some 107, _, _, _, _, _⟩) (v := undef) rfl (by kernel_rfl) (by kernel_rfl) (by decide +kernel) (fun _ _ _ h => h) (Or.inr ⟨by rfl, rfl⟩) (by assumption) ?_
              (try simp only [Act.put, List.setIfInBounds_toArray, List.set_cons_zero, List.set_cons_succ])
              refine wpAnyH_take (i := 34) (oi := ⟨some 108, _, _, _, _, _⟩) (v := undef) rfl (by kernel_rfl) (by kernel_rfl) (by decide +kernel) (fun _ _ _ h => h) (Or.inr ⟨by rfl, rfl⟩) (by assumption) ?_
              (try simp only [Act.put, List.setIfInBounds_toArray, List.set_cons_zero, List.set_cons_succ])
              refine wpAnyH_take (i := 35) (oi := ⟨some 109, _, _, _, _, _⟩) (v := ?_) rfl (by kernel_rfl) (by kernel_rfl) (by decide +kernel) (fun _ _ _ h => h) (Or.inl ⟨by rfl, fun w hSw => ?_⟩) (by assumption) ?_
              rotate_left 1
              next => ((try dsimp only at hSw); go_simp; first | done | with_reducible rfl)
              (try simp only [Act.put, List.setIfInBounds_toArray, List.set_cons_zero, List.set_cons_succ])
              refine wpAnyH_done (by kernel_rfl) ?_ _
              go_wp2_with fail
              go_meet
              case rel => exact ⟨by rw [HCE.out], HBw34⟩
            case neg =>
              have g2 : ((x.toNat : Int) == x1.toNat) = false := by rw [h2]; simpa using e2
              by_cases e3 : x0 = v
              case pos =>
                have HCE : Hid (c = true) := Lib.hid (by rw [← HC.out, e3]; simp)
                have HV3 : Hid ((x0.toNat : Int) = (j : Int) + 1) := Lib.hid (by rw [HV.out, e3])
                clear h1 h2 h3 h4 hv2
                clear e1 e2 e3
                refine wp_region_held_drew (S := fun w' => w'.cell? ⟨D, 0, none⟩ = some (.slice (some ⟨I, 0, none⟩) 1 1) ∧ w'.cell? ⟨D, 1, none⟩ = some (.int .i64 1) ∧ w'.cell? ⟨D, 2, none⟩ = some (.int .i64 (1 + z)) ∧ w'.cell? ⟨D, 3, none⟩ = some (.int .i64 j) ∧ w'.cell? ⟨g, 0, none⟩ = some (.slice q0.ia q0.d.ins.length q0.ic) ∧ w'.cell? ⟨g, 1, none⟩ = some (.int .i64 q0.d.outs) ∧ w'.cell? ⟨g, 2, none⟩ = some (.int .i64 q0.d.weight) ∧ w'.cell? ⟨g, 3, none⟩ = some (.int .i64 q0.d.fee) ∧ w'.cell? ⟨g, 4, none⟩ = some (.slice q1.ia q1.d.ins.length q1.ic) ∧ w'.cell? ⟨g, 5, none⟩ = some (.int .i64 q1.d.outs) ∧ w'.cell? ⟨g, 6, none⟩ = some (.int .i64 q1.d.weight) ∧ w'.cell? ⟨g, 7, none⟩ = some (.int .i64 q1.d.fee)) (by kernel_rfl) ⟨d0, d1, d2, d3, a0, a1, a2, a3, b0, b1, b2, b3⟩ (fun hHeld => ?_)
                (try simp only [Act.put, List.setIfInBounds_toArray, List.set_cons_zero, List.set_cons_succ])
                refine wpAnyH_take (i := 0) (oi := ⟨some 74, _, _, _, _, _⟩) (v := ?_) rfl (by kernel_rfl) (by kernel_rfl) (by decide +kernel) (fun _ _ _ h => h) (Or.inl ⟨by rfl, fun w hSw => ?_⟩) (by assumption) ?_
                rotate_left 1
                next => ((try dsimp only at hSw); go_simp; first | done | with_reducible rfl)
                (try simp only [Act.put, List.setIfInBounds_toArray, List.set_cons_zero, List.set_cons_succ])
                refine wpAnyH_take (i := 2) (oi := ⟨some 76, _, _, _, _, _⟩) (v := ?_) rfl (by kernel_rfl) (by kernel_rfl) (by decide +kernel) (fun _ _ _ h => h) (Or.inl ⟨by rfl, fun w hSw => ?_⟩) (by assumption) ?_
                rotate_left 1
                next => ((try dsimp only at hSw); go_simp; first | done | with_reducible rfl)
                (try simp only [Act.put, List.setIfInBounds_toArray, List.set_cons_zero, List.set_cons_succ])
                refine wpAnyH_take (i := 3) (oi := ⟨some 77, _, _, _, _, _⟩) (v := ?_) rfl (by kernel_rfl) (by kernel_rfl) (by decide +kernel) (fun _ _ _ h => h) (Or.inl ⟨by rfl, fun w hSw => ?_⟩) (by assumption) ?_
                rotate_left 1
                next => ((try dsimp only at hSw); go_simp; first | done | with_reducible rfl)
                (try simp only [Act.put, List.setIfInBounds_toArray, List.set_cons_zero, List.set_cons_succ])
                refine wpAnyH_take (i := 4) (oi := ⟨some 78, _, _, _, _, _⟩) (v := ?_) rfl (by kernel_rfl) (by kernel_rfl) (by decide +kernel) (fun _ _ _ h => h) (Or.inl ⟨by rfl, fun w hSw => ?_⟩) (by assumption) ?_
                rotate_left 1
                next => ((try dsimp only at hSw); go_simp; first | done | with_reducible rfl)
                (try simp only [Act.put, List.setIfInBounds_toArray, List.set_cons_zero, List.set_cons_succ])
                refine wpAnyH_ready (rs := [1]) (by kernel_rfl) (by simp) ?_
                refine AllReadyH.cons (o := _) rfl (fun K hK => ?_) AllReadyH.nil
                go_simp
                go_at_call 13; (with_reducible refine (tid_rd HCD.out _ _ HX.out _ (insAt_kept hdr HLD.out.ins)).mono ?_); rintro e w31 ⟨rfl, hb⟩
                have d0 := kept_cell hb d0; have d1 := kept_cell hb d1; have d2 := kept_cell hb d2; have d3 := kept_cell hb d3; have a0 := kept_cell hb a0; have a1 := kept_cell hb a1; have a2 := kept_cell hb a2; have a3 := kept_cell hb a3; have b0 := kept_cell hb b0; have b1 := kept_cell hb b1; have b2 := kept_cell hb b2; have b3 := kept_cell hb b3
                have HBw31 := Lib.hid (kept_trans hdr hb)
                clear hb
                go_wp2_with fail
                refine hK.out _ _ ⟨d0, d1, d2, d3, a0, a1, a2, a3, b0, b1, b2, b3⟩ (fun hHeld => ?_)
                clear hK K
                (try simp only [Act.put, List.setIfInBounds_toArray, List.set_cons_zero, List.set_cons_succ])
                refine wpAnyH_ready (rs := [5]) (by kernel_rfl) (by simp) ?_
                refine AllReadyH.cons (o := _) rfl (fun K hK => ?_) AllReadyH.nil
                go_simp
                go_at_call 13; (with_reducible refine (tidOf_any q0.d HC0.out q0.ia q0.ic _ HX0.out _ (insAt_kept HBw31.out HI0.out)).mono ?_); rintro e w32 ⟨rfl, hb⟩
                have d0 := kept_cell hb d0; have d1 := kept_cell hb d1; have d2 := kept_cell hb d2; have d3 := kept_cell hb d3; have a0 := kept_cell hb a0; have a1 := kept_cell hb a1; have a2 := kept_cell hb a2; have a3 := kept_cell hb a3; have b0 := kept_cell hb b0; have b1 := kept_cell hb b1; have b2 := kept_cell hb b2; have b3 := kept_cell hb b3
                have HBw32 := Lib.hid (kept_trans HBw31.out hb)
                clear hb
                go_wp2_with fail
                refine hK.out _ _ ⟨d0, d1, d2, d3, a0, a1, a2, a3, b0, b1, b2, b3⟩ (fun hHeld => ?_)
                clear hK K
                (try simp only [Act.put, List.setIfInBounds_toArray, List.set_cons_zero, List.set_cons_succ])
                refine wpAnyH_take (i := 6) (oi := ⟨some 80, _, _, _, _, _⟩) (v := .bool false) rfl (by kernel_rfl) (by kernel_rfl) (by decide +kernel) (fun _ _ _ h => h) (Or.inl ⟨by rfl, fun w hSw => ?_⟩) (by assumption) ?_
                next => ((try dsimp only at hSw); go_simp; first | done | with_reducible rfl)
                (try simp only [Act.put, List.setIfInBounds_toArray, List.set_cons_zero, List.set_cons_succ])
                refine wpAnyH_take (i := 7) (oi := ⟨some 81, _, _, _, _, _⟩) (v := ?_) rfl (by kernel_rfl) (by kernel_rfl) (by decide +kernel) (fun _ _ _ h => h) (Or.inl ⟨by rfl, fun w hSw => ?_⟩) (by assumption) ?_
                rotate_left 1
                next => ((try dsimp only at hSw); go_simp; first | done | with_reducible rfl)
                (try simp only [Act.put, List.setIfInBounds_toArray, List.set_cons_zero, List.set_cons_succ])
                refine wpAnyH_take (i := 8) (oi := ⟨some 82, _, _, _, _, _⟩) (v := ?_) rfl (by kernel_rfl) (by kernel_rfl) (by decide +kernel) (fun _ _ _ h => h) (Or.inl ⟨by rfl, fun w hSw => ?_⟩) (by assumption) ?_
                rotate_left 1
                next => ((try dsimp only at hSw); go_simp; first | done | with_reducible rfl)
                (try simp only [Act.put, List.setIfInBounds_toArray, List.set_cons_zero, List.set_cons_succ])
                refine wpAnyH_take (i := 10) (oi := ⟨some 84, _, _, _, _, _⟩) (v := ?_) rfl (by kernel_rfl) (by kernel_rfl) (by decide +kernel) (fun _ _ _ h => h) (Or.inl ⟨by rfl, fun w hSw => ?_⟩) (by assumption) ?_
                rotate_left 1
                next => ((try dsimp only at hSw); go_simp; first | done | with_reducible rfl)
                (try simp only [Act.put, List.setIfInBounds_toArray, List.set_cons_zero, List.set_cons_succ])
                refine wpAnyH_take (i := 11) (oi := ⟨some 85, _, _, _, _, _⟩) (v := ?_) rfl (by kernel_rfl) (by kernel_rfl) (by decide +kernel) (fun _ _ _ h => h) (Or.inl ⟨by rfl, fun w hSw => ?_⟩) (by assumption) ?_
                rotate_left 1
                next => ((try dsimp only at hSw); go_simp; first | done | with_reducible rfl)
                (try simp only [Act.put, List.setIfInBounds_toArray, List.set_cons_zero, List.set_cons_succ])
                refine wpAnyH_take (i := 12) (oi := ⟨some 86, _, _, _, _, _⟩) (v := ?_) rfl (by kernel_rfl) (by kernel_rfl) (by decide +kernel) (fun _ _ _ h => h) (Or.inl ⟨by rfl, fun w hSw => ?_⟩) (by assumption) ?_
                rotate_left 1
                next => ((try dsimp only at hSw); go_simp; first | done | with_reducible rfl)
                (try simp only [Act.put, List.setIfInBounds_toArray, List.set_cons_zero, List.set_cons_succ])
                refine wpAnyH_ready (rs := [9]) (by kernel_rfl) (by simp) ?_
                refine AllReadyH.cons (o := _) rfl (fun K hK => ?_) AllReadyH.nil
                go_simp
                go_at_call 13; (with_reducible refine (tid_rd HCD.out _ _ HX.out _ (insAt_kept HBw32.out HLD.out.ins)).mono ?_); rintro e w33 ⟨rfl, hb⟩
                have d0 := kept_cell hb d0; have d1 := kept_cell hb d1; have d2 := kept_cell hb d2; have d3 := kept_cell hb d3; have a0 := kept_cell hb a0; have a1 := kept_cell hb a1; have a2 := kept_cell hb a2; have a3 := kept_cell hb a3; have b0 := kept_cell hb b0; have b1 := kept_cell hb b1; have b2 := kept_cell hb b2; have b3 := kept_cell hb b3
                have HBw33 := Lib.hid (kept_trans HBw32.out hb)
                clear hb
                go_wp2_with fail
                refine hK.out _ _ ⟨d0, d1, d2, d3, a0, a1, a2, a3, b0, b1, b2, b3⟩ (fun hHeld => ?_)
                clear hK K
                (try simp only [Act.put, List.setIfInBounds_toArray, List.set_cons_zero, List.set_cons_succ])
                refine wpAnyH_ready (rs := [13]) (by kernel_rfl) (by simp) ?_
                refine AllReadyH.cons (o := _) rfl (fun K hK => ?_) AllReadyH.nil
                go_simp
                go_at_call 13; (with_reducible refine (tidOf_any q1.d HC1.out q1.ia q1.ic _ HX1.out _ (insAt_kept HBw33.out HI1'.out)).mono ?_); rintro e w34 ⟨rfl, hb⟩
                have d0 := kept_cell hb d0; have d1 := kept_cell hb d1; have d2 := kept_cell hb d2; have d3 := kept_cell hb d3; have a0 := kept_cell hb a0; have a1 := kept_cell hb a1; have a2 := kept_cell hb a2; have a3 := kept_cell hb a3; have b0 := kept_cell hb b0; have b1 := kept_cell hb b1; have b2 := kept_cell hb b2; have b3 := kept_cell hb b3
                have HBw34 := Lib.hid (kept_trans HBw33.out hb)
                clear hb
                go_wp2_with fail
                refine hK.out _ _ ⟨d0, d1, d2, d3, a0, a1, a2, a3, b0, b1, b2, b3⟩ (fun hHeld => ?_)
                clear hK K
                (try simp only [Act.put, List.setIfInBounds_toArray, List.set_cons_zero, List.set_cons_succ])
                refine wpAnyH_take (i := 14) (oi := ⟨some 88, _, _, _, _, _⟩) (v := .bool false) rfl (by kernel_rfl) (by kernel_rfl) (by decide +kernel) (fun _ _ _ h => h) (Or.inl ⟨by rfl, fun w hSw => ?_⟩) (by assumption) ?_
                next => ((try dsimp only at hSw); go_simp; first | done | with_reducible rfl)
                (try simp only [Act.put, List.setIfInBounds_toArray, List.set_cons_zero, List.set_cons_succ])
                refine wpAnyH_take (i := 15) (oi := ⟨some 89, _, _, _, _, _⟩) (v := ?_) rfl (by kernel_rfl) (by kernel_rfl) (by decide +kernel) (fun _ _ _ h => h) (Or.inl ⟨by rfl, fun w hSw => ?_⟩) (by assumption) ?_
                rotate_left 1
                next => ((try dsimp only at hSw); go_simp; first | done | with_reducible rfl)
                (try simp only [Act.put, List.setIfInBounds_toArray, List.set_cons_zero, List.set_cons_succ])
                refine wpAnyH_take (i := 16) (oi := ⟨some 90, _, _, _, _, _⟩) (v := ?_) rfl (by kernel_rfl) (by kernel_rfl) (by decide +kernel) (fun _ _ _ h => h) (Or.inl ⟨by rfl, fun w hSw => ?_⟩) (by assumption) ?_
                rotate_left 1
                next => ((try dsimp only at hSw); go_simp; first | done | with_reducible rfl)
                (try simp only [Act.put, List.setIfInBounds_toArray, List.set_cons_zero, List.set_cons_succ])
                refine wpAnyH_take (i := 17) (oi := ⟨some 91, _, _, _, _, _⟩) (v := ?_) rfl (by kernel_rfl) (by kernel_rfl) (by decide +kernel) (fun _ _ _ h => h) (Or.inl ⟨by rfl, fun w hSw => ?_⟩) (by assumption) ?_
                rotate_left 1
                next => ((try dsimp only at hSw); go_simp; first | done | with_reducible rfl)
                (try simp only [Act.put, List.setIfInBounds_toArray, List.set_cons_zero, List.set_cons_succ])
                refine wpAnyH_take (i := 18) (oi := ⟨some 92, _, _, _, _, _⟩) (v := ?_) rfl (by kernel_rfl) (by kernel_rfl) (by decide +kernel) (fun _ _ _ h => h) (Or.inl ⟨by rfl, fun w hSw => ?_⟩) (by assumption) ?_
                rotate_left 1
                next => ((try dsimp only at hSw); go_simp; first | done | with_reducible rfl)
                (try simp only [Act.put, List.setIfInBounds_toArray, List.set_cons_zero, List.set_cons_succ])
                refine wpAnyH_take (i := 19) (oi := ⟨some 93, _, _, _, _, _⟩) (v := ?_) rfl (by kernel_rfl) (by kernel_rfl) (by decide +kernel) (fun _ _ _ h => h) (Or.inl ⟨by rfl, fun w hSw => ?_⟩) (by assumption) ?_
                rotate_left 1
                next => ((try dsimp only at hSw); go_simp; first | done | with_reducible rfl)
                (try simp only [Act.put, List.setIfInBounds_toArray, List.set_cons_zero, List.set_cons_succ])
                refine wpAnyH_take (i := 21) (oi := ⟨some 95, _, _, _, _, _⟩) (v := ?_) rfl (by kernel_rfl) (by kernel_rfl) (by decide +kernel) (fun _ _ _ h => h) (Or.inl ⟨by rfl, fun w hSw => ?_⟩) (by assumption) ?_
                rotate_left 1
                next => ((try dsimp only at hSw); go_simp; first | done | with_reducible rfl)
                (try simp only [Act.put, List.setIfInBounds_toArray, List.set_cons_zero, List.set_cons_succ])
                refine wpAnyH_take (i := 22) (oi := ⟨some 96, _, _, _, _, _⟩) (v := ?_) rfl (by kernel_rfl) (by kernel_rfl) (by decide +kernel) (fun _ _ _ h => h) (Or.inl ⟨by rfl, fun w hSw => ?_⟩) (by assumption) ?_
                rotate_left 1
                next => ((try dsimp only at hSw); go_simp; first | done | with_reducible rfl)
                (try simp only [Act.put, List.setIfInBounds_toArray, List.set_cons_zero, List.set_cons_succ])
                refine wpAnyH_take (i := 23) (oi := ⟨some 97, _, _, _, _, _⟩) (v := ?_) rfl (by kernel_rfl) (by kernel_rfl) (by decide +kernel) (fun _ _ _ h => h) (Or.inl ⟨by rfl, fun w hSw => ?_⟩) (by assumption) ?_
                rotate_left 1
                next => ((try dsimp only at hSw); go_simp; first | done | with_reducible rfl)
                (try simp only [Act.put, List.setIfInBounds_toArray, List.set_cons_zero, List.set_cons_succ])
                refine wpAnyH_ready (rs := [20]) (by kernel_rfl) (by simp) ?_
                refine AllReadyH.cons (o := _) rfl (fun K hK => ?_) AllReadyH.nil
                go_simp
                go_at_call 13; (with_reducible refine (tidOf_any q0.d HC0.out q0.ia q0.ic _ HX0.out _ (insAt_kept HBw34.out HI0.out)).mono ?_); rintro e w35 ⟨rfl, hb⟩
                have d0 := kept_cell hb d0; have d1 := kept_cell hb d1; have d2 := kept_cell hb d2; have d3 := kept_cell hb d3; have a0 := kept_cell hb a0; have a1 := kept_cell hb a1; have a2 := kept_cell hb a2; have a3 := kept_cell hb a3; have b0 := kept_cell hb b0; have b1 := kept_cell hb b1; have b2 := kept_cell hb b2; have b3 := kept_cell hb b3
                have HBw35 := Lib.hid (kept_trans HBw34.out hb)
                clear hb
                go_wp2_with fail
                refine hK.out _ _ ⟨d0, d1, d2, d3, a0, a1, a2, a3, b0, b1, b2, b3⟩ (fun hHeld => ?_)
                clear hK K
                (try simp only [Act.put, List.setIfInBounds_toArray, List.set_cons_zero, List.set_cons_succ])
                refine wpAnyH_take (i := 24) (oi := ⟨some 98, _, _, _, _, _⟩) (v := .bool true) rfl (by kernel_rfl) (by kernel_rfl) (by decide +kernel) (fun _ _ _ h => h) (Or.inl ⟨by rfl, fun w hSw => ?_⟩) (by assumption) ?_
                next => ((try dsimp only at hSw); have e' := HV3.out; go_simp; first | done | with_reducible rfl)
                (try simp only [Act.put, List.setIfInBounds_toArray, List.set_cons_zero, List.set_cons_succ])
                refine wpAnyH_take (i := 25) (oi := ⟨some 99, _, _, _, _, _⟩) (v := ?_) rfl (by kernel_rfl) (by kernel_rfl) (by decide +kernel) (fun _ _ _ h => h) (Or.inl ⟨by rfl, fun w hSw => ?_⟩) (by assumption) ?_
                rotate_left 1
                next => ((try dsimp only at hSw); go_simp; first | done | with_reducible rfl)
                (try simp only [Act.put, List.setIfInBounds_toArray, List.set_cons_zero, List.set_cons_succ])
                refine wpAnyH_take (i := 26) (oi := ⟨some 100, _, _, _, _, _⟩) (v := ?_) rfl (by kernel_rfl) (by kernel_rfl) (by decide +kernel) (fun _ _ _ h => h) (Or.inl ⟨by rfl, fun w hSw => ?_⟩) (by assumption) ?_
                rotate_left 1
                next => ((try dsimp only at hSw); go_simp; first | done | with_reducible rfl)
                (try simp only [Act.put, List.setIfInBounds_toArray, List.set_cons_zero, List.set_cons_succ])
                refine wpAnyH_take (i := 27) (oi := ⟨some 101, _, _, _, _, _⟩) (v := undef) rfl (by kernel_rfl) (by kernel_rfl) (by decide +kernel) (fun _ _ _ h => h) (Or.inr ⟨by rfl, rfl⟩) (by assumption) ?_
                (try simp only [Act.put, List.setIfInBounds_toArray, List.set_cons_zero, List.set_cons_succ])
                refine wpAnyH_take (i := 28) (oi := ⟨some 102, _, _, _, _, _⟩) (v := undef) rfl (by kernel_rfl) (by kernel_rfl) (by decide +kernel) (fun _ _ _ h => h) (Or.inr ⟨by rfl, rfl⟩) (by assumption) ?_
                (try simp only [Act.put, List.setIfInBounds_toArray, List.set_cons_zero, List.set_cons_succ])
                refine wpAnyH_take (i := 29) (oi := ⟨some 103, _, _, _, _, _⟩) (v := undef) rfl (by kernel_rfl) (by kernel_rfl) (by decide +kernel) (fun _ _ _ h => h) (Or.inr ⟨by rfl, rfl⟩) (by assumption) ?_
                (try simp only [Act.put, List.setIfInBounds_toArray, List.set_cons_zero, List.set_cons_succ])
                refine wpAnyH_take (i := 30) (oi := ⟨some 104, _, _, _, _, _⟩) (v := undef) rfl (by kernel_rfl) (by kernel_rfl) (by decide +kernel) (fun _ _ _ h => h) (Or.inr ⟨by rfl, rfl⟩) (by assumption) ?_
                (try simp only [Act.put, List.setIfInBounds_toArray, List.set_cons_zero, List.set_cons_succ])
                refine wpAnyH_take (i := 31) (oi := ⟨some 105, _, _, _, _, _⟩) (v := undef) rfl (by kernel_rfl) (by kernel_rfl) (by decide +kernel) (fun _ _ _ h => h) (Or.inr ⟨by rfl, rfl⟩) (by assumption) ?_
                (try simp only [Act.put, List.setIfInBounds_toArray, List.set_cons_zero, List.set_cons_succ])
                refine wpAnyH_take (i := 32) (oi := ⟨some 106, _, _, _, _, _⟩) (v := undef) rfl (by kernel_rfl) (by kernel_rfl) (by decide +kernel) (fun _ _ _ h => h) (Or.inr ⟨by rfl, rfl⟩) (by assumption) ?_
                (try simp only [Act.put, List.setIfInBounds_toArray, List.set_cons_zero, List.set_cons_succ])
                refine wpAnyH_take (i := 33) (oi := ⟨some 107, _, _, _, _, _⟩) (v := undef) rfl (by kernel_rfl) (by kernel_rfl) (by decide +kernel) (fun _ _ _ h => h) (Or.inr ⟨by rfl, rfl⟩) (by assumption) ?_
                (try simp only [Act.put, List.setIfInBounds_toArray, List.set_cons_zero, List.set_cons_succ])
                refine wpAnyH_take (i := 34) (oi := ⟨some 108, _, _, _, _, _⟩) (v := undef) rfl (by kernel_rfl) (by kernel_rfl) (by decide +kernel) (fun _ _ _ h => h) (Or.inr ⟨by rfl, rfl⟩) (by assumption) ?_
                (try simp only [Act.put, List.setIfInBounds_toArray, List.set_cons_zero, List.set_cons_succ])
                refine wpAnyH_take (i := 35) (oi := ⟨some 109, _, _, _, _, _⟩) (v := ?_) rfl (by kernel_rfl) (by kernel_rfl) (by decide +kernel) (fun _ _ _ h => h) (Or.inl ⟨by rfl, fun w hSw => ?_⟩) (by assumption) ?_
                rotate_left 1
                next => ((try dsimp only at hSw); go_simp; first | done | with_reducible rfl)
                (try simp only [Act.put, List.setIfInBounds_toArray, List.set_cons_zero, List.set_cons_succ])
                refine wpAnyH_done (by kernel_rfl) ?_ _
                go_wp2_with fail
                go_meet
                case rel => exact ⟨by rw [HCE.out], HBw35⟩
              case neg =>
                have g3 : ((x0.toNat : Int) == (j : Int) + 1) = false := by rw [h3]; simpa using e3
                obtain ⟨e4, he4⟩ : ∃ e, (x1 == v) = e := ⟨_, rfl⟩
                rw [he4] at h4
                have HCE : Hid (c = e4) := Lib.hid (by
                  rw [← HC.out, ← he4, beq_eq_false_iff_ne.2 e1, beq_eq_false_iff_ne.2 e2, beq_eq_false_iff_ne.2 e3]
                  rfl)
                clear he4 e1 e2 e3 hv2 h1 h2 h3
                go_region_held3 (fun w' => w'.cell? ⟨D, 0, none⟩ = some (.slice (some ⟨I, 0, none⟩) 1 1) ∧ w'.cell? ⟨D, 1, none⟩ = some (.int .i64 1) ∧ w'.cell? ⟨D, 2, none⟩ = some (.int .i64 (1 + z)) ∧ w'.cell? ⟨D, 3, none⟩ = some (.int .i64 j) ∧ w'.cell? ⟨g, 0, none⟩ = some (.slice q0.ia q0.d.ins.length q0.ic) ∧ w'.cell? ⟨g, 1, none⟩ = some (.int .i64 q0.d.outs) ∧ w'.cell? ⟨g, 2, none⟩ = some (.int .i64 q0.d.weight) ∧ w'.cell? ⟨g, 3, none⟩ = some (.int .i64 q0.d.fee) ∧ w'.cell? ⟨g, 4, none⟩ = some (.slice q1.ia q1.d.ins.length q1.ic) ∧ w'.cell? ⟨g, 5, none⟩ = some (.int .i64 q1.d.outs) ∧ w'.cell? ⟨g, 6, none⟩ = some (.int .i64 q1.d.weight) ∧ w'.cell? ⟨g, 7, none⟩ = some (.int .i64 q1.d.fee) ∧ Below wd.heap.size wd w')
                  (first | exact ⟨d0, d1, d2, d3, a0, a1, a2, a3, b0, b1, b2, b3, hdr⟩ | (go_split_ands; exact ⟨by assumption, by assumption, by assumption, by assumption, by assumption, by assumption, by assumption, by assumption, by assumption, by assumption, by assumption, by assumption, by assumption⟩) | exact ⟨kept_cell hb2 d0, kept_cell hb2 d1, kept_cell hb2 d2, kept_cell hb2 d3, kept_cell hb2 a0, kept_cell hb2 a1, kept_cell hb2 a2, kept_cell hb2 a3, kept_cell hb2 b0, kept_cell hb2 b1, kept_cell hb2 b2, kept_cell hb2 b3, kept_trans hdr hb2⟩ | (go_split_ands; exact ⟨kept_cell hb2 (by assumption), kept_cell hb2 (by assumption), kept_cell hb2 (by assumption), kept_cell hb2 (by assumption), kept_cell hb2 (by assumption), kept_cell hb2 (by assumption), kept_cell hb2 (by assumption), kept_cell hb2 (by assumption), kept_cell hb2 (by assumption), kept_cell hb2 (by assumption), kept_cell hb2 (by assumption), kept_cell hb2 (by assumption), kept_trans (by assumption) hb2⟩))
                  (first
                    | (go_at_call 13; (go_split_ands; (with_reducible refine (tid_rd HCD.out _ x HX.out _ (insAt_kept (by assumption) HLD.out.ins)).mono ?_); rintro e w2 ⟨rfl, hb2⟩))
                    | (go_at_call 13; (go_split_ands; (with_reducible refine (tidOf_any q0.d HC0.out q0.ia q0.ic x0 HX0.out _ (insAt_kept (by assumption) HI0.out)).mono ?_); rintro e w2 ⟨rfl, hb2⟩))
                    | (go_at_call 13; (go_split_ands; (with_reducible refine (tidOf_any q1.d HC1.out q1.ia q1.ic x1 HX1.out _ (insAt_kept (by assumption) HI1'.out)).mono ?_); rintro e w2 ⟨rfl, hb2⟩)))
                go_split_ands
                go_wp2_with fail
                go_meet
                case rel => exact ⟨by rw [HCE.out], Lib.hid (by assumption)⟩
        case rest =>
          obtain ⟨rfl, hcut2⟩ := hcut
          have H18 := Lib.hid (H15.out.kept hcut2.out)
          have HLD18 := Lib.hid (HLD.out.kept hcut2.out)
          clear d0 d1 d2 d3 a0 a1 a2 a3 b0 b1 b2 b3 ld la hdr hwd hwI
          cases c with
          | true =>
            go_wp2_with fail
            go_ret
            exact ⟨rfl, kept_trans HB2.out H18.out.below⟩
          | false =>
            have hne := HC.out
            simp only [Bool.or_eq_false_iff, beq_eq_false_iff_ne, ne_eq] at hne
            obtain ⟨⟨⟨hn1, hn2⟩, hn3⟩, hn4⟩ := hne
            obtain ⟨BD, hBD⟩ : ∃ B, bringB ⟨[(v, k)], 1, 1 + z, j⟩ = B := ⟨_, rfl⟩
            obtain ⟨u4, hu4⟩ : ∃ u4, u3.bring P ⟨[(v, k)], 1, 1 + z, j⟩ = u4 := ⟨_, rfl⟩
            have HS4 : Hid (FloodS q0.d q1.d u4) := Lib.hid (hu4 ▸ HS3.out.step (HGF.out.weight 1 (by simp)) hP8 hP0 HCD.out rfl (by rw [HX.out, HX0.out]; exact hn1) (by rw [HX.out, HX1.out]; exact hn2) (by rw [HX0.out]; exact fun e => hn3 e.symm) (by rw [HX1.out]; exact fun e => hn4 e.symm))
            have HT4 : Hid (u4.thereE (0 : Nat) = 0) := Lib.hid (hu4 ▸ there_bring HT3.out)
            have HSD : Hid (u3.send P BD = (u4, [], 0)) := Lib.hid (by rw [← hBD, ← hu4]; exact send_brought HCD.out HP3.out)
            have HBS : Hid (BD.size ≤ maxLen) := Lib.hid (by rw [← hBD]; exact bring_small HCD.out)
            have HAL : Hid (u3.A.length ≤ 2950000000000) := Lib.hid (by rw [HS3.out.A]; exact Nat.zero_le _)
            have HBD := Lib.hid hBD
            obtain ⟨d0, d1, d2, d3⟩ := HLD18.out.box
            simp only [List.length_cons, List.length_nil, Nat.zero_add] at d0 d1 d2 d3
            have ld := (cell_spot d0).2
            clear hn1 hn2 hn3 hn4 hBD hu4
            go_wp2_with fail
            with_reducible refine (tbring_rd HCD.out _ BD HBD.out _ HLD18.out.ins).mono ?_
            rintro e w19 ⟨rfl, hb19⟩
            have H19 := Lib.hid (H18.out.kept hb19)
            clear hb19 d0 d1 d2 d3 ld
            go_wp2_with fail
            with_reducible refine (send_any P BD HBS.out HAL.out _ HSD.out _ H19.out.node).mono ?_
            rintro e w20 ⟨v20, F20, rfl, ho20, h20, t20, _⟩
            simp only at ho20 h20 ⊢
            obtain ⟨a20, c20, rfl, _⟩ := outs_form ho20
            have H20 := Lib.hid (H19.out.turned h20 t20)
            have hdr := (Below.refl w20.heap.size w20).drew
            have H20d := Lib.hid (H20.out.kept hdr)
            obtain ⟨_, _, _, _, b0, b1, b2, b3, _, i1⟩ := HLL.out.kept H20d.out.below
            have lb := (cell_spot b0).2
            have HI20 := Lib.hid i1
            obtain ⟨ys, hys⟩ : ∃ ys, Ho.allL u4.P = ys := ⟨_, rfl⟩
            obtain ⟨my, hmy⟩ : ∃ m, ys.length = m := ⟨_, rfl⟩
            have HYS := Lib.hid hys
            have HYL := Lib.hid hmy
            have HYM : Hid (ys.length ≤ maxLen) := Lib.hid (by
              have h1 := H20.out.node.good.P.len
              have h2 := Ho.allL_len u4.P
              rw [hys] at h2
              omega)
            have HYC : Hid (ys.contains x1 = true) := Lib.hid (by
              rw [List.contains_iff_mem, ← hys, ← HX1.out]
              exact HS4.out.P.there)
            clear ho20 h20 t20 i1 hys hmy hdr
            go_upto_region 21 with fail
            go_cut [122] from 115 to 122 (fun v wx => v = .bool false ∧ Hid (Mine w2 wx F20 R u4))
            case first =>
              go_region_law (first
                | (go_simp; go_at_call 20; (with_reducible refine (orphans_at ys my HYS.out HYL.out _ H20d.out.node).mono ?_); rintro e w21 ⟨a21, c21, rfl, hat21, hb21⟩; have b0 := kept_cell hb21 b0; have b1 := kept_cell hb21 b1; have b2 := kept_cell hb21 b2; have b3 := kept_cell hb21 b3; have lb := (cell_spot b0).2; have HA21 := Lib.hid hat21; have H21 := Lib.hid (H20d.out.kept hb21); have HI21 := Lib.hid (insAt_kept hb21 HI20.out); clear hat21 hb21)
                | (go_simp; go_at_call 13; (with_reducible refine (tidOf_any q1.d HC1.out q1.ia q1.ic x1 HX1.out _ HI21.out).mono ?_); rintro e w22 ⟨rfl, hb22⟩; have HA22 := Lib.hid (idsAt_kept hb22 HA21.out); have H22 := Lib.hid (H21.out.kept hb22); clear hb22)
                | (go_simp; go_at_call 19; (with_reducible refine (hasID_at ys my HYL.out x1 true HYC _ _ _ HYM.out HA22.out).mono ?_); rintro e w23 ⟨rfl, rfl⟩))
              all_goals
                go_wp2_with fail
                go_meet
                case rel => exact ⟨rfl, H22⟩
            case rest =>
              obtain ⟨rfl, H23⟩ := hcut
              clear b0 b1 b2 b3 lb
              go_wp2_with fail
              go_roundw
              case rel => exact ⟨j + 1, F20, u4, by omega, by go_num, H23, HS4, HT4⟩
              case measure => simp [intOf]; omega
      · obtain ⟨B0, hB0⟩ : ∃ B, bringB q0.d = B := ⟨_, rfl⟩
        obtain ⟨u5, hu5⟩ : ∃ u5, u.bring 0 q0.d = u5 := ⟨_, rfl⟩
        obtain ⟨x0, hx0⟩ : ∃ x, Ju.idD q0.d = x := ⟨_, rfl⟩
        obtain ⟨x1, hx1⟩ : ∃ x, Ju.idD q1.d = x := ⟨_, rfl⟩
        have HX0 := Lib.hid hx0
        have HX1 := Lib.hid hx1
        have HSD : Hid (u.send (0 : Nat) B0 = (u5, [], 0)) := Lib.hid (by rw [← hB0, ← hu5]; exact send_brought HC0.out HT8.out)
        have HA5 : Hid (u5.A.map Ju.idD = [x0, x1]) := Lib.hid (by rw [← hu5, HS8.out.both HCH.out, ← hx0, ← hx1]; rfl)
        have HBS : Hid (B0.size ≤ maxLen) := Lib.hid (by rw [← hB0]; exact bring_small HC0.out)
        have HAL : Hid (u.A.length ≤ 2950000000000) := Lib.hid (by rw [HS8.out.A]; exact Nat.zero_le _)
        have HBB := Lib.hid hB0
        obtain ⟨a0, a1, a2, a3, b0, b1, b2, b3, i0, i1⟩ := HLL.out.kept H8.out.below
        have la := (cell_spot a0).2
        have HI0 := Lib.hid i0
        clear hB0 hu5 hx0 hx1 i0 i1 b0 b1 b2 b3
        go_wp2_with fail
        with_reducible refine (tbringB_any q0.d HC0.out q0.ia q0.ic B0 HBB.out _ HI0.out).mono ?_
        rintro e w9 ⟨rfl, hb9⟩
        have H9 := Lib.hid (H8.out.kept hb9)
        clear hb9 a0 a1 a2 a3 la
        go_wp2_with fail
        with_reducible refine (send_any 0 B0 HBS.out HAL.out _ HSD.out _ H9.out.node).mono ?_
        rintro e w10 ⟨v10, F10, rfl, ho10, h10, t10, _⟩
        simp only at ho10 h10 ⊢
        obtain ⟨a10, c10, rfl, _⟩ := outs_form ho10
        have H10 := Lib.hid (H9.out.turned h10 t10)
        have hdr := (Below.refl w10.heap.size w10).drew
        have H10d := Lib.hid (H10.out.kept hdr)
        obtain ⟨a0, a1, a2, a3, b0, b1, b2, b3, i0, i1⟩ := HLL.out.kept H10d.out.below
        have la := (cell_spot a0).2
        clear ho10 h10 t10 i0 i1 hdr
        go_wp2_with fail
        go_region_law (first
          | (go_simp; go_at_call 15; (with_reducible refine (accepted_is [x0, x1] 2 HA5.out rfl (by decide) _ H10d.out.node).mono ?_); rintro e w27 ⟨a27, c27, rfl, hat27, hb27⟩; have a0 := kept_cell hb27 a0; have a1 := kept_cell hb27 a1; have a2 := kept_cell hb27 a2; have a3 := kept_cell hb27 a3; have b0 := kept_cell hb27 b0; have b1 := kept_cell hb27 b1; have b2 := kept_cell hb27 b2; have b3 := kept_cell hb27 b3; have la := (cell_spot a0).2; have HA27 := Lib.hid hat27; have H27 := Lib.hid (H10d.out.kept hb27); have HI27 := Lib.hid (HLL.out.kept H27.out.below).i0; clear hat27 hb27)
          | (go_simp; go_at_call 13; (with_reducible refine (tidOf_any q0.d HC0.out q0.ia q0.ic x0 HX0.out _ HI27.out).mono ?_); rintro e w28 ⟨rfl, hb28⟩; have b0 := kept_cell hb28 b0; have b1 := kept_cell hb28 b1; have b2 := kept_cell hb28 b2; have b3 := kept_cell hb28 b3; have lb := (cell_spot b0).2; have HA28 := Lib.hid (idsAt_kept hb28 HA27.out); have H28 := Lib.hid (H27.out.kept hb28); have HI28 := Lib.hid (HLL.out.kept H28.out.below).i1; clear hb28)
          | (go_simp; go_at_call 13; (with_reducible refine (tidOf_any q1.d HC1.out q1.ia q1.ic x1 HX1.out _ HI28.out).mono ?_); rintro e w29 ⟨rfl, hb29⟩; have HA29 := Lib.hid (idsAt_kept (kept_trans hb29 (kept_new w29 (.cells #[.int .u64 x0.toNat, .int .u64 x1.toNat] 22))) HA28.out); have H29 := Lib.hid (H28.out.kept (kept_trans hb29 (kept_new w29 (.cells #[.int .u64 x0.toNat, .int .u64 x1.toNat] 22)))); have HIX := Lib.hid (ids_pair w29 x0 x1); clear hb29)
          | (go_simp; go_at_call 14; (with_reducible refine (eqID_two x0 x1 _ _ _ _ _ HA29.out HIX.out).mono ?_); rintro e w30 ⟨rfl, rfl⟩))
        all_goals
          go_wp2_with fail
          go_ret
          exact ⟨rfl, kept_trans HB2.out H29.out.below⟩
end Go.Proofs.YtaaaplbjeknbkabGreat
