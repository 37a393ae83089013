/-
  Contracts of package orphan: a range over the map of a pool; isFull.
-/
import Derived.Test.YtaaaplbjeknbkaaGreatSHomeW4
set_option maxRecDepth 20000
namespace Go.Proofs.YtaaaplbjeknbkaaGreat.So.Ho
open Go.Proofs.YtaaaplbjeknbkaaGreat.Ho
open Go.RowKit Go.Maps

variable {w w' : World} {F : Nat → Prop} {R : Nat} {it : Option It} {ls : List LD} {M : UInt64 → Option DeedD} {b : Nat} {ev : UInt64 → Option Value} {v : Value}

/-- A step of a range over the map of a pool. -/
theorem next_tmap {P : Program} {ops : Array Oper} {rest : List Oper} {o : Oper} {a : Act} {Q : Exit → Act → World → Prop} (w : World) (hg : o.guard = none) (itr : Operand) (hop : o.op = Op.next itr false) (hP : P = Tryz.prog)
    (b r : Nat) (left : Lit → Bool) (cnt : Nat) (ev : UInt64 → Option Value) (hit : a.eval itr = .pointer (some ⟨r, 0, none⟩)) (h : TMap w b (some ⟨r, left, cnt⟩) ev)
    (hDone : cnt = 0 → (∀ kl, left kl = false) → wpList P ops Q rest (a.put o.dst (.tuple #[.bool false])) w)
    (hMore : ∀ (x : UInt64) (v : Value) (w' : World) (cnt' : Nat), left (.int .u64 x.toNat) = true → ev x = some v → TMap w' b (some ⟨r, fun z => left z && !z.sameKey (.int .u64 x.toNat), cnt'⟩) ev → cnt' < cnt →
      w.grownBy w' (some r) → w'.heap.size = w.heap.size → (Instr.entry (.pointer (some ⟨r, 0, none⟩))).run P w' = .ok (.tuple #[.int .u64 x.toNat, v]) w' → wpList P ops Q rest (a.put o.dst (.tuple #[.bool true, .int .u64 x.toNat, v])) w') :
    wpList P ops Q (o :: rest) a w := by
  subst hP
  obtain ⟨D, ⟨n, hm⟩, hat, hhas⟩ := h
  exact wpList_next_ranges w hg itr hop 22 u64_keyed exactE (fun x : UInt64 => Value.int .u64 x.toNat) (fun v : Value => v)
    (fun key kl hkey => by
      obtain ⟨x, rfl, _, hw⟩ := Maps.keyOf_int_inv Tryz.underlying22 hkey
      obtain ⟨u, rfl⟩ := wf_u64 hw
      exact ⟨u, rfl⟩) (fun v _ _ => ⟨v, rfl⟩)
    b r n D left cnt hit hm hDone (fun x c kl y w' cnt' hkey hlk hv hy hrg hlt hgr hsz hen => by
      rw [u64_key x] at hkey
      cases hkey
      have e1 : y.1 = .held c := by unfold exactE at hv; cases hv; rfl
      have hx : ev x = some c := by
        have h1 := has_true_of_atKey hy
        rw [hhas x] at h1
        obtain ⟨v, hv'⟩ := Option.isSome_iff_exists.1 h1
        have h2 := hat x v hv' .nil
        rw [hy, e1] at h2
        cases h2
        exact hv'
      exact hMore x c w' cnt' hlk hx ⟨D, ⟨n, hrg⟩, hat, hhas⟩ hlt hgr hsz hen)
theorem tmap_left {w : World} {b : Nat} {i : It} {ev : UInt64 → Option Value} (h : TMap w b (some i) ev) : w.rangeLeft b i.r = i.cnt := by
  obtain ⟨D, ⟨n, hm⟩, _⟩ := h
  exact World.ranges.left_eq hm
theorem tmap_end {w : World} {b : Nat} {it : Option It} {ev : UInt64 → Option Value} (h : TMap w b it ev) : TMap w b none ev := by
  obtain ⟨D, hm, r⟩ := h
  exact ⟨D, mapIs_owns hm, r⟩
theorem HomeAt.ended (h : HomeAt w F R it ls M b ev v) : HomeAt w F R none ls M b ev v :=
  ⟨h.head, tmap_end h.map, h.deeds, h.fine, h.links, h.fR, h.fb, h.fv, h.there, fun i hi => by cases hi⟩
/-- The iterator has gone on. -/
theorem HomeAt.stepped {r : Nat} {left left' : Lit → Bool} {cnt cnt' : Nat} (h : HomeAt w F R (some ⟨r, left, cnt⟩) ls M b ev v) (hm : TMap w' b (some ⟨r, left', cnt'⟩) ev) (hg : w.grownBy w' (some r)) : HomeAt w' F R (some ⟨r, left', cnt'⟩) ls M b ev v := by
  have hr := h.out _ rfl
  have hF : ∀ k, F k → w'.heap[k]? = w.heap[k]? := fun k hk => hg.block k (h.there k hk) (fun e => hr.1 (by cases e; exact hk))
  exact ⟨(hF R h.fR).trans h.head, hm, fun x => (h.deeds x).imp id fun ⟨a, c, d, h1, h2, h3, h4⟩ => ⟨a, c, d, h1, h2, own_same h3 fun g hg => hF g (h4 g hg), h4⟩, h.fine, own_same h.links fun g hg => hF g (h.fv g hg), h.fR, h.fb, h.fv, h.there.later hg.size, fun i hi => by cases hi; exact ⟨hr.1, Nat.lt_of_lt_of_le hr.2 hg.size⟩⟩
/-- A range has begun. -/
theorem HomeAt.ranged {w0 : World} {D : DataW Value} {n : Nat} (h : HomeAt w F R none ls M b ev v) (hat : ∀ x v, ev x = some v → ∀ z, D.atKey (.int .u64 x.toNat) z = .held v) (hhas : ∀ x : UInt64, Maps.has D (.int .u64 x.toNat) = (ev x).isSome) (hrg : w0.ranges Tryz.prog 22 exactE b w.heap.size n D (Maps.has D) (Maps.size D)) (hg : w.grownBy w0 none) (hs : w0.heap.size = w.heap.size + 1) :
    HomeAt w0 F R (some ⟨w.heap.size, Maps.has D, Maps.size D⟩) ls M b ev v := by
  have hk := h.kept (grown_below hg)
  exact ⟨hk.head, ⟨D, ⟨n, hrg⟩, hat, hhas⟩, hk.deeds, hk.fine, hk.links, hk.fR, hk.fb, hk.fv, hk.there, fun i hi => by
    cases hi
    exact ⟨fun hF => absurd (h.there w.heap.size hF) (Nat.lt_irrefl _), by show w.heap.size < _; omega⟩⟩

/-- The weight of an ID's deed. -/
def wI (M : UInt64 → Option DeedD) (x : UInt64) : Int := ((M x).getD nod).weight
def sumW (M : UInt64 → Option DeedD) (ks : List UInt64) : Int := (ks.map (wI M)).sum
theorem sumW_out {M : UInt64 → Option DeedD} {f : UInt64 → Bool} {x : UInt64} : ∀ {ks : List UInt64}, ks.Nodup → x ∈ ks → f x = true → sumW M (ks.filter f) = wI M x + sumW M (ks.filter fun y => f y && !(y == x))
  | [], _, h, _ => absurd h (by simp)
  | a :: r, hn, hx, hf => by
    obtain ⟨ha, hr⟩ := List.nodup_cons.1 hn
    by_cases e : x = a
    · subst e
      have : r.filter f = r.filter fun y => f y && !(y == x) := List.filter_congr fun y hy => by
        have : (y == x) = false := beq_eq_false_iff_ne.2 (fun e => ha (e ▸ hy))
        rw [this]; simp
      rw [List.filter_cons_of_pos hf, List.filter_cons_of_neg (by simp), ← this]
      simp [sumW]
    · have hxr : x ∈ r := (List.mem_cons.1 hx).resolve_left e
      have ih := sumW_out (M := M) hr hxr hf
      have hax : (a == x) = false := beq_eq_false_iff_ne.2 (fun e' => e e'.symm)
      cases hfa : f a with
      | true =>
        rw [List.filter_cons_of_pos hfa, List.filter_cons_of_pos (by rw [hfa, hax]; rfl)]
        simp only [sumW, List.map_cons, List.sum_cons] at ih ⊢
        omega
      | false =>
        rw [List.filter_cons_of_neg (by rw [hfa]; simp), List.filter_cons_of_neg (by rw [hfa]; simp)]
        exact ih
theorem HomeAt.weightI (h : HomeAt w F R it ls M b ev v) (x : UInt64) : 0 ≤ wI M x ∧ wI M x ≤ 1000 := h.weight ⟨0, x⟩
theorem sumW_bound (hw : ∀ x, 0 ≤ wI M x ∧ wI M x ≤ 1000) (ks : List UInt64) : 0 ≤ sumW M ks ∧ sumW M ks ≤ 1000 * ks.length := by
  have h1 := sum_bound (wI M) 0 1000 ks (fun x _ => hw x)
  unfold sumW
  omega
/-- How many peers have links. -/
def peersF (u : Nat → Int × Int) (k : Nat) : Nat := ((List.range k).filter fun p => decide (0 < (u p).2)).length
theorem peersF_le (u : Nat → Int × Int) (k : Nat) : peersF u k ≤ k := by
  have := List.length_filter_le (fun p => decide (0 < (u p).2)) (List.range k)
  simpa [peersF] using this
theorem peersF_step (u : Nat → Int × Int) (k : Nat) : peersF u (k + 1) = if 0 < (u k).2 then peersF u k + 1 else peersF u k := by
  unfold peersF
  rw [List.range_succ, List.filter_append, List.length_append]
  by_cases h : 0 < (u k).2
  · simp [h]
  · simp [h]
/-- There is too much. -/
def fullF (M : UInt64 → Option DeedD) (ls : List LD) (ks : List UInt64) : Bool := decide (sumW M ks > 3000 * (peersF (usageF M ls) 8 : Int)) || decide (ls.length > 24)
set_option maxRecDepth 20000 in
theorem isFull_any (ks : List UInt64) (hn : ks.Nodup) (hks : ∀ x, (M x).isSome = true ↔ x ∈ ks) (hkl : ks.length ≤ 1000) (w : World) (h : HomeAt w F R none ls M b ev v) (hl : ls.length ≤ 1000) (hp8 : ∀ l ∈ ls, l.peer < 8) :
    Calls Tryz.prog 101 #[.pointer (some ⟨R, 0, none⟩)] w fun e w' => e = .returned (.bool (fullF M ls ks)) ∧ Below w.heap.size w w' := by
  have hmc := h.mapc
  have hlt := h.lt
  obtain ⟨D, ⟨n, hown⟩, hat, hhas⟩ := h.map
  have HAT := Lib.hid (And.intro hat hhas)
  have H := Lib.hid h
  have HW := Lib.hid h.weightI
  have HN := Lib.hid hn
  have HK := Lib.hid hks
  have HP := Lib.hid hp8
  obtain ⟨tot, htot⟩ : ∃ t, sumW M ks = t := ⟨_, rfl⟩
  have HTOT := Lib.hid htot
  have htb := sumW_bound h.weightI ks
  rw [htot] at htb
  have ht0 := htb.1
  have ht1 : tot ≤ 1000000 := by omega
  clear h hat hhas hn hks hp8 htot htb
  go_enter Tryz.func101, Tryz.ntmps101
  go_wp2_with (first
    | (at_range; refine wpList_range_own _ rfl _ 47 rfl 22 50 u64_keyed Tryz.underlying47 _ b n D rfl hown ?_; intro w0 hrg0 hg0 hs0)
    | go_in)
  try go_frame
  have hb0 : Below w.heap.size w w0 := grown_below hg0
  have HR0 := Lib.hid (H.out.ranged HAT.out.1 HAT.out.2 hrg0 hg0 hs0)
  clear hrg0 hg0 hs0 hown
  go_loopw [3] (fun vz wr => ∃ (z : Int) (left : Lit → Bool) (cnt : Nat), vz = .int .i64 z ∧ 0 ≤ z ∧ z ≤ tot ∧ Hid (HomeAt wr F R (some ⟨w.heap.size, left, cnt⟩) ls M b ev v) ∧ Hid (z + sumW M (ks.filter fun x => left (.int .u64 x.toNat)) = tot) ∧ Hid (Below w.heap.size w wr))
    (fun _ wr => wr.rangeLeft b w.heap.size)
  case atStart =>
    refine ⟨0, _, _, rfl, by omega, by omega, HR0, Lib.hid ?_, Lib.hid hb0⟩
    have e1 : (ks.filter fun x => Maps.has D (.int .u64 x.toNat)) = ks := List.filter_eq_self.2 fun x hx => by
      rw [HAT.out.2 x, H.out.there_is x]
      exact (HK.out x).2 hx
    rw [e1, HTOT.out]
    omega
  case round =>
    obtain ⟨z, left, cnt, rfl, hz0, hz1, HT, HS, HB⟩ := hrel
    have hm := HT.out.map
    go_wp2_with (first
      | (at_next; refine next_tmap _ rfl _ rfl rfl b w.heap.size left cnt ev rfl hm ?_ ?_)
      | go_in)
    · intro hc0 hl0
      have hz : tot = z := by
        have := HS.out
        have e0 : (ks.filter fun y : UInt64 => left (.int .u64 y.toNat)) = [] := List.filter_eq_nil_iff.2 fun y _ => by rw [hl0]; simp
        rw [e0] at this
        simp [sumW] at this
        exact this.symm
      subst hz
      have HE := Lib.hid HT.out.ended
      clear hm hc0 hl0 hz0 hz1 HS
      go_wp2_with fail
      with_reducible refine (usages_any _ HE.out hl HP.out).mono ?_
      rintro e w1 ⟨rfl, hb1⟩
      obtain ⟨u, hu⟩ : ∃ u, usageF M ls = u := ⟨_, rfl⟩
      have HUU := Lib.hid hu
      rw [hu]
      have hix := index_us u
      have H1 := Lib.hid (HE.out.kept hb1)
      have HB1 := Lib.hid (kept_trans HB.out hb1)
      clear hu hb1
      obtain ⟨wB, hwB⟩ : ∃ x, x = wr := ⟨_, rfl⟩
      subst hwB
      go_wp2_with fail
      go_loopw [4, 24] (fun vc vk wq => ∃ k : Nat, k ≤ 8 ∧ vc = .int .i64 (peersF u k) ∧ vk = .int .i64 k ∧ Hid (Below w1.heap.size w1 wq)) (fun _ k _ => 8 - (intOf k).toNat)
      case atStart => exact ⟨0, by omega, rfl, rfl, Lib.hid (Below.refl _ _)⟩
      case round =>
        obtain ⟨k, hk, rfl, rfl, HQ⟩ := hrel
        by_cases hkl : k < 8
        · have hixk := hix k hkl
          have hki : (k : Int) < 8 := by omega
          have hpl := peersF_le u k
          have hst := peersF_step u k
          clear hix
          by_cases hg : 0 < (u k).2
          · rw [if_pos hg] at hst
            have HST := Lib.hid hst
            clear hst
            go_wp2_with fail
            go_roundw
            case rel => exact ⟨k + 1, by omega, by rw [HST.out]; go_num, by go_num, Lib.hid (kept_alloc HQ.out _)⟩
            case measure => simp [intOf]; omega
          · rw [if_neg hg] at hst
            have HST := Lib.hid hst
            clear hst
            go_wp2_with fail
            go_roundw
            case rel => exact ⟨k + 1, by omega, by rw [HST.out], by go_num, Lib.hid (kept_alloc HQ.out _)⟩
            case measure => simp [intOf]; omega
        · obtain rfl : k = 8 := by omega
          have hpl := peersF_le u 8
          have H2 := H1.out.kept HQ.out
          obtain ⟨a, cap, rfl, hcap, _⟩ := H2.linkForm
          have hlc := H2.linkc.1
          have hltq := H2.lt
          have HF : Hid (fullF M ls ks = (decide (tot > 3000 * (peersF u 8 : Int)) || decide ((ls.length : Int) > 24))) := Lib.hid (by
            unfold fullF
            rw [HTOT.out, HUU.out]
            congr 1
            rw [decide_eq_decide]
            omega)
          clear H2 hix
          by_cases hA : tot > 3000 * (peersF u 8 : Int)
          · have HA : Hid (fullF M ls ks = true) := Lib.hid (by rw [HF.out, decide_eq_true hA]; rfl)
            go_wp2_with fail
            go_ret
            exact ⟨ret_bool HA.out.symm, kept_trans HB1.out HQ.out⟩
          · have HA : Hid (fullF M ls ks = decide ((ls.length : Int) > 24)) := Lib.hid (by rw [HF.out, decide_eq_false hA]; simp)
            go_wp2_with fail
            go_ret
            exact ⟨ret_bool HA.out.symm, kept_trans HB1.out HQ.out⟩
    · intro x vx w1 cnt1 hlx hvx hm1 hlt1 hg1 hs1 hen
      have hrlt := (HT.out.out _ rfl).2
      have H1 := HT.out.stepped hm1 hg1
      rcases H1.deeds x with ⟨h1, _⟩ | ⟨a, c, d, h1, h2, _, _⟩
      · rw [h1] at hvx
        cases hvx
      · rw [h1] at hvx
        cases hvx
        unfold deedV at hen ⊢
        have hwx : wI M x = d.weight := by unfold wI; rw [h2]; rfl
        have hsum := sumW_out (M := M) (f := fun y => left (.int .u64 y.toNat)) HN.out ((HK.out x).1 (by rw [h2]; rfl)) hlx
        have hb2 := sumW_bound HW.out (ks.filter fun y => left (.int .u64 y.toNat) && !(y == x))
        have hwb := HW.out x
        rw [hwx] at hsum hwb
        have hs := HS.out
        rw [hsum] at hs
        have hz2 : z + d.weight ≤ tot := by omega
        have hw0 := hwb.1
        have hw1 := hwb.2
        have HS1 : Hid (z + d.weight + sumW M (ks.filter fun y => (fun q : Lit => left q && !q.sameKey (.int .u64 x.toNat)) (.int .u64 y.toNat)) = tot) := Lib.hid (by
          have e1 : (fun y : UInt64 => (fun q : Lit => left q && !q.sameKey (.int .u64 x.toNat)) (.int .u64 y.toNat)) = fun y => left (.int .u64 y.toNat) && !(y == x) := funext fun y => by
            show (left (.int .u64 y.toNat) && !(Lit.int .u64 y.toNat).sameKey (.int .u64 x.toNat)) = _
            rw [same_lit]
          rw [e1]
          omega)
        have HH1 := Lib.hid H1
        have HB1 : Hid (Below w.heap.size w w1) := Lib.hid (HB.out.grown hg1 HB.out.size (fun j hj => by cases hj; exact Nat.le_refl _))
        have HC : Hid (cnt1 < cnt) := Lib.hid hlt1
        clear H1 h1 h2 hwx hsum hb2 hwb hs hm1 hg1 hlx hlt1 HS hm
        go_wp2_with fail
        go_roundw
        case rel => exact ⟨z + d.weight, _, cnt1, rfl, by omega, hz2, Lib.hid (HH1.out.kept (kept_new _ _)), HS1, Lib.hid (kept_alloc HB1.out _)⟩
        case measure =>
          rw [tmap_left (HH1.out.kept (kept_new _ _)).map, tmap_left HT.out.map]
          exact HC.out
end Go.Proofs.YtaaaplbjeknbkaaGreat.So.Ho
