/-
  The contracts of due and Due.
-/
import Derived.Test.YtamiddnkgjfdhaaTrackW2
namespace Go.Proofs.Ytamiddnkgjfdhaa
open Go.RowKit Go.Maps

variable {w : World} {F : Nat → Prop} {R : Nat} {it : Option It} {s : TS} {b : Nat} {ev : UInt64 → Option Value} {pv : Nat → Value}

/-- What a time makes of an entry. -/
def dueE (now : Int) (e : TEnt) : TEnt := if e.till ≤ now then (if e.st = 0 then { e with st := 1 } else if e.st = 2 then { e with st := 3 } else e) else e
theorem set_same {α : Type} {l : List α} {k : Nat} {v : α} (h : l[k]? = some v) : l.set k v = l := by
  apply List.ext_getElem?
  intro i
  rw [List.getElem?_set]
  split
  · rename_i e
    subst e
    split
    · exact h.symm
    · rename_i hk
      rw [List.getElem?_eq_none (by omega)]
  · rfl
theorem entsC_st (l : List TEnt) (i : Nat) (h : i < l.length) (k : Nat) : entsC (l.set i { l[i] with st := k }) = (entsC l).set (i * 5 + 3) (.int .i64 k) := by
  have h0 := entsC_at l i h 0 (by omega)
  have h1 := entsC_at l i h 1 (by omega)
  have h2 := entsC_at l i h 2 (by omega)
  have h4 := entsC_at l i h 4 (by omega)
  rw [entsC_set, set_same (k := i * 5) h0, set_same (k := i * 5 + 1) h1, set_same (k := i * 5 + 2) h2]
  refine set_same ?_
  rw [List.getElem?_set_ne (by omega)]
  exact h4
theorem entsC_till (l : List TEnt) (i : Nat) (h : i < l.length) (t : Int) : entsC (l.set i { l[i] with till := t }) = (entsC l).set (i * 5 + 4) (.int .i64 t) := by
  have h0 := entsC_at l i h 0 (by omega)
  have h1 := entsC_at l i h 1 (by omega)
  have h2 := entsC_at l i h 2 (by omega)
  have h3 := entsC_at l i h 3 (by omega)
  rw [entsC_set, set_same (k := i * 5) h0, set_same (k := i * 5 + 1) h1, set_same (k := i * 5 + 2) h2, set_same (k := i * 5 + 3) h3]
theorem st_stored {g cap n : Nat} {m : List TEnt} (ho : OwnEnts w (.slice (some ⟨g, 0, none⟩) n cap) m) (hn : m.length = n) (i : Nat) (hi : i < m.length) (k : Nat) : OwnEnts (w.setCell ⟨g, i * 5 + 3, none⟩ (.int .i64 k)) (.slice (some ⟨g, 0, none⟩) n cap) (m.set i { m[i] with st := k }) ∧ Turn (fun j => j = g) (fun j => j = g) w (w.setCell ⟨g, i * 5 + 3, none⟩ (.int .i64 k)) := by
  subst hn
  refine ⟨?_, Turn.set (F := fun j => j = g) w ⟨g, i * 5 + 3, none⟩ _ rfl⟩
  unfold OwnEnts
  rw [entsC_st m i hi, List.length_set]
  exact (ho.stored _ _).1
theorem till_stored {g cap n : Nat} {m : List TEnt} (ho : OwnEnts w (.slice (some ⟨g, 0, none⟩) n cap) m) (hn : m.length = n) (i : Nat) (hi : i < m.length) (t : Int) : OwnEnts (w.setCell ⟨g, i * 5 + 4, none⟩ (.int .i64 t)) (.slice (some ⟨g, 0, none⟩) n cap) (m.set i { m[i] with till := t }) ∧ Turn (fun j => j = g) (fun j => j = g) w (w.setCell ⟨g, i * 5 + 4, none⟩ (.int .i64 t)) := by
  subst hn
  refine ⟨?_, Turn.set (F := fun j => j = g) w ⟨g, i * 5 + 4, none⟩ _ rfl⟩
  unfold OwnEnts
  rw [entsC_till m i hi, List.length_set]
  exact (ho.stored _ _).1

theorem due_any (now : Int) (g cap n : Nat) (m : List TEnt) (hn : m.length = n) (i : Nat) (hi : i < m.length) (w : World) (ho : OwnEnts w (.slice (some ⟨g, 0, none⟩) n cap) m) :
    Calls Try.prog 54 #[.pointer (some ⟨g, i * 5, none⟩), .int .i64 now] w fun e w' => e = .returned (.tuple #[]) ∧ OwnEnts w' (.slice (some ⟨g, 0, none⟩) n cap) (m.set i (dueE now m[i])) ∧ Turn (fun j => j = g) (fun j => j = g) w w' := by
  obtain ⟨⟨_, _, _, c3, c4⟩, hfr, hg⟩ := ownEnts_some ho i hi
  have f3 := hfr (i * 5 + 3)
  have HO := Lib.hid ho
  clear ho hfr
  have same : dueE now m[i] = m[i] → Hid (OwnEnts w (.slice (some ⟨g, 0, none⟩) n cap) (m.set i (dueE now m[i])) ∧ Turn (fun j => j = g) (fun j => j = g) w w) := fun e => Lib.hid ⟨by rw [e, List.set_getElem_self]; exact HO.out, Turn.refl _ _⟩
  by_cases ht : m[i].till ≤ now
  · have hgt : ¬ m[i].till > now := by omega
    by_cases h0 : m[i].st = 0
    · have HE : dueE now m[i] = { m[i] with st := 1 } := by unfold dueE; rw [if_pos ht, if_pos h0]
      have HD := Lib.hid (st_stored HO.out hn i hi 1)
      rw [← HE] at HD
      clear HE same
      rw [h0] at c3
      go_enter Try.func54, Try.ntmps54
      go_wp2
      first | go_end0 | refine bodyPost_ret (results_none rfl _ _ _) rfl ?_
      exact ⟨rfl, HD.out⟩
    · by_cases h2 : m[i].st = 2
      · have HE : dueE now m[i] = { m[i] with st := 3 } := by unfold dueE; rw [if_pos ht, if_neg h0, if_pos h2]
        have HD := Lib.hid (st_stored HO.out hn i hi 3)
        rw [← HE] at HD
        clear HE same
        rw [h2] at c3
        go_enter Try.func54, Try.ntmps54
        go_wp2
        first | go_end0 | refine bodyPost_ret (results_none rfl _ _ _) rfl ?_
        exact ⟨rfl, HD.out⟩
      · have HD := same (by unfold dueE; rw [if_pos ht, if_neg h0, if_neg h2])
        have e0 : ((m[i].st : Int) == 0) = false := by rw [beq_eq_false_iff_ne]; omega
        have e2 : ((m[i].st : Int) == 2) = false := by rw [beq_eq_false_iff_ne]; omega
        clear same h0 h2
        go_enter Try.func54, Try.ntmps54
        go_wp2
        first | go_end0 | refine bodyPost_ret (results_none rfl _ _ _) rfl ?_
        exact ⟨rfl, HD.out⟩
  · have HD := same (by unfold dueE; rw [if_neg ht])
    have hgt : m[i].till > now := by omega
    clear same
    go_enter Try.func54, Try.ntmps54
    go_wp2
    first | go_end0 | refine bodyPost_ret (results_none rfl _ _ _) rfl ?_
    exact ⟨rfl, HD.out⟩

/-- A step of a range over the map of a tracker. -/
theorem next_tmap {P : Program} {ops : Array Oper} {rest : List Oper} {o : Oper} {a : Act} {Q : Exit → Act → World → Prop} (w : World) (hg : o.guard = none) (itr : Operand) (hop : o.op = Op.next itr false) (hP : P = Try.prog)
    (b r : Nat) (left : Lit → Bool) (cnt : Nat) (ev : UInt64 → Option Value) (hit : a.eval itr = .pointer (some ⟨r, 0, none⟩)) (h : TMap w b (some ⟨r, left, cnt⟩) ev)
    (hDone : cnt = 0 → (∀ kl, left kl = false) → wpList P ops Q rest (a.put o.dst (.tuple #[.bool false])) w)
    (hMore : ∀ (x : UInt64) (v : Value) (w' : World) (cnt' : Nat), left (.int .u64 x.toNat) = true → ev x = some v → TMap w' b (some ⟨r, fun z => left z && !z.sameKey (.int .u64 x.toNat), cnt'⟩) ev → cnt' < cnt →
      w.grownBy w' (some r) → w'.heap.size = w.heap.size → (Instr.entry (.pointer (some ⟨r, 0, none⟩))).run P w' = .ok (.tuple #[.int .u64 x.toNat, v]) w' → wpList P ops Q rest (a.put o.dst (.tuple #[.bool true, .int .u64 x.toNat, v])) w') :
    wpList P ops Q (o :: rest) a w := by
  subst hP
  obtain ⟨D, ⟨n, hm⟩, hat, hhas⟩ := h
  exact wpList_next_ranges w hg itr hop 22 u64_keyed exactE (fun x : UInt64 => Value.int .u64 x.toNat) (fun v : Value => v)
    (fun key kl hkey => by
      obtain ⟨x, rfl, _, hw⟩ := Maps.keyOf_int_inv Try.underlying22 hkey
      obtain ⟨u, rfl⟩ := wf_u64 hw
      exact ⟨u, rfl⟩) (fun v _ _ => ⟨v, rfl⟩)
    b r n D left cnt hit hm hDone (fun x c kl y w' cnt' hkey hlk hv hy hrg hlt hgr hsz hen => by
      rw [u64_key x] at hkey
      cases hkey
      have e1 : y.1 = .held c := by unfold exactE at hv; cases hv; rfl
      have hx : ev x = some c := by
        have h1 := has_true_of_atKey hy
        rw [hhas x] at h1
        obtain ⟨v, hv'⟩ := Option.isSome_iff_exists.1 h1
        have h2 := hat x v hv' .nil
        rw [hy, e1] at h2
        cases h2
        exact hv'
      exact hMore x c w' cnt' hlk hx ⟨D, ⟨n, hrg⟩, hat, hhas⟩ hlt hgr hsz hen)
theorem tmap_left {w : World} {b : Nat} {i : It} {ev : UInt64 → Option Value} (h : TMap w b (some i) ev) : w.rangeLeft b i.r = i.cnt := by
  obtain ⟨D, ⟨n, hm⟩, _⟩ := h
  exact World.ranges.left_eq hm
theorem tmap_end {w : World} {b : Nat} {it : Option It} {ev : UInt64 → Option Value} (h : TMap w b it ev) : TMap w b none ev := by
  obtain ⟨D, hm, r⟩ := h
  exact ⟨D, mapIs_owns hm, r⟩
theorem TrackAt.ended (h : TrackAt w F R it s b ev pv) : TrackAt w F R none s b ev pv :=
  ⟨h.head, tmap_end h.map, h.ents, h.ids, h.eapart, h.papart, h.fR, h.fb, h.fe, h.fp, h.there, fun i hi => by cases hi⟩
/-- The data may be said otherwise, as far as it is looked at. -/
theorem TrackAt.as (h : TrackAt w F R it s b ev pv) {s' : TS} (h1 : s.salt = s'.salt) (h2 : ∀ x, s.E x = s'.E x) (h3 : ∀ p, p < 8 → s.I p = s'.I p) : TrackAt w F R it s' b ev pv :=
  ⟨by rw [← h1]; exact h.head, h.map, fun x => by rw [← h2 x]; exact h.ents x, fun p hp => by rw [← h3 p hp]; exact h.ids p hp, h.eapart, h.papart, h.fR, h.fb, h.fe, h.fp, h.there, h.out⟩
/-- The iterator has gone on. -/
theorem TrackAt.stepped {w w' : World} {r : Nat} {left left' : Lit → Bool} {cnt cnt' : Nat} (h : TrackAt w F R (some ⟨r, left, cnt⟩) s b ev pv) (hm : TMap w' b (some ⟨r, left', cnt'⟩) ev) (hg : w.grownBy w' (some r)) : TrackAt w' F R (some ⟨r, left', cnt'⟩) s b ev pv := by
  have hr := h.out _ rfl
  have hF : ∀ k, F k → w'.heap[k]? = w.heap[k]? := fun k hk => hg.block k (h.there k hk) (fun e => hr.1 (by cases e; exact hk))
  exact ⟨(hF R h.fR).trans h.head, hm, fun x => (h.ents x).imp id fun ⟨v, l, h1, h2, h3⟩ => ⟨v, l, h1, h2, own_same h3 fun g hg => hF g (h.fe x v g h1 hg)⟩, fun p hp => own_same (h.ids p hp) fun g hg => hF g (h.fp p g hp hg), h.eapart, h.papart, h.fR, h.fb, h.fe, h.fp, h.there.later hg.size,
    fun i hi => by cases hi; exact ⟨hr.1, Nat.lt_of_lt_of_le hr.2 hg.size⟩⟩
end Go.Proofs.Ytamiddnkgjfdhaa
