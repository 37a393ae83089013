/-
  The contract of Holders.
-/
import Derived.Test.YtamiddnkgjfdhaaSort
import Derived.Test.YtamiddnkgjfdhaaTrackC
namespace Go.Proofs.Ytamiddnkgjfdhaa
open Go.RowKit Go.Maps

variable {w w' : World} {F : Nat → Prop} {R : Nat} {it : Option It} {s : TS} {b : Nat} {ev : UInt64 → Option Value} {pv : Nat → Value}

/-- The peers of some entries. -/
def peersI (l : List TEnt) : List Int := l.map fun e => (e.peer : Int)
theorem peersI_step {l : List TEnt} {k : Nat} (h : k < l.length) : peersI (l.take (k + 1)) = peersI (l.take k) ++ [(l[k].peer : Int)] := by
  unfold peersI
  rw [List.take_succ_eq_append_getElem h, List.map_append]
  rfl
/-- What Holders answers: a slice of ints in memory of its own. -/
def GaveInts (w0 : World) (l : List Int) (e : Ending) (w' : World) : Prop := ∃ a cap, e = .returned (.slice a l.length cap) ∧ l.length ≤ cap ∧ IntsAt w' a l ∧ Fresh w0.heap.size a
set_option maxRecDepth 20000 in
theorem holders_any (x : UInt64) (w : World) (h : TrackAt w F R it s b ev pv) (hf : s.Fine) :
    Calls Try.prog 15 #[.pointer (some ⟨R, 0, none⟩), .int .u64 x.toNat] w fun e w' => ∃ m : List Int, GaveInts w m e w' ∧ m.Perm (peersI (s.ents x)) ∧ m.Pairwise (· ≤ ·) ∧ Below w.heap.size w w' := by
  have hmc := h.mapc
  have hlk := h.look x
  have hlt := h.lt
  obtain ⟨a, cp, hv, hcp, hat⟩ := ownEnts_form (h.slice x)
  have hl8 := (hf.1 x).1
  rw [hv] at hlk
  have HA := Lib.hid hat
  clear h hf hv hat
  go_enter Try.func15, Try.ntmps15
  go_wp2_with fail
  go_loopw [5, 15] (fun v i wr => ∃ k : Nat, k ≤ (s.ents x).length ∧ i = .int .i64 k ∧ Hid (OwnInts wr w.heap.size v (peersI ((s.ents x).take k))) ∧ Hid (Below w.heap.size w wr)) (fun _ i _ => (s.ents x).length - (intOf i).toNat)
  case atStart => exact ⟨0, Nat.zero_le _, rfl, Lib.hid (ownInts_nil _ _), Lib.hid (Below.refl _ _)⟩
  case round =>
    obtain ⟨k, hk, rfl, HO, HB⟩ := hrel
    by_cases hkl : k < (s.ents x).length
    · obtain ⟨g, o, rfl, hg, hc5⟩ := entsAt_kept HB.out HA.out k hkl
      have hstep := peersI_step hkl
      obtain ⟨e0, he0⟩ : ∃ e0, (s.ents x)[k] = e0 := ⟨_, rfl⟩
      rw [he0] at hc5 hstep
      obtain ⟨c0, c1, c2, c3, c4⟩ := hc5
      have HST := Lib.hid hstep
      have hlen8 : (peersI ((s.ents x).take k)).length ≤ 8 := by unfold peersI; rw [List.length_map, List.length_take]; omega
      clear hstep he0
      have HO2 := Lib.hid (owns_below HO.out (kept_new wr (.cells #[.int .i64 e0.peer, .int .u64 e0.id.toNat, .bool e0.pref, .int .i64 e0.st, .int .i64 e0.till] 73)))
      have HB2 := Lib.hid (kept_alloc HB.out (.cells #[.int .i64 e0.peer, .int .u64 e0.id.toNat, .bool e0.pref, .int .i64 e0.st, .int .i64 e0.till] 73))
      go_wp2_with (at_builtin; refine append_int rfl _ _ rfl e0.peer rfl (Eq.trans (b := .slice (some ⟨wr.heap.size + 1, 0, none⟩) 1 1) rfl (by simp)) HO2.out (by omega) HB2.out.size ?_; intro g2 cap2 w4 ho4 hg4 hg4' hat4)
      have HO4 := Lib.hid ho4
      have HB4 := Lib.hid (HB2.out.grown hg4' HB2.out.size (fun j hj => (ownInts_block HO2.out j hj).1))
      clear ho4 hg4 hg4' hat4
      go_wp2_with fail
      go_roundw
      case rel => exact ⟨k + 1, by omega, by go_num, Lib.hid (by rw [HST.out]; exact HO4.out), HB4⟩
      case measure => simp [intOf]; omega
    · have he : (s.ents x).take k = s.ents x := List.take_of_length_le (by omega)
      have HO' := HO.out
      rw [he] at HO'
      obtain ⟨l, hl⟩ : ∃ l, peersI (s.ents x) = l := ⟨_, rfl⟩
      rw [hl] at HO'
      have hll : l.length ≤ 8 := by rw [← hl]; unfold peersI; rw [List.length_map]; exact hl8
      have HL := Lib.hid HO'
      have HPL := Lib.hid hl
      clear HO' he hl
      go_wp2_with fail
      refine (sort_any _ l hll _ (own_zero HL.out)).mono ?_
      rintro e w5 ⟨rfl, m, h1, h2, h3, h4⟩
      have hb5 : Below w.heap.size w w5 := HB.out.trans (h4.below (fun k hk => (ownInts_block HL.out k hk).1) HB.out.size)
      obtain ⟨a5, cap5, e5, hc5, hat5, _⟩ := ownInts_at h1
      obtain ⟨a6, cap6, e6, _, _, hfr6⟩ := ownInts_at HL.out
      have hfr5 : Fresh w.heap.size a5 := by
        rw [e6] at e5
        simp only [Value.slice.injEq] at e5
        rw [← e5.1]
        exact hfr6
      subst e5
      have HE := Lib.hid (And.intro hc5 (And.intro hat5 (And.intro hfr5 (And.intro h2 (And.intro h3 hb5)))))
      clear h1 h2 h3 h4 hb5 hat5 hfr6 hfr5 e6
      go_wp2_with fail
      go_ret
      obtain ⟨q1, q2, q3, q4, q5, q6⟩ := HE.out
      exact ⟨m, ⟨a5, cap5, rfl, q1, q2, q3⟩, by rw [HPL.out]; exact q4, q5, q6⟩
/-- The peers that have an entry of an ID, rising. -/
def holdersL (L : List TEnt) (x : UInt64) : List Int := ((List.range 8).filter fun p => L.any (isE p x)).map fun p : Nat => (p : Int)
theorem perm_sorted_eq : ∀ {a b : List Int}, a.Perm b → a.Pairwise (· ≤ ·) → b.Pairwise (· ≤ ·) → a = b := fun h1 h2 h3 => List.Perm.eq_of_pairwise (fun _ _ _ _ h4 h5 => Int.le_antisymm h4 h5) h2 h3 h1
theorem holders_eq {L : List TEnt} (h : Good L) {x : UInt64} {m : List Int} (hp : m.Perm (peersI (entsOf L x))) (hs : m.Pairwise (· ≤ ·)) : m = holdersL L x := by
  refine perm_sorted_eq (hp.trans ?_) hs ?_
  · unfold holdersL peersI
    have : (entsOf L x).map (fun e => (e.peer : Int)) = ((entsOf L x).map fun e => e.peer).map fun p : Nat => (p : Int) := by rw [List.map_map]; rfl
    rw [this]
    refine List.Perm.map _ ?_
    refine (List.perm_ext_iff_of_nodup (ents_pair h.nodup x) (List.nodup_range.filter _)).2 fun p => ?_
    rw [List.mem_map, List.mem_filter, List.mem_range, List.any_eq_true]
    constructor
    · rintro ⟨e, he, rfl⟩
      obtain ⟨h1, h2⟩ := ents_mem.1 he
      exact ⟨h.peer e h1, e, h1, by simp [isE, h2]⟩
    · rintro ⟨_, e, he, hi⟩
      simp only [isE, Bool.and_eq_true, beq_iff_eq] at hi
      exact ⟨e, ents_mem.2 ⟨he, hi.2⟩, hi.1⟩
  · unfold holdersL
    rw [List.pairwise_map]
    refine (List.pairwise_lt_range.filter _).imp ?_
    intro a b hab
    omega
theorem tl_holders (F : Nat → Prop) (R : Nat) (salt : UInt64) (L : List TEnt) (w : World) (h : TL w F R salt L) (x : UInt64) : Calls Try.prog 15 #[.pointer (some ⟨R, 0, none⟩), .int .u64 x.toNat] w fun e w' => GaveInts w (holdersL L x) e w' ∧ Below w.heap.size w w' := by
  obtain ⟨hg, b, ev, pv, h⟩ := h
  refine (holders_any x w h (ofL_fine salt hg)).mono ?_
  rintro e w' ⟨m, h1, h2, h3, h4⟩
  rw [ofL_ents] at h2
  rw [← holders_eq hg h2 h3]
  exact ⟨h1, h4⟩
end Go.Proofs.Ytamiddnkgjfdhaa
