/-
  Whom to ask: the tracker's way and the reference's give the same IDs.
-/
import Derived.Test.YtamiddnkgjfdhaaRefNext
import Derived.Test.YtamiddnkgjfdhaaTrackOneL
namespace Go.Proofs.Ytamiddnkgjfdhaa

theorem beats_iff (salt : UInt64) (a b : TEnt) : beatsB salt a b = true ↔ (a.pref = true ∧ b.pref = false) ∨ (a.pref = b.pref ∧ ((rankU salt b).toNat < (rankU salt a).toNat ∨ ((rankU salt a).toNat = (rankU salt b).toNat ∧ a.peer < b.peer))) := by
  unfold beatsB
  by_cases hp : a.pref = b.pref
  · rw [if_pos hp]
    by_cases hr : rankU salt a = rankU salt b
    · rw [if_pos hr, decide_eq_true_eq, hr]
      constructor
      · exact fun h => .inr ⟨hp, .inr ⟨rfl, h⟩⟩
      · rintro (⟨h1, h2⟩ | ⟨_, h | ⟨_, h⟩⟩)
        · rw [hp, h2] at h1; cases h1
        · omega
        · exact h
    · rw [if_neg hr, decide_eq_true_eq]
      have hr' : (rankU salt a).toNat ≠ (rankU salt b).toNat := fun h => hr (UInt64.toNat_inj.1 h)
      constructor
      · exact fun h => .inr ⟨hp, .inl h⟩
      · rintro (⟨h1, h2⟩ | ⟨_, h | ⟨h, _⟩⟩)
        · rw [hp, h2] at h1; cases h1
        · exact h
        · exact absurd h hr'
  · rw [if_neg hp]
    constructor
    · intro h
      refine .inl ⟨h, ?_⟩
      cases hb : b.pref with
      | false => rfl
      | true => exact absurd (h.trans hb.symm) hp
    · rintro (⟨h, _⟩ | ⟨h, _⟩)
      · exact h
      · exact absurd h hp
theorem beats_self (salt : UInt64) (a : TEnt) : beatsB salt a a = false := by
  rw [← Bool.not_eq_true, beats_iff]
  rintro (⟨h1, h2⟩ | ⟨_, h | ⟨_, h⟩⟩)
  · rw [h1] at h2; cases h2
  · omega
  · omega
/-- Who is ahead of a third one is ahead of the second one, or the second one is ahead of the third. -/
theorem beats_part {salt : UInt64} {a z : TEnt} (m : TEnt) (h : beatsB salt a z = true) : beatsB salt a m = true ∨ beatsB salt m z = true := by
  rw [beats_iff] at h ⊢
  rw [beats_iff]
  generalize (rankU salt a).toNat = ra at *
  generalize (rankU salt z).toNat = rz at *
  generalize (rankU salt m).toNat = rm at *
  cases ha : a.pref <;> cases hz : z.pref <;> cases hm : m.pref <;> simp_all <;> omega
theorem beats_asym {salt : UInt64} {a b : TEnt} (h : beatsB salt a b = true) : beatsB salt b a = false := by
  rw [← Bool.not_eq_true]
  intro h2
  rw [beats_iff] at h h2
  generalize (rankU salt a).toNat = ra at *
  generalize (rankU salt b).toNat = rb at *
  cases ha : a.pref <;> cases hb : b.pref <;> simp_all <;> omega
theorem beats_total {salt : UInt64} {a b : TEnt} (h : a.peer ≠ b.peer) : beatsB salt a b = true ∨ beatsB salt b a = true := by
  rw [beats_iff, beats_iff]
  generalize (rankU salt a).toNat = ra
  generalize (rankU salt b).toNat = rb
  cases ha : a.pref <;> cases hb : b.pref <;> simp <;> omega
theorem minE_unbeaten (salt : UInt64) : ∀ (l : List TEnt) (m y : TEnt), y ∈ m :: l → beatsB salt y (minE salt m l) = false
  | [], m, y, h => by
    rw [List.mem_singleton.1 h]
    exact beats_self salt m
  | a :: l, m, y, h => by
    show beatsB salt y (minE salt (if beatsB salt a m then a else m) l) = false
    have ih := minE_unbeaten salt l (if beatsB salt a m then a else m)
    generalize minE salt (if beatsB salt a m then a else m) l = z at *
    rw [← Bool.not_eq_true]
    intro hy
    cases hb : beatsB salt a m with
    | true =>
      rw [hb, if_pos rfl] at ih
      rcases List.mem_cons.1 h with rfl | h
      · rcases beats_part a hy with h1 | h1
        · rw [beats_asym hb] at h1; cases h1
        · rw [ih a (by simp)] at h1; cases h1
      · rw [ih y h] at hy; cases hy
    | false =>
      rw [hb, if_neg (by decide)] at ih
      rcases List.mem_cons.1 h with rfl | h
      · rw [ih y (by simp)] at hy; cases hy
      · rcases List.mem_cons.1 h with rfl | h
        · rcases beats_part m hy with h1 | h1
          · rw [hb] at h1; cases h1
          · rw [ih m (by simp)] at h1; cases h1
        · rw [ih y (by simp [h])] at hy; cases hy
/-- What best answers, said of the list. -/
theorem best_is {salt : UInt64} {L : List TEnt} {x : UInt64} {z : TEnt} (h : (ofL salt L).best x = some z) : ∀ y ∈ L, y.id = x → y.st = 1 → beatsB salt y z = false := by
  unfold TS.best at h
  rw [ofL_ents] at h
  split at h
  · split at h
    · cases h
    · rename_i a r hr
      cases h
      intro y hy hi hs
      refine minE_unbeaten salt r a y ?_
      rw [← hr]
      exact List.mem_filter.2 ⟨ents_mem.2 ⟨hy, hi⟩, by rw [hs]; rfl⟩
  · cases h
theorem best_there {salt : UInt64} {L : List TEnt} {x : UInt64} {e : TEnt} (he : e ∈ L) (hi : e.id = x) (hs : e.st = 1) (hn : ∀ y ∈ L, y.id = x → y.st ≠ 2) : ∃ z, (ofL salt L).best x = some z := by
  unfold TS.best
  rw [ofL_ents, if_pos]
  · split
    · rename_i hr
      have : e ∈ (entsOf L x).filter (fun e => !(e.st != 1)) := List.mem_filter.2 ⟨ents_mem.2 ⟨he, hi⟩, by rw [hs]; rfl⟩
      rw [hr] at this
      cases this
    · exact ⟨_, rfl⟩
  · rw [List.findIdx?_eq_none_iff]
    intro y hy
    obtain ⟨h1, h2⟩ := ents_mem.1 hy
    simpa using hn y h1 h2
theorem first_is {salt : UInt64} {L : List TEnt} (hg : Good L) (p : Nat) {e : TEnt} (he : e ∈ L) : firstR salt L p e = (e.peer == p && (ofL salt L).isNext p e.id) := by
  rw [Bool.eq_iff_iff]
  unfold firstR readyR
  simp only [Bool.and_eq_true, beq_iff_eq, Bool.not_eq_true', List.any_eq_false]
  constructor
  · rintro ⟨⟨⟨h1, h2⟩, h3⟩, h4⟩
    refine ⟨h1, ?_⟩
    have hn : ∀ y ∈ L, y.id = e.id → y.st ≠ 2 := fun y hy hi hs => by
      have := h3 y hy
      simp [hi, hs] at this
    obtain ⟨z, hz⟩ := best_there (salt := salt) he rfl h2 hn
    obtain ⟨z1, z2, _⟩ := best_some hz
    obtain ⟨z3, z4⟩ := ents_mem.1 z1
    have hze : z = e := by
      by_cases hpp : z.peer = e.peer
      · exact same_one hg.nodup z3 he hpp z4
      · exfalso
        rcases beats_total (salt := salt) hpp with hb | hb
        · have := h4 z z3
          unfold aheadR at this
          have hne : (z != e) = true := by
            rw [bne_iff_ne]
            exact fun h => hpp (by rw [h])
          simp [z4, z2, hne, hb] at this
        · rw [best_is hz e he rfl h2] at hb
          cases hb
    unfold TS.isNext
    rw [hz, hze]
    simpa using h1
  · rintro ⟨h1, h2⟩
    unfold TS.isNext at h2
    split at h2
    · cases h2
    · rename_i z hz
      obtain ⟨z1, z2, zn⟩ := best_some hz
      obtain ⟨z3, z4⟩ := ents_mem.1 z1
      have hzp : z.peer = p := by simpa using h2
      obtain rfl : z = e := same_one hg.nodup z3 he (hzp.trans h1.symm) z4
      refine ⟨⟨⟨h1, z2⟩, fun y hy hq => ?_⟩, fun y hy hq => ?_⟩
      · exact zn y (ents_mem.2 ⟨hy, hq.1⟩) hq.2
      · unfold aheadR at hq
        simp only [Bool.and_eq_true, beq_iff_eq] at hq
        rw [best_is hz y hy hq.1.1.1 hq.1.1.2] at hq
        exact absurd hq.2 (by decide)
theorem next_is {salt : UInt64} {L : List TEnt} (hg : Good L) (p : Nat) : (L.filter (firstR salt L p)).map (fun e => e.id) = (idsOf L p).filter ((ofL salt L).isNext p) := by
  unfold idsOf
  rw [List.filter_map, List.filter_filter]
  congr 1
  refine List.filter_congr fun e he => ?_
  rw [first_is hg p he, Bool.and_comm]
  rfl
end Go.Proofs.Ytamiddnkgjfdhaa
