/-
  Contracts of package orphan: All, Children.
-/
import Derived.Test.YtaaaplbjeknbkaaGreatSHomeW8
import Derived.Test.YtaaaplbjeknbkaaGreatJ4
set_option maxRecDepth 20000
namespace Go.Proofs.YtaaaplbjeknbkaaGreat.So.Ho
open Go.Proofs.YtaaaplbjeknbkaaGreat.Ho
open Go.RowKit Go.Maps

variable {w w' : World} {F : Nat → Prop} {R : Nat} {it : Option It} {ls : List LD} {M : UInt64 → Option DeedD} {b : Nat} {ev : UInt64 → Option Value} {v : Value}

/-- The IDs of links, each where it is first. -/
def allI (ls : List LD) : List UInt64 := ls.foldl (fun acc l => if acc.contains l.id then acc else acc ++ [l.id]) []
theorem allI_step {ls : List LD} {k : Nat} (h : k < ls.length) : allI (ls.take (k + 1)) = if (allI (ls.take k)).contains ls[k].id then allI (ls.take k) else allI (ls.take k) ++ [ls[k].id] := by
  unfold allI
  rw [List.take_succ_eq_append_getElem h, List.foldl_append]
  rfl
theorem allI_len (ls : List LD) (k : Nat) : (allI (ls.take k)).length ≤ k := by
  induction k with
  | zero => simp [allI]
  | succ k ih =>
    by_cases h : k < ls.length
    · rw [allI_step h]
      split
      · omega
      · simp; omega
    · rw [List.take_of_length_le (by omega)]
      rw [List.take_of_length_le (by omega)] at ih
      omega
set_option maxRecDepth 20000 in
theorem all_any (w : World) (h : HomeAt w F R it ls M b ev v) (hl : ls.length ≤ 1000) :
    Calls Tryz.prog 65 #[.pointer (some ⟨R, 0, none⟩)] w (GaveIds w (allI ls)) := by
  obtain ⟨a, cap, rfl, hcap, hat⟩ := h.linkForm
  have HAT := Lib.hid hat
  have hlc := h.linkc.1
  have hlt := h.lt
  clear h hat
  go_enter Tryz.func65, Tryz.ntmps65
  go_wp2_with fail
  go_loopw [3, 11] (fun vi i wr => ∃ k : Nat, k ≤ ls.length ∧ i = .int .i64 k ∧ Hid (OwnIds wr w.heap.size vi (allI (ls.take k))) ∧ Hid (Below w.heap.size w wr)) (fun _ i _ => ls.length - (intOf i).toNat)
  case atStart => exact ⟨0, Nat.zero_le _, rfl, Lib.hid (ownIds_nil _ _), Lib.hid (Below.refl _ _)⟩
  case round =>
    obtain ⟨k, hk, rfl, HO, HB⟩ := hrel
    rename_i u3
    by_cases hkl : k < ls.length
    · obtain ⟨g, o, rfl, hg, hc2⟩ := linksAt_kept HB.out HAT.out k hkl
      have hst := allI_step hkl
      have hlen := allI_len ls k
      obtain ⟨l0, hl0⟩ : ∃ l0, ls[k] = l0 := ⟨_, rfl⟩
      rw [hl0] at hc2 hst
      obtain ⟨c0, c1⟩ := hc2
      have hb1 := kept_new wr (.cells #[.int .i64 l0.peer, .int .u64 l0.id.toNat] 153)
      obtain ⟨ia, icap, hia, _, hids, _⟩ := owns_idsAt (owns_below HO.out hb1)
      have HIDS := Lib.hid hids
      have HB1 := Lib.hid hb1
      have HIA := Lib.hid hia
      subst hia
      clear hl0 hids hb1
      cases hq : (allI (ls.take k)).contains l0.id with
      | true =>
        rw [if_pos hq] at hst
        have HST := Lib.hid hst
        have HQ := Lib.hid hq
        clear hst hq
        go_wp2_with fail
        with_reducible refine (idHas_any l0.id _ true HQ.out _ _ _ (by omega) HIDS.out).mono ?_
        rintro e w2 ⟨rfl, hb2⟩
        have hb12 := kept_trans HB1.out hb2
        have HO2 := Lib.hid (owns_below HO.out hb12)
        have HB2 := Lib.hid (kept_trans HB.out hb12)
        clear hb2 hb12
        go_wp2_with fail
        go_roundw
        case rel => exact ⟨k + 1, by omega, by go_num, Lib.hid (by rw [HST.out]; exact HO2.out), HB2⟩
        case measure => simp [intOf]; omega
      | false =>
        rw [if_neg (by rw [hq]; simp)] at hst
        have HST := Lib.hid hst
        have HQ := Lib.hid hq
        clear hst hq
        go_wp2_with fail
        with_reducible refine (idHas_any l0.id _ false HQ.out _ _ _ (by omega) HIDS.out).mono ?_
        rintro e w2 ⟨rfl, hb2⟩
        have hb12 := kept_trans HB1.out hb2
        obtain ⟨d0, d1⟩ : LinkAt w2 wr.heap.size 0 l0 := linkAt_kept hb2 ⟨by simp [go_sem], by simp [go_sem]⟩
        have hs2 := (cell_spot d0).2
        have HO2 := Lib.hid (owns_below HO.out hb12)
        have HB2 := Lib.hid (kept_trans HB.out hb12)
        clear hb2 hb12
        go_wp2_with (at_builtin; refine append_id rfl _ _ rfl l0.id rfl rfl HO2.out (by omega) HB2.out.size ?_; intro g4 cap4 w4 ho4 hg4 hg5)
        have HO4 := Lib.hid ho4
        have HB4 := Lib.hid (HB2.out.grown hg5 HB2.out.size (fun j hj => (HO2.out.lt j hj).1))
        clear ho4 hg4 hg5
        go_wp2_with fail
        go_roundw
        case rel => exact ⟨k + 1, by omega, by go_num, Lib.hid (by rw [HST.out]; simpa using HO4.out), HB4⟩
        case measure => simp [intOf]; omega
    · have he : ls.take k = ls := List.take_of_length_le (by omega)
      have HO' := HO.out
      rw [he] at HO'
      obtain ⟨a6, cap6, e6, _, _, _⟩ := owns_idsAt HO'
      subst e6
      have HE := Lib.hid HO'
      clear HO' he
      go_wp2_with fail
      go_ret
      exact ⟨a6, cap6, rfl, HE.out, HB.out⟩
end Go.Proofs.YtaaaplbjeknbkaaGreat.So.Ho
