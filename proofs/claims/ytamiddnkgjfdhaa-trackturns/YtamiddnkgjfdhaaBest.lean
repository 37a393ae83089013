/-
  The contracts of slices.Clone and slices.MinFunc of entries, best and Next.
-/
import Derived.Test.YtamiddnkgjfdhaaCmp
import Derived.Test.YtamiddnkgjfdhaaTrackW6
namespace Go.Proofs.Ytamiddnkgjfdhaa
open Go.RowKit Go.Maps

variable {w w' : World} {F : Nat → Prop} {R : Nat} {it : Option It} {s : TS} {b : Nat} {ev : UInt64 → Option Value} {pv : Nat → Value}

theorem info_ent2 : (Try.prog.info? 73).map (fun i => (i.zero, i.size, i.bytes)) = some (some (.agg #[.int .i64 0, .int .u64 0, .bool false, .int .i64 0, .int .i64 0]), 5, 40) := by kernel_rfl
theorem entC_one (l : List TEnt) : ∀ u ∈ entsC l, u.oneCell' = true := fun u hu => by
  obtain ⟨e, _, he⟩ := List.mem_flatMap.1 hu
  simp only [entC, List.mem_cons, List.not_mem_nil, or_false] at he
  rcases he with rfl | rfl | rfl | rfl | rfl <;> rfl
theorem own_zero {B : Nat} {e : TypeId} {size n : Nat} {v : Value} {xs : List Value} (h : w.ownsRow B e size v n xs) : w.ownsRow 0 e size v n xs := ⟨h.1, h.2.imp id fun ⟨g, cap, cur, h1, _, h3⟩ => ⟨g, cap, cur, h1, Nat.zero_le _, h3⟩⟩
theorem ents_nil_eq (w : World) (a : Option Addr) (l c : Nat) : (binOp .eql 70 (.slice a l c) (.slice none 0 0)).run Try.prog w = .ok (.bool a.isNone) w := by
  simp [binOp, run_equal_slice_nil w 70 _ a l c Try.underlying70]
/-- A copy: nil where there is nothing to copy, else new. -/
theorem clone_any (l : List TEnt) (v : Value) (w : World) (hl : l.length ≤ 8) (ho : OwnEnts w v l) (hne : v.ownBlock ≠ none → l ≠ []) :
    Calls Try.prog 67 #[v] w fun e w' => ∃ a cap, e = .returned (.slice a l.length cap) ∧ (OwnEnts w' (.slice a l.length cap) l ∧ (∀ k, (Value.slice a l.length cap).ownBlock = some k → w.heap.size ≤ k) ∧ Below w.heap.size w w') := by
  have hq := ents_nil_eq
  rcases ho.2 with ⟨rfl, hn⟩ | ⟨g, cap, cur, rfl, _, hg, hnc, hcm, hcs, htk⟩
  · obtain rfl : l = [] := List.eq_nil_of_length_eq_zero hn
    have HE : Hid (∃ a cap, Ending.returned (.slice none 0 0) = .returned (.slice a ([] : List TEnt).length cap) ∧ (OwnEnts w (.slice a ([] : List TEnt).length cap) [] ∧ (∀ k, (Value.slice a ([] : List TEnt).length cap).ownBlock = some k → w.heap.size ≤ k) ∧ Below w.heap.size w w)) := Lib.hid ⟨none, 0, rfl, World.ownsRow_nil _ _ _ _, (fun k hk => by cases hk), Below.refl _ _⟩
    go_enter Try.func67, Try.ntmps67
    go_wp2
    go_ret
    exact HE.out
  · obtain ⟨iE, hiE, hz0, hz1, hz2⟩ := info_parts info_ent2
    have hpos : 0 < l.length := List.length_pos_iff.2 (hne (by simp [Value.ownBlock]))
    have HO := Lib.hid ho
    have hnews : ∀ j u, (entsC l)[j]? = some u → (w.alloc (.cells #[] 73)).cell? ((⟨g, 0, none⟩ : Addr).add j) = some u := fun j u hj => (HO.out.alloc _).cells rfl j u hj
    have hmade : (w.alloc (.cells #[] 73)).ownsRow w.heap.size 73 5 (.slice (some ⟨w.heap.size, 0, none⟩) 0 0) 0 [] := World.ownsRow_made w #[] 0 (Nat.le_refl _) (Nat.zero_le _) rfl
    have HN := Lib.hid hnews
    have HM := Lib.hid hmade
    clear hg hcs htk ho hne hnews hmade
    go_enter Try.func67, Try.ntmps67
    go_wp2_with (at_builtin; refine wpList_append_lies _ rfl _ _ 70 rfl w.heap.size 73 iE _ 5 40 Try.underlying70 hiE hz0 hz1 hz2 rfl (by decide) (.slice (some ⟨w.heap.size, 0, none⟩) 0 0) 0 [] rfl HM.out ⟨g, 0, none⟩ l.length cap (entsC l) rfl (entsC_length l) HN.out (entC_one l) hpos (by unfold maxLen; omega) (by omega) (by simp) _ rfl ?_; intro g2 cap2 w2 hown2 hgrow2 hat2 hlt2)
    have HE : Hid (∃ a cap, Ending.returned (.slice (some ⟨g2, 0, none⟩) l.length cap2) = .returned (.slice a l.length cap) ∧ (OwnEnts w2 (.slice a l.length cap) l ∧ (∀ k, (Value.slice a l.length cap).ownBlock = some k → w.heap.size ≤ k) ∧ Below w.heap.size w w2)) := Lib.hid (by
      rw [Nat.zero_add] at hown2
      refine ⟨some ⟨g2, 0, none⟩, cap2, rfl, own_zero hown2, fun k hk => (World.ownsRow.lt hown2 k hk).1, ?_⟩
      have h1 : Below w.heap.size w (w.alloc (.cells #[] 73)) := kept_new _ _
      exact h1.grown hgrow2 (by simp) (fun j hj => by cases hj; exact Nat.le_refl _))
    clear hown2 hgrow2 hat2
    go_wp2
    go_ret
    exact HE.out
/-- The best of some entries. -/
def minE (salt : UInt64) (m : TEnt) (l : List TEnt) : TEnt := l.foldl (fun m e => if beatsB salt e m then e else m) m
theorem minE_snoc (salt : UInt64) (m : TEnt) (l : List TEnt) (e : TEnt) : minE salt m (l ++ [e]) = if beatsB salt e (minE salt m l) then e else minE salt m l := by
  unfold minE
  rw [List.foldl_append]
  rfl
theorem minE_mem (salt : UInt64) : ∀ (l : List TEnt) (m : TEnt), minE salt m l = m ∨ minE salt m l ∈ l
  | [], m => .inl rfl
  | a :: r, m => by
    show minE salt (if beatsB salt a m then a else m) r = m ∨ minE salt (if beatsB salt a m then a else m) r ∈ a :: r
    rcases minE_mem salt r (if beatsB salt a m then a else m) with h | h
    · rw [h]
      split
      · exact .inr (by simp)
      · exact .inl rfl
    · exact .inr (by simp [h])
/-- Block B is a variable that holds an entry. -/
def VarIs (w : World) (B : Nat) (e : TEnt) : Prop := w.heap[B]? = some (.cells #[.int .i64 e.peer, .int .u64 e.id.toNat, .bool e.pref, .int .i64 e.st, .int .i64 e.till] 73 (0, 0))
theorem varIs_at {B : Nat} {e : TEnt} (h : VarIs w B e) : EntAt w B 0 e ∧ (∀ j, w.frozen? ⟨B, j, none⟩ = false) ∧ B < w.heap.size :=
  ⟨⟨head_cell h 0, head_cell h 1, head_cell h 2, head_cell h 3, head_cell h 4⟩, fun j => frozen_of_row w B j _ _ h, (Array.getElem?_eq_some_iff.1 h).1⟩
theorem varIs_kept {B : Nat} {e : TEnt} (h : VarIs w B e) (hb : Below w.heap.size w w') : VarIs w' B e := (hb.block B (varIs_at h).2.2).trans h
/-- Another entry is stored in it. -/
def setV (w : World) (B : Nat) (e : TEnt) : World :=
  ((((w.setCell ⟨B, 0, none⟩ (.int .i64 e.peer)).setCell ⟨B, 1, none⟩ (.int .u64 e.id.toNat)).setCell ⟨B, 2, none⟩ (.bool e.pref)).setCell ⟨B, 3, none⟩ (.int .i64 e.st)).setCell ⟨B, 4, none⟩ (.int .i64 e.till)
theorem setV_is {B : Nat} {e : TEnt} (e' : TEnt) (h : VarIs w B e) : VarIs (setV w B e') B e' :=
  heap_setCell_same _ B 4 _ _ _ (heap_setCell_same _ B 3 _ _ _ (heap_setCell_same _ B 2 _ _ _ (heap_setCell_same _ B 1 _ _ _ (heap_setCell_same w B 0 _ _ (.int .i64 e'.peer) h))))
theorem setV_other {B k : Nat} (e : TEnt) (hk : k ≠ B) : (setV w B e).heap[k]? = w.heap[k]? :=
  (Below.heap_setCell _ ⟨B, 4, none⟩ _ k hk).trans ((Below.heap_setCell _ ⟨B, 3, none⟩ _ k hk).trans ((Below.heap_setCell _ ⟨B, 2, none⟩ _ k hk).trans ((Below.heap_setCell _ ⟨B, 1, none⟩ _ k hk).trans (Below.heap_setCell w ⟨B, 0, none⟩ _ k hk))))
theorem setV_below {n B : Nat} {e : TEnt} {a : World} (h : Below n a w) (hB : n ≤ B) : Below n a (setV w B e) := ((((h.setCell hB _).setCell hB _).setCell hB _).setCell hB _).setCell hB _

theorem take_drop_step {α : Type} {l : List α} {k : Nat} (h1 : 1 ≤ k) (h : k < l.length) : (l.take (k + 1)).drop 1 = (l.take k).drop 1 ++ [l[k]] := by
  rw [List.take_succ_eq_append_getElem h, List.drop_append_of_le_length (by rw [List.length_take]; omega)]
theorem min_peer {salt : UInt64} {l l' : List TEnt} {m : TEnt} (hm : m ∈ l) (hs : ∀ e ∈ l', e ∈ l) (hp : ∀ e ∈ l, e.peer < 8) : (minE salt m l').peer < 8 := by
  rcases minE_mem salt l' m with h | h
  · rw [h]; exact hp m hm
  · exact hp _ (hs _ h)
set_option maxRecDepth 20000 in
set_option maxHeartbeats 800000 in
theorem minFunc_any (salt : UInt64) (R : Nat) (l : List TEnt) (a : Option Addr) (cap : Nat) (hpos : 0 < l.length) (hl : l.length ≤ 8) (hp : ∀ e ∈ l, e.peer < 8) (w : World) (hs : w.cell? ⟨R, 0, none⟩ = some (.int .u64 salt.toNat)) (hat : EntsAt w a l) :
    Calls Try.prog 69 #[.slice a l.length cap, .func (.func 70) #[.pointer (some ⟨R, 0, none⟩)] #[]] w fun e w' => e = .returned (entV (minE salt l[0] (l.drop 1))) ∧ Below w.heap.size w w' := by
  have hR := (cell_spot hs).2
  obtain ⟨g, o, rfl, hg, z0, z1, z2, z3, z4⟩ := hat 0 hpos
  rw [Nat.zero_mul, Nat.add_zero] at z0 z1 z2 z3 z4
  have HP := Lib.hid hp
  have HA := Lib.hid hat
  have hnl : ¬ ((l.length : Int) < 1) := by omega
  clear hp hat
  go_enter Try.func69, Try.ntmps69
  go_wp2
  go_loopw [6] (fun i wr => ∃ k : Nat, 1 ≤ k ∧ k ≤ l.length ∧ i = .int .i64 k ∧ Hid (VarIs wr w.heap.size ⟨0, 0, false, 0, 0⟩) ∧ Hid (VarIs wr (w.heap.size + 1) (minE salt l[0] ((l.take k).drop 1))) ∧ Hid (Below w.heap.size w wr)) (fun i _ => l.length - (intOf i).toNat)
  case atStart =>
    refine ⟨1, Nat.le_refl _, hpos, rfl, Lib.hid ?_, Lib.hid ?_, Lib.hid (kept_alloc (kept_new _ _) _)⟩
    · exact (Below.heap_alloc _ _ _ (by simp)).trans (heap_alloc_new w _)
    · have h1 : minE salt l[0] ((l.take 1).drop 1) = l[0] := by
        rw [List.drop_eq_nil_of_le (by rw [List.length_take]; omega)]
        rfl
      rw [h1]
      have := heap_alloc_new (w.alloc (.cells #[.int .i64 0, .int .u64 0, .bool false, .int .i64 0, .int .i64 0] 73)) (.cells #[.int .i64 l[0].peer, .int .u64 l[0].id.toNat, .bool l[0].pref, .int .i64 l[0].st, .int .i64 l[0].till] 73)
      simp only [World.size_alloc] at this
      exact this
  case round =>
    obtain ⟨k, hk1, hk, rfl, HV0, HV, HB⟩ := hrel
    obtain ⟨m, hm⟩ : ∃ m, minE salt l[0] ((l.take k).drop 1) = m := ⟨_, rfl⟩
    have hmp : m.peer < 8 := by
      rw [← hm]
      exact min_peer (List.getElem_mem hpos) (fun e he => List.mem_of_mem_take (List.mem_of_mem_drop he)) HP.out
    rw [hm] at HV
    have HM := Lib.hid hm
    clear hm
    by_cases hlt : k < l.length
    · obtain ⟨w2, hw2⟩ : ∃ w2, wr.drew = w2 := ⟨_, rfl⟩
      have hb2 : Below wr.heap.size wr w2 := hw2 ▸ (Below.refl _ _).drew
      have HV2 := varIs_kept HV.out hb2
      obtain ⟨⟨m0, m1, m2, m3, m4⟩, hmf, hml⟩ := varIs_at HV2
      obtain ⟨g', o', e', hg', hc5⟩ := entsAt_kept (kept_trans HB.out hb2) HA.out k hlt
      simp only [Option.some.injEq, Addr.mk.injEq, and_true] at e'
      obtain ⟨rfl, rfl⟩ := e'
      have hep : l[k].peer < 8 := HP.out _ (List.getElem_mem hlt)
      obtain ⟨e0, he0⟩ : ∃ e0, l[k] = e0 := ⟨_, rfl⟩
      rw [he0] at hc5 hep
      obtain ⟨c0, c1, c2, c3, c4⟩ := hc5
      have HE0 := Lib.hid he0
      have hs2 := kept_cell (kept_trans HB.out hb2) hs
      have HW2 := Lib.hid hw2
      have HVV := Lib.hid HV2
      have hki : (k : Int) < l.length := by omega
      clear hw2 he0 HV2 hmf z0 z1 z2 z3 z4
      go_wp2_with fail
      refine region_tail 6 (by kernel_rfl) (by kernel_rfl) HW2.out ?_
      simp only [List.take_succ_cons, List.take_zero, List.drop_succ_cons, List.drop_zero]
      repeat still_step
      refine wpStill_nil ?_
      go_wp2_with fail
      refine (compare_any salt R e0 m hep hmp _ hs2).mono ?_
      rintro e w3 ⟨c, rfl, hcb, hb3⟩
      obtain ⟨⟨n0, n1, n2, n3, n4⟩, hnf, hnl3⟩ := varIs_at (varIs_kept HVV.out hb3)
      have f0 := hnf 0
      have f1 := hnf 1
      have f2 := hnf 2
      have f3 := hnf 3
      have f4 := hnf 4
      have k0 := kept_cell hb3 c0
      have k1 := kept_cell hb3 c1
      have k2 := kept_cell hb3 c2
      have k3 := kept_cell hb3 c3
      have k4 := kept_cell hb3 c4
      have hg3 := (cell_spot k0).2
      have hB3 := kept_trans (kept_trans HB.out hb2) hb3
      have hstep := minE_snoc salt l[0] ((l.take k).drop 1) l[k]
      rw [← take_drop_step hk1 hlt, HM.out, HE0.out] at hstep
      have HB3 := Lib.hid hB3
      have HV03 := Lib.hid (varIs_kept (varIs_kept HV0.out hb2) hb3)
      have HV3 := Lib.hid (varIs_kept HVV.out hb3)
      by_cases hneg : c < 0
      · rw [decide_eq_true hneg] at hcb
        rw [← hcb, if_pos rfl] at hstep
        have HS := Lib.hid hstep
        clear hstep hcb hnf hB3 m0 m1 m2 m3 m4 c0 c1 c2 c3 c4
        go_wp2_with fail
        go_roundw
        case rel => exact ⟨k + 1, by omega, by omega, by go_num, Lib.hid ((setV_other e0 (by omega)).trans HV03.out), Lib.hid (by rw [HS.out]; exact setV_is e0 HV3.out), Lib.hid (setV_below HB3.out (by omega))⟩
        case measure => simp [intOf]; omega
      · rw [decide_eq_false hneg] at hcb
        rw [← hcb, if_neg (by decide)] at hstep
        have HS := Lib.hid hstep
        clear hstep hcb hnf hB3 m0 m1 m2 m3 m4 c0 c1 c2 c3 c4
        go_wp2_with fail
        go_roundw
        case rel => exact ⟨k + 1, by omega, by omega, by go_num, HV03, Lib.hid (by rw [HS.out]; exact HV3.out), HB3⟩
        case measure => simp [intOf]; omega
    · obtain ⟨⟨m0, m1, m2, m3, m4⟩, hmf, hml⟩ := varIs_at HV.out
      obtain ⟨⟨n0, n1, n2, n3, n4⟩, hnf, hnl3⟩ := varIs_at HV0.out
      have f0 := hnf 0
      have f1 := hnf 1
      have f2 := hnf 2
      have f3 := hnf 3
      have f4 := hnf 4
      have hki : ¬ (k : Int) < l.length := by omega
      have he : (l.take k).drop 1 = l.drop 1 := by rw [List.take_of_length_le (by omega)]
      have HM2 := HM.out
      rw [he] at HM2
      have HME := Lib.hid HM2
      obtain ⟨⟨r0, r1, r2, r3, r4⟩, _, _⟩ := varIs_at (setV_is m HV0.out)
      unfold setV at r0 r1 r2 r3 r4
      clear hnf hmf HM2 he z0 z1 z2 z3 z4
      go_wp2_with fail
      refine bodyPost_ret (v := entV m) (by simp [results, Try.results69, go_sem, entV, n0, n1, n2, n3, n4]) rfl ?_
      exact ⟨by have h5 := HME.out; rw [List.drop_one] at h5; rw [h5], setV_below HB.out (Nat.le_refl _)⟩
end Go.Proofs.Ytamiddnkgjfdhaa
