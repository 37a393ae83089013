/-
  The walk of HomeKeeps.
-/
import Derived.Test.YtodhkphjlcjdoaaFairMath
import Derived.Test.YtodhkphjlcjdoaaRest
namespace Go.Proofs.Ytodhkphjlcjdoaa
open Go.RowKit Go.Maps

variable {L : List LinkD} {n : Nat}

/-- One peer's links: their weight, their IDs in order, all below k. -/
structure KeepsL (pn k : Nat) (L : List LinkD) (z : Int) (ws : List UInt64) : Prop where
  peer : ∀ l ∈ L, l.peer = pn
  tot : totL L = z
  all : allL L = ws
  low : ∀ l ∈ L, l.id.toNat < k
  len : L.length = ws.length
theorem KeepsL.usage {pn k : Nat} {z : Int} {ws : List UInt64} (h : KeepsL pn k L z ws) : usageL L pn = (z, (ws.length : Int)) := by
  have e : (L.filter fun l => l.peer == pn) = L := List.filter_eq_self.2 fun l hl => by simpa using h.peer l hl
  unfold usageL
  rw [e, ← h.len, ← h.tot]
  rfl
theorem allL_snoc (L : List LinkD) (m : LinkD) : allL (L ++ [m]) = if (allL L).contains m.id then allL L else allL L ++ [m.id] := by
  unfold allL lsOf allI
  rw [List.map_append, List.foldl_append]
  rfl
theorem KeepsL.more {pn k : Nat} {z : Int} {ws : List UInt64} (h : KeepsL pn k L z ws) : KeepsL pn (k + 1) L z ws := ⟨h.peer, h.tot, h.all, fun l hl => by have := h.low l hl; omega, h.len⟩
theorem KeepsL.new {pn k : Nat} {z : Int} {ws : List UInt64} (h : KeepsL pn k L z ws) {x : UInt64} (hx : x.toNat = k) (d : DeedD) : (∀ l ∈ L, l.id ≠ x) ∧ KeepsL pn (k + 1) (newL L pn x d) (z + d.weight) (ws ++ [x]) := by
  have hno : ∀ l ∈ L, l.id ≠ x := fun l hl e => by
    have := h.low l hl
    rw [e] at this
    omega
  have hd : deedOf L x = none := deedOf_none.2 hno
  refine ⟨hno, ?_⟩
  unfold newL
  rw [hd]
  refine ⟨fun l hl => ?_, ?_, ?_, fun l hl => ?_, ?_⟩
  · rcases List.mem_append.1 hl with hl | hl
    · exact h.peer l hl
    · rw [List.mem_singleton.1 hl]
  · have := h.tot
    unfold totL at this ⊢
    rw [List.map_append, List.sum_append, this]
    simp
  · rw [allL_snoc, h.all, if_neg]
    rw [List.contains_iff_mem, ← h.all, allL_mem]
    rintro ⟨l, hl, e⟩
    exact hno l hl e
  · rcases List.mem_append.1 hl with hl | hl
    · have := h.low l hl
      omega
    · rw [List.mem_singleton.1 hl]
      show x.toNat < k + 1
      omega
  · simp [h.len]
theorem peersF_one {u : Nat → Int × Int} {p : Nat} (hp : p < 8) (h : 0 < (u p).2) : 1 ≤ peersF u 8 := by
  unfold peersF
  exact List.length_pos_of_mem (List.mem_filter.2 ⟨List.mem_range.2 hp, by simpa using h⟩)
theorem keeps_full {pn k : Nat} (hp : pn < 8) {z : Int} {ws : List UInt64} (hg : GoodL n L) (h : KeepsL pn k L z ws) (hne : L ≠ []) (hz : z ≤ 3000) (hl : L.length ≤ 24) : fullL L = false := by
  have h1 := sum_le_tot hg
  rw [h.tot] at h1
  have h2 : 1 ≤ peersF (usageL L) 8 := by
    obtain ⟨l, hl⟩ := List.exists_mem_of_ne_nil L hne
    exact peersF_one hp (by have := usageL_mem hl; rw [h.peer l hl] at this; exact this)
  unfold fullL fullF
  rw [usageL_eq hg, lsOf_len, Bool.or_eq_false_iff]
  exact ⟨decide_eq_false (by omega), decide_eq_false (by omega)⟩
theorem keeps_add {pn k : Nat} (hp : pn < 8) {z : Int} {ws : List UInt64} (hg : GoodL 24 L) (h : KeepsL pn k L z ws) {x : UInt64} (hx : x.toNat = k) {d : DeedD} (hd : checkD d = 0) (hz : z + d.weight ≤ 3000) (hl : ws.length ≠ 24) :
    addC L pn x d = ((true, 0), newL L pn x d) := by
  obtain ⟨hno, hk⟩ := h.new hx d
  have ht : ¬ ∃ l ∈ L, l.peer = pn ∧ l.id = x := fun ⟨l, hl, _, e⟩ => hno l hl e
  have hg1 := newL_good hg hp hd ht
  have hlen : (newL L pn x d).length ≤ 24 := by
    have h1 := hg.len
    have h2 := h.len
    have : (newL L pn x d).length = L.length + 1 := by simp [newL]
    omega
  have hnf := keeps_full hp hg1 hk (by simp [newL]) hz hlen
  have : (deedOf (newL L pn x d) x).isSome = true := deedOf_isSome.2 ⟨_, List.mem_append_right _ (List.mem_singleton.2 rfl), rfl⟩
  rw [addC_new hp hd ht, room_not hnf, this]
/-- Memory beside the pool turns. -/
theorem Held.grown {w0 w w' : World} {Z : Nat → Prop} {R : Nat} (h : Held w0 w Z R L) {row : Option Nat} (hg : w.grownBy w' row) (hr : ∀ k, row = some k → Z k ∧ w0.heap.size ≤ k) : Held w0 w' Z R L := by
  obtain ⟨F, h1, h2, b, ev, v, h3⟩ := h.home
  have hs : ∀ k, k < w.heap.size → F k → w'.heap[k]? = w.heap[k]? := fun k hk hF => hg.block k hk (fun e => h2 k hF (hr k e.symm).1)
  exact ⟨h.below.grown hg h.below.size (fun k hk => (hr k hk).2), ⟨F, h1, h2, b, ev, v, h3.same hs (fun i hi => by cases hi) hg.size⟩, h.good, h.there.later hg.size⟩
/-- A slice beside the pool has grown, in its block or in a new one. -/
theorem Held.appended {w0 w w' : World} {Z : Nat → Prop} {R : Nat} (h : Held w0 w Z R L) {o : Obj} {row : Option Nat} (hg : (w.alloc o).grownBy w' row) (hr : ∀ k, row = some k → Z k ∧ w0.heap.size ≤ k) {g : Nat} (hat : row = some g ∨ g = w.heap.size + 1) (hlt : g < w'.heap.size) (n cap : Nat) :
    Held w0 w' (fun j => (Value.slice (some ⟨g, 0, none⟩) n cap).ownBlock = some j) R L := by
  have h' := (h.kept (kept_new w o)).grown hg hr
  obtain ⟨F, h1, h2, b, ev, v, h3⟩ := h.home
  have hs : ∀ k, k < w.heap.size → F k → w'.heap[k]? = w.heap[k]? := fun k hk hF => (hg.block k (by simp; omega) (fun e => h2 k hF (hr k e.symm).1)).trans ((kept_new w o).block k hk)
  refine ⟨h'.below, ⟨F, h1, fun k hF hZ => ?_, b, ev, v, h3.same hs (fun i hi => by cases hi) (Nat.le_trans (by simp) hg.size)⟩, h.good, fun k hk => ?_⟩
  · have hk : g = k := by simpa [Value.ownBlock] using hZ
    rcases hat with e | e
    · exact h2 k hF (hr k (by rw [← hk]; exact e)).1
    · have := h3.there k hF
      omega
  · have hk : g = k := by simpa [Value.ownBlock] using hk
    rw [← hk]
    exact hlt
/-- 'append(s, x)': the new ID lies in a block of its own, laid just ahead; where the new slice lies. -/
theorem append_id2 {ops : Array Oper} {rest : List Oper} {o : Oper} {a : Act} {Q : Exit → Act → World → Prop} {w : World} (hgd : o.guard = none) (s x : Operand) (ho : o.op = .call { callee := .builtin .append, args := #[s, x], argTypes := #[37, 37] })
    {B : Nat} {v : Value} {d : List UInt64} (y : UInt64) (yv : Int) (hyv : (y.toNat : Int) = yv) (hs : a.eval s = v) (hx : a.eval x = .slice (some ⟨w.heap.size, 0, none⟩) 1 1) (hown : OwnIds w B v d) (hlen : d.length ≤ 1000000) (hB : B ≤ w.heap.size)
    (h : ∀ g cap w', OwnIds w' B (.slice (some ⟨g, 0, none⟩) (d.length + 1) cap) (d ++ [y]) → (w.alloc (.cells #[.int .u64 yv] 29)).grownBy w' v.ownBlock → (v.ownBlock = some g ∨ g = w.heap.size + 1) → g < w'.heap.size → wpList Try.prog ops Q rest (a.put o.dst (.slice (some ⟨g, 0, none⟩) (d.length + 1) cap)) w') :
    wpList Try.prog ops Q (o :: rest) a (w.alloc (.cells #[.int .u64 yv] 29)) := by
  subst hyv
  obtain ⟨i0, hi0, hz0, hz1, hz2⟩ := info_parts info_u64
  refine wpList_append_lies _ hgd s x 37 ho B 29 i0 (.int .u64 0) 1 8 Try.underlying37 hi0 hz0 hz1 hz2 rfl (by decide) v d.length (d.map idV) hs (hown.alloc _) ⟨w.heap.size, 0, none⟩ 1 1 [.int .u64 y.toNat] hx rfl (cells_new w _ _) (by simp [Value.oneCell']) (by decide) (by unfold maxLen; omega) (by omega) (by simp; omega) _ rfl ?_
  intro g cap w1 hown' hgrow hat hlt
  refine h g cap w1 ?_ hgrow (hat.imp id (fun e => e.trans (by simp))) hlt
  unfold OwnIds
  rw [List.length_append, List.map_append]
  exact hown'
/-- What the law holds: the pool, its own slice of IDs. -/
def KeepsAt (w wr : World) (R pn k : Nat) (z : Int) (ws : List UInt64) (v : Value) : Prop := ∃ L, Held w wr (fun j => v.ownBlock = some j) R L ∧ KeepsL pn k L z ws ∧ OwnIds wr w.heap.size v ws
theorem deeds_at {w0 w : World} {a : Option Addr} {l : List DeedH} (h : DeedsAt w0 a l) (hb : Below w0.heap.size w0 w) (k : Nat) (hk : k < l.length) : ∃ b o, a = some ⟨b, o, none⟩ ∧ b < w.heap.size ∧ DeedHCells w b (o + k * 4) l[k] := by
  obtain ⟨⟨b, o, e, hlt, c0, c1, c2, c3⟩, _⟩ := h k hk
  exact ⟨b, o, e, Nat.lt_of_lt_of_le hlt hb.size, kept_cell hb c0, kept_cell hb c1, kept_cell hb c2, kept_cell hb c3⟩
set_option maxRecDepth 20000 in
set_option maxHeartbeats 2000000 in
theorem homeKeeps_walk (l : List DeedH) (a : Option Addr) (cap : Nat) (peer : Int) (hm : l.length ≤ maxLen) (_ : -9223372036854775808 ≤ peer ∧ peer ≤ 9223372036854775807) (w : World) (hi : DeedsAt w a l) :
    Calls Try.prog 9 #[.slice a l.length cap, .int .i64 peer] w fun e w' => e = .returned (.bool true) ∧ Below w.heap.size w w' := by
  have HI := Lib.hid hi
  unfold maxLen at hm
  obtain ⟨pn, hpn, hp8⟩ : ∃ m : Nat, peer % 8 = m ∧ m < 8 := ⟨(peer % 8).toNat, by omega, by omega⟩
  have HPN := Lib.hid hpn
  clear hi hpn
  go_enter Try.func9, Try.ntmps9
  go_wp2_with fail
  with_reducible refine (housed_any w).mono ?_
  rintro e w1 ⟨rfl, hb1⟩
  have HB1 := Lib.hid hb1
  clear hb1
  go_wp2_with fail
  with_reducible refine (rest_is peer 8 pn w1 (by omega) (by omega) HPN.out).mono ?_
  rintro e w2 ⟨rfl, rfl⟩
  go_wp2_with fail
  with_reducible refine (hd_new w w1 HB1.out noZ (there_no w1)).mono ?_
  rintro e w2 ⟨R, rfl, h2, _⟩
  have H2 : Hid (KeepsAt w w2 R pn 0 0 [] (.slice none 0 0)) := Lib.hid ⟨[], h2.less (fun k hk => by cases hk), ⟨fun l hl => by simp at hl, rfl, rfl, fun l hl => by simp at hl, rfl⟩, ownIds_nil _ _⟩
  clear h2
  go_wp2_with fail
  go_loopw [6, 7, 24] (fun vz vw vi wr => ∃ (k : Nat) (z : Int) (ws : List UInt64), k ≤ l.length ∧ vi = .int .i64 k ∧ vz = .int .i64 z ∧ 0 ≤ z ∧ z ≤ 3000 ∧ ws.length ≤ 24 ∧ Hid (KeepsAt w wr R pn k z ws vw)) (fun _ _ i _ => l.length - (intOf i).toNat)
  case atStart => exact ⟨0, 0, [], Nat.zero_le _, rfl, rfl, by omega, by omega, by decide, H2⟩
  case round =>
    clear H2
    obtain ⟨k, z, ws, hk, rfl, rfl, hz0, hz1, hws, HF⟩ := hrel
    rename_i u7
    obtain ⟨L, h, hkp, how⟩ := HF.out
    obtain ⟨wa, wc, rfl, _, _, _⟩ := owns_idsAt how
    by_cases hkl : k < l.length
    · obtain ⟨g, o, rfl, hg, c0, c1, c2, c3⟩ := deeds_at HI.out h.below k hkl
      have hfi := (HI.out k hkl).2
      obtain ⟨q, hq⟩ : ∃ q, l[k] = q := ⟨_, rfl⟩
      rw [hq] at c0 c1 c2 c3 hfi
      obtain ⟨qa, qc, qd⟩ := q
      simp only at c0 c1 c2 c3 hfi
      have HFI := Lib.hid hfi
      have HK := Lib.hid hkp
      have HOW := Lib.hid how
      have HN := Lib.hid (h.new (.cells #[.slice qa qd.ins.length qc, .int .i64 qd.outs, .int .i64 qd.weight, .int .i64 qd.fee] 32))
      have hkn := kept_new wr (.cells #[.slice qa qd.ins.length qc, .int .i64 qd.outs, .int .i64 qd.weight, .int .i64 qd.fee] 32)
      have HON := Lib.hid (ownIds_below how hkn)
      have HIX := Lib.hid (insAt_kept (kept_trans h.below hkn) hfi)
      have HBX : Hid (BoxIs wr.heap.size qa qc qd (wr.alloc (.cells #[.slice qa qd.ins.length qc, .int .i64 qd.outs, .int .i64 qd.weight, .int .i64 qd.fee] 32))) := Lib.hid (heap_alloc_new _ _)
      have hxk : (UInt64.ofNat k).toNat = k := by
        rw [UInt64.toNat_ofNat']
        exact Nat.mod_eq_of_lt (by omega)
      have HXK := Lib.hid hxk
      have hki : (k : Int) ≤ 9223372036854775807 := by omega
      clear hq hfi h hkp how hkn hxk
      by_cases h24 : ws.length = 24
      · have hb24 : ((ws.length : Int) == 24) = true := by rw [h24]; rfl
        have HKA : Hid (KeepsAt w (wr.alloc (.cells #[.slice qa qd.ins.length qc, .int .i64 qd.outs, .int .i64 qd.weight, .int .i64 qd.fee] 32)) R pn (k + 1) z ws (.slice wa ws.length wc)) := Lib.hid ⟨L, HN.out.less (fun j hj => .inl hj), HK.out.more, HON.out⟩
        have HWS := Lib.hid hws
        clear h24 hws
        go_wp2_with fail
        go_roundw
        case rel => exact ⟨k + 1, z, ws, by omega, by go_num, rfl, by omega, by omega, HWS.out, HKA⟩
        case measure => simp [intOf]; omega
      · have hb24 : ((ws.length : Int) == 24) = false := by rw [beq_eq_false_iff_ne]; omega
        obtain ⟨r, hr⟩ : ∃ r, checkD qd = r := ⟨_, rfl⟩
        have HR := Lib.hid hr
        have H24 := Lib.hid h24
        clear hr h24
        by_cases hr0 : r = 0
        · subst hr0
          have hwt := (check_ok HR.out).2.2.2.2.1
          obtain ⟨hw0, hw1⟩ := hwt
          go_wp2_with fail
          with_reducible refine (check_is qd qa qc _ 0 HIX.out HR.out).mono ?_
          rintro e w4 ⟨rfl, hb4⟩
          have H4 := Lib.hid (HN.out.kept hb4)
          have HO4 := Lib.hid (ownIds_below HON.out hb4)
          have HBX4 := Lib.hid (boxIs_kept HBX.out hb4)
          obtain ⟨b0, b1, b2, b3, b4⟩ := boxIs_cells HBX4.out
          clear hb4
          by_cases hgt : z + qd.weight > 3000
          · have HKA : Hid (KeepsAt w w4 R pn (k + 1) z ws (.slice wa ws.length wc)) := Lib.hid ⟨L, H4.out.less (fun j hj => .inl hj), HK.out.more, HO4.out⟩
            go_wp2_with fail
            go_roundw
            case rel => exact ⟨k + 1, z, ws, by omega, by go_num, rfl, by omega, by omega, by omega, HKA⟩
            case measure => simp [intOf]; omega
          · have HA := Lib.hid (keeps_add hp8 HN.out.good HK.out HXK.out HR.out (by omega) H24.out)
            go_wp2_with fail
            refine (show Calls Try.prog 28 #[.pointer (some ⟨R, 0, none⟩), .int .i64 pn, .int .u64 k, .agg #[.slice qa qd.ins.length qc, .int .i64 qd.outs, .int .i64 qd.weight, .int .i64 qd.fee]] w4 fun e w' => e = .returned (.tuple #[.bool true, .int .i64 0]) ∧ Held w w' (fun j => (Value.slice wa ws.length wc).ownBlock = some j ∨ j = wr.heap.size) R (newL L pn (UInt64.ofNat k) qd) ∧ SameZ (fun j => (Value.slice wa ws.length wc).ownBlock = some j ∨ j = wr.heap.size) w4 w' from by
              have := hd_add_is w _ R L w4 H4.out pn (UInt64.ofNat k) qd qa qc HFI.out true 0 _ HA.out
              rw [HXK.out] at this
              exact this).mono ?_
            rintro e w5 ⟨rfl, h5, s5⟩
            have H5 := Lib.hid h5
            have HO5 : Hid (OwnIds w5 w.heap.size (.slice wa ws.length wc) ws) := Lib.hid (own_same HO4.out fun j hj => s5 j (.inl hj))
            have HBX5 : BoxIs wr.heap.size qa qc qd w5 := (s5 _ (.inr rfl)).trans HBX4.out
            obtain ⟨d0, d1, d2, d3, d4⟩ := boxIs_cells HBX5
            have hB5 := h5.below.size
            clear h5 s5 HBX5 b0 b1 b2 b3 b4
            go_wp2_with (at_builtin; refine append_id2 rfl _ _ rfl (UInt64.ofNat k) k (by rw [HXK.out]) rfl rfl HO5.out (by omega) hB5 ?_; intro g6 cap6 w6 ho6 hg6 hat6 hlt6)
            have HKA : Hid (KeepsAt w w6 R pn (k + 1) (z + qd.weight) (ws ++ [UInt64.ofNat k]) (.slice (some ⟨g6, 0, none⟩) (ws.length + 1) cap6)) := Lib.hid ⟨_, H5.out.appended hg6 (fun j hj => ⟨.inl hj, (HO5.out.lt j hj).1⟩) hat6 hlt6 _ _, (HK.out.new HXK.out qd).2, by simpa using ho6⟩
            have HW6 := Lib.hid (show (ws ++ [UInt64.ofNat k]).length ≤ 24 by have := H24.out; simp; omega)
            clear ho6 hg6 hat6 hlt6
            go_wp2_with fail
            go_roundw
            case rel => exact ⟨k + 1, z + qd.weight, ws ++ [UInt64.ofNat k], by omega, by go_num, rfl, by omega, by omega, HW6.out, HKA⟩
            case measure => simp [intOf]; omega
        · have hne : (r != 0) = true := bne_iff_ne.2 hr0
          go_wp2_with fail
          with_reducible refine (check_is qd qa qc _ r HIX.out HR.out).mono ?_
          rintro e w4 ⟨rfl, hb4⟩
          have HKA : Hid (KeepsAt w w4 R pn (k + 1) z ws (.slice wa ws.length wc)) := Lib.hid ⟨L, (HN.out.kept hb4).less (fun j hj => .inl hj), HK.out.more, ownIds_below HON.out hb4⟩
          clear hb4
          go_wp2_with fail
          go_roundw
          case rel => exact ⟨k + 1, z, ws, by omega, by go_num, rfl, by omega, by omega, by omega, HKA⟩
          case measure => simp [intOf]; omega
    · have HH := Lib.hid h
      have HOW := Lib.hid how
      have HUC : Hid (usageC L pn = (z, (ws.length : Int), 0)) := Lib.hid (by rw [usageC_at hp8, hkp.usage])
      have HAL := Lib.hid hkp.all
      clear h hkp how
      go_wp2_with fail
      with_reducible refine (hd_usage w _ R L wr HH.out pn z ws.length 0 HUC.out).mono ?_
      rintro e w4 ⟨rfl, hb4⟩
      have H4 := Lib.hid (HH.out.kept hb4)
      have HO4 := Lib.hid (ownIds_below HOW.out hb4)
      clear hb4
      go_wp2_with fail
      with_reducible refine (hd_all w _ R L w4 H4.out).mono ?_
      rintro e w5 ⟨a5, c5, rfl, ho5, hb5⟩
      rw [HAL.out] at ho5 ⊢
      obtain ⟨a6, k6, e6, _, hi6, _⟩ := owns_idsAt ho5
      simp only [Value.slice.injEq] at e6
      obtain ⟨rfl, _, rfl⟩ := e6
      obtain ⟨a7, k7, e7, _, hi7, _⟩ := owns_idsAt (ownIds_below HO4.out hb5)
      simp only [Value.slice.injEq] at e7
      obtain ⟨rfl, _, rfl⟩ := e7
      have HI6 := Lib.hid hi6
      have HI7 := Lib.hid hi7
      have H5 := Lib.hid (H4.out.kept hb5)
      clear ho5 hi6 hi7 hb5
      go_wp2_with fail
      with_reducible refine (eqID_is ws ws _ _ _ _ _ true (by unfold maxLen; omega) HI6.out HI7.out (by simp)).mono ?_
      rintro e w6 ⟨rfl, rfl⟩
      go_wp2_with fail
      go_ret
      exact ⟨ret_bool (by simp), H5.out.below⟩
end Go.Proofs.Ytodhkphjlcjdoaa
