/-
  mixed: numbers in an order.
-/
import Derived.Test.YtaaaplbjeknbkaaGreatIntRow
import Derived.Test.YtaaaplbjeknbkaaGreatJ2
import Derived.Test.YtaaaplbjeknbkaaGreatJ29
import Derived.ArgAppend
set_option maxRecDepth 20000
namespace Go.Proofs.YtaaaplbjeknbkaaGreat
open Go.RowKit Go.Maps

variable {w w' : World}

def sliceLen : Value → Nat
  | .slice _ n _ => n
  | _ => 0
theorem add_plain (g o j : Nat) : (⟨g, o, none⟩ : Addr).add j = ⟨g, o + j, none⟩ := by unfold Addr.add; split <;> simp_all
/-- left[:k:k] and left[k+1:], joined. -/
theorem run_cut (ty : TypeId) {a : Option Addr} {l : List Int} (h : Tr.IntsAt w a l) {k : Nat} (hk : k < l.length) (hl : l.length ≤ 1000) (g o : Nat) (ha : a = some ⟨g, o, none⟩) (b : Option Addr) (c : Nat) (hb : k + 1 < l.length → b = some ⟨g, o + (k + 1), none⟩) :
    ∃ v' w' a' c', (Builtin.append_ #[76, 76] ty #[.slice (some ⟨g, o, none⟩) k k, .slice b (l.length - (k + 1)) c]).run Tryz.prog w = .ok v' w' ∧ v' = .slice a' (l.eraseIdx k).length c' ∧ (l.eraseIdx k).length ≤ c' ∧ Tr.IntsAt w' a' (l.eraseIdx k) ∧ w.grownBy w' none ∧ ∀ bb oo, a' = some ⟨bb, oo, none⟩ → bb = g ∨ w.heap.size ≤ bb := by
  obtain ⟨i0, hi0, hz0, hz1, hz2⟩ := info_parts info_int
  subst ha
  have hat : ∀ j (hj : j < l.length), w.cell? ⟨g, o + j, none⟩ = some (.int .i64 l[j]) := fun j hj => by
    obtain ⟨b, o', e, _, c⟩ := h j hj
    cases e
    exact c
  have he : l.eraseIdx k = l.take k ++ l.drop (k + 1) := List.eraseIdx_eq_take_drop_succ ..
  have hlen : (l.eraseIdx k).length = l.length - 1 := List.length_eraseIdx_of_lt hk
  by_cases hlast : k + 1 < l.length
  · rw [hb hlast]
    have hnews : ∀ j u, ((l.drop (k + 1)).map itV)[j]? = some u → w.cell? ((⟨g, o + (k + 1), none⟩ : Addr).add j) = some u := fun j u hu => by
      rw [List.getElem?_map, List.getElem?_drop] at hu
      obtain ⟨x, hx, rfl⟩ := Option.map_eq_some_iff.1 hu
      obtain ⟨hj, rfl⟩ := List.getElem?_eq_some_iff.1 hx
      rw [add_plain, Nat.add_assoc]
      exact hat _ hj
    have holds : ∀ j u, ((l.take k).map itV)[j]? = some u → w.cell? ((⟨g, o, none⟩ : Addr).add j) = some u := fun j u hu => by
      rw [List.getElem?_map, List.getElem?_take] at hu
      obtain ⟨x, hx, rfl⟩ := Option.map_eq_some_iff.1 hu
      split at hx
      · obtain ⟨hj, rfl⟩ := List.getElem?_eq_some_iff.1 hx
        rw [add_plain]
        exact hat _ hj
      · cases hx
    obtain ⟨v', w', hr, r1, r2⟩ := run_append_arg_grows (P := Tryz.prog) w 76 ty 3 i0 (.int .i64 0) 1 8 Tryz.underlying76 hi0 hz0 hz1 hz2 rfl (by decide) ⟨g, o, none⟩ k k ((l.take k).map itV) (by simp; omega) holds ⟨g, o + (k + 1), none⟩ (l.length - (k + 1)) c ((l.drop (k + 1)).map itV) (by simp) hnews (by omega) (by unfold maxLen; omega) (by omega)
    rw [← List.map_append, ← he, show k + (l.length - (k + 1)) = (l.eraseIdx k).length by omega] at r1
    obtain ⟨a', c', h1, h2, h3, h4⟩ := owns_intsAt r1
    exact ⟨v', w', a', c', hr, h1, h2, h3, r2, fun bb oo e => .inr (h4 bb oo none e)⟩
  · have hk1 : k + 1 = l.length := by omega
    have hd : l.drop (k + 1) = [] := List.drop_eq_nil_of_le (by omega)
    have hr : ∀ b : Option Addr, (Builtin.append_ #[76, 76] ty #[.slice (some ⟨g, o, none⟩) k k, .slice b 0 c]).run Tryz.prog w = .ok (.slice (some ⟨g, o, none⟩) k k) w := fun b => by
      cases b with
      | none => simp [Builtin.append_, run_underlying Tryz.underlying76, Builtin.lenOf, Builtin.firstCells, sizeOf, typeInfo, hi0, storeCells]
      | some ad => simp [Builtin.append_, run_underlying Tryz.underlying76, Builtin.lenOf, Builtin.firstCells, sizeOf, typeInfo, hi0, loadCells, loadCellsFrom, storeCells]
    refine ⟨_, w, some ⟨g, o, none⟩, k, by rw [show l.length - (k + 1) = 0 by omega]; exact hr b, by rw [hlen, show l.length - 1 = k by omega], by omega, fun i hi => ?_, ⟨rfl, rfl, rfl, Nat.le_refl _, fun _ _ _ => rfl⟩, fun bb oo e => .inl (by cases e; rfl)⟩
    obtain ⟨b0, o0, e0, hlt, _⟩ := h 0 (by omega)
    cases e0
    refine ⟨g, o, rfl, hlt, ?_⟩
    rw [hat i (by omega)]
    congr 2
    rw [List.getElem_eraseIdx, dif_pos (by omega)]
/-- An append whose run is known, at a step of a region that draws its order. -/
theorem step_append_run {ops : Array Oper} {o : Oper} {a : Act} {K : Act → World → Prop} {Q : Exit → Act → World → Prop} {E : Prop} (hgd : o.guard = none) (s x : Operand) {T : TypeId} {v u v' : Value}
    (ho : o.op = .call { callee := .builtin .append, args := #[s, x], argTypes := #[T, T] }) (hs : a.eval s = v) (hx : a.eval x = u) (hr : (Builtin.append_ #[T, T] o.type #[v, u]).run Tryz.prog w = .ok v' w') (hK : K (a.put o.dst v') w') :
    if Region.wanted o (yielded ops a.tmps) = true then Oper.wp Tryz.prog o a w K Q else E := by
  have hwt : Region.wanted o (yielded ops a.tmps) = true := by simp [Region.wanted, hgd]
  rw [if_pos hwt]
  unfold Oper.wp execOp
  simp only [ho, resolve, invoke, builtin, Sem.run_bind, Sem.run_pure, Result.andThen_ok, List.map_toArray, List.map_cons, List.map_nil, hs, hx, hr]
  exact hK
theorem erase_perm : ∀ (l : List Int) (k : Nat) (h : k < l.length), (l[k] :: l.eraseIdx k).Perm l
  | a :: r, 0, _ => List.Perm.refl _
  | a :: r, k + 1, h => by
    have ih := erase_perm r k (by simpa using h)
    exact (List.Perm.swap a _ _).trans (List.Perm.cons a ih)
/-- The numbers below n. -/
def upTo (n : Nat) : List Int := (List.range n).map Int.ofNat
theorem upTo_len (n : Nat) : (upTo n).length = n := by simp [upTo]
theorem upTo_step (n : Nat) : upTo (n + 1) = upTo n ++ [(n : Int)] := by simp [upTo, List.range_succ]
set_option maxRecDepth 20000 in
set_option maxHeartbeats 2000000 in
theorem mixed_any (n : Nat) (hn : n ≤ 12) (l : List Int) (a : Option Addr) (cap : Nat) (_hl : l.length ≤ maxLen) (w : World) (hi : Tr.IntsAt w a l) : Calls Tryz.prog 44 #[.int .i64 n, .slice a l.length cap] w fun e w' => ∃ a' c' out, e = .returned (.slice a' out.length c') ∧ Tr.IntsAt w' a' out ∧ out.Perm (upTo n) ∧ Fresh w.heap.size a' ∧ Below w.heap.size w w' := by
  have HI := Lib.hid hi
  have hml : maxLen = 9223372036854775807 := rfl
  clear hi
  go_enter Tryz.func44, Tryz.ntmps44
  go_wp2_with fail
  go_loopw [5, 11] (fun v5 i wr => ∃ k : Nat, k ≤ n ∧ i = .int .i64 k ∧ Hid (OwnInt wr w.heap.size v5 (upTo k)) ∧ Hid (Below w.heap.size w wr)) (fun _ i _ => n - (intOf i).toNat)
  case atStart => exact ⟨0, Nat.zero_le _, rfl, Lib.hid (ownInt_nil w _), Lib.hid (Below.refl _ _)⟩
  case round =>
    obtain ⟨k, hk, rfl, HO, HB⟩ := hrel
    by_cases hkn : k < n
    · have hkl : (upTo k).length ≤ 1000000000000 := by rw [upTo_len]; omega
      have HS := Lib.hid HB.out.size
      go_wp2_with (at_builtin; refine append_int rfl _ _ rfl (k : Int) rfl rfl HO.out hkl HS.out ?_; intro g7 cap7 w7 ho7 hg7 hat7; refine Hid.out ?_)
      refine Lib.hid ?_
      rw [← upTo_step] at ho7
      have HO7' := Lib.hid ho7
      have HB7 := Lib.hid (HB.out.grown hg7 HS.out (fun g hg => (HO.out.lt g hg).1))
      clear ho7 hg7 hkl hat7
      go_wp2_with fail
      go_roundw
      case rel => exact ⟨k + 1, by omega, by go_num, HO7', HB7⟩
      case measure => simp [intOf]; omega
    · obtain rfl : k = n := by omega
      obtain ⟨a5, c5, rfl, hc5, hat5, _⟩ := owns_intsAt HO.out
      have HA5 := Lib.hid hat5
      have HLn : Hid ((upTo k).length = k) := Lib.hid (upTo_len k)
      obtain ⟨lf, hlf⟩ : ∃ lf, upTo k = lf := ⟨_, rfl⟩
      have HLF := Lib.hid hlf
      rw [hlf] at HA5 HLn hc5 ⊢
      obtain ⟨wB, hwB⟩ : ∃ x, x = wr := ⟨_, rfl⟩
      subst hwB
      clear hat5 hlf
      go_wp2_with fail
      go_loopw [5, 6, 8] (fun v5 v6 i wr => ∃ (lf out : List Int) (a5 : Option Addr) (c5 : Nat), v5 = .slice a5 lf.length c5 ∧ lf.length ≤ c5 ∧ lf.length ≤ 12 ∧ i = .int .i64 out.length ∧ out.length ≤ 12 ∧ Hid (Tr.IntsAt wr a5 lf) ∧ Hid (OwnInt wr w.heap.size v6 out) ∧ Hid ((out ++ lf).Perm (upTo k)) ∧ Hid (Below w.heap.size w wr) ∧ Hid (∀ q bb oo, v6.ownBlock = some q → a5 = some ⟨bb, oo, none⟩ → q ≠ bb)) (fun v5 _ _ _ => sliceLen v5)
      case atStart => exact ⟨lf, [], a5, c5, rfl, hc5, by rw [HLn.out]; omega, rfl, by simp, HA5, Lib.hid (ownInt_nil _ _), Lib.hid (by rw [List.nil_append, HLF.out]), HB, Lib.hid fun q bb oo h => by cases h⟩
      case round =>
        obtain ⟨lf, out, a5, c5, rfl, hc5, hl5, rfl, hout, HA, HO6, HP, HB6, HNE⟩ := hrel
        by_cases h0 : 0 < lf.length
        · obtain ⟨g, o, rfl, hg, d0⟩ := HA.out 0 h0
          have HIL : Hid (∀ h : out.length < l.length, ∃ b o', a = some ⟨b, o', none⟩ ∧ wr.cell? ⟨b, o' + out.length, none⟩ = some (.int .i64 l[out.length])) := Lib.hid fun h => by
            obtain ⟨b, o', e, _, c⟩ := HI.out _ h
            exact ⟨b, o', e, cell_later HB6.out c⟩
          by_cases hio : out.length < l.length
          · obtain ⟨b, o', rfl, cb⟩ := HIL.out hio
            obtain ⟨f, hf⟩ : ∃ f, l[out.length] = f := ⟨_, rfl⟩
            rw [hf] at cb
            have l5 := (cell_spot cb).2
            obtain ⟨k2, hk2⟩ : ∃ k2 : Nat, f % (lf.length : Int) = k2 := ⟨(f % (lf.length : Int)).toNat, by have := Int.emod_nonneg f (show (lf.length : Int) ≠ 0 by omega); omega⟩
            have hk2l : k2 < lf.length := by have := Int.emod_lt_of_pos f (show (0 : Int) < lf.length by omega); omega
            have HK2 := Lib.hid hk2
            clear hf hk2
            go_wp2_with fail
            with_reducible refine (rest_is f lf.length k2 _ (by omega) (by omega) HK2.out).mono ?_
            rintro e w5 ⟨rfl, rfl⟩
            obtain ⟨g', o2, e', _, ck⟩ := HA.out k2 hk2l
            cases e'
            obtain ⟨x, hx⟩ : ∃ x, lf[k2] = x := ⟨_, rfl⟩
            rw [hx] at ck
            have l6 := (cell_spot ck).2
            have HS := Lib.hid HB6.out.size
            have hol : out.length ≤ 1000000000000 := by omega
            have HPX : Hid ((out ++ [x] ++ lf.eraseIdx k2).Perm (upTo k)) := Lib.hid (by
              refine List.Perm.trans ?_ HP.out
              rw [List.append_assoc, ← hx]
              exact List.Perm.append_left _ (erase_perm _ _ hk2l))
            have hok : out.length + lf.length = k := by have := HP.out.length_eq; rw [List.length_append, upTo_len] at this; exact this
            clear hx
            go_wp2_with (at_builtin; refine append_int rfl _ _ rfl x rfl rfl HO6.out hol HS.out ?_; intro g7 cap7 w7 ho7 hg7 hat7; refine Hid.out ?_)
            refine Lib.hid ?_
            have hA7 := intsAt_grown HA.out hg7 (fun bb oo e e2 => HNE.out bb bb oo e2 e rfl)
            have HB7 := Lib.hid (HB6.out.grown hg7 HS.out (fun g hg => (HO6.out.lt g hg).1))
            have HN7 : Hid (g7 ≠ g) := Lib.hid fun e => hat7.elim (fun h => HNE.out g7 g o h rfl e) (fun h => by omega)
            have hk2d : k2 + 1 ≤ lf.length := by omega
            have hk2c : k2 ≤ c5 := by omega
            have hwr : IntKind.i64.wrap ((k2 : Int) + 1) = (k2 : Int) + 1 := IntWalk.i64_in _ (by omega)
            have htn : ((k2 : Int) + 1).toNat = k2 + 1 := by omega
            have hle : (k2 : Int) + 1 ≤ lf.length := by omega
            have h01 : 0 ≤ (k2 : Int) + 1 := by omega
            obtain ⟨bb, hbb⟩ : ∃ bb : Option Addr, (if c5 = k2 + 1 then some ⟨g, o, none⟩ else some ⟨g, o + (k2 + 1), none⟩) = bb := ⟨_, rfl⟩
            obtain ⟨v8, w8, a8, c8, hrun, hv8, hc8, hA8, hg8, hn8⟩ := run_cut (w := w7.drew) 76 (intsAt_kept ((Below.refl w7.heap.size w7).drew) hA7) (k := k2) hk2l (by omega) g o rfl bb (c5 - (k2 + 1)) (fun h => hbb ▸ if_neg (by omega))
            have HA8 := Lib.hid hA8
            have HO8 : Hid (OwnInt w8 w.heap.size (.slice (some ⟨g7, 0, none⟩) (out.length + 1) cap7) (out ++ [x])) := Lib.hid (own_grown (owns_below ho7 ((Below.refl w7.heap.size w7).drew)) hg8 (fun _ _ e => by cases e))
            have HB8 : Hid (Below w.heap.size w w8) := Lib.hid ((kept_trans HB7.out ((Below.refl w7.heap.size w7).drew)).grown hg8 HB7.out.size (fun _ e => by cases e))
            have HN8 : Hid (∀ q bb oo, (Value.slice (some ⟨g7, 0, none⟩) (out.length + 1) cap7).ownBlock = some q → a8 = some ⟨bb, oo, none⟩ → q ≠ bb) := Lib.hid fun q bb oo hq he e => by
              have hq' : g7 = q := by simpa [Value.ownBlock] using hq
              have hlt := (ho7.lt g7 rfl).2
              rcases hn8 bb oo he with h | h
              · exact HN7.out (hq'.trans (e.trans h))
              · have : w7.drew.heap.size = w7.heap.size := rfl
                omega
            have hel : (lf.eraseIdx k2).length = lf.length - 1 := List.length_eraseIdx_of_lt hk2l
            have HEL := Lib.hid hel
            subst hv8
            skip
            clear ho7 hg7 hA7 hat7 hA8 hg8 hn8 hel
            go_wp2_with fail
            go_region_law (refine step_append_run (v := .slice (some ⟨g, o, none⟩) k2 k2) (u := .slice bb (lf.length - (k2 + 1)) (c5 - (k2 + 1))) (by rfl) _ _ (by rfl) (by simp [go_sem]) (by simp [go_sem]) hrun ?_)
            all_goals
              go_wp2_with fail
              go_roundw
              case rel => exact ⟨lf.eraseIdx k2, out ++ [x], a8, c8, (by first | rfl | rw [HEL.out]), hc8, by rw [HEL.out]; omega, by simp, by simp; omega, HA8, HO8, HPX, HB8, HN8⟩
              case measure => simp only [sliceLen]; first | omega | (rw [HEL.out]; omega)
          · have hio' : ¬ (out.length : Int) < l.length := by omega
            obtain ⟨g', o2, e', _, ck⟩ := HA.out 0 h0
            cases e'
            obtain ⟨x, hx⟩ : ∃ x, lf[0]'h0 = x := ⟨_, rfl⟩
            rw [hx, Nat.add_zero] at ck
            have l6 := (cell_spot ck).2
            have HS := Lib.hid HB6.out.size
            have hol : out.length ≤ 1000000000000 := by omega
            have HPX : Hid ((out ++ [x] ++ lf.eraseIdx 0).Perm (upTo k)) := Lib.hid (by
              refine List.Perm.trans ?_ HP.out
              rw [List.append_assoc, ← hx]
              exact List.Perm.append_left _ (erase_perm _ _ h0))
            have hok : out.length + lf.length = k := by have := HP.out.length_eq; rw [List.length_append, upTo_len] at this; exact this
            clear hx
            go_wp2_with (at_builtin; refine append_int rfl _ _ rfl x rfl rfl HO6.out hol HS.out ?_; intro g7 cap7 w7 ho7 hg7 hat7; refine Hid.out ?_)
            refine Lib.hid ?_
            have hA7 := intsAt_grown HA.out hg7 (fun bb oo e e2 => HNE.out bb bb oo e2 e rfl)
            have HB7 := Lib.hid (HB6.out.grown hg7 HS.out (fun g hg => (HO6.out.lt g hg).1))
            have HN7 : Hid (g7 ≠ g) := Lib.hid fun e => hat7.elim (fun h => HNE.out g7 g o h rfl e) (fun h => by omega)
            have hk2d : 1 ≤ lf.length := by omega
            have hle : (1 : Int) ≤ lf.length := by omega
            have hwr : IntKind.i64.wrap 1 = 1 := by decide
            obtain ⟨bb, hbb⟩ : ∃ bb : Option Addr, (if c5 = 1 then some ⟨g, o, none⟩ else some ⟨g, o + 1, none⟩) = bb := ⟨_, rfl⟩
            obtain ⟨v8, w8, a8, c8, hrun, hv8, hc8, hA8, hg8, hn8⟩ := run_cut (w := w7.drew) 76 (intsAt_kept ((Below.refl w7.heap.size w7).drew) hA7) (k := 0) h0 (by omega) g o rfl bb (c5 - 1) (fun h => hbb ▸ if_neg (by omega))
            have HA8 := Lib.hid hA8
            have HO8 : Hid (OwnInt w8 w.heap.size (.slice (some ⟨g7, 0, none⟩) (out.length + 1) cap7) (out ++ [x])) := Lib.hid (own_grown (owns_below ho7 ((Below.refl w7.heap.size w7).drew)) hg8 (fun _ _ e => by cases e))
            have HB8 : Hid (Below w.heap.size w w8) := Lib.hid ((kept_trans HB7.out ((Below.refl w7.heap.size w7).drew)).grown hg8 HB7.out.size (fun _ e => by cases e))
            have HN8 : Hid (∀ q bb oo, (Value.slice (some ⟨g7, 0, none⟩) (out.length + 1) cap7).ownBlock = some q → a8 = some ⟨bb, oo, none⟩ → q ≠ bb) := Lib.hid fun q bb oo hq he e => by
              have hq' : g7 = q := by simpa [Value.ownBlock] using hq
              have hlt := (ho7.lt g7 rfl).2
              rcases hn8 bb oo he with h | h
              · exact HN7.out (hq'.trans (e.trans h))
              · have : w7.drew.heap.size = w7.heap.size := rfl
                omega
            have hel : (lf.eraseIdx 0).length = lf.length - 1 := List.length_eraseIdx_of_lt h0
            have HEL := Lib.hid hel
            subst hv8
            simp only [Nat.zero_add] at hrun
            clear ho7 hg7 hA7 hat7 hA8 hg8 hn8 hel
            go_wp2_with fail
            go_region_law (refine step_append_run (v := .slice (some ⟨g, o, none⟩) 0 0) (u := .slice bb (lf.length - 1) (c5 - 1)) (by rfl) _ _ (by rfl) (by simp [go_sem]) (by simp [go_sem]) hrun ?_)
            all_goals
              go_wp2_with fail
              go_roundw
              case rel => exact ⟨lf.eraseIdx 0, out ++ [x], a8, c8, (by first | rfl | rw [HEL.out]), hc8, by rw [HEL.out]; omega, by simp, by simp; omega, HA8, HO8, HPX, HB8, HN8⟩
              case measure => simp only [sliceLen]; first | omega | (rw [HEL.out]; omega)
        · have h00 : lf.length = 0 := by omega
          have hlf : lf = [] := List.length_eq_zero_iff.1 h00
          subst hlf
          obtain ⟨a6, c6, rfl, _, hat6, hfr6⟩ := owns_intsAt HO6.out
          have HA6 := Lib.hid hat6
          have HFR := Lib.hid hfr6
          have HPX : Hid (out.Perm (upTo k)) := Lib.hid (by have := HP.out; rwa [List.append_nil] at this)
          clear hat6 h00 hfr6
          go_wp2_with fail
          go_ret
          exact ⟨a6, c6, out, rfl, HA6.out, HPX.out, HFR.out, HB6.out⟩
end Go.Proofs.YtaaaplbjeknbkaaGreat
