/-
  Send: announce.
  Send: fetch.
  The contracts of the program's readIDs and read.
  The contract of strings.Clone for short strings.
  The contracts of the program's read and Decode of messages.
  The contract of the program's msg.Decode.
  The contracts of the program's number, checkSize, read and Decode.
  The contract of the program's read.
-/
import Derived.Test.YtmbejeibcncmmaaGreatJ15
import Derived.Test.YtmbejeibcncmmaaGreatJ12
import Derived.Deep.OwnRows
import Derived.Deep.QuietTactic
import Derived.BigQuiet
import Derived.Test.YtmbejeibcncmmaaGreatJ1
import Derived.Lib.BufferWrite
import Derived.Lib.UnsafeStr
import Derived.Laws.MakeOwn
import Derived.Test.YtmbejeibcncmmaaGreatJ6
import Derived.Test.YtmbejeibcncmmaaGreatJ10
import Derived.Lib.Strings
set_option maxRecDepth 20000
namespace Go.Proofs.YtmbejeibcncmmaaGreat
open Go.RowKit Go.Maps

variable {w w' : World} {F : Nat → Prop} {R : Nat} {s : NS}

theorem ann1_known {p : Nat} {x : UInt64} (h : s.knows x = true) : s.announce1 p x = s := by unfold NS.announce1; rw [if_pos h]
theorem ann1_new {p : Nat} {x : UInt64} (h : s.knows x = false) : s.announce1 p x = { s with T := (Tr.annC s.T p x (if (s.peers p).2 then s.now else s.later 3) (s.peers p).2).2 } := by unfold NS.announce1; rw [if_neg (by rw [h]; decide)]
/-- The time from which a peer may be asked for what it announces. -/
def NS.annAt (s : NS) (p : Nat) : Int := if (s.peers p).2 then s.now else s.later 3
theorem annAt_same {u : NS} {p : Nat} (h1 : u.now = s.now) (h2 : u.peers = s.peers) : u.annAt p = s.annAt p := by unfold NS.annAt NS.later; rw [h1, h2]
theorem later3 (t : Int) (ht : s.later 3 = t) (w : World) (h : NodeAt w F R s) : Calls Tryz.prog 88 #[.pointer (some ⟨R, 0, none⟩), .int .i64 3] w fun e w' => e = .returned (.int .i64 t) ∧ w = w' := later_any 3 (by decide) t ht w h
theorem later10 (t : Int) (ht : s.later 10 = t) (w : World) (h : NodeAt w F R s) : Calls Tryz.prog 88 #[.pointer (some ⟨R, 0, none⟩), .int .i64 10] w fun e w' => e = .returned (.int .i64 t) ∧ w = w' := later_any 10 (by decide) t ht w h
set_option maxRecDepth 20000 in
set_option maxHeartbeats 2000000 in
theorem announce_any (p : Nat) (hp : p < 8) (l : List UInt64) (a : Option Addr) (cap : Nat) (w : World) (h : NodeAt w F R s) (hl : l.length ≤ 1000) (hi : IdsAt w a l) (ho : ∀ bb o, l ≠ [] → a = some ⟨bb, o, none⟩ → ¬ F bb) :
    Calls Tryz.prog 59 #[.pointer (some ⟨R, 0, none⟩), .int .i64 p, .slice a l.length cap] w (TurnsN w F R (.tuple #[]) (s.announce p l)) := by
  obtain ⟨_, ⟨p1, _⟩⟩ := h.peerm p hp
  have n0 := h.nowc.1
  have l0 := h.lt
  have H := Lib.hid h
  have HI := Lib.hid hi
  have HO := Lib.hid ho
  have hp8 : (p : Int) < 8 := by omega
  obtain ⟨t, ht⟩ : ∃ t, s.annAt p = t := ⟨_, rfl⟩
  have HT := Lib.hid ht
  have HTN := Lib.hid ht
  unfold NS.annAt at HTN
  clear h hi ho ht
  go_enter Tryz.func59, Tryz.ntmps59
  cases hpf : (s.peers p).2
  case' true =>
    have hE : s.now = t := by have := HTN.out; rw [hpf] at this; exact this
    rw [hpf] at p1
    rw [hE] at n0
    clear hE HTN
    go_wp2_with fail
  case' false =>
    have HE : Hid (s.later 3 = t) := Lib.hid (by have := HTN.out; rw [hpf] at this; exact this)
    rw [hpf] at p1
    go_wp2_with fail
    with_reducible refine (later3 t HE.out _ H.out).mono ?_
    rintro e w1 ⟨rfl, rfl⟩
    clear HE HTN
    go_wp2_with fail
  all_goals
    go_loopw [25] (fun i wr => ∃ (k : Nat) (F' : Nat → Prop) (u : NS), k ≤ l.length ∧ i = .int .i64 k ∧ Hid (NodeAt wr F' R u) ∧ Hid (Turn F F' w wr) ∧ Hid ((l.drop k).foldl (fun s m => s.announce1 p m) u = s.announce p l) ∧ Hid (u.now = s.now ∧ u.peers = s.peers) ∧ Hid (IdsAt wr a l) ∧ Hid (∀ bb o, l ≠ [] → a = some ⟨bb, o, none⟩ → ¬ F' bb)) (fun i _ => l.length - (intOf i).toNat)
    case atStart => exact ⟨0, F, s, Nat.zero_le _, rfl, H, Lib.hid (Turn.refl _ _), Lib.hid rfl, Lib.hid ⟨rfl, rfl⟩, HI, HO⟩
    case round =>
      obtain ⟨k, F4, u, hk, rfl, H4, HT4, HFO, HS, HM4, HMO4⟩ := hrel
      by_cases hkl : k < l.length
      · obtain ⟨g, o, rfl, hg, hc2⟩ := HM4.out k hkl
        obtain ⟨y, hy⟩ : ∃ y, l[k] = y := ⟨_, rfl⟩
        rw [hy] at hc2
        have HFN : Hid ((l.drop (k + 1)).foldl (fun s m => s.announce1 p m) (u.announce1 p y) = s.announce p l) := Lib.hid (by rw [← HFO.out, List.drop_eq_getElem_cons hkl, List.foldl_cons, hy])
        have l4 := H4.out.lt
        have l5 : g < wr.heap.size := hg
        clear hy p1 n0 hpf
        cases hkn : u.knows y with
        | true =>
          have HKN := Lib.hid hkn
          have HW : Hid (u.announce1 p y = u) := Lib.hid (ann1_known hkn)
          clear hkn
          go_wp2_with fail
          with_reducible refine (knows_any y true HKN.out _ H4.out).mono ?_
          rintro e w5 ⟨rfl, hb5⟩
          have HB5 := Lib.hid hb5
          clear hb5
          go_wp2_with fail
          go_roundw
          case rel =>
            have tt := Turn.of_below (F := F4) HB5.out
            exact ⟨k + 1, F4, u, by omega, by go_num, Lib.hid (H4.out.kept HB5.out), Lib.hid (HT4.out.trans tt), Lib.hid (by have := HFN.out; rw [HW.out] at this; exact this), HS, Lib.hid (idsAt_turn HM4.out tt HMO4.out), HMO4⟩
          case measure => simp [intOf]; omega
        | false =>
          have HKN := Lib.hid hkn
          have HW : Hid (u.announce1 p y = { u with T := (Tr.annC u.T p y t (u.peers p).2).2 }) := Lib.hid (by rw [ann1_new hkn]; rw [← HT.out, ← annAt_same HS.out.1 HS.out.2]; rfl)
          clear hkn
          go_wp2_with fail
          with_reducible refine (knows_any y false HKN.out _ H4.out).mono ?_
          rintro e w5 ⟨rfl, hb5⟩
          have H5 := Lib.hid (H4.out.kept hb5)
          have HB5 := Lib.hid hb5
          obtain ⟨wd, hwd⟩ : ∃ wd, w5.drew = wd := ⟨_, rfl⟩
          have hbd : Below w5.heap.size w5 wd := hwd ▸ (Below.refl _ _).drew
          have H6 := Lib.hid (H5.out.kept hbd)
          obtain ⟨_, ⟨p6, _⟩⟩ := H6.out.peerm p hp
          have l7 := H6.out.lt
          have tt := (Turn.of_below (F := F4) HB5.out).trans (Turn.of_below (F := F4) hbd)
          have HT6 := Lib.hid (HT4.out.trans tt)
          have HM6 := Lib.hid (idsAt_turn HM4.out tt HMO4.out)
          have HWD := Lib.hid hwd
          clear hbd hwd tt hb5
          go_wp2_with fail
          refine region_tail 13 (by kernel_rfl) (by kernel_rfl) HWD.out ?_
          simp only [List.take_succ_cons, List.take_zero, List.drop_succ_cons, List.drop_zero]
          repeat still_step
          refine wpStill_nil ?_
          go_wp2_with fail
          with_reducible refine (n_announce p y t (u.peers p).2 _ H6.out).mono ?_
          rintro e w7 ⟨rfl, F7, h7, t7⟩
          obtain ⟨hm7, hmo7⟩ := out_own HM6.out t7 HMO4.out
          have H7 := Lib.hid h7
          have T7 := Lib.hid (HT6.out.trans t7)
          have HM7 := Lib.hid hm7
          have HMO7 := Lib.hid hmo7
          clear h7 t7 hm7 hmo7
          go_wp2_with fail
          go_roundw
          case rel => exact ⟨k + 1, F7, _, by omega, by go_num, H7, T7, Lib.hid (by have := HFN.out; rw [HW.out] at this; exact this), Lib.hid ⟨HS.out.1, HS.out.2⟩, HM7, HMO7⟩
          case measure => simp [intOf]; omega
      · have he : l.drop k = [] := List.drop_eq_nil_of_le (by omega)
        have HU : Hid (u = s.announce p l) := Lib.hid (by have := HFO.out; rw [he] at this; exact this)
        go_wp2_with fail
        go_end0
        rw [← HU.out]
        exact ⟨rfl, F4, H4.out, HT4.out⟩
end Go.Proofs.YtmbejeibcncmmaaGreat
namespace Go.Proofs.YtmbejeibcncmmaaGreat
open Go.RowKit Go.Maps

variable {w w' : World} {F : Nat → Prop} {R : Nat} {s : NS}

theorem message_bring (p : Nat) (E : ByteArray) (w : World) : Calls Tryz.prog 67 #[.int .i64 p, .agg #[.int .i64 3, .slice none 0 0, .string E]] w fun e w' => ∃ v, e = .returned v ∧ OwnOuts w' w.heap.size v (message p ⟨3, [], E⟩) ∧ Below w.heap.size w w' :=
  message_any p ⟨3, [], E⟩ none 0 w (fun i hi => absurd hi (by simp))
theorem message_miss (p : Nat) (l : List UInt64) (a : Option Addr) (cap : Nat) (w : World) (hi : IdsAt w a l) : Calls Tryz.prog 67 #[.int .i64 p, .agg #[.int .i64 4, .slice a l.length cap, .string ⟨#[]⟩]] w fun e w' => ∃ v, e = .returned v ∧ OwnOuts w' w.heap.size v (message p ⟨4, l, ⟨#[]⟩⟩) ∧ Below w.heap.size w w' :=
  message_any p ⟨4, l, ⟨#[]⟩⟩ a cap w hi
theorem message_fetch (p : Nat) (l : List UInt64) (a : Option Addr) (cap : Nat) (w : World) (hi : IdsAt w a l) : Calls Tryz.prog 67 #[.int .i64 p, .agg #[.int .i64 2, .slice a l.length cap, .string ⟨#[]⟩]] w fun e w' => ∃ v, e = .returned v ∧ OwnOuts w' w.heap.size v (message p ⟨2, l, ⟨#[]⟩⟩) ∧ Below w.heap.size w w' :=
  message_any p ⟨2, l, ⟨#[]⟩⟩ a cap w hi
/-- What goes out for one ID. -/
def NS.fetch1 (s : NS) (p : Nat) (x : UInt64) : List OutD := match Ju.findL s.A x with | none => [] | some d => message p ⟨3, [], str (encB d)⟩
theorem message_len (p : Nat) (m : Ms.MsgD) : (message p m).length ≤ 1 := by unfold message; split <;> simp
theorem fetch1_len (p : Nat) (x : UInt64) : (s.fetch1 p x).length ≤ 1 := by
  unfold NS.fetch1
  split
  · simp
  · exact message_len _ _
theorem flat_len (p : Nat) (l : List UInt64) : (l.flatMap (s.fetch1 p)).length ≤ l.length := by
  induction l with
  | nil => simp
  | cons x r ih =>
    simp only [List.flatMap_cons, List.length_append, List.length_cons]
    have := fetch1_len (s := s) p x
    omega
theorem take_more {α : Type} (l : List α) (k : Nat) (h : k < l.length) : l.take (k + 1) = l.take k ++ [l[k]] := by
  rw [List.take_add_one, List.getElem?_eq_getElem h]
  rfl
/-- Rows of two kinds lie in two blocks. -/
theorem kinds_apart {B C : Nat} {u v : Value} {l : List OutD} {d : List UInt64} (h : OwnOuts w B u l) (k : OwnIds w C v d) : ∀ g, u.ownBlock = some g → v.ownBlock ≠ some g := fun g hu hv => by
  obtain ⟨c1, h1⟩ := own_at h hu
  obtain ⟨c2, h2⟩ := own_at k hv
  rw [h1] at h2
  simp at h2
theorem own_grown {B : Nat} {e : TypeId} {size n : Nat} {v : Value} {xs : List Value} {row : Option Nat} (h : w.ownsRow B e size v n xs) (hg : w.grownBy w' row) (hn : ∀ g, v.ownBlock = some g → row ≠ some g) : w'.ownsRow B e size v n xs :=
  own_same h fun g hgg => hg.block g (h.lt g hgg).2 (fun e => hn g hgg e.symm)
theorem below_grown {n : Nat} {w0 : World} {row : Option Nat} (h : Below n w0 w) (hg : w.grownBy w' row) (hn : ∀ g, row = some g → n ≤ g) (hs : n ≤ w.heap.size) : Below n w0 w' :=
  ⟨hg.os.trans h.os, hg.tape.trans h.tape, hg.output.trans h.output, Nat.le_trans h.size hg.size, fun k hk => (hg.block k (by omega) (fun e => by have := hn k e.symm; omega)).trans (h.block k hk)⟩
set_option maxRecDepth 20000 in
set_option maxHeartbeats 2000000 in
theorem fetch_any (p : Nat) (l : List UInt64) (a : Option Addr) (cap : Nat) (w : World) (h : NodeAt w F R s) (hl : l.length ≤ 1000) (hi : IdsAt w a l) :
    Calls Tryz.prog 61 #[.pointer (some ⟨R, 0, none⟩), .int .i64 p, .slice a l.length cap] w fun e w' => ∃ v, e = .returned v ∧ OwnOuts w' w.heap.size v (s.fetch p l) ∧ Below w.heap.size w w' := by
  have H := Lib.hid h
  have HI := Lib.hid hi
  clear h hi
  go_enter Tryz.func61, Tryz.ntmps61
  go_wp2_with fail
  go_loopw [7, 8, 17] (fun v7 v8 i wr => ∃ (k : Nat) (ou : List OutD) (ot : List UInt64), k ≤ l.length ∧ i = .int .i64 k ∧ Hid (OwnOuts wr w.heap.size v7 ou) ∧ Hid (OwnIds wr w.heap.size v8 ot) ∧ Hid ((l.take k).flatMap (s.fetch1 p) = ou) ∧ Hid (((l.take k).filter fun x => (Ju.findL s.A x).isNone) = ot) ∧ ou.length ≤ k ∧ ot.length ≤ k ∧ Hid (Below w.heap.size w wr)) (fun _ _ i _ => l.length - (intOf i).toNat)
  case atStart => exact ⟨0, [], [], Nat.zero_le _, rfl, Lib.hid (outs_nil _ _), Lib.hid (ownIds_nil _ _), Lib.hid rfl, Lib.hid rfl, Nat.le_refl _, Nat.le_refl _, Lib.hid (Below.refl _ _)⟩
  case round =>
    obtain ⟨k, ou, ot, hk, rfl, HOU, HOT, HEU, HET, hou, hot, HB⟩ := hrel
    obtain ⟨ao, co, rfl, _⟩ := outs_form HOU.out
    obtain ⟨ai, ci, e0, _, hids, _⟩ := owns_idsAt HOT.out
    subst e0
    by_cases hkl : k < l.length
    · have HR := Lib.hid (H.out.kept HB.out)
      obtain ⟨g, o, rfl, hg, hc2⟩ := idsAt_kept HB.out HI.out k hkl
      obtain ⟨y, hy⟩ : ∃ y, l[k] = y := ⟨_, rfl⟩
      rw [hy] at hc2
      have HY := Lib.hid hy
      have l0 := HR.out.lt
      have l1 : g < wr.heap.size := hg
      have HTL : Hid ((l.take (k + 1)).flatMap (s.fetch1 p) = ou ++ s.fetch1 p y) := Lib.hid (by rw [take_more l k hkl, hy, ← HEU.out]; simp)
      have HFL : Hid ((l.take (k + 1)).filter (fun x => (Ju.findL s.A x).isNone) = ot ++ (if (Ju.findL s.A y).isNone then [y] else [])) := Lib.hid (by rw [take_more l k hkl, hy, List.filter_append, HET.out]; simp [List.filter_cons])
      clear hy hids
      go_wp2_with fail
      with_reducible refine (n_deedA y _ HR.out).mono ?_
      rintro e w2 ⟨a2, cp2, rfl, _, _, hi2, hb2⟩
      cases hd : Ju.findL s.A y with
      | none =>
        have HD := Lib.hid hd
        simp only [Option.isSome_none, Bool.false_eq_true, if_false, Option.getD_none]
        obtain ⟨dz, hdz⟩ : ∃ dz, nod = dz := ⟨_, rfl⟩
        rw [hdz]
        obtain ⟨wy, hwy⟩ : ∃ wy, w2.alloc (.cells #[.slice a2 dz.ins.length cp2, .int .i64 dz.outs, .int .i64 dz.weight, .int .i64 dz.fee] 53) = wy := ⟨_, rfl⟩
        have hby : Below wr.heap.size wr wy := kept_trans hb2 (hwy ▸ kept_new _ _)
        have HOU2 : Hid (OwnOuts wy w.heap.size _ _) := Lib.hid (own_same HOU.out fun g hgg => hby.block g (HOU.out.lt g hgg).2)
        have HOT2 := Lib.hid (ownIds_below HOT.out hby)
        have HB2 := Lib.hid (kept_trans HB.out hby)
        clear hd hi2 hb2 hby hdz
        go_wp2_with (at_builtin; refine append_id rfl _ _ rfl y rfl rfl HOT2.out (by omega) HB2.out.size ?_; intro g3 cap3 w3 ho3 hg3 hgw; refine Hid.out ?_)
        refine Lib.hid ?_
        have HOU3 := Lib.hid (own_grown HOU2.out hgw (fun g h1 h2 => kinds_apart HOU2.out HOT2.out g h1 h2))
        have HOT3 := Lib.hid ho3
        have HB3 := Lib.hid (below_grown HB2.out hgw (fun g h1 => (HOT2.out.lt g h1).1) HB2.out.size)
        clear ho3 hg3 hgw
        go_wp2_with fail
        go_roundw
        case rel =>
          refine ⟨k + 1, ou, ot ++ [y], by omega, by go_num, HOU3, Lib.hid ?_, Lib.hid ?_, Lib.hid ?_, by omega, by simp; omega, HB3⟩
          · have := HOT3.out
            simpa using this
          · rw [HTL.out]
            unfold NS.fetch1
            rw [HD.out, List.append_nil]
          · rw [HFL.out, HD.out]
            rfl
        case measure => simp [intOf]; omega
      | some d =>
        have HD := Lib.hid hd
        rw [hd] at hi2
        simp only [Option.isSome_some, if_true, Option.getD_some] at hi2 ⊢
        have HC : Hid (checkD d = 0) := Lib.hid (HR.out.good.A.fine d (Ju.findL_mem hd).1)
        obtain ⟨wy, hwy⟩ : ∃ wy, w2.alloc (.cells #[.slice a2 d.ins.length cp2, .int .i64 d.outs, .int .i64 d.weight, .int .i64 d.fee] 53) = wy := ⟨_, rfl⟩
        have hby0 : Below w2.heap.size w2 wy := hwy ▸ kept_new _ _
        have hby : Below wr.heap.size wr wy := kept_trans hb2 hby0
        obtain ⟨y0, y1, y2, y3⟩ : DeedBox wy w2.heap.size a2 cp2 d := hwy ▸ box_deed w2 a2 cp2 d
        have l2 := (cell_spot y0).2
        have HIY := Lib.hid (insAt_kept hby0 hi2)
        obtain ⟨E, hE⟩ : ∃ E, str (encB d) = E := ⟨_, rfl⟩
        have HE := Lib.hid hE
        have HBY := Lib.hid hby
        clear hd hi2 hb2 hby hby0 hE
        go_wp2_with fail
        with_reducible refine (Ju.encode_is d a2 cp2 _ E HIY.out HC.out HE.out).mono ?_
        rintro e w4 ⟨rfl, hb4⟩
        have HB4 := Lib.hid (kept_trans HBY.out hb4)
        clear hb4
        go_wp2_with fail
        with_reducible refine (message_bring p E _).mono ?_
        rintro e w5 ⟨v5, rfl, ho5, hb5⟩
        have hb := kept_trans HB4.out hb5
        have HOU5 : Hid (OwnOuts w5 w.heap.size _ _) := Lib.hid (own_same HOU.out fun g hgg => hb.block g (HOU.out.lt g hgg).2)
        have HOT5 := Lib.hid (ownIds_below HOT.out hb)
        have HB5 := Lib.hid (kept_trans HB.out hb)
        have HO5 := Lib.hid ho5
        obtain ⟨mm, hmm⟩ : ∃ mm, message p ⟨3, [], E⟩ = mm := ⟨_, rfl⟩
        have hml : mm.length ≤ 1 := hmm ▸ message_len p ⟨3, [], E⟩
        rw [hmm] at HO5
        have HMM := Lib.hid hmm
        clear hmm
        clear hb hb5 ho5
        go_wp2_with (at_builtin; refine append_outs rfl _ _ rfl rfl rfl HOU5.out HO5.out (by omega) HB5.out.size ?_; intro v6 w6 ho6 hg6 hk6; refine Hid.out ?_)
        refine Lib.hid ?_
        have HOT6 := Lib.hid (own_grown HOT5.out hg6 (fun g h1 h2 => kinds_apart HOU5.out HOT5.out g h2 h1))
        have HOU6 := Lib.hid ho6
        have HB6 := Lib.hid (below_grown HB5.out hg6 (fun g h1 => (HOU5.out.lt g h1).1) HB5.out.size)
        clear ho6 hg6 hk6
        go_wp2_with fail
        go_roundw
        case rel =>
          refine ⟨k + 1, ou ++ mm, ot, by omega, by go_num, HOU6, HOT6, Lib.hid ?_, Lib.hid ?_, by rw [List.length_append]; omega, by omega, HB6⟩
          · rw [HTL.out]
            have : s.fetch1 p y = message p ⟨3, [], E⟩ := by
              unfold NS.fetch1
              rw [HD.out]
              simp only
              rw [HE.out]
            rw [this, HMM.out]
          · rw [HFL.out, HD.out]
            simp
        case measure => simp [intOf]; omega
    · have he : l.take k = l := List.take_of_length_le (by omega)
      have HF : Hid (s.fetch p l = ou ++ message p ⟨4, ot, ⟨#[]⟩⟩) := Lib.hid (by
        have h1 := HEU.out
        have h2 := HET.out
        rw [he] at h1 h2
        rw [← h1, ← h2]
        rfl)
      have HI2 := Lib.hid hids
      clear hids he
      go_wp2_with fail
      with_reducible refine (message_miss p ot ai ci _ HI2.out).mono ?_
      rintro e w5 ⟨v5, rfl, ho5, hb5⟩
      have HOU5 : Hid (OwnOuts w5 w.heap.size _ _) := Lib.hid (own_same HOU.out fun g hgg => hb5.block g (HOU.out.lt g hgg).2)
      have HB5 := Lib.hid (kept_trans HB.out hb5)
      have HO5 := Lib.hid ho5
      obtain ⟨mm, hmm⟩ : ∃ mm, message p ⟨4, ot, ⟨#[]⟩⟩ = mm := ⟨_, rfl⟩
      have hml : mm.length ≤ 1 := hmm ▸ message_len p ⟨4, ot, ⟨#[]⟩⟩
      rw [hmm] at HO5 HF
      clear hb5 ho5 hmm
      go_wp2_with (at_builtin; refine append_outs rfl _ _ rfl rfl rfl HOU5.out HO5.out (by omega) HB5.out.size ?_; intro v6 w6 ho6 hg6 hk6; refine Hid.out ?_)
      refine Lib.hid ?_
      have HOU6 := Lib.hid ho6
      have HB6 := Lib.hid (below_grown HB5.out hg6 (fun g h1 => (HOU5.out.lt g h1).1) HB5.out.size)
      clear ho6 hg6 hk6
      go_wp2_with fail
      go_ret
      rw [HF.out]
      exact ⟨v6, rfl, HOU6.out, HB6.out⟩
end Go.Proofs.YtmbejeibcncmmaaGreat
namespace Go.Proofs.YtmbejeibcncmmaaGreat.Ms
open Go.RowKit

theorem info_u64 : (Tryz.prog.info? 22).map (fun i => (i.zero, i.size, i.bytes)) = some (some (.int .u64 0), 1, 8) := by kernel_rfl
theorem make_ids (n : Nat) (hn : n ≤ 1000) (w : World) : (Instr.makeSlice 37 (.int .i64 (n : Int)) (.int .i64 (n : Int))).run Tryz.prog w = .ok (.slice (some ⟨w.heap.size, 0, none⟩) n n) (w.alloc (.cells (madeCells #[.int .u64 0] n) 22)) := by
  obtain ⟨i, hi, hz, hs, hb⟩ := info_parts info_u64
  have := run_make (P := Tryz.prog) w 37 22 i _ Tryz.underlying37 hi hz .i64 .i64 n n (by omega) (Int.le_refl _) (by rw [hb]; omega) (by omega)
  rw [hs, Nat.mul_one] at this
  exact this
/-- The cells of a row of IDs of which the first k are laid. -/
def idCells (f : Nat → UInt64) (k j : Nat) : Value := if j < k then .int .u64 (f j).toNat else .int .u64 0
theorem made_ids (w : World) (f : Nat → UInt64) (n : Nat) : (w.alloc (.cells (madeCells #[.int .u64 0] n) 22)).rowIs w.heap.size 22 n (idCells f 0) := by
  refine ⟨_, heap_alloc_new _ _, size_madeCells _ _, fun i hi => ?_⟩
  unfold idCells madeCells
  simp [hi, Nat.mod_one]
theorem id_step {w : World} {b n k : Nat} {f : Nat → UInt64} (h : w.rowIs b 22 n (idCells f k)) :
    (w.setCell ⟨b, k, none⟩ (.int .u64 (f k).toNat)).rowIs b 22 n (idCells f (k + 1)) := by
  refine (h.set k _).congr fun j hj => ?_
  by_cases e1 : j = k
  · subst e1
    simp [idCells]
  · rw [if_neg e1]
    unfold idCells
    by_cases h3 : j < k
    · rw [if_pos h3, if_pos (by omega)]
    · rw [if_neg h3, if_neg (by omega)]
theorem row_idsAt {w : World} {b n : Nat} {f : Nat → UInt64} (h : w.rowIs b 22 n (idCells f n)) : IdsAt w (some ⟨b, 0, none⟩) ((List.range n).map f) := fun i hi => by
  have hi' : i < n := by simpa using hi
  refine ⟨b, 0, rfl, h.lt, ?_⟩
  have := h.cell (i := i) (by omega)
  simpa [idCells, hi'] using this

/-- IDs and an error in a function's answer. -/
def GaveI (w : World) (l : List UInt64) (r : Int) (e : Ending) (w' : World) : Prop :=
  ∃ (a : Option Addr) (cap : Nat), e = .returned (.tuple #[.slice a l.length cap, .int .i64 r]) ∧ l.length ≤ cap ∧ IdsAt w' a l ∧ Fresh w.heap.size a ∧ Below w.heap.size w w'
theorem gaveI_nil {w w' : World} {r : Int} {e : Ending} (he : e = .returned (.tuple #[.slice none 0 0, .int .i64 r])) (h : Below w.heap.size w w') : GaveI w [] r e w' :=
  ⟨none, 0, he, Nat.le_refl _, idsAt_nil _ _, (fun _ _ _ e => by cases e), h⟩

theorem readIDs_none (s : ByteArray) (w : World) (hs : s.size = 0) : Calls Tryz.prog 81 #[.string s] w (GaveI w [] 3) := by
  have he := empty_yes hs
  go_enter Tryz.func81, Tryz.ntmps81
  go_wp2_with fail
  go_ret2
  exact gaveI_nil rfl (Below.refl _ _)
theorem readIDs_short (s : ByteArray) (w : World) (hp : 0 < s.size) (hl : s.size < 1 + 8 * s[0].toNat) : Calls Tryz.prog 81 #[.string s] w (GaveI w [] 3) := by
  have he := empty_no (s := s) (by omega)
  have hb := s[0].toNat_lt
  have hz : (s.extract 1 s.size).size = s.size - 1 := by rw [ByteArray.size_extract]; omega
  obtain ⟨R, hR⟩ : ∃ R, s.extract 1 s.size = R := ⟨_, rfl⟩
  rw [hR] at hz
  have z0 : (0 : Int) < (s.size : Int) := by omega
  have z1 : (1 : Int) ≤ (s.size : Int) := by omega
  have hlt : (R.size : Int) < (s[0].toNat : Int) * 8 := by omega
  clear hz hl
  go_enter Tryz.func81, Tryz.ntmps81
  go_wp2_with fail
  go_quiet (fail)
  generalize hw2 : World.drewN w nq = w2
  have hb2 : Below w.heap.size w w2 := hw2 ▸ below_drewN (Below.refl _ _) _
  clear hw2
  go_wp2_with fail
  go_ret2
  exact gaveI_nil rfl hb2
theorem readIDs_long (s : ByteArray) (w : World) (hm : s.size ≤ maxLen) (hp : 0 < s.size) (hl : 1 + 8 * s[0].toNat < s.size) : Calls Tryz.prog 81 #[.string s] w (GaveI w [] 4) := by
  unfold maxLen at hm
  have he := empty_no (s := s) (by omega)
  have hb := s[0].toNat_lt
  have hz : (s.extract 1 s.size).size = s.size - 1 := by rw [ByteArray.size_extract]; omega
  obtain ⟨R, hR⟩ : ∃ R, s.extract 1 s.size = R := ⟨_, rfl⟩
  rw [hR] at hz
  have z0 : (0 : Int) < (s.size : Int) := by omega
  have z1 : (1 : Int) ≤ (s.size : Int) := by omega
  have hlt : (s[0].toNat : Int) * 8 < (R.size : Int) := by omega
  clear hz hl
  go_enter Tryz.func81, Tryz.ntmps81
  go_wp2_with fail
  go_quiet (fail)
  generalize hw2 : World.drewN w nq = w2
  have hb2 : Below w.heap.size w w2 := hw2 ▸ below_drewN (Below.refl _ _) _
  clear hw2
  go_wp2_with fail
  go_ret2
  exact gaveI_nil rfl hb2

set_option maxHeartbeats 1000000 in
theorem readIDs_ok (s : ByteArray) (n : Nat) (w : World) (hp : 0 < s.size) (hn : s[0].toNat = n) (hs : s.size = 1 + 8 * n) :
    Calls Tryz.prog 81 #[.string s] w (GaveI w (idsOf n (s.data.toList.drop 1)) 0) := by
  have he := empty_no (s := s) (by omega)
  have hn255 : n ≤ 255 := by have := s[0].toNat_lt; omega
  have hmk := fun wx => make_ids n (by omega) wx
  obtain ⟨l, hl⟩ : ∃ l, s.data.toList.drop 1 = l := ⟨_, rfl⟩
  obtain ⟨R, hR⟩ : ∃ R, s.extract 1 s.size = R := ⟨_, rfl⟩
  have hRl : R.data.toList = l := by rw [← hR, extract_end _ _ _ rfl, hl]
  have hlen : l.length = 8 * n := by rw [← hl, List.length_drop, Array.length_toList]; show s.size - 1 = _; omega
  have hRs : R.size = 8 * n := by rw [← hlen, ← hRl]; simp
  obtain ⟨f, hf⟩ : ∃ f : Nat → UInt64, f = fun i => numU ((l.drop (8 * i)).take 8) := ⟨_, rfl⟩
  have HF := Lib.hid hf
  have HR := Lib.hid hRl
  have HLEN := Lib.hid hlen
  rw [hl]
  have z0 : (0 : Int) < (s.size : Int) := by omega
  have z1 : (1 : Int) ≤ (s.size : Int) := by omega
  have hd1 : decide ((R.size : Int) < (n : Int) * 8) = false := decide_eq_false (by omega)
  have hd2 : decide ((n : Int) * 8 < (R.size : Int)) = false := decide_eq_false (by omega)
  clear hl hf hRl hs hlen
  go_enter Tryz.func81, Tryz.ntmps81
  go_wp2_with fail
  go_quiet (fail)
  generalize hw2 : World.drewN w nq = w2
  have hb2 : Below w.heap.size w w2 := hw2 ▸ below_drewN (Below.refl _ _) _
  have HROW := Lib.hid (made_ids w2 f n)
  clear hw2
  go_wp2_with fail
  go_loopw [5, 30] (fun u i wr => ∃ (k : Nat) (T : ByteArray), k ≤ n ∧ i = .int .i64 k ∧ u = .string T ∧ Hid (T.data.toList = l.drop (8 * k)) ∧ Hid (wr.rowIs w2.heap.size 22 n (idCells f k)) ∧ Below w2.heap.size w2 wr) (fun _ i _ => n - (intOf i).toNat)
  case atStart => exact ⟨0, R, Nat.zero_le _, rfl, rfl, Lib.hid HR.out, HROW, kept_new _ _⟩
  case round =>
    clear HROW hRs
    obtain ⟨k, T, hk, rfl, rfl, HT, HW, hbel⟩ := hrel
    have hTs : T.size = 8 * (n - k) := by
      have e1 : T.data.toList.length = T.size := by simp
      rw [← e1, HT.out, List.length_drop, HLEN.out]
      omega
    by_cases hlt : k < n
    · obtain ⟨x, hx⟩ : ∃ x, f k = x := ⟨_, rfl⟩
      have h8 : 8 ≤ T.size := by omega
      have hTm : T.size ≤ 10000 := by omega
      have HX1 : Hid (numU (T.extract 0 8).data.toList = x) := Lib.hid (by rw [extract_take, HT.out, ← hx, HF.out])
      have HNX : Hid ((T.extract 8 T.size).data.toList = l.drop (8 * (k + 1))) := Lib.hid (by rw [extract_end _ _ _ rfl, HT.out, List.drop_drop]; congr 1)
      have hsz8 : (T.extract 0 8).size ≤ maxLen := by rw [ByteArray.size_extract]; unfold maxLen; omega
      have q0 := HW.out.cell (i := k) (by omega)
      have q1 := HW.out.frozen k
      have z2 : (8 : Int) ≤ (T.size : Int) := by omega
      have z4 : (k : Int) < (n : Int) := by omega
      have HXX := Lib.hid hx
      clear hx hTs
      go_wp2_with fail
      with_reducible refine (decodeID_still _ x _ hsz8 HX1.out).mono ?_
      rintro e w' ⟨rfl, rfl⟩
      go_wp2_with fail
      go_roundw
      case rel =>
        refine ⟨k + 1, _, by omega, by go_num, rfl, Lib.hid HNX.out, Lib.hid ?_, hbel.setCell (by simp) _⟩
        have := id_step HW.out
        rw [HXX.out] at this
        exact this
      case measure => simp [intOf]; omega
    · obtain rfl : k = n := by omega
      have hids : idsOf k l = (List.range k).map f := by rw [HF.out]; rfl
      have hia := row_idsAt HW.out
      rw [← hids] at hia
      have HI := Lib.hid hia
      clear hia hids
      go_wp2_with fail
      go_ret2
      refine ⟨some ⟨w2.heap.size, 0, none⟩, k, by rw [idsOf_length]; rfl, by rw [idsOf_length]; exact Nat.le_refl _, HI.out, fun b o sp e => by cases e; exact hb2.size, kept_trans hb2 hbel⟩

/-- A message and an error in a function's answer. -/
def GaveM (w : World) (m : MsgD) (r : Int) (e : Ending) (w' : World) : Prop :=
  ∃ (a : Option Addr) (cap : Nat), e = .returned (.tuple #[.agg #[.int .i64 m.kind, .slice a m.ids.length cap, .string m.body], .int .i64 r]) ∧ m.ids.length ≤ cap ∧ IdsAt w' a m.ids ∧ Fresh w.heap.size a ∧ Below w.heap.size w w'
theorem gaveM_zero {w w' : World} {r : Int} {e : Ending} (he : e = .returned (.tuple #[.agg #[.int .i64 0, .slice none 0 0, .string ⟨#[]⟩], .int .i64 r])) (h : Below w.heap.size w w') : GaveM w zeroM r e w' :=
  ⟨none, 0, he, Nat.le_refl _, idsAt_nil _ _, (fun _ _ _ e => by cases e), h⟩
/-- The three cells of a block and their marks, in whatever later world. -/
theorem box_marks3 {w wr : World} {u v x : Value} {t : TypeId} (h : Below (w.alloc (.cells #[u, v, x] t)).heap.size (w.alloc (.cells #[u, v, x] t)) wr) :
    wr.frozen? ⟨w.heap.size, 0, none⟩ = false ∧ wr.frozen? ⟨w.heap.size, 1, none⟩ = false ∧ wr.frozen? ⟨w.heap.size, 2, none⟩ = false := by
  refine ⟨?_, ?_, ?_⟩ <;> (rw [h.frozen (by simp)]; simp [go_sem])
end Go.Proofs.YtmbejeibcncmmaaGreat.Ms
namespace Go.Proofs.YtmbejeibcncmmaaGreat.Ms
open Go.RowKit

theorem made_bytes (n : Nat) (hn : n ≤ 1000) : ∃ M : Array Value, M.size = n ∧ ∀ w : World, (Instr.makeSlice 129 (.int .i64 (n : Int)) (.int .i64 (n : Int))).run Tryz.prog w = .ok (.slice (some ⟨w.heap.size, 0, none⟩) n n) (w.alloc (.cells M 5)) := by
  obtain ⟨i, hi, hz, hs, hb⟩ := info_parts info_u8
  refine ⟨madeCells (Value.int .u8 0).cells (n * i.size), by rw [size_madeCells, hs]; simp, fun w => ?_⟩
  exact run_make (P := Tryz.prog) w 129 5 i _ Tryz.underlying129 hi hz .i64 .i64 n n (by omega) (Int.le_refl _) (by rw [hb]; omega) (by omega)
theorem cells_u8 : Tryz.prog.cellsOf 5 = 1 := by kernel_rfl
theorem info_u8_size : (Tryz.prog.info? 5).map (·.size) = some 1 := by kernel_rfl

set_option maxHeartbeats 1000000 in
theorem sliteClone_any (s : ByteArray) (w : World) (hs : s.size ≤ 1000) :
    Calls Tryz.prog 83 #[.string s] w fun e w' => e = .returned (.string s) ∧ Below w.heap.size w w' := by
  by_cases h0 : s.size = 0
  · have he : s = ⟨#[]⟩ := by
      apply ByteArray.ext
      exact Array.eq_empty_of_size_eq_zero h0
    subst he
    go_enter Tryz.func83, Tryz.ntmps83
    go_wp2
    go_ret
    exact ⟨rfl, Below.refl _ _⟩
  · obtain ⟨M, hM, hmk⟩ := made_bytes s.size hs
    have hl : s.data.toList.length = s.size := by simp
    obtain ⟨Y, hY⟩ : ∃ Y, (M.toList.take 0 ++ Lib.byteCells s.data.toList ++ M.toList.drop (0 + s.size)).toArray = Y := ⟨_, rfl⟩
    have hcp := Lib.run_copy_row_string (P := Tryz.prog) (w.alloc (.cells M 5)) 129 9 3 5 w.heap.size 0 s.size s.size s M 5 Tryz.underlying129 info_u8_size (heap_alloc_new w _) (Nat.le_refl _) (by omega)
    rw [hY] at hcp
    have hYl : Y.toList = Lib.byteCells s.data.toList := by
      rw [← hY, List.toList_toArray, List.take_zero, List.nil_append, List.drop_of_length_le (by rw [Array.length_toList]; omega), List.append_nil]
    have hYs : Y.size = s.size := by rw [← Array.length_toList, hYl, Lib.byteCells_length, hl]
    have hrow : ((w.alloc (.cells M 5)).setRow w.heap.size Y).heap[w.heap.size]? = some (.cells Y 5 (0, 0)) := setRow_heap _ _ M _ 5 (0, 0) (heap_alloc_new w _)
    have hus := Lib.run_unsafeString_row (P := Tryz.prog) ((w.alloc (.cells M 5)).setRow w.heap.size Y) 175 3 9 5 Tryz.underlying175 cells_u8 w.heap.size Y.size (by unfold World.shape?; rw [hrow]) s.data.toList
      (fun e => h0 (by rw [← hl, e]; rfl)) (by omega) (by omega)
      (fun j x hx => Lib.cells_of_row hrow Y.size j _ (by rw [List.take_of_length_le (by rw [Array.length_toList]; exact Nat.le_refl _), hYl]; simp [Lib.byteCells, hx]))
    rw [hl] at hus
    have hbel : Below w.heap.size w ((w.alloc (.cells M 5)).setRow w.heap.size Y) := (kept_new w _).trans ⟨rfl, rfl, rfl, by simp, fun k hk => setRow_other _ _ _ _ (by omega)⟩
    have hs0 : ((s.size : Int) == 0) = false := beq_eq_false_iff_ne.2 (by omega)
    clear hY hl
    go_enter Tryz.func83, Tryz.ntmps83
    go_wp2
    go_ret
    exact ⟨rfl, Lib.below_freeze hbel (p := ⟨w.heap.size, 0, none⟩) (Nat.le_refl _) _⟩
theorem clone_any (s : ByteArray) (w : World) (hs : s.size ≤ 1000) :
    Calls Tryz.prog 52 #[.string s] w fun e w' => e = .returned (.string s) ∧ Below w.heap.size w w' := by
  go_enter Tryz.func52, Tryz.ntmps52
  go_wp2_with fail
  with_reducible refine (sliteClone_any s _ hs).mono ?_
  rintro e w1 ⟨rfl, hb1⟩
  go_wp2_with fail
  go_ret
  exact ⟨rfl, hb1⟩
end Go.Proofs.YtmbejeibcncmmaaGreat.Ms
namespace Go.Proofs.YtmbejeibcncmmaaGreat.Ms
open Go.RowKit

theorem kind_at (s : ByteArray) (hp : 0 < s.size) : kindOf s.data.toList = (s[0].toNat : Int) := by unfold kindOf; rw [getD_at s 0 hp]
theorem len_eq (s : ByteArray) : s.data.toList.length = s.size := by simp
theorem kind3_bytes (k n : Int) : (k == n) = decide (k = n) := by
  by_cases h : k = n <;> simp [h]

theorem mread_none (s : ByteArray) (w : World) (hs : s.size = 0) : Calls Tryz.prog 50 #[.string s] w (GaveM w zeroM 3) := by
  have he := empty_yes hs
  go_enter Tryz.func50, Tryz.ntmps50
  go_wp2_with fail
  exact bodyPost_ret (v := .tuple #[.agg #[.int .i64 0, .slice none 0 0, .string ⟨#[]⟩], .int .i64 3]) (by simp [results, Tryz.results50, go_sem]) rfl (gaveM_zero rfl (kept_new _ _))
/-- The world behind a region that only reads: the box of the result stands. -/
theorem box_drewN {w w2 : World} {n : Nat} {u v x : Value} {t : TypeId} (h : (w.alloc (.cells #[u, v, x] t)).drewN n = w2) : Below (w.alloc (.cells #[u, v, x] t)).heap.size (w.alloc (.cells #[u, v, x] t)) w2 := h ▸ below_drewN (Below.refl _ _) _
theorem below_three {w w2 : World} (h : Below w.heap.size w w2) (u v x : Value) : Below w.heap.size w (((w2.setCell ⟨w.heap.size, 0, none⟩ u).setCell ⟨w.heap.size, 1, none⟩ v).setCell ⟨w.heap.size, 2, none⟩ x) :=
  ((h.setCell (by simp) _).setCell (by simp) _).setCell (by simp) _
theorem mread_kind (s : ByteArray) (w : World) (hp : 0 < s.size) (hk : within (s[0].toNat : Int) 1 4 = false) : Calls Tryz.prog 50 #[.string s] w (GaveM w zeroM 1) := by
  have he := empty_no (s := s) (by omega)
  have hb := s[0].toNat_lt
  have HK := Lib.hid hk
  have z0 : (0 : Int) < (s.size : Int) := by omega
  have z1 : (1 : Int) ≤ (s.size : Int) := by omega
  clear hk
  go_enter Tryz.func50, Tryz.ntmps50
  go_wp2_with fail
  go_quiet (fail)
  generalize hw2 : World.drewN (w.alloc (.cells #[.int .i64 0, .slice none 0 0, .string ⟨#[]⟩] 43)) nq = w2
  have hb2 := box_drewN hw2
  obtain ⟨c0, c1, c2, hws⟩ := box_three hb2
  obtain ⟨m0, m1, m2⟩ := box_marks3 hb2
  clear hw2
  go_wp2_with fail
  with_reducible refine (known_no _ _ HK.out).mono ?_
  rintro e w' ⟨rfl, rfl⟩
  go_wp2_with fail
  exact bodyPost_ret (v := .tuple #[.agg #[.int .i64 0, .slice none 0 0, .string ⟨#[]⟩], .int .i64 1]) (by simp [results, Tryz.results50, go_sem, c0, c1, c2]) rfl (gaveM_zero rfl (below_three (kept_trans (kept_new _ _) hb2) _ _ _))
theorem mread_bring (s : ByteArray) (w : World) (hp : 0 < s.size) (hk : (s[0].toNat : Int) = 3) : Calls Tryz.prog 50 #[.string s] w (GaveM w ⟨3, [], s.extract 1 s.size⟩ 0) := by
  have he := empty_no (s := s) (by omega)
  have z0 : (0 : Int) < (s.size : Int) := by omega
  have z1 : (1 : Int) ≤ (s.size : Int) := by omega
  obtain ⟨R, hR⟩ : ∃ R, s.extract 1 s.size = R := ⟨_, rfl⟩
  rw [hR]
  go_enter Tryz.func50, Tryz.ntmps50
  go_wp2_with fail
  go_quiet (fail)
  generalize hw2 : World.drewN (w.alloc (.cells #[.int .i64 0, .slice none 0 0, .string ⟨#[]⟩] 43)) nq = w2
  have hb2 := box_drewN hw2
  obtain ⟨c0, c1, c2, hws⟩ := box_three hb2
  obtain ⟨m0, m1, m2⟩ := box_marks3 hb2
  clear hw2
  go_wp2_with fail
  with_reducible refine (known_yes _ _ (by decide)).mono ?_
  rintro e w' ⟨rfl, rfl⟩
  go_wp2_with fail
  refine bodyPost_ret (v := .tuple #[.agg #[.int .i64 3, .slice none 0 0, .string R], .int .i64 0]) (by simp [results, Tryz.results50, go_sem, c0, c1, c2]) rfl ?_
  exact ⟨none, 0, rfl, Nat.le_refl _, idsAt_nil _ _, (fun _ _ _ e => by cases e), below_three (kept_trans (kept_new _ _) hb2) _ _ _⟩
/-- Another kind: whatever readIDs answers. -/
theorem mread_ids (s R : ByteArray) (l : List UInt64) (r : Int) (w : World) (hp : 0 < s.size) (hw : within (s[0].toNat : Int) 1 4 = true) (hk : (s[0].toNat : Int) ≠ 3) (hR : s.extract 1 s.size = R)
    (hids : ∀ wx, Calls Tryz.prog 81 #[.string R] wx (GaveI wx l r)) : Calls Tryz.prog 50 #[.string s] w (GaveM w ⟨(s[0].toNat : Int), l, ⟨#[]⟩⟩ r) := by
  have he := empty_no (s := s) (by omega)
  have hb := s[0].toNat_lt
  have z0 : (0 : Int) < (s.size : Int) := by omega
  have z1 : (1 : Int) ≤ (s.size : Int) := by omega
  have hk3 : ((s[0].toNat : Int) == 3) = false := beq_eq_false_iff_ne.2 hk
  have HW := Lib.hid hw
  clear hw hk
  go_enter Tryz.func50, Tryz.ntmps50
  go_wp2_with fail
  go_quiet (fail)
  generalize hw2 : World.drewN (w.alloc (.cells #[.int .i64 0, .slice none 0 0, .string ⟨#[]⟩] 43)) nq = w2
  have hb2 := box_drewN hw2
  clear hw2
  go_wp2_with fail
  with_reducible refine (known_yes _ _ HW.out).mono ?_
  rintro e w' ⟨rfl, rfl⟩
  go_wp2_with fail
  with_reducible refine (hids _).mono ?_
  rintro e w3 ⟨a, cap, rfl, hcap, hia, hfr, hb3⟩
  have hb23 := kept_trans hb2 hb3
  obtain ⟨c0, c1, c2, hws⟩ := box_three hb23
  obtain ⟨m0, m1, m2⟩ := box_marks3 hb23
  have hfr' : Fresh (w.heap.size + 1) a := fun b o sp e => Nat.le_trans (by have := hb2.size; simpa using this) (hfr b o sp e)
  go_wp2_with fail
  refine bodyPost_ret (v := .tuple #[.agg #[.int .i64 (s[0].toNat : Int), .slice a l.length cap, .string ⟨#[]⟩], .int .i64 r]) (by simp [results, Tryz.results50, go_sem, c0, c1, c2]) rfl ?_
  exact ⟨a, cap, rfl, hcap, idsAt_set (idsAt_set (idsAt_set hia hfr' (by simp) _) hfr' (by simp) _) hfr' (by simp) _, fun b o sp e => by have := hfr' b o sp e; omega, below_three (kept_trans (kept_new _ _) hb23) _ _ _⟩

/-- read where the bytes are not well formed: its error, with whatever message. -/
theorem mread_bad (s : ByteArray) (r : Int) (w : World) (hs : s.size ≤ maxLen) (h : formM s.data.toList = r) (hr : r ≠ 0) : Calls Tryz.prog 50 #[.string s] w fun e w' => ∃ m, GaveM w m r e w' := by
  have hlen := len_eq s
  by_cases h0 : s.size = 0
  · have : r = 3 := by rw [← h]; unfold formM; rw [hlen, if_pos h0]
    subst this
    exact (mread_none s w h0).mono fun _ _ h => ⟨_, h⟩
  · have hp : 0 < s.size := by omega
    have hk := kind_at s hp
    unfold formM at h
    rw [hlen, if_neg h0, hk] at h
    by_cases hw : within (s[0].toNat : Int) 1 4 = false
    · rw [if_pos hw] at h
      subst h
      exact (mread_kind s w hp hw).mono fun _ _ h => ⟨_, h⟩
    · rw [if_neg hw] at h
      rw [Bool.not_eq_false] at hw
      by_cases h3 : (s[0].toNat : Int) = 3
      · rw [if_pos h3] at h
        exact absurd h.symm hr
      · rw [if_neg h3] at h
        obtain ⟨R, hR⟩ : ∃ R, s.extract 1 s.size = R := ⟨_, rfl⟩
        have hRs : R.size = s.size - 1 := by rw [← hR, ByteArray.size_extract]; omega
        have hRm : R.size ≤ maxLen := by omega
        by_cases h2 : s.size < 2
        · rw [if_pos h2] at h
          subst h
          exact (mread_ids s R [] 3 w hp hw h3 hR (fun wx => readIDs_none R wx (by omega))).mono fun _ _ h => ⟨_, h⟩
        · rw [if_neg h2] at h
          have hRp : 0 < R.size := by omega
          have hR0 : R[0] = s[1] := by subst hR; simp [ByteArray.getElem_extract]
          rw [getD_at s 1 (by omega)] at h
          by_cases h4 : s.size < 2 + 8 * s[1].toNat
          · rw [if_pos h4] at h
            subst h
            exact (mread_ids s R [] 3 w hp hw h3 hR (fun wx => readIDs_short R wx hRp (by rw [hR0]; omega))).mono fun _ _ h => ⟨_, h⟩
          · rw [if_neg h4] at h
            by_cases h5 : 2 + 8 * s[1].toNat < s.size
            · rw [if_pos h5] at h
              subst h
              exact (mread_ids s R [] 4 w hp hw h3 hR (fun wx => readIDs_long R wx hRm hRp (by rw [hR0]; omega))).mono fun _ _ h => ⟨_, h⟩
            · rw [if_neg h5] at h
              exact absurd h.symm hr
theorem mread_good (s : ByteArray) (w : World) (h : formM s.data.toList = 0) : Calls Tryz.prog 50 #[.string s] w (GaveM w (readM s.data.toList) 0) := by
  obtain ⟨h0, h1, h2⟩ := formM_zero h
  have hlen := len_eq s
  have hp : 0 < s.size := by omega
  have hk := kind_at s hp
  rw [hk] at h1 h2
  by_cases h3 : (s[0].toNat : Int) = 3
  · have e : readM s.data.toList = ⟨3, [], s.extract 1 s.size⟩ := by
      unfold readM
      rw [hk, if_pos h3]
      congr 1
      apply ByteArray.ext
      apply Array.toList_inj.1
      rw [extract_end _ _ _ rfl]
    rw [e]
    exact mread_bring s w hp h3
  · have hl := h2 h3
    rw [hlen] at hl
    have hp1 : 1 < s.size := by omega
    rw [getD_at s 1 hp1] at hl
    obtain ⟨R, hR⟩ : ∃ R, s.extract 1 s.size = R := ⟨_, rfl⟩
    have hRs : R.size = s.size - 1 := by rw [← hR, ByteArray.size_extract]; omega
    have hRp : 0 < R.size := by omega
    have hR0 : R[0] = s[1] := by subst hR; simp [ByteArray.getElem_extract]
    have e : readM s.data.toList = ⟨(s[0].toNat : Int), idsOf s[1].toNat (R.data.toList.drop 1), ⟨#[]⟩⟩ := by
      unfold readM
      rw [hk, if_neg h3, getD_at s 1 hp1, ← hR, extract_end _ _ _ rfl, List.drop_drop]
    rw [e]
    exact mread_ids s R _ 0 w hp h1 h3 hR (fun wx => readIDs_ok R s[1].toNat wx hRp (by rw [hR0]) (by omega))
end Go.Proofs.YtmbejeibcncmmaaGreat.Ms
namespace Go.Proofs.YtmbejeibcncmmaaGreat.Ms
open Go.RowKit

/-- IDs stand where a cell of a younger block is written. -/
theorem idsAt_young {w0 w : World} {a : Option Addr} {l : List UInt64} {p : Addr} (h0 : IdsAt w0 a l) (h : IdsAt w a l) (hp : w0.heap.size ≤ p.block) (v : Value) : IdsAt (w.setCell p v) a l := fun i hi => by
  obtain ⟨b, o, e, hb, c0⟩ := h i hi
  obtain ⟨b', o', e', hb', _⟩ := h0 i hi
  have hbb : b = b' := by rw [e] at e'; cases e'; rfl
  have hn : b ≠ p.block := by omega
  have hs : ∀ oo, (w.setCell p v).cell? ⟨b, oo, none⟩ = w.cell? ⟨b, oo, none⟩ := fun oo => World.cell?_of_block (w := w) (a := ⟨b, oo, none⟩) (Below.heap_setCell w p v b hn)
  exact ⟨b, o, e, by simpa using hb, by rw [hs]; exact c0⟩

theorem mdecode_form (s : ByteArray) (r : Int) (w : World) (hs : s.size ≤ maxLen) (h : formM s.data.toList = r) (hr : r ≠ 0) : Calls Tryz.prog 23 #[.string s] w (GaveM w zeroM r) := by
  have HR := Lib.hid h
  have hrb : (r == 0) = false := by simpa using hr
  have hrn : (r != 0) = true := by simpa using hr
  clear h
  go_enter Tryz.func23, Tryz.ntmps23
  go_wp2_with fail
  with_reducible refine (mread_bad s r _ hs HR.out hr).mono ?_
  rintro e w1 ⟨M, a, cap, rfl, hcap, hi1, hfr, hb1⟩
  obtain ⟨c0, c1, c2, hws⟩ := box_three hb1
  obtain ⟨m0, m1, m2⟩ := box_marks3 hb1
  go_wp2_with fail
  refine bodyPost_ret (v := .tuple #[.agg #[.int .i64 0, .slice none 0 0, .string ⟨#[]⟩], .int .i64 r]) (by simp [results, Tryz.results23, go_sem, c0, c1, c2, hws]) rfl ?_
  exact gaveM_zero rfl (kept_alloc (below_three (kept_trans (kept_new _ _) hb1) _ _ _) _)
theorem mdecode_check (s : ByteArray) (r : Int) (w : World) (h : formM s.data.toList = 0) (hc : checkM (readM s.data.toList) = r) (hr : r ≠ 0) : Calls Tryz.prog 23 #[.string s] w (GaveM w zeroM r) := by
  obtain ⟨M, hM⟩ : ∃ M, readM s.data.toList = M := ⟨_, rfl⟩
  have hrd := fun wx => mread_good s wx h
  rw [hM] at hrd hc
  have HC := Lib.hid hc
  have hrn : (r != 0) = true := by simpa using hr
  clear h hc hM
  go_enter Tryz.func23, Tryz.ntmps23
  go_wp2_with fail
  with_reducible refine (hrd _).mono ?_
  rintro e w1 ⟨a, cap, rfl, hcap, hi1, hfr, hb1⟩
  have hk1 := kept_new w1 (msgBox a cap M)
  go_wp2_with fail
  with_reducible refine (mcheck_is M _ _ _ r (idsAt_kept hk1 hi1) HC.out).mono ?_
  rintro e w2 ⟨rfl, hb2⟩
  have hb12 := kept_trans hb1 (kept_trans hk1 hb2)
  obtain ⟨c0, c1, c2, hws⟩ := box_three hb12
  obtain ⟨m0, m1, m2⟩ := box_marks3 hb12
  go_wp2_with fail
  refine bodyPost_ret (v := .tuple #[.agg #[.int .i64 0, .slice none 0 0, .string ⟨#[]⟩], .int .i64 r]) (by simp [results, Tryz.results23, go_sem, c0, c1, c2]) rfl ?_
  exact gaveM_zero rfl (below_three (kept_trans (kept_new _ _) hb12) _ _ _)

theorem check_body {m : MsgD} (h : checkM m = 0) : m.body.size ≤ 100 := by
  rcases (checkM_ok h).2 with ⟨_, _, _, h4⟩ | ⟨_, h5, _⟩ <;> omega
theorem mdecode_ok (s : ByteArray) (w : World) (h : formM s.data.toList = 0) (hc : checkM (readM s.data.toList) = 0) : Calls Tryz.prog 23 #[.string s] w (GaveM w (readM s.data.toList) 0) := by
  obtain ⟨M, hM⟩ : ∃ M, readM s.data.toList = M := ⟨_, rfl⟩
  have hrd := fun wx => mread_good s wx h
  rw [hM] at hrd hc ⊢
  have hbody := check_body hc
  have HC := Lib.hid hc
  clear h hc hM
  go_enter Tryz.func23, Tryz.ntmps23
  go_wp2_with fail
  with_reducible refine (hrd _).mono ?_
  rintro e w1 ⟨a, cap, rfl, hcap, hi1, hfr, hb1⟩
  have hk1 := kept_new w1 (msgBox a cap M)
  go_wp2_with fail
  with_reducible refine (mcheck_is M _ _ _ 0 (idsAt_kept hk1 hi1) HC.out).mono ?_
  rintro e w2 ⟨rfl, hb2⟩
  obtain ⟨d0, d1, d2, hws1⟩ := box_three hb2
  go_wp2_with fail
  with_reducible refine (clone_any M.body _ (by omega)).mono ?_
  rintro e w3 ⟨rfl, hb3⟩
  have hb13 := kept_trans (kept_trans hk1 hb2) hb3
  have hb03 := kept_trans hb1 hb13
  clear d0 d1 d2 hws1
  obtain ⟨d0, d1, d2, hws1⟩ := box_three (kept_trans hb2 hb3)
  obtain ⟨n0, n1, n2⟩ := box_marks3 (kept_trans hb2 hb3)
  obtain ⟨c0, c1, c2, hws⟩ := box_three hb03
  obtain ⟨m0, m1, m2⟩ := box_marks3 hb03
  have hi3 := idsAt_kept hb13 hi1
  have hw01 : w.heap.size < w1.heap.size := by have := hb1.size; simp at this; omega
  have hfr' : Fresh (w.heap.size + 1) a := by simpa using hfr
  go_wp2_with fail
  refine bodyPost_ret (v := .tuple #[.agg #[.int .i64 M.kind, .slice a M.ids.length cap, .string M.body], .int .i64 0]) (by simp [results, Tryz.results23, go_sem, c0, c1, c2]) rfl ?_
  refine ⟨a, cap, rfl, hcap, ?_, fun b o sp e => by have := hfr' b o sp e; omega, below_three ((kept_trans (kept_new _ _) hb03).setCell (by simp; omega) _) _ _ _⟩
  exact idsAt_set (idsAt_set (idsAt_set (idsAt_young hi1 hi3 (Nat.le_refl _) _) hfr' (by simp) _) hfr' (by simp) _) hfr' (by simp) _

/-- msg.Decode, whatever the bytes. -/
theorem mdecode_all (s : ByteArray) (r : Int) (X : MsgD) (w : World) (hs : s.size ≤ maxLen) (h : errM s.data.toList = r) (hX : ansM s.data.toList = X) : Calls Tryz.prog 23 #[.string s] w (GaveM w X r) := by
  unfold ansM at hX
  by_cases h0 : errM s.data.toList = 0
  · rw [if_pos h0] at hX
    rw [h0] at h
    subst h hX
    obtain ⟨h1, h2⟩ := errM_zero h0
    exact mdecode_ok s w h1 h2
  · rw [if_neg h0] at hX
    subst hX
    have hr : r ≠ 0 := by rw [← h]; exact h0
    unfold errM at h
    split at h
    · exact mdecode_form s r w hs h hr
    · rename_i h1
      exact mdecode_check s r w (by simpa using h1) h hr
theorem ansM_len (l : List UInt8) : (ansM l).ids.length ≤ maxLen := by
  unfold ansM
  split
  · rename_i h
    rcases (checkM_ok (errM_zero h).2).2 with ⟨_, h5, _⟩ | ⟨_, _, _, h7, _⟩
    · rw [h5]; exact Nat.zero_le _
    · unfold maxLen; omega
  · decide
end Go.Proofs.YtmbejeibcncmmaaGreat.Ms
namespace Go.Proofs.YtmbejeibcncmmaaGreat.De
open Go.RowKit

theorem checkSize_any (s : ByteArray) (w : World) (hs : s.size ≤ maxLen) :
    Calls Tryz.prog 54 #[.string s] w fun e w' => e = .returned (.int .i64 (formD s.data.toList)) ∧ w = w' := by
  unfold maxLen at hs
  have hlen : s.data.toList.length = s.size := by simp
  by_cases h0 : s.size = 0
  · have HF : Hid (formD s.data.toList = 3) := Lib.hid (by unfold formD; rw [hlen, if_pos h0])
    have he := empty_yes h0
    clear hlen
    go_enter Tryz.func54, Tryz.ntmps54
    go_wp2
    go_ret
    exact ⟨ret_i64 HF.out.symm, rfl⟩
  · have he := empty_no h0
    have g0 := getD_at s 0 (by omega)
    have hp : 0 < s.size := by omega
    by_cases h1 : s[0] = 68
    · by_cases h2 : s.size < 2
      · have HF : Hid (formD s.data.toList = 3) := Lib.hid (by unfold formD; rw [hlen, if_neg h0, g0, if_neg (by simp [h1]), if_pos h2])
        clear hlen g0
        go_enter Tryz.func54, Tryz.ntmps54
        go_wp2
        go_ret
        exact ⟨ret_i64 HF.out.symm, rfl⟩
      · have g1 := getD_at s 1 (by omega)
        have hp1 : 1 < s.size := by omega
        have hb := s[1].toNat_lt
        have base : formD s.data.toList = if s.size < 7 + 9 * s[1].toNat then 3 else if 7 + 9 * s[1].toNat < s.size then 4 else 0 := by
          unfold formD; rw [hlen, if_neg h0, g0, if_neg (by simp [h1]), if_neg h2, g1]
        by_cases h3 : s.size < 7 + 9 * s[1].toNat
        · have HF := Lib.hid (base.trans (if_pos h3))
          clear hlen g0 g1 base
          go_enter Tryz.func54, Tryz.ntmps54
          go_wp2_with fail
          with_reducible refine (size_any _ _ (by omega)).mono ?_
          rintro e w' ⟨rfl, rfl⟩
          go_wp2_with fail
          go_ret
          exact ⟨ret_i64 HF.out.symm, rfl⟩
        · by_cases h4 : 7 + 9 * s[1].toNat < s.size
          · have HF := Lib.hid (base.trans ((if_neg h3).trans (if_pos h4)))
            clear hlen g0 g1 base
            go_enter Tryz.func54, Tryz.ntmps54
            go_wp2_with fail
            with_reducible refine (size_any _ _ (by omega)).mono ?_
            rintro e w' ⟨rfl, rfl⟩
            go_wp2_with fail
            go_ret
            exact ⟨ret_i64 HF.out.symm, rfl⟩
          · have HF := Lib.hid (base.trans ((if_neg h3).trans (if_neg h4)))
            clear hlen g0 g1 base
            go_enter Tryz.func54, Tryz.ntmps54
            go_wp2_with fail
            with_reducible refine (size_any _ _ (by omega)).mono ?_
            rintro e w' ⟨rfl, rfl⟩
            go_wp2_with fail
            go_ret
            exact ⟨ret_i64 HF.out.symm, rfl⟩
    · have hb : ((s[0].toNat : Int) != 68) = true := by
        rw [bne_iff_ne]
        intro e
        exact h1 (UInt8.toNat_inj.1 (by simp; omega))
      have HF : Hid (formD s.data.toList = 4) := Lib.hid (by unfold formD; rw [hlen, if_neg h0, g0, if_pos h1])
      clear hlen g0
      go_enter Tryz.func54, Tryz.ntmps54
      go_wp2
      go_ret
      exact ⟨ret_i64 HF.out.symm, rfl⟩
end Go.Proofs.YtmbejeibcncmmaaGreat.De
namespace Go.Proofs.YtmbejeibcncmmaaGreat.De
open Go.RowKit

theorem info_in : (Tryz.prog.info? 64).map (fun i => (i.zero, i.size, i.bytes)) = some (some (.agg #[.int .u64 0, .int .i64 0]), 2, 16) := by kernel_rfl
theorem make_ins (n : Nat) (hn : n ≤ 1000) (w : World) : (Instr.makeSlice 51 (.int .i64 (n : Int)) (.int .i64 (n : Int))).run Tryz.prog w = .ok (.slice (some ⟨w.heap.size, 0, none⟩) n n) (w.alloc (.cells (madeCells #[.int .u64 0, .int .i64 0] (n * 2)) 64)) := by
  obtain ⟨i, hi, hz, hs, hb⟩ := info_parts info_in
  have := run_make (P := Tryz.prog) w 51 64 i _ Tryz.underlying51 hi hz .i64 .i64 n n (by omega) (Int.le_refl _) (by rw [hb]; omega) (by omega)
  rw [hs] at this
  exact this
/-- The cells of a row of Ins of which the first k are laid. -/
def inCells (f : Nat → InD) (k j : Nat) : Value :=
  if j / 2 < k then (if j % 2 = 0 then .int .u64 (f (j / 2)).1.toNat else .int .i64 (f (j / 2)).2) else (if j % 2 = 0 then .int .u64 0 else .int .i64 0)
theorem made_ins (w : World) (f : Nat → InD) (n : Nat) : (w.alloc (.cells (madeCells #[.int .u64 0, .int .i64 0] (n * 2)) 64)).rowIs w.heap.size 64 (n * 2) (inCells f 0) := by
  refine ⟨_, heap_alloc_new _ _, size_madeCells _ _, fun i hi => ?_⟩
  unfold inCells madeCells
  rcases Nat.mod_two_eq_zero_or_one i with h | h <;> simp [hi, h]
theorem row_step {w : World} {b n k : Nat} {f : Nat → InD} (h : w.rowIs b 64 (n * 2) (inCells f k)) :
    ((w.setCell ⟨b, k * 2, none⟩ (.int .u64 (f k).1.toNat)).setCell ⟨b, k * 2 + 1, none⟩ (.int .i64 (f k).2)).rowIs b 64 (n * 2) (inCells f (k + 1)) := by
  refine ((h.set (k * 2) _).set (k * 2 + 1) _).congr fun j hj => ?_
  by_cases e1 : j = k * 2 + 1
  · subst e1
    have a1 : (k * 2 + 1) / 2 = k := by omega
    have a2 : (k * 2 + 1) % 2 = 1 := by omega
    simp [inCells, a1, a2]
  · by_cases e2 : j = k * 2
    · subst e2
      have a1 : (k * 2) / 2 = k := by omega
      have a2 : (k * 2) % 2 = 0 := by omega
      simp [inCells, a1, a2]
    · rw [if_neg e1, if_neg e2]
      unfold inCells
      by_cases h3 : j / 2 < k
      · have h4 : j / 2 < k + 1 := by omega
        simp [h3, h4]
      · have h4 : ¬ j / 2 < k + 1 := by omega
        simp [h3, h4]
theorem row_insAt {w : World} {b n : Nat} {f : Nat → InD} (hok : ∀ i, (Lit.int .i64 (f i).2).wf = true) (h : w.rowIs b 64 (n * 2) (inCells f n)) : InsAt w (some ⟨b, 0, none⟩) ((List.range n).map f) := fun i hi => by
  have hi' : i < n := by simpa using hi
  refine ⟨b, 0, rfl, h.lt, ?_, ?_, ?_⟩
  · have := h.cell (i := i * 2) (by omega)
    have a1 : (i * 2) / 2 = i := by omega
    simpa [inCells, a1, hi'] using this
  · have := h.cell (i := i * 2 + 1) (by omega)
    have a1 : (i * 2 + 1) / 2 = i := by omega
    simpa [inCells, a1, hi'] using this
  · simpa using hok i

theorem num2_le (l : List UInt8) (h : l.length ≤ 2) : ((numU l).toNat : Int) ≤ 65535 := by
  have h1 := numN_lt l
  have h2 : 256 ^ l.length ≤ 256 ^ 2 := Nat.pow_le_pow_right (by decide) h
  rw [numU_short l (by omega)]
  omega
theorem insAt_set {w : World} {a : Option Addr} {l : List InD} {n : Nat} {p : Addr} (h : InsAt w a l) (hf : Fresh n a) (hp : p.block < n) (v : Value) : InsAt (w.setCell p v) a l := fun i hi => by
  obtain ⟨b, o, e, hb, c0, c1, c2⟩ := h i hi
  have hn : b ≠ p.block := by have := hf b o none e; omega
  have hs : ∀ oo, (w.setCell p v).cell? ⟨b, oo, none⟩ = w.cell? ⟨b, oo, none⟩ := fun oo => World.cell?_of_block (w := w) (a := ⟨b, oo, none⟩) (Below.heap_setCell w p v b hn)
  exact ⟨b, o, e, by simpa using hb, by rw [hs]; exact c0, by rw [hs]; exact c1, c2⟩
/-- A deed in a function's answer. -/
def GaveDeed (w : World) (d : DeedD) (e : Ending) (w' : World) : Prop :=
  ∃ (a : Option Addr) (cap : Nat), e = .returned (.agg #[.slice a d.ins.length cap, .int .i64 d.outs, .int .i64 d.weight, .int .i64 d.fee]) ∧ d.ins.length ≤ cap ∧ InsAt w' a d.ins ∧ Fresh w.heap.size a ∧ Below w.heap.size w w'

theorem inOf_ok (r : List UInt8) : (Lit.int .i64 (inOf r).2).wf = true := by
  have := (r.getD 8 0).toNat_lt
  exact WalkArith.wf_i64 (by show _ ≤ ((r.getD 8 0).toNat : Int) ∧ ((r.getD 8 0).toNat : Int) ≤ _; omega)

set_option maxHeartbeats 1000000 in
theorem read_any (s : ByteArray) (n : Nat) (w : World) (hp : 1 < s.size) (hn : s[1].toNat = n) (hs : s.size = 7 + 9 * n) :
    Calls Tryz.prog 55 #[.string s] w (GaveDeed w (readD s.data.toList)) := by
  have hn255 : n ≤ 255 := by have := s[1].toNat_lt; omega
  have hmk := fun wx => make_ins n (by omega) wx
  have HSZ := Lib.hid hs
  have h2 : 2 ≤ s.size := by omega
  have HN : Hid ((s.data.toList.getD 1 0).toNat = n) := Lib.hid (by rw [getD_at s 1 hp]; exact hn)
  obtain ⟨l, hl⟩ : ∃ l, s.data.toList = l := ⟨_, rfl⟩
  have HL := Lib.hid hl
  obtain ⟨f, hf⟩ : ∃ f : Nat → InD, f = fun i => inOf ((l.drop 2).drop (9 * i)) := ⟨_, rfl⟩
  have HF := Lib.hid hf
  have hw0 : (w.alloc (.cells #[.slice none 0 0, .int .i64 0, .int .i64 0, .int .i64 0] 53)).heap.size = w.heap.size + 1 := by simp
  have hrow := made_ins (w.alloc (.cells #[.slice none 0 0, .int .i64 0, .int .i64 0, .int .i64 0] 53)) f n
  have hbox := World.rowIs_alloc w #[.slice none 0 0, .int .i64 0, .int .i64 0, .int .i64 0] 53 (fun i => (#[Value.slice none 0 0, .int .i64 0, .int .i64 0, .int .i64 0][i]?).getD undef) (fun i hi => by
    have : i < 4 := hi
    match i, this with
    | 0, _ => rfl
    | 1, _ => rfl
    | 2, _ => rfl
    | 3, _ => rfl)
  rw [hw0] at hrow
  have HROW := Lib.hid hrow
  have HBOX := Lib.hid hbox
  clear hl hf hrow hbox hw0
  go_enter Tryz.func55, Tryz.ntmps55
  go_wp2_with fail
  go_loopw [4, 14] (fun u i wr => ∃ (k : Nat) (R : ByteArray), k ≤ n ∧ i = .int .i64 k ∧ u = .string R ∧ Hid (R.data.toList = l.drop (2 + 9 * k)) ∧ Hid (wr.rowIs (w.heap.size + 1) 64 (n * 2) (inCells f k)) ∧
    Hid (wr.rowIs w.heap.size 53 4 (fun i => (#[Value.slice none 0 0, .int .i64 0, .int .i64 0, .int .i64 0][i]?).getD undef)) ∧ Below w.heap.size w wr) (fun _ i _ => n - (intOf i).toNat)
  case atStart =>
    refine ⟨0, _, Nat.zero_le _, rfl, rfl, Lib.hid ?_, HROW, Lib.hid (HBOX.out.alloc _), kept_alloc (kept_new _ _) _⟩
    rw [extract_end _ _ _ HSZ.out.symm, HL.out]
  case round =>
    clear HROW HBOX
    obtain ⟨k, R, hk, rfl, rfl, HR, HW, HB, hbel⟩ := hrel
    have hRs : R.size = 5 + 9 * (n - k) := by
      have e1 : R.data.toList.length = R.size := by simp
      have e2 : s.data.toList.length = s.size := by simp
      rw [← e1, HR.out, List.length_drop, ← HL.out, e2, HSZ.out]
      omega
    by_cases hlt : k < n
    · obtain ⟨x, hx⟩ : ∃ x, f k = x := ⟨_, rfl⟩
      have h8 : 8 < R.size := by omega
      have h9 : 9 ≤ R.size := by omega
      have hRm : R.size ≤ 10000 := by omega
      have hxx : x = inOf R.data.toList := by rw [← hx, HF.out, HR.out]; simp only [List.drop_drop]
      have HX1 : Hid (numU (R.extract 0 8).data.toList = x.1) := Lib.hid (by rw [hxx, extract_take]; rfl)
      have hx2 : (R[8].toNat : Int) = x.2 := by rw [hxx]; show _ = ((R.data.toList.getD 8 0).toNat : Int); rw [getD_at R 8 h8]
      have hx3 : 0 ≤ x.2 ∧ x.2 ≤ 255 := by have := R[8].toNat_lt; omega
      obtain ⟨hx4, hx5⟩ := hx3
      have HNX : Hid ((R.extract 9 R.size).data.toList = l.drop (2 + 9 * (k + 1))) := Lib.hid (by rw [extract_end _ _ _ rfl, HR.out, List.drop_drop]; congr 1)
      have hsz8 : (R.extract 0 8).size ≤ maxLen := by rw [ByteArray.size_extract]; unfold maxLen; omega
      obtain ⟨w2, hw2⟩ : ∃ w2, wr.drew = w2 := ⟨_, rfl⟩
      have hrow2 : w2.rowIs (w.heap.size + 1) 64 (n * 2) (inCells f k) := hw2 ▸ HW.out.drew
      have hbox2 : w2.rowIs w.heap.size 53 4 (fun i => (#[Value.slice none 0 0, .int .i64 0, .int .i64 0, .int .i64 0][i]?).getD undef) := hw2 ▸ HB.out.drew
      have hbel2 : Below w.heap.size w w2 := hw2 ▸ hbel.drew
      have q0 := hrow2.cell (i := k * 2) (by omega)
      have q1 := hrow2.cell (i := k * 2 + 1) (by omega)
      have q2 := hrow2.frozen (k * 2)
      have q3 := hrow2.frozen (k * 2 + 1)
      have HW2 := Lib.hid hw2
      have H1 := Lib.hid hrow2
      have H2 := Lib.hid hbox2
      have HXX := Lib.hid hx
      have z1 : (8 : Int) ≤ (R.size : Int) := by omega
      have z2 : (8 : Int) < (R.size : Int) := by omega
      have z3 : (9 : Int) ≤ (R.size : Int) := by omega
      have z4 : (k : Int) < (n : Int) := by omega
      clear hw2 hrow2 hbox2 hxx hx hRs
      go_wp2_with fail
      refine region_tail 10 (by kernel_rfl) (by kernel_rfl) HW2.out ?_
      simp only [List.take_succ_cons, List.take_zero, List.drop_succ_cons, List.drop_zero]
      repeat still_step
      still_call (decodeID_still _ x.1 w2 hsz8 HX1.out)
      repeat still_step
      refine wpStill_nil ?_
      go_wp2_with fail
      go_roundw
      case rel =>
        refine ⟨k + 1, _, by omega, by go_num, rfl, Lib.hid HNX.out, Lib.hid ?_, Lib.hid ((H2.out.setOther (by simp) _).setOther (by simp) _), (hbel2.setCell (by simp) _).setCell (by simp) _⟩
        have := row_step H1.out
        rw [HXX.out] at this
        exact this
      case measure => simp [intOf]; omega
    · obtain rfl : k = n := by omega
      have h0 : 0 < R.size := by omega
      have hRm : R.size = 5 := by omega
      obtain ⟨p, hp1⟩ : ∃ p, numU (R.extract 1 3).data.toList = p := ⟨_, rfl⟩
      obtain ⟨q, hq1⟩ : ∃ q, numU (R.extract 3 5).data.toList = q := ⟨_, rfl⟩
      have e1 : (R.extract 1 3).data.toList = (R.data.toList.drop 1).take 2 := extract_mid R 1 3
      have e2 : (R.extract 3 5).data.toList = (R.data.toList.drop 3).take 2 := extract_mid R 3 5
      have hpb : (p.toNat : Int) ≤ 65535 := by rw [← hp1]; exact num2_le _ (by rw [e1, List.length_take]; omega)
      have hqb : (q.toNat : Int) ≤ 65535 := by rw [← hq1]; exact num2_le _ (by rw [e2, List.length_take]; omega)
      have hs1 : (R.extract 1 3).size ≤ maxLen := by rw [ByteArray.size_extract]; unfold maxLen; omega
      have hs2 : (R.extract 3 5).size ≤ maxLen := by rw [ByteArray.size_extract]; unfold maxLen; omega
      obtain ⟨D, hD⟩ : ∃ D, readD s.data.toList = D := ⟨_, rfl⟩
      have hl : s.data.toList = l := HL.out
      have hD1 : D.ins = (List.range k).map f := by
        rw [← hD]
        show insOf (s.data.toList.getD 1 0).toNat (s.data.toList.drop 2) = _
        rw [HN.out, hl, HF.out]
        rfl
      have hD2 : D.outs = (R[0].toNat : Int) := by
        rw [← hD]
        show (((s.data.toList.drop (2 + 9 * (s.data.toList.getD 1 0).toNat)).getD 0 0).toNat : Int) = _
        rw [HN.out, hl, ← HR.out, getD_at R 0 h0]
      have hD3 : D.weight = (p.toNat : Int) := by
        rw [← hD, ← hp1, e1]
        show ((numU (((s.data.toList.drop (2 + 9 * (s.data.toList.getD 1 0).toNat)).drop 1).take 2)).toNat : Int) = _
        rw [HN.out, hl, ← HR.out]
      have hD4 : D.fee = (q.toNat : Int) := by
        rw [← hD, ← hq1, e2]
        show ((numU (((s.data.toList.drop (2 + 9 * (s.data.toList.getD 1 0).toNat)).drop 3).take 2)).toNat : Int) = _
        rw [HN.out, hl, ← HR.out]
      have HDD := Lib.hid hD
      have hb0 : (R[0].toNat : Int) ≤ 255 := by have := R[0].toNat_lt; omega
      obtain ⟨w2, hw2⟩ : ∃ w2, wr.drew = w2 := ⟨_, rfl⟩
      have hrow2 : w2.rowIs (w.heap.size + 1) 64 (k * 2) (inCells f k) := hw2 ▸ HW.out.drew
      have hbox2 : w2.rowIs w.heap.size 53 4 (fun i => (#[Value.slice none 0 0, .int .i64 0, .int .i64 0, .int .i64 0][i]?).getD undef) := hw2 ▸ HB.out.drew
      have hbel2 : Below w.heap.size w w2 := hw2 ▸ hbel.drew
      have q0 := hbox2.cell (i := 0) (by omega)
      have q1 := hbox2.cell (i := 1) (by omega)
      have q2 := hbox2.cell (i := 2) (by omega)
      have q3 := hbox2.cell (i := 3) (by omega)
      have r0 := hbox2.frozen 0
      have r1 := hbox2.frozen 1
      have r2 := hbox2.frozen 2
      have r3 := hbox2.frozen 3
      simp at q0 q1 q2 q3
      have HW2 := Lib.hid hw2
      have H1 := Lib.hid hrow2
      have HDS := Lib.hid (And.intro hD1 (And.intro hD2 (And.intro hD3 hD4)))
      have HP := Lib.hid hp1
      have HQ := Lib.hid hq1
      have z0 : (0 : Int) < (R.size : Int) := by omega
      have z1 : (3 : Int) ≤ (R.size : Int) := by omega
      have z2 : (5 : Int) ≤ (R.size : Int) := by omega
      clear hw2 hrow2 hbox2 hRs hRm hD1 hD2 hD3 hD4 hD hl e1 e2 hp1 hq1
      go_wp2_with fail
      refine region_tail 13 (by kernel_rfl) (by kernel_rfl) HW2.out ?_
      simp only [List.take_succ_cons, List.take_zero, List.drop_succ_cons, List.drop_zero]
      repeat still_step
      still_call (number_still _ p w2 hs1 HP.out)
      repeat still_step
      still_call (number_still _ q w2 hs2 HQ.out)
      repeat still_step
      refine wpStill_nil ?_
      go_wp2_with fail
      obtain ⟨d1, d2, d3, d4⟩ := HDS.out
      refine bodyPost_ret (v := .agg #[.slice (some ⟨w.heap.size + 1, 0, none⟩) k k, .int .i64 (R[0].toNat : Int), .int .i64 (p.toNat : Int), .int .i64 (q.toNat : Int)]) (by simp [results, Tryz.results55, go_sem, q0, q1, q2, q3]) rfl ?_
      rw [HDD.out]
      have hlen : D.ins.length = k := by rw [d1]; simp
      refine ⟨some ⟨w.heap.size + 1, 0, none⟩, k, by rw [hlen, d2, d3, d4], by omega, ?_, fun b o sp e => by cases e; omega, ?_⟩
      · rw [d1]
        exact row_insAt (fun i => by rw [HF.out]; exact inOf_ok _) ((((H1.out.setOther (by simp) _).setOther (by simp) _).setOther (by simp) _).setOther (by simp) _)
      · exact (((hbel2.setCell (by simp) _).setCell (by simp) _).setCell (by simp) _).setCell (by simp) _
end Go.Proofs.YtmbejeibcncmmaaGreat.De
