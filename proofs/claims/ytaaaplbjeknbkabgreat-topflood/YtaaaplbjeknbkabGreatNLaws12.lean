/-
  A deed of a law's own beside a node; NodeWicked: the walk.
-/
import Derived.Test.YtaaaplbjeknbkabGreatJ33
import Derived.Test.YtaaaplbjeknbkabGreatJ2
set_option maxRecDepth 20000
namespace Go.Proofs.YtaaaplbjeknbkabGreat
open Go.RowKit Go.Maps

variable {w w' w0 : World} {F F' : Nat → Prop} {R b cap : Nat} {s u : NS} {a : Option Addr} {d : DeedD}

/-- A deed in a block of the law's own, which the node does not own. -/
structure LawDeed (w : World) (F : Nat → Prop) (b : Nat) (a : Option Addr) (cap : Nat) (d : DeedD) : Prop where
  box : DeedBox w b a cap d
  ins : InsAt w a d.ins
  notb : ¬ F b
  nota : ∀ bb o, d.ins ≠ [] → a = some ⟨bb, o, none⟩ → ¬ F bb
theorem LawDeed.lt (h : LawDeed w F b a cap d) : b < w.heap.size := (cell_spot h.box.1).2
theorem LawDeed.kept (h : LawDeed w F b a cap d) (hb : Below w.heap.size w w') : LawDeed w' F b a cap d := ⟨h.box.kept hb, insAt_kept hb h.ins, h.notb, h.nota⟩
theorem LawDeed.turned (h : LawDeed w F b a cap d) (ht : Turn F F' w w') : LawDeed w' F' b a cap d :=
  ⟨h.box.turn ht h.notb, insAt_turn h.ins ht h.nota, fun hf => by
    rcases ht.own b hf with h1 | h1
    · exact h.notb h1
    · have := h.lt
      omega, fun bb o h0 h1 hf => by
    rcases ht.own bb hf with h2 | h2
    · exact h.nota bb o h0 h1 h2
    · obtain ⟨b', o', e, hlt, _⟩ := h.ins 0 (List.length_pos_iff.2 h0)
      rw [h1] at e
      cases e
      omega⟩
/-- A deed without Ins is laid in a new block. -/
theorem lawDeed_new (hF : ∀ k, F k → k < w.heap.size) (o wt f : Int) : LawDeed (w.alloc (.cells #[.slice none 0 0, .int .i64 o, .int .i64 wt, .int .i64 f] 35)) F w.heap.size none 0 ⟨[], o, wt, f⟩ :=
  ⟨box_deed w none 0 ⟨[], o, wt, f⟩, fun i hi => absurd hi (by simp), fun h => by have := hF _ h; omega, fun bb o h0 => absurd rfl h0⟩
theorem inOk_small (x : UInt64) {k : Int} (h : 0 ≤ k ∧ k ≤ 15) : inOk (x, k) := by
  unfold inOk
  simp [Lit.wf, IntKind.min, IntKind.max, IntKind.signed, IntKind.bits]
  omega
/-- A deed with one In is laid in two new blocks. -/
theorem lawDeed_one (hF : ∀ k, F k → k < w.heap.size) (x : UInt64) (k : Int) (hk : 0 ≤ k ∧ k ≤ 15) (o wt f : Int) : LawDeed ((w.alloc (.cells #[.int .u64 x.toNat, .int .i64 k] 50)).alloc (.cells #[.slice (some ⟨w.heap.size, 0, none⟩) 1 1, .int .i64 o, .int .i64 wt, .int .i64 f] 35)) F (w.heap.size + 1) (some ⟨w.heap.size, 0, none⟩) 1 ⟨[(x, k)], o, wt, f⟩ := by
  have hs : (w.alloc (.cells #[.int .u64 x.toNat, .int .i64 k] 50)).heap.size = w.heap.size + 1 := by simp
  refine ⟨?_, ?_, fun h => by have := hF _ h; omega, fun bb oo _ e h => ?_⟩
  · have := box_deed (w.alloc (.cells #[.int .u64 x.toNat, .int .i64 k] 50)) (some ⟨w.heap.size, 0, none⟩) 1 ⟨[(x, k)], o, wt, f⟩
    rw [hs] at this
    exact this
  · refine insAt_kept (kept_new _ _) fun i hi => ?_
    obtain rfl : i = 0 := by simpa using hi
    exact ⟨w.heap.size, 0, rfl, by simp, by simp [go_sem], by simp [go_sem], inOk_small x hk⟩
  · cases e
    have := hF _ h
    omega
theorem judge_one {L : List DeedD} {d : DeedD} {x : UInt64} {k : Int} {p : DeedD} (hd : checkD d = 0) (hi : d.ins = [(x, k)]) (hf : Ju.findL L x = some p) : Ju.judgeL L d = (if p.outs ≤ k ∨ (Ju.insL L).contains (x, k) = true then 3 else Ju.payI d.fee d.weight, [], 0) := by
  have hm : Ju.missL (Ju.findL L) d.ins = [] := by
    rw [hi]
    unfold Ju.missL
    rw [List.foldl_cons, List.foldl_nil]
    simp [hf]
  unfold Ju.judgeL Ju.stateL Ju.stateM
  rw [if_neg (not_not_intro hd), hm, if_neg (by simp)]
  have hw : Ju.wickedL (Ju.findL L) (Ju.spentL L) d.ins = true ↔ p.outs ≤ k ∨ (Ju.insL L).contains (x, k) = true := by
    rw [hi]
    unfold Ju.wickedL Ju.badIn
    simp [hf]
  by_cases h : p.outs ≤ k ∨ (Ju.insL L).contains (x, k) = true
  · rw [if_pos (hw.2 h), if_pos h]
  · rw [if_neg (fun h2 => h (hw.1 h2)), if_neg h]
/-- The law's two deeds. -/
def rootD (k : Int) : DeedD := ⟨[], 1, 10, 1 + k⟩
def badD (x : UInt64) : DeedD := ⟨[(x, 1)], 1, 10, 5⟩
theorem root_check {k : Int} (h : 0 ≤ k ∧ k < 900) : checkD (rootD k) = 0 := by
  unfold checkD rootD
  have h1 : restB 1 10 (1 + k) = true := by
    unfold restB within
    simp
    omega
  simp [h1, atsB, dupB]
theorem bad_check (x : UInt64) : checkD (badD x) = 0 := by
  unfold checkD badD
  simp [atsB, dupB, within, restB]
/-- What the node is, whatever was announced and brought again. -/
structure WSt (r : DeedD) (x : UInt64) (n : Nat) (u : NS) : Prop where
  A : u.A = [r]
  P : u.P = []
  T : u.T = []
  W : u.W.has x = true
  now : u.now = n
theorem wicked_start (salt : UInt64) {k : Int} (hk : 0 ≤ k ∧ k < 900) {y x : UInt64} (hy : Ju.idD (rootD k) = y) (hx : Ju.idD (badD y) = x) (hne : y ≠ x) : (((NS.new salt).setPeer 0 (true, true)).bring 0 (rootD k)).A = [rootD k] ∧ WSt (rootD k) x 0 ((((NS.new salt).setPeer 0 (true, true)).bring 0 (rootD k)).bring 0 (badD y)) ∧ ((((NS.new salt).setPeer 0 (true, true)).bring 0 (rootD k)).bring 0 (badD y)).peers = ((NS.new salt).setPeer 0 (true, true)).peers ∧ (((NS.new salt).setPeer 0 (true, true)).bring 0 (rootD k)).peers = ((NS.new salt).setPeer 0 (true, true)).peers := by
  have hj : Ju.judgeL [] (rootD k) = (0, [], 0) := by
    unfold Ju.judgeL Ju.stateL Ju.stateM
    rw [if_neg (not_not_intro (root_check hk))]
    have hp : Ju.payI (rootD k).fee (rootD k).weight = 0 := by
      unfold Ju.payI rootD
      rw [if_neg]
      show ¬ 10 * (1 + k) < 10
      omega
    rw [hp]
    rfl
  have ha : Ju.acceptL [] (rootD k) = (0, [] ++ [rootD k]) := by
    unfold Ju.judgeL at hj
    rw [if_neg (not_not_intro (root_check hk))] at hj
    unfold Ju.acceptL
    rw [if_neg (not_not_intro (root_check hk)), (Prod.mk.inj hj).1]
    rfl
  have h1 := bring_plain (s := (NS.new salt).setPeer 0 (true, true)) (p := 0) (d := rootD k) rfl rfl rfl hj ha
  obtain ⟨s2, hs2⟩ : ∃ s2, ((NS.new salt).setPeer 0 (true, true)).bring 0 (rootD k) = s2 := ⟨_, rfl⟩
  rw [hs2] at h1 ⊢
  have e0 : (Tr.answerC ([] : List Tr.TEnt) ((0 : Nat) : Int) (Ju.idD (rootD k))).2 = [] := by unfold Tr.answerC; rw [if_pos ⟨by decide, by decide⟩]; rfl
  have hA : s2.A = [rootD k] := by rw [h1]; rfl
  have hP : s2.P = [] := by rw [h1]; rfl
  have hT : s2.T = [] := by
    rw [h1]
    show Tr.forgetL (Tr.answerC ([] : List Tr.TEnt) ((0 : Nat) : Int) (Ju.idD (rootD k))).2 (Ju.idD (rootD k)) = []
    rw [e0]
    rfl
  have hW : s2.W = Ri.RingS.none 50 := by rw [h1]; rfl
  have hN : s2.now = 0 := by rw [h1]; rfl
  have hpe : s2.peers = ((NS.new salt).setPeer 0 (true, true)).peers := by rw [h1]
  refine ⟨hA, ?_⟩
  have hf : Ju.findL [rootD k] y = some (rootD k) := by
    unfold Ju.findL
    simp [hy]
  have hfx : Ju.findL [rootD k] x = none := by
    unfold Ju.findL
    simp [hy, hne]
  have hjb : Ju.judgeL [rootD k] (badD y) = (3, [], 0) := by
    rw [judge_one (bad_check y) rfl hf, if_pos (.inl (by show (1 : Int) ≤ 1; omega))]
  have e1 : (Tr.answerC ([] : List Tr.TEnt) ((0 : Nat) : Int) x).2 = [] := by unfold Tr.answerC; rw [if_pos ⟨by decide, by decide⟩]; rfl
  have ht : ({ s2 with T := (Tr.answerC s2.T ((0 : Nat) : Int) (Ju.idD (badD y))).2 } : NS) = s2 := by
    rw [hT, hx, e1, ← hT]
  have hb : s2.bring 0 (badD y) = ({ s2 with W := s2.W.put x } : NS).settle x := by
    rw [bring_new ht (by rw [hx, hA, hfx]; rfl) (by rw [hW]; rfl), hA, hjb, if_neg (by simp), hx, examine_wicked (by rw [hA, hjb]), follow_nil]
    rw [hA]
  rw [hb]
  refine ⟨⟨hA, ?_, ?_, ?_, hN⟩, hpe, hpe⟩
  · show Ho.removeL s2.P x = []
    rw [hP]
    rfl
  · show Tr.forgetL s2.T x = []
    rw [hT]
    rfl
  · show (s2.W.put x).has x = true
    exact Ri.has_iff.2 (.inl (Ri.put_mem _ _))
variable {r : DeedD} {x : UInt64} {n : Nat}
theorem WSt.join (h : WSt r x n u) (p : Int) (f : Bool) : WSt r x n (u.join p f).1 := by
  unfold NS.join
  split
  · exact h
  · split
    · exact h
    · exact ⟨h.A, h.P, h.T, h.W, h.now⟩
theorem WSt.ann (h : WSt r x n u) {p : Nat} (ht : u.thereE p = 0) : u.send p (bytesM ⟨1, [x], ⟨#[]⟩⟩) = (u, [], 0) := by
  rw [send_ann (bytes_ann x) ht]
  have : u.announce p [x] = u := ann1_known (by unfold NS.knows; rw [h.W]; simp)
  rw [this]
theorem WSt.pass (h : WSt r x n u) (hn : n < 1099511627776) : u.pass 1 = ({ u with now := u.now + 1 }, [], 0) ∧ WSt r x (n + 1) ({ u with now := u.now + 1 } : NS) :=
  ⟨pass_none h.T (by rw [h.now]; omega), ⟨h.A, h.P, h.T, h.W, by show u.now + 1 = _; rw [h.now]; omega⟩⟩
theorem WSt.bring (h : WSt r x n u) {p : Nat} (hp : p < 8) {d : DeedD} (hd : checkD d = 0) (hx : Ju.idD d = x) (ht : u.thereE p = 0) : u.send p (bringB d) = (u, [], 0) := by
  rw [send_brought hd ht, bring_known (by rw [hx, h.W]; simp), h.T]
  have e1 : (Tr.answerC ([] : List Tr.TEnt) (p : Int) (Ju.idD d)).2 = [] := by unfold Tr.answerC; rw [if_pos ⟨by omega, by omega⟩]; rfl
  rw [e1, ← h.T]
theorem id_root {k : Int} (hk : 0 ≤ k ∧ k < 900) (y : UInt64) (hy : Ju.idD (rootD k) = y) (w : World) : Calls Tryz.prog 38 #[.agg #[.slice none 0 0, .int .i64 1, .int .i64 10, .int .i64 (1 + k)]] w fun e w' => e = .returned (.tuple #[.int .u64 y.toNat, .int .i64 0]) ∧ Below w.heap.size w w' := by
  rw [← hy]
  exact Ju.id_ok (rootD k) none 0 w (fun i hi => absurd hi (by simp [rootD])) (root_check hk)
theorem bring_root {k : Int} (hk : 0 ≤ k ∧ k < 900) (B : ByteArray) (hB : bringB (rootD k) = B) (w : World) : Calls Tryz.prog 45 #[.agg #[.slice none 0 0, .int .i64 1, .int .i64 10, .int .i64 (1 + k)]] w fun e w' => e = .returned (.string B) ∧ Below w.heap.size w w' :=
  bringB_any (rootD k) (root_check hk) none 0 B hB w (fun i hi => absurd hi (by simp [rootD]))
theorem id_bad (y x : UInt64) (a : Option Addr) (hx : Ju.idD (badD y) = x) (w : World) (hi : InsAt w a [(y, 1)]) : Calls Tryz.prog 38 #[.agg #[.slice a 1 1, .int .i64 1, .int .i64 10, .int .i64 5]] w fun e w' => e = .returned (.tuple #[.int .u64 x.toNat, .int .i64 0]) ∧ Below w.heap.size w w' := by
  rw [← hx]
  exact Ju.id_ok (badD y) a 1 w hi (bad_check y)
theorem bring_bad (y : UInt64) (a : Option Addr) (B : ByteArray) (hB : bringB (badD y) = B) (w : World) (hi : InsAt w a [(y, 1)]) : Calls Tryz.prog 45 #[.agg #[.slice a 1 1, .int .i64 1, .int .i64 10, .int .i64 5]] w fun e w' => e = .returned (.string B) ∧ Below w.heap.size w w' :=
  bringB_any (badD y) (bad_check y) a 1 B hB w hi
end Go.Proofs.YtaaaplbjeknbkabGreat
