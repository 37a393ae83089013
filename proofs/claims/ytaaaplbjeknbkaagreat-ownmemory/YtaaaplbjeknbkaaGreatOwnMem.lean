/-
  A law's stores into a slice that an answer gave.
-/
import Derived.Test.YtaaaplbjeknbkaaGreatSDec
import Derived.Test.YtaaaplbjeknbkaaGreatSCopy
import Derived.Test.YtaaaplbjeknbkaaGreatJ4
import Derived.Test.YtaaaplbjeknbkaaGreatJ5
import Derived.Test.YtaaaplbjeknbkaaGreatJ31
set_option maxRecDepth 20000
namespace Go.Proofs.YtaaaplbjeknbkaaGreat
open Go.RowKit

variable {w w' wS wr : World} {a : Option Addr} {g o m n c B : Nat}

/-- m cells behind a slice's address may be written; since wS only its block turned. -/
structure Writes (wS wr : World) (xa : Option Addr) (m : Nat) : Prop where
  turn : Turn (fun k => ∃ o sp, xa = some ⟨k, o, sp⟩) (fun k => ∃ o sp, xa = some ⟨k, o, sp⟩) wS wr
  cells : ∀ i, i < m → ∃ g o, xa = some ⟨g, o, none⟩ ∧ (wr.cell? ⟨g, o + i, none⟩).isSome = true ∧ wr.frozen? ⟨g, o + i, none⟩ = false
theorem Writes.set (h : Writes wS wr (some ⟨g, o, none⟩) m) (i : Nat) (v : Value) : Writes wS (wr.setCell ⟨g, o + i, none⟩ v) (some ⟨g, o, none⟩) m := by
  refine ⟨h.turn.trans (Turn.set wr ⟨g, o + i, none⟩ v ⟨o, none, rfl⟩), fun j hj => ?_⟩
  obtain ⟨g', o', e, hc, f⟩ := h.cells j hj
  cases e
  refine ⟨g, o, rfl, ?_, by rw [World.frozen?_setCell]; exact f⟩
  by_cases e : (⟨g, o + i, none⟩ : Addr) = ⟨g, o + j, none⟩
  · rw [e]
    obtain ⟨u, hu⟩ := Option.isSome_iff_exists.1 hc
    rw [World.cell?_setCell_same _ _ _ hu]
    rfl
  · rw [World.cell?_setCell_other _ _ _ _ e]
    exact hc
theorem Writes.cell (h : Writes wS wr a m) {i : Nat} (hi : i < m) : ∃ g o u, a = some ⟨g, o, none⟩ ∧ wr.cell? ⟨g, o + i, none⟩ = some u ∧ wr.frozen? ⟨g, o + i, none⟩ = false := by
  obtain ⟨g, o, e, hc, f⟩ := h.cells i hi
  obtain ⟨u, hu⟩ := Option.isSome_iff_exists.1 hc
  exact ⟨g, o, u, e, hu, f⟩
theorem turn_none (w : World) (F : Nat → Prop) : Turn F F w w := ⟨rfl, rfl, rfl, Nat.le_refl _, fun _ _ _ => rfl, fun _ h => .inl h⟩
theorem writes_ids {l : List UInt64} (h : OwnIds w B (.slice a n c) l) : Writes w w a l.length := by
  refine ⟨turn_none _ _, fun i hi => ?_⟩
  rcases h.2 with ⟨hv, hn⟩ | ⟨g, cap, cur, hv, hB, hg, hc, _, _, _⟩
  · omega
  · simp only [Value.slice.injEq] at hv
    obtain ⟨rfl, _, _⟩ := hv
    have a0 := h.cells (g := g) rfl i (idV l[i]) (by rw [List.getElem?_map, List.getElem?_eq_getElem hi]; rfl)
    have f0 : (⟨g, 0, none⟩ : Addr).add i = ⟨g, 0 + i, none⟩ := by unfold Addr.add; split <;> simp_all
    rw [f0] at a0
    exact ⟨g, 0, rfl, by rw [a0]; rfl, frozen_of_row w g (0 + i) _ _ hg⟩
theorem writes_ins {l : List InD} (h : InsAt w a l) (hm : So.De.Melts w a) : Writes w w a (l.length * 2) := by
  refine ⟨turn_none _ _, fun j hj => ?_⟩
  obtain ⟨b, o, rfl, _, c0, c1, _⟩ := h (j / 2) (by omega)
  refine ⟨b, o, rfl, ?_, (hm b o none rfl).2 _⟩
  rcases Nat.mod_two_eq_zero_or_one j with e | e
  · have : j = j / 2 * 2 := by omega
    rw [this, c0]
    rfl
  · have : o + j = o + j / 2 * 2 + 1 := by omega
    rw [this, c1]
    rfl
/-- What lies in another block is as it was. -/
theorem Writes.far (h : Writes wS wr a m) {p : Addr} {u : Value} (hc : wS.cell? p = some u) (hn : ∀ o sp, a ≠ some ⟨p.block, o, sp⟩) : wr.cell? p = some u :=
  (World.cell?_of_block (a := p) (h.turn.block _ (cell_spot hc).2 (fun ⟨o, sp, e⟩ => hn o sp e))).trans hc
theorem Writes.ids {x : Option Addr} {l : List UInt64} (h : Writes wS wr a m) (hi : IdsAt wS x l) (hn : ∀ b o o' sp, x = some ⟨b, o, none⟩ → a ≠ some ⟨b, o', sp⟩) : IdsAt wr x l := fun i hil => by
  obtain ⟨b, o, e, hb, c⟩ := hi i hil
  exact ⟨b, o, e, Nat.lt_of_lt_of_le hb h.turn.size, h.far c (fun o' sp => hn b o o' sp e)⟩
theorem Writes.ins {x : Option Addr} {l : List InD} (h : Writes wS wr a m) (hi : InsAt wS x l) (hn : ∀ b o o' sp, x = some ⟨b, o, none⟩ → a ≠ some ⟨b, o', sp⟩) : InsAt wr x l := fun i hil => by
  obtain ⟨b, o, e, hb, c0, c1, c2⟩ := hi i hil
  exact ⟨b, o, e, Nat.lt_of_lt_of_le hb h.turn.size, h.far c0 (fun o' sp => hn b o o' sp e), h.far c1 (fun o' sp => hn b o o' sp e), c2⟩
theorem Writes.mine {w0 : World} {G : Nat → Prop} {R : Nat} {u : NS} (h : Writes wS wr a m) (hm : Mine w0 wS G R u) (hf : Fresh B a) (hB : w0.heap.size ≤ B) (hG : ∀ k, G k → k < B) : Mine w0 wr G R u :=
  ⟨hm.node.turn h.turn (fun k hk ⟨o, sp, e⟩ => by have := hf k o sp e; have := hG k hk; omega), hm.above, hm.below.trans (h.turn.below (fun k ⟨o, sp, e⟩ => Nat.le_trans hB (hf k o sp e)) hm.below.size)⟩
theorem copied_ins {l : List InD} (h : w.ownsRow B 62 2 (.slice a n c) l.length (insC l)) (hok : ∀ i (h : i < l.length), (Lit.int .i64 l[i].2).wf = true) : InsAt w a l ∧ Fresh B a := by
  rcases h.2 with ⟨hv, hn⟩ | ⟨g, cap, cur, hv, hB, hg, hc, _, _, _⟩
  · simp only [Value.slice.injEq] at hv
    obtain ⟨rfl, _, _⟩ := hv
    exact ⟨fun i hi => absurd hi (by omega), fun _ _ _ e => by cases e⟩
  · simp only [Value.slice.injEq] at hv
    obtain ⟨rfl, _, _⟩ := hv
    have hat : ∀ (l : List InD) (i : Nat) (h : i < l.length), (insC l)[i * 2]? = some (.int .u64 l[i].1.toNat) ∧ (insC l)[i * 2 + 1]? = some (.int .i64 l[i].2) := by
      intro l
      induction l with
      | nil => intro i h; cases h
      | cons o r ih =>
        intro i h
        cases i with
        | zero => exact ⟨rfl, rfl⟩
        | succ i =>
          have := ih i (by simpa using h)
          have e1 : (i + 1) * 2 = i * 2 + 1 + 1 := by omega
          rw [e1]
          exact this
    refine ⟨fun i hi => ?_, fun b o sp e => by cases e; exact hB⟩
    have hc : ∀ j u, (insC l)[j]? = some u → w.cell? ⟨g, 0 + j, none⟩ = some u := fun j u hj => by
      have a0 := h.cells (g := g) rfl j u hj
      have f0 : (⟨g, 0, none⟩ : Addr).add j = ⟨g, 0 + j, none⟩ := by unfold Addr.add; split <;> simp_all
      rw [f0] at a0
      exact a0
    exact ⟨g, 0, rfl, (Array.getElem?_eq_some_iff.1 hg).1, hc _ _ (hat l i hi).1, by have := hc _ _ (hat l i hi).2; rwa [← Nat.add_assoc] at this, hok i hi⟩
/-- All that was there ahead of the answer is as it was. -/
theorem Writes.low {w0 : World} (h : Writes wS wr a m) (hb : Below w0.heap.size w0 wS) (hf : Fresh w0.heap.size a) : Below w0.heap.size w0 wr :=
  hb.trans (h.turn.below (fun k ⟨o, sp, e⟩ => hf k o sp e) hb.size)
theorem own_block_lt {l : List UInt64} (h : OwnIds w B (.slice a n c) l) : ∀ b o sp, a = some ⟨b, o, sp⟩ → b < w.heap.size := fun b o sp e => by
  subst e
  exact (h.lt b rfl).2
/-- Decode's answer, whatever it is: its Ins may be written. -/
theorem decode_w (s : ByteArray) (hs : s.size ≤ maxLen) (w : World) : Calls Tryz.prog 21 #[.string s] w fun e w' => ∃ (ia : Option Addr) (q ic : Nat) (o g f r : Int), e = .returned (.tuple #[.agg #[.slice ia q ic, .int .i64 o, .int .i64 g, .int .i64 f], .int .i64 r]) ∧ q ≤ 8 ∧ q ≤ ic ∧ Writes w' w' ia (q * 2) ∧ Fresh w.heap.size ia ∧ Below w.heap.size w w' := by
  by_cases h1 : formD s.data.toList = 0
  · by_cases h2 : checkD (readD s.data.toList) = 0
    · refine (So.De.decode_ok s w hs h1 h2).mono ?_
      rintro e w' ⟨ia, ic, rfl, hc, hi, hf, hm, hb⟩
      exact ⟨ia, _, ic, _, _, _, _, rfl, (check_ok h2).1, hc, writes_ins hi hm, hf, hb⟩
    · refine (De.decode_check s _ w hs h1 rfl h2).mono ?_
      rintro e w' ⟨ia, ic, rfl, hc, hi, hf, hb⟩
      exact ⟨ia, _, ic, _, _, _, _, rfl, Nat.zero_le _, hc, ⟨turn_none _ _, fun i h => absurd h (by simp [De.zeroD])⟩, hf, hb⟩
  · refine (De.decode_form s _ w hs rfl h1).mono ?_
    rintro e w' ⟨ia, ic, rfl, hc, hi, hf, hb⟩
    exact ⟨ia, _, ic, _, _, _, _, rfl, Nat.zero_le _, hc, ⟨turn_none _ _, fun i h => absurd h (by simp [De.zeroD])⟩, hf, hb⟩
theorem encode_w (d : DeedD) (a : Option Addr) (cap : Nat) (w : World) (hi : InsAt w a d.ins) : Calls Tryz.prog 32 #[.agg #[.slice a d.ins.length cap, .int .i64 d.outs, .int .i64 d.weight, .int .i64 d.fee]] w fun e w' => ∃ (E : ByteArray) (r : Int), e = .returned (.tuple #[.string E, .int .i64 r]) ∧ E.size ≤ maxLen ∧ Below w.heap.size w w' := by
  by_cases h : checkD d = 0
  · refine (encode_ok d a cap w hi h).mono ?_
    rintro e w' ⟨rfl, hb⟩
    refine ⟨_, _, rfl, ?_, hb⟩
    have h8 := (check_ok h).1
    have h1 := str_size (encB d)
    rw [encB_length] at h1
    show (str (encB d)).size ≤ maxLen
    unfold maxLen
    omega
  · refine (encode_err d a cap w _ hi rfl h).mono ?_
    rintro e w' ⟨rfl, hb⟩
    exact ⟨_, _, rfl, by show 0 ≤ maxLen; omega, hb⟩
theorem Writes.later (h : Writes w w a m) (hb : Below w.heap.size w w') : Writes w' w' a m := ⟨turn_none _ _, fun i hi => by
  obtain ⟨g, o, u, e, hc, f⟩ := h.cell hi
  exact ⟨g, o, e, by rw [kept_cell hb hc]; rfl, by rw [hb.frozen (p := ⟨g, o + i, none⟩) (cell_spot hc).2]; exact f⟩⟩
theorem Writes.lt (h : Writes w w a m) (hm : 0 < m) : ∀ b o sp, a = some ⟨b, o, sp⟩ → b < w.heap.size := fun b o sp e => by
  obtain ⟨g, o', u, e', hc, _⟩ := h.cell hm
  rw [e] at e'
  cases e'
  exact (cell_spot hc).2
theorem eqID_k (l : List UInt64) (n : Nat) (hn : l.length = n) (a b : Option Addr) (ca cb : Nat) (w : World) (hl : n ≤ 10000000000000) (ha : IdsAt w a l) (hb : IdsAt w b l) : Calls Tryz.prog 33 #[.slice a n ca, .slice b n cb] w fun e w' => e = .returned (.bool true) ∧ w = w' := by
  subst hn
  exact eqID_is l l a b ca cb w true (by unfold maxLen; omega) ha hb (beq_self_eq_true _)
theorem all_few (L : List Ho.LinkD) : (Ho.allL L).length ≤ L.length := by
  have h : ∀ (ls : List Ho.LD) (acc : List UInt64), (ls.foldl (fun acc l => if acc.contains l.id then acc else acc ++ [l.id]) acc).length ≤ acc.length + ls.length := by
    intro ls
    induction ls with
    | nil => intro acc; simp
    | cons l r ih =>
      intro acc
      rw [List.foldl_cons]
      refine Nat.le_trans (ih _) ?_
      split
      · simp only [List.length_cons]; omega
      · simp only [List.length_cons, List.length_append, List.length_nil]; omega
  have := h (Ho.lsOf L) []
  unfold Ho.lsOf at this
  simp only [List.length_nil, List.length_map, Nat.zero_add] at this
  exact this
end Go.Proofs.YtaaaplbjeknbkaaGreat
