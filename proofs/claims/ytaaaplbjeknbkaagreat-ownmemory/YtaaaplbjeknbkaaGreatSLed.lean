/-
  A ledger in memory.
-/
import Derived.Test.YtaaaplbjeknbkaaGreatJ22
import Derived.Test.YtaaaplbjeknbkaaGreatJ3
import Derived.Test.YtaaaplbjeknbkaaGreatJ2
set_option maxRecDepth 20000
namespace Go.Proofs.YtaaaplbjeknbkaaGreat.So.Ju
open Go.Proofs.YtaaaplbjeknbkaaGreat.Ju
open Go.RowKit Go.Maps

theorem tmap_putN {w : World} {b : Nat} {ev : UInt64 → Option Value} (h : TMap w b none ev) (ks : List UInt64) (hks : ∀ x, (ev x).isSome = true → x ∈ ks) (hkl : ks.length ≤ 10000000000000) (x : UInt64) (v : Value) :
    ∃ w', (Instr.mapUpdate 47 (.map (some b)) (.int .u64 x.toNat) v).run Tryz.prog w = .ok () w' ∧ TMap w' b none (fun y => if y = x then some v else ev y) ∧ Turn (fun k => k = b) (fun k => k = b) w w' := by
  obtain ⟨D, ⟨n, hm⟩, hat, hhas⟩ := h
  have hm2 := tmap_small hm ks (fun y hy => hks y (by rw [← hhas y]; exact hy))
  obtain ⟨w', hrun, ho, hg⟩ := hm2.update u64_keyed Tryz.underlying47 (by unfold maxLen; omega) (u64_key x) (val := v) (d := .held v) (ps := []) rfl
  refine ⟨w', hrun, ⟨_, ⟨_, ho⟩, fun y u hy z => ?_, fun y => ?_⟩, Turn.of_grown hg (fun k hk => by cases hk; rfl)⟩
  · replace hy : (if y = x then some v else ev y) = some u := hy
    by_cases e : y = x
    · rw [if_pos e] at hy
      cases hy
      rw [e, atKey_put_same hm2.isMap (u64_keyed.key (u64_key _))]
    · rw [if_neg e] at hy
      rw [atKey_put_other (lit_ne e), hat y u hy]
  · show _ = (if y = x then some v else ev y).isSome
    by_cases e : y = x
    · rw [e, if_pos rfl, has_put_same hm2.isMap (u64_keyed.key (u64_key _))]
      rfl
    · rw [if_neg e, has_put_other (lit_ne e), hhas y]
theorem seen_lt {w : World} {b n : Nat} {ks : List InD} (h : Seen w b n ks) : b < w.heap.size := by
  obtain ⟨D, hD, _⟩ := h
  exact hD.lt
theorem seen_same {w w' : World} {b n : Nat} {ks : List InD} (h : Seen w b n ks) (e : w'.heap[b]? = w.heap[b]?) : Seen w' b n ks := by
  obtain ⟨D, ⟨es, clock, hb, r⟩, r2⟩ := h
  exact ⟨D, ⟨es, clock, e.trans hb, r⟩, r2⟩
theorem seen_look {w : World} {b n : Nat} {ks : List InD} (h : Seen w b n ks) (x : InD) (hx : inOk x) : (Instr.lookup 57 (.map (some b)) (.agg #[.int .u64 x.1.toNat, .int .i64 x.2]) false).run Tryz.prog w = .ok (.bool (ks.contains x)) w :=
  set_look h in_keyed Tryz.underlying57 Tryz.underlying4 (zero_bool _) hx (in_key _ hx)
theorem seen_put {w : World} {b n : Nat} {ks : List InD} (h : Seen w b n ks) (x : InD) (hx : inOk x) (hn : n ≤ 1000000000000000) :
    ∃ w', (Instr.mapUpdate 57 (.map (some b)) (.agg #[.int .u64 x.1.toNat, .int .i64 x.2]) (.bool true)).run Tryz.prog w = .ok () w' ∧ Seen w' b (n + 1) (ks ++ [x]) ∧ Turn (fun k => k = b) (fun k => k = b) w w' := by
  obtain ⟨w1, hput, S1, hg⟩ := set_put h in_keyed Tryz.underlying57 Tryz.underlying4 (by unfold maxLen; omega) hx (in_key _ hx) (fun y hy e => inKey_inj hy hx e)
  exact ⟨w1, hput, S1, Turn.of_grown hg (fun k hk => by cases hk; rfl)⟩
theorem seen_at {w : World} {b n : Nat} {ks : List InD} (h : Seen w b n ks) : ∃ es clock, w.heap[b]? = some (.map es clock) := by
  obtain ⟨D, ⟨es, clock, hb, _⟩, _⟩ := h
  exact ⟨es, clock, hb⟩
theorem tmap_at {w : World} {b : Nat} {it : Option It} {ev : UInt64 → Option Value} (h : TMap w b it ev) : ∃ es clock, w.heap[b]? = some (.map es clock) := by
  obtain ⟨D, hm, _⟩ := h
  obtain ⟨n, es, clock, hb, _⟩ := mapIs_owns hm
  exact ⟨es, clock, hb⟩

/-- Block R is a ledger: its map of deeds lies in block b and holds the values ev (they are M), its order is the slice v (IDs os), its map of Ins lies in block s (it was put into n times; Ins sp); F: the blocks that it owns. -/
structure LedAt (w : World) (F : Nat → Prop) (R : Nat) (M : UInt64 → Option DeedD) (os : List UInt64) (sp : List InD) (b s n : Nat) (ev : UInt64 → Option Value) (v : Value) : Prop where
  head : w.heap[R]? = some (.cells #[.map (some b), v, .map (some s)] 106 (0, 0))
  map : TMap w b none ev
  deeds : ∀ x, (ev x = none ∧ M x = none) ∨ ∃ a c d, ev x = some (deedV a c d) ∧ M x = some d ∧ OwnIns w (.slice a d.ins.length c) d.ins ∧ ∀ g, (Value.slice a d.ins.length c).ownBlock = some g → F g
  fine : ∀ x d, M x = some d → checkD d = 0
  order : OwnIds w 0 v os
  spent : Seen w s n sp
  ne : b ≠ s
  fR : F R
  fb : F b
  fs : F s
  fv : ∀ g, v.ownBlock = some g → F g
  there : There w F

variable {w w' : World} {F : Nat → Prop} {R : Nat} {M : UInt64 → Option DeedD} {os : List UInt64} {sp : List InD} {b s n : Nat} {ev : UInt64 → Option Value} {v : Value}

theorem LedAt.same (h : LedAt w F R M os sp b s n ev v) (e : ∀ k, k < w.heap.size → F k → w'.heap[k]? = w.heap[k]?) (hs : w.heap.size ≤ w'.heap.size) : LedAt w' F R M os sp b s n ev v where
  head := (e R (h.there R h.fR) h.fR).trans h.head
  map := tmap_same h.map (e b (h.there b h.fb) h.fb) (fun i hi => by cases hi)
  deeds := fun x => (h.deeds x).imp id fun ⟨a, c, d, h1, h2, h3, h4⟩ => ⟨a, c, d, h1, h2, own_same h3 fun g hg => e g (h.there g (h4 g hg)) (h4 g hg), h4⟩
  fine := h.fine
  order := own_same h.order fun g hg => e g (h.there g (h.fv g hg)) (h.fv g hg)
  spent := seen_same h.spent (e s (h.there s h.fs) h.fs)
  ne := h.ne
  fR := h.fR
  fb := h.fb
  fs := h.fs
  fv := h.fv
  there := h.there.later hs
theorem LedAt.kept (h : LedAt w F R M os sp b s n ev v) (hb : Below w.heap.size w w') : LedAt w' F R M os sp b s n ev v := h.same (fun k hk _ => hb.block k hk) hb.size
theorem LedAt.turn (h : LedAt w F R M os sp b s n ev v) {G G' : Nat → Prop} (ht : Turn G G' w w') (ha : Apart F G) : LedAt w' F R M os sp b s n ev v := h.same (fun k hk hf => ht.block k hk (ha k hf)) ht.size
theorem LedAt.lt (h : LedAt w F R M os sp b s n ev v) : R < w.heap.size := h.there R h.fR
theorem LedAt.mapc (h : LedAt w F R M os sp b s n ev v) : w.cell? ⟨R, 0, none⟩ = some (.map (some b)) := (head_cell h.head 0).trans rfl
theorem LedAt.orderc (h : LedAt w F R M os sp b s n ev v) : w.cell? ⟨R, 1, none⟩ = some v ∧ w.frozen? ⟨R, 1, none⟩ = false := ⟨(head_cell h.head 1).trans rfl, frozen_of_row w R 1 _ _ h.head⟩
theorem LedAt.spentc (h : LedAt w F R M os sp b s n ev v) : w.cell? ⟨R, 2, none⟩ = some (.map (some s)) := (head_cell h.head 2).trans rfl
theorem LedAt.look_ok (h : LedAt w F R M os sp b s n ev v) (x : UInt64) : (Instr.lookup 47 (.map (some b)) (.int .u64 x.toNat) true).run Tryz.prog w = .ok (.tuple #[(ev x).getD zeroD, .bool (ev x).isSome]) w := tmap_look_ok h.map x
theorem LedAt.there_is (h : LedAt w F R M os sp b s n ev v) (x : UInt64) : (ev x).isSome = (M x).isSome := by
  rcases h.deeds x with ⟨h1, h2⟩ | ⟨a, c, d, h1, h2, _⟩
  · rw [h1, h2]; rfl
  · rw [h1, h2]; rfl
/-- The deed of an ID, as the map answers it. -/
theorem LedAt.deed (h : LedAt w F R M os sp b s n ev v) (x : UInt64) : ∃ a c, (ev x).getD zeroD = deedV a c ((M x).getD nod) ∧ ((M x).getD nod).ins.length ≤ 8 ∧ ((M x).getD nod).ins.length ≤ c ∧ InsAt w a ((M x).getD nod).ins := by
  rcases h.deeds x with ⟨h1, h2⟩ | ⟨a, c, d, h1, h2, h3, h4⟩
  · rw [h1, h2]
    exact ⟨none, 0, rfl, Nat.zero_le _, Nat.zero_le _, fun i hi => absurd hi (by simp [nod])⟩
  · rw [h1, h2]
    have hf := h.fine x d h2
    obtain ⟨_, hc, hi⟩ := ownIns_slice h3 (ins_ok hf)
    exact ⟨a, c, rfl, (check_ok hf).1, hc, hi⟩
theorem LedAt.v_ne (h : LedAt w F R M os sp b s n ev v) {g : Nat} (hg : v.ownBlock = some g) : g ≠ R ∧ g ≠ b ∧ g ≠ s := by
  obtain ⟨cur, hc⟩ := own_at h.order hg
  refine ⟨fun e => ?_, fun e => ?_, fun e => ?_⟩
  · rw [e, h.head] at hc; simp at hc
  · obtain ⟨es, cl, hb⟩ := tmap_at h.map
    rw [e, hb] at hc; cases hc
  · obtain ⟨es, cl, hb⟩ := seen_at h.spent
    rw [e, hb] at hc; cases hc
theorem LedAt.i_ne (h : LedAt w F R M os sp b s n ev v) {l : List InD} {u : Value} (ho : OwnIns w u l) {g : Nat} (hg : u.ownBlock = some g) : g ≠ R ∧ g ≠ b ∧ g ≠ s ∧ v.ownBlock ≠ some g := by
  obtain ⟨cur, hc⟩ := own_at ho hg
  refine ⟨fun e => ?_, fun e => ?_, fun e => ?_, fun e => ?_⟩
  · rw [e, h.head] at hc; simp at hc
  · obtain ⟨es, cl, hb⟩ := tmap_at h.map
    rw [e, hb] at hc; cases hc
  · obtain ⟨es, cl, hb⟩ := seen_at h.spent
    rw [e, hb] at hc; cases hc
  · obtain ⟨cur', hc'⟩ := own_at h.order e
    rw [hc'] at hc; simp at hc
theorem LedAt.R_ne (h : LedAt w F R M os sp b s n ev v) : R ≠ b ∧ R ≠ s := by
  refine ⟨fun e => ?_, fun e => ?_⟩
  · obtain ⟨es, cl, hb⟩ := tmap_at h.map
    have := h.head
    rw [e, hb] at this
    cases this
  · obtain ⟨es, cl, hb⟩ := seen_at h.spent
    have := h.head
    rw [e, hb] at this
    cases this
/-- The order is written anew, in its block or a new one, and the slice is stored. -/
theorem LedAt.setOrder (h : LedAt w F R M os sp b s n ev v) {u : Value} {l : List UInt64} {G : Nat → Prop} (hG : ∀ k, G k → v.ownBlock = some k) (ht : Turn G G w w') (ho : OwnIds w' 0 u l) (hv : ∀ k, u.ownBlock = some k → v.ownBlock = some k ∨ w.heap.size ≤ k) :
    LedAt (w'.setCell ⟨R, 1, none⟩ u) (fun k => F k ∨ u.ownBlock = some k) R M l sp b s n ev u ∧ Turn F (fun k => F k ∨ u.ownBlock = some k) w (w'.setCell ⟨R, 1, none⟩ u) := by
  have hnR : ¬ G R := fun hg => (h.v_ne (hG R hg)).1 rfl
  have hnb : ¬ G b := fun hg => (h.v_ne (hG b hg)).2.1 rfl
  have hns : ¬ G s := fun hg => (h.v_ne (hG s hg)).2.2 rfl
  have hlt : ∀ k, k < w.heap.size → k < w'.heap.size := fun k hk => Nat.lt_of_lt_of_le hk ht.size
  have hset : ∀ k, k ≠ R → (w'.setCell ⟨R, 1, none⟩ u).heap[k]? = w'.heap[k]? := fun k hk => Below.heap_setCell w' ⟨R, 1, none⟩ u k hk
  have hold : ∀ k, k < w.heap.size → k ≠ R → ¬ G k → (w'.setCell ⟨R, 1, none⟩ u).heap[k]? = w.heap[k]? := fun k hk hkR hn => (hset k hkR).trans (ht.block k hk hn)
  have hvR : ∀ k, u.ownBlock = some k → k ≠ R := fun k hk => (hv k hk).elim (fun e => (h.v_ne e).1) (fun hle e => by have := h.lt; omega)
  refine ⟨⟨?_, tmap_same h.map (hold b (h.there b h.fb) (fun e => h.R_ne.1 e.symm) hnb) (fun i hi => by cases hi),
    fun x => (h.deeds x).imp id fun ⟨a, c, d, h1, h2, h3, h4⟩ => ⟨a, c, d, h1, h2, own_same h3 fun g hg => hold g (h.there g (h4 g hg)) (h.i_ne h3 hg).1 (fun hk => (h.i_ne h3 hg).2.2.2 (hG g hk)), fun g hg => .inl (h4 g hg)⟩,
    h.fine, own_same ho fun g hg => hset g (hvR g hg), seen_same h.spent (hold s (h.there s h.fs) (fun e => h.R_ne.2 e.symm) hns), h.ne, .inl h.fR, .inl h.fb, .inl h.fs, fun g hg => .inr hg, fun k hk => ?_⟩, ?_⟩
  · exact heap_setCell_same w' R 1 _ _ u ((ht.block R h.lt hnR).trans h.head)
  · rw [World.size_setCell]
    exact hk.elim (fun hf => hlt k (h.there k hf)) (fun e => (ho.lt k e).2)
  · refine ⟨ht.os, ht.tape, ht.output, by rw [World.size_setCell]; exact ht.size, fun k hk hn => hold k hk (fun e => hn (by rw [e]; exact h.fR)) (fun hg => hn (h.fv k (hG k hg))), fun k hk => hk.elim .inl (fun e => (hv k e).elim (fun e' => .inl (h.fv k e')) .inr)⟩
/-- An In is put into the map of Ins. -/
theorem LedAt.spend (h : LedAt w F R M os sp b s n ev v) (x : InD) (hx : inOk x) (hn : n ≤ 1000000000000000) :
    ∃ w', (Instr.mapUpdate 57 (.map (some s)) (.agg #[.int .u64 x.1.toNat, .int .i64 x.2]) (.bool true)).run Tryz.prog w = .ok () w' ∧ LedAt w' F R M os (sp ++ [x]) b s (n + 1) ev v ∧ Turn F F w w' := by
  obtain ⟨w5, hput, hS, ht5⟩ := seen_put h.spent x hx hn
  refine ⟨w5, hput, ?_, ⟨ht5.os, ht5.tape, ht5.output, ht5.size, fun j hj hnj => ht5.block j hj (fun e => hnj (by rw [e]; exact h.fs)), fun j hj => .inl hj⟩⟩
  exact ⟨(ht5.block R h.lt h.R_ne.2).trans h.head, tmap_same h.map (ht5.block b (h.there b h.fb) h.ne) (fun i hi => by cases hi), fun y => (h.deeds y).imp id fun ⟨a, c, d, h1, h2, h3, h4⟩ => ⟨a, c, d, h1, h2, own_turn h3 ht5 (fun g hg e => (h.i_ne h3 hg).2.2.1 e), h4⟩,
    h.fine, own_turn h.order ht5 (fun g hg e => (h.v_ne hg).2.2 e), hS, h.ne, h.fR, h.fb, h.fs, h.fv, h.there.later ht5.size⟩
/-- A deed whose Ins lie in a new block is put into the map. -/
theorem LedAt.put (h : LedAt w F R M os sp b s n ev v) (ks : List UInt64) (hks : ∀ x, (M x).isSome = true → x ∈ ks) (hkl : ks.length ≤ 10000000000000) (x : UInt64) {a : Option Addr} {c : Nat} {d : DeedD} (hd : checkD d = 0) (hb : Below w.heap.size w w') (ho : w'.ownsRow w.heap.size 62 2 (.slice a d.ins.length c) d.ins.length (insC d.ins)) :
    ∃ w2, (Instr.mapUpdate 47 (.map (some b)) (.int .u64 x.toNat) (deedV a c d)).run Tryz.prog w' = .ok () w2 ∧ ∃ F', LedAt w2 F' R (upd M x (some d)) os sp b s n (upd ev x (some (deedV a c d))) v ∧ Turn F F' w w2 := by
  have h' := h.kept hb
  obtain ⟨w2, hrun, hm2, ht2⟩ := tmap_putN h'.map ks (fun y hy => hks y (by rw [← h.there_is y]; exact hy)) hkl x (deedV a c d)
  have hnew : ∀ g, (Value.slice a d.ins.length c).ownBlock = some g → w.heap.size ≤ g := fun g hg => (ho.lt g hg).1
  have hbl := h.there b h.fb
  refine ⟨w2, hrun, fun k => F k ∨ (Value.slice a d.ins.length c).ownBlock = some k, ⟨(ht2.block R h'.lt h.R_ne.1).trans h'.head, hm2, fun y => ?_, fun y e hy => ?_, own_turn h'.order ht2 (fun g hg e => (h.v_ne hg).2.1 e), seen_same h'.spent (ht2.block s (h'.there s h.fs) (fun e => h.ne e.symm)), h.ne, .inl h.fR, .inl h.fb, .inl h.fs, fun g hg => .inl (h.fv g hg), fun k hk => ?_⟩, ?_⟩
  · by_cases e : y = x
    · refine .inr ⟨a, c, d, by rw [e, upd_same], by rw [e, upd_same], ?_, fun g hg => .inr hg⟩
      have ho2 := own_turn ho ht2 (fun g hg e => by have := hnew g hg; omega)
      exact ⟨ho2.1, ho2.2.imp id fun ⟨g, cap, cur, q1, q2, q3⟩ => ⟨g, cap, cur, q1, Nat.zero_le _, q3⟩⟩
    · rcases h'.deeds y with ⟨h1, h2⟩ | ⟨a', c', d', h1, h2, h3, h4⟩
      · exact .inl ⟨(upd_other _ _ e).trans h1, (upd_other _ _ e).trans h2⟩
      · exact .inr ⟨a', c', d', (upd_other _ _ e).trans h1, (upd_other _ _ e).trans h2, own_turn h3 ht2 (fun g hg e => (h'.i_ne h3 hg).2.1 e), fun g hg => .inl (h4 g hg)⟩
  · by_cases e' : y = x
    · rw [e', upd_same] at hy; cases hy; exact hd
    · rw [upd_other _ _ e'] at hy
      exact h.fine y e hy
  · exact hk.elim (fun hf => Nat.lt_of_lt_of_le (h'.there k hf) ht2.size) (fun e => Nat.lt_of_lt_of_le (ho.lt k e).2 ht2.size)
  · have : Turn F F w' w2 := ⟨ht2.os, ht2.tape, ht2.output, ht2.size, fun j hj hnj => ht2.block j hj (fun e => hnj (by rw [e]; exact h.fb)), fun j hj => .inl hj⟩
    exact ((Turn.of_below hb).trans this).more (fun k hk => hk.elim .inl (fun e => .inr (hnew k e)))
end Go.Proofs.YtaaaplbjeknbkaaGreat.So.Ju
