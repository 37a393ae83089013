import Derived.Test.YtaaaplbjeknbkaaGreatJ22
import Derived.Test.YtaaaplbjeknbkaaGreatJ3
import Derived.Test.YtaaaplbjeknbkaaGreatJ2
import Derived.Test.YtaaaplbjeknbkaaGreatJ4
import Derived.BigQuiet
import Derived.Deep.QuietTactic
import Derived.Test.YtaaaplbjeknbkaaGreatJ5
import Derived.Deep.RegionLaw
import Derived.RegionTactic
import Derived.BigRegion
/-
  A ledger in memory.
-/
set_option maxRecDepth 20000
namespace Go.Proofs.YtaaaplbjeknbkaaGreat.So.Ju
section
open Go.Proofs.YtaaaplbjeknbkaaGreat.Ju
open Go.RowKit Go.Maps

theorem tmap_putN {w : World} {b : Nat} {ev : UInt64 → Option Value} (h : TMap w b none ev) (ks : List UInt64) (hks : ∀ x, (ev x).isSome = true → x ∈ ks) (hkl : ks.length ≤ 10000000000000) (x : UInt64) (v : Value) :
    ∃ w', (Instr.mapUpdate 47 (.map (some b)) (.int .u64 x.toNat) v).run Tryz.prog w = .ok () w' ∧ TMap w' b none (fun y => if y = x then some v else ev y) ∧ Turn (fun k => k = b) (fun k => k = b) w w' := by
  obtain ⟨D, ⟨n, hm⟩, hat, hhas⟩ := h
  have hm2 := tmap_small hm ks (fun y hy => hks y (by rw [← hhas y]; exact hy))
  obtain ⟨w', hrun, ho, hg⟩ := hm2.update u64_keyed Tryz.underlying47 (by unfold maxLen; omega) (u64_key x) (val := v) (d := .held v) (ps := []) rfl
  refine ⟨w', hrun, ⟨_, ⟨_, ho⟩, fun y u hy z => ?_, fun y => ?_⟩, Turn.of_grown hg (fun k hk => by cases hk; rfl)⟩
  · replace hy : (if y = x then some v else ev y) = some u := hy
    by_cases e : y = x
    · rw [if_pos e] at hy
      cases hy
      rw [e, atKey_put_same hm2.isMap (u64_keyed.key (u64_key _))]
    · rw [if_neg e] at hy
      rw [atKey_put_other (lit_ne e), hat y u hy]
  · show _ = (if y = x then some v else ev y).isSome
    by_cases e : y = x
    · rw [e, if_pos rfl, has_put_same hm2.isMap (u64_keyed.key (u64_key _))]
      rfl
    · rw [if_neg e, has_put_other (lit_ne e), hhas y]
theorem seen_lt {w : World} {b n : Nat} {ks : List InD} (h : Seen w b n ks) : b < w.heap.size := by
  obtain ⟨D, hD, _⟩ := h
  exact hD.lt
theorem seen_same {w w' : World} {b n : Nat} {ks : List InD} (h : Seen w b n ks) (e : w'.heap[b]? = w.heap[b]?) : Seen w' b n ks := by
  obtain ⟨D, ⟨es, clock, hb, r⟩, r2⟩ := h
  exact ⟨D, ⟨es, clock, e.trans hb, r⟩, r2⟩
theorem seen_look {w : World} {b n : Nat} {ks : List InD} (h : Seen w b n ks) (x : InD) (hx : inOk x) : (Instr.lookup 57 (.map (some b)) (.agg #[.int .u64 x.1.toNat, .int .i64 x.2]) false).run Tryz.prog w = .ok (.bool (ks.contains x)) w :=
  set_look h in_keyed Tryz.underlying57 Tryz.underlying4 (zero_bool _) hx (in_key _ hx)
theorem seen_put {w : World} {b n : Nat} {ks : List InD} (h : Seen w b n ks) (x : InD) (hx : inOk x) (hn : n ≤ 1000000000000000) :
    ∃ w', (Instr.mapUpdate 57 (.map (some b)) (.agg #[.int .u64 x.1.toNat, .int .i64 x.2]) (.bool true)).run Tryz.prog w = .ok () w' ∧ Seen w' b (n + 1) (ks ++ [x]) ∧ Turn (fun k => k = b) (fun k => k = b) w w' := by
  obtain ⟨w1, hput, S1, hg⟩ := set_put h in_keyed Tryz.underlying57 Tryz.underlying4 (by unfold maxLen; omega) hx (in_key _ hx) (fun y hy e => inKey_inj hy hx e)
  exact ⟨w1, hput, S1, Turn.of_grown hg (fun k hk => by cases hk; rfl)⟩
theorem seen_at {w : World} {b n : Nat} {ks : List InD} (h : Seen w b n ks) : ∃ es clock, w.heap[b]? = some (.map es clock) := by
  obtain ⟨D, ⟨es, clock, hb, _⟩, _⟩ := h
  exact ⟨es, clock, hb⟩
theorem tmap_at {w : World} {b : Nat} {it : Option It} {ev : UInt64 → Option Value} (h : TMap w b it ev) : ∃ es clock, w.heap[b]? = some (.map es clock) := by
  obtain ⟨D, hm, _⟩ := h
  obtain ⟨n, es, clock, hb, _⟩ := mapIs_owns hm
  exact ⟨es, clock, hb⟩

/-- Block R is a ledger: its map of deeds lies in block b and holds the values ev (they are M), its order is the slice v (IDs os), its map of Ins lies in block s (it was put into n times; Ins sp); F: the blocks that it owns. -/
structure LedAt (w : World) (F : Nat → Prop) (R : Nat) (M : UInt64 → Option DeedD) (os : List UInt64) (sp : List InD) (b s n : Nat) (ev : UInt64 → Option Value) (v : Value) : Prop where
  head : w.heap[R]? = some (.cells #[.map (some b), v, .map (some s)] 106 (0, 0))
  map : TMap w b none ev
  deeds : ∀ x, (ev x = none ∧ M x = none) ∨ ∃ a c d, ev x = some (deedV a c d) ∧ M x = some d ∧ OwnIns w (.slice a d.ins.length c) d.ins ∧ ∀ g, (Value.slice a d.ins.length c).ownBlock = some g → F g
  fine : ∀ x d, M x = some d → checkD d = 0
  order : OwnIds w 0 v os
  spent : Seen w s n sp
  ne : b ≠ s
  fR : F R
  fb : F b
  fs : F s
  fv : ∀ g, v.ownBlock = some g → F g
  there : There w F

variable {w w' : World} {F : Nat → Prop} {R : Nat} {M : UInt64 → Option DeedD} {os : List UInt64} {sp : List InD} {b s n : Nat} {ev : UInt64 → Option Value} {v : Value}

theorem LedAt.same (h : LedAt w F R M os sp b s n ev v) (e : ∀ k, k < w.heap.size → F k → w'.heap[k]? = w.heap[k]?) (hs : w.heap.size ≤ w'.heap.size) : LedAt w' F R M os sp b s n ev v where
  head := (e R (h.there R h.fR) h.fR).trans h.head
  map := tmap_same h.map (e b (h.there b h.fb) h.fb) (fun i hi => by cases hi)
  deeds := fun x => (h.deeds x).imp id fun ⟨a, c, d, h1, h2, h3, h4⟩ => ⟨a, c, d, h1, h2, own_same h3 fun g hg => e g (h.there g (h4 g hg)) (h4 g hg), h4⟩
  fine := h.fine
  order := own_same h.order fun g hg => e g (h.there g (h.fv g hg)) (h.fv g hg)
  spent := seen_same h.spent (e s (h.there s h.fs) h.fs)
  ne := h.ne
  fR := h.fR
  fb := h.fb
  fs := h.fs
  fv := h.fv
  there := h.there.later hs
theorem LedAt.kept (h : LedAt w F R M os sp b s n ev v) (hb : Below w.heap.size w w') : LedAt w' F R M os sp b s n ev v := h.same (fun k hk _ => hb.block k hk) hb.size
theorem LedAt.turn (h : LedAt w F R M os sp b s n ev v) {G G' : Nat → Prop} (ht : Turn G G' w w') (ha : Apart F G) : LedAt w' F R M os sp b s n ev v := h.same (fun k hk hf => ht.block k hk (ha k hf)) ht.size
theorem LedAt.lt (h : LedAt w F R M os sp b s n ev v) : R < w.heap.size := h.there R h.fR
theorem LedAt.mapc (h : LedAt w F R M os sp b s n ev v) : w.cell? ⟨R, 0, none⟩ = some (.map (some b)) := (head_cell h.head 0).trans rfl
theorem LedAt.orderc (h : LedAt w F R M os sp b s n ev v) : w.cell? ⟨R, 1, none⟩ = some v ∧ w.frozen? ⟨R, 1, none⟩ = false := ⟨(head_cell h.head 1).trans rfl, frozen_of_row w R 1 _ _ h.head⟩
theorem LedAt.spentc (h : LedAt w F R M os sp b s n ev v) : w.cell? ⟨R, 2, none⟩ = some (.map (some s)) := (head_cell h.head 2).trans rfl
theorem LedAt.look_ok (h : LedAt w F R M os sp b s n ev v) (x : UInt64) : (Instr.lookup 47 (.map (some b)) (.int .u64 x.toNat) true).run Tryz.prog w = .ok (.tuple #[(ev x).getD zeroD, .bool (ev x).isSome]) w := tmap_look_ok h.map x
theorem LedAt.there_is (h : LedAt w F R M os sp b s n ev v) (x : UInt64) : (ev x).isSome = (M x).isSome := by
  rcases h.deeds x with ⟨h1, h2⟩ | ⟨a, c, d, h1, h2, _⟩
  · rw [h1, h2]; rfl
  · rw [h1, h2]; rfl
/-- The deed of an ID, as the map answers it. -/
theorem LedAt.deed (h : LedAt w F R M os sp b s n ev v) (x : UInt64) : ∃ a c, (ev x).getD zeroD = deedV a c ((M x).getD nod) ∧ ((M x).getD nod).ins.length ≤ 8 ∧ ((M x).getD nod).ins.length ≤ c ∧ InsAt w a ((M x).getD nod).ins := by
  rcases h.deeds x with ⟨h1, h2⟩ | ⟨a, c, d, h1, h2, h3, h4⟩
  · rw [h1, h2]
    exact ⟨none, 0, rfl, Nat.zero_le _, Nat.zero_le _, fun i hi => absurd hi (by simp [nod])⟩
  · rw [h1, h2]
    have hf := h.fine x d h2
    obtain ⟨_, hc, hi⟩ := ownIns_slice h3 (ins_ok hf)
    exact ⟨a, c, rfl, (check_ok hf).1, hc, hi⟩
theorem LedAt.v_ne (h : LedAt w F R M os sp b s n ev v) {g : Nat} (hg : v.ownBlock = some g) : g ≠ R ∧ g ≠ b ∧ g ≠ s := by
  obtain ⟨cur, hc⟩ := own_at h.order hg
  refine ⟨fun e => ?_, fun e => ?_, fun e => ?_⟩
  · rw [e, h.head] at hc; simp at hc
  · obtain ⟨es, cl, hb⟩ := tmap_at h.map
    rw [e, hb] at hc; cases hc
  · obtain ⟨es, cl, hb⟩ := seen_at h.spent
    rw [e, hb] at hc; cases hc
theorem LedAt.i_ne (h : LedAt w F R M os sp b s n ev v) {l : List InD} {u : Value} (ho : OwnIns w u l) {g : Nat} (hg : u.ownBlock = some g) : g ≠ R ∧ g ≠ b ∧ g ≠ s ∧ v.ownBlock ≠ some g := by
  obtain ⟨cur, hc⟩ := own_at ho hg
  refine ⟨fun e => ?_, fun e => ?_, fun e => ?_, fun e => ?_⟩
  · rw [e, h.head] at hc; simp at hc
  · obtain ⟨es, cl, hb⟩ := tmap_at h.map
    rw [e, hb] at hc; cases hc
  · obtain ⟨es, cl, hb⟩ := seen_at h.spent
    rw [e, hb] at hc; cases hc
  · obtain ⟨cur', hc'⟩ := own_at h.order e
    rw [hc'] at hc; simp at hc
theorem LedAt.R_ne (h : LedAt w F R M os sp b s n ev v) : R ≠ b ∧ R ≠ s := by
  refine ⟨fun e => ?_, fun e => ?_⟩
  · obtain ⟨es, cl, hb⟩ := tmap_at h.map
    have := h.head
    rw [e, hb] at this
    cases this
  · obtain ⟨es, cl, hb⟩ := seen_at h.spent
    have := h.head
    rw [e, hb] at this
    cases this
/-- The order is written anew, in its block or a new one, and the slice is stored. -/
theorem LedAt.setOrder (h : LedAt w F R M os sp b s n ev v) {u : Value} {l : List UInt64} {G : Nat → Prop} (hG : ∀ k, G k → v.ownBlock = some k) (ht : Turn G G w w') (ho : OwnIds w' 0 u l) (hv : ∀ k, u.ownBlock = some k → v.ownBlock = some k ∨ w.heap.size ≤ k) :
    LedAt (w'.setCell ⟨R, 1, none⟩ u) (fun k => F k ∨ u.ownBlock = some k) R M l sp b s n ev u ∧ Turn F (fun k => F k ∨ u.ownBlock = some k) w (w'.setCell ⟨R, 1, none⟩ u) := by
  have hnR : ¬ G R := fun hg => (h.v_ne (hG R hg)).1 rfl
  have hnb : ¬ G b := fun hg => (h.v_ne (hG b hg)).2.1 rfl
  have hns : ¬ G s := fun hg => (h.v_ne (hG s hg)).2.2 rfl
  have hlt : ∀ k, k < w.heap.size → k < w'.heap.size := fun k hk => Nat.lt_of_lt_of_le hk ht.size
  have hset : ∀ k, k ≠ R → (w'.setCell ⟨R, 1, none⟩ u).heap[k]? = w'.heap[k]? := fun k hk => Below.heap_setCell w' ⟨R, 1, none⟩ u k hk
  have hold : ∀ k, k < w.heap.size → k ≠ R → ¬ G k → (w'.setCell ⟨R, 1, none⟩ u).heap[k]? = w.heap[k]? := fun k hk hkR hn => (hset k hkR).trans (ht.block k hk hn)
  have hvR : ∀ k, u.ownBlock = some k → k ≠ R := fun k hk => (hv k hk).elim (fun e => (h.v_ne e).1) (fun hle e => by have := h.lt; omega)
  refine ⟨⟨?_, tmap_same h.map (hold b (h.there b h.fb) (fun e => h.R_ne.1 e.symm) hnb) (fun i hi => by cases hi),
    fun x => (h.deeds x).imp id fun ⟨a, c, d, h1, h2, h3, h4⟩ => ⟨a, c, d, h1, h2, own_same h3 fun g hg => hold g (h.there g (h4 g hg)) (h.i_ne h3 hg).1 (fun hk => (h.i_ne h3 hg).2.2.2 (hG g hk)), fun g hg => .inl (h4 g hg)⟩,
    h.fine, own_same ho fun g hg => hset g (hvR g hg), seen_same h.spent (hold s (h.there s h.fs) (fun e => h.R_ne.2 e.symm) hns), h.ne, .inl h.fR, .inl h.fb, .inl h.fs, fun g hg => .inr hg, fun k hk => ?_⟩, ?_⟩
  · exact heap_setCell_same w' R 1 _ _ u ((ht.block R h.lt hnR).trans h.head)
  · rw [World.size_setCell]
    exact hk.elim (fun hf => hlt k (h.there k hf)) (fun e => (ho.lt k e).2)
  · refine ⟨ht.os, ht.tape, ht.output, by rw [World.size_setCell]; exact ht.size, fun k hk hn => hold k hk (fun e => hn (by rw [e]; exact h.fR)) (fun hg => hn (h.fv k (hG k hg))), fun k hk => hk.elim .inl (fun e => (hv k e).elim (fun e' => .inl (h.fv k e')) .inr)⟩
/-- An In is put into the map of Ins. -/
theorem LedAt.spend (h : LedAt w F R M os sp b s n ev v) (x : InD) (hx : inOk x) (hn : n ≤ 1000000000000000) :
    ∃ w', (Instr.mapUpdate 57 (.map (some s)) (.agg #[.int .u64 x.1.toNat, .int .i64 x.2]) (.bool true)).run Tryz.prog w = .ok () w' ∧ LedAt w' F R M os (sp ++ [x]) b s (n + 1) ev v ∧ Turn F F w w' := by
  obtain ⟨w5, hput, hS, ht5⟩ := seen_put h.spent x hx hn
  refine ⟨w5, hput, ?_, ⟨ht5.os, ht5.tape, ht5.output, ht5.size, fun j hj hnj => ht5.block j hj (fun e => hnj (by rw [e]; exact h.fs)), fun j hj => .inl hj⟩⟩
  exact ⟨(ht5.block R h.lt h.R_ne.2).trans h.head, tmap_same h.map (ht5.block b (h.there b h.fb) h.ne) (fun i hi => by cases hi), fun y => (h.deeds y).imp id fun ⟨a, c, d, h1, h2, h3, h4⟩ => ⟨a, c, d, h1, h2, own_turn h3 ht5 (fun g hg e => (h.i_ne h3 hg).2.2.1 e), h4⟩,
    h.fine, own_turn h.order ht5 (fun g hg e => (h.v_ne hg).2.2 e), hS, h.ne, h.fR, h.fb, h.fs, h.fv, h.there.later ht5.size⟩
/-- A deed whose Ins lie in a new block is put into the map. -/
theorem LedAt.put (h : LedAt w F R M os sp b s n ev v) (ks : List UInt64) (hks : ∀ x, (M x).isSome = true → x ∈ ks) (hkl : ks.length ≤ 10000000000000) (x : UInt64) {a : Option Addr} {c : Nat} {d : DeedD} (hd : checkD d = 0) (hb : Below w.heap.size w w') (ho : w'.ownsRow w.heap.size 62 2 (.slice a d.ins.length c) d.ins.length (insC d.ins)) :
    ∃ w2, (Instr.mapUpdate 47 (.map (some b)) (.int .u64 x.toNat) (deedV a c d)).run Tryz.prog w' = .ok () w2 ∧ ∃ F', LedAt w2 F' R (upd M x (some d)) os sp b s n (upd ev x (some (deedV a c d))) v ∧ Turn F F' w w2 := by
  have h' := h.kept hb
  obtain ⟨w2, hrun, hm2, ht2⟩ := tmap_putN h'.map ks (fun y hy => hks y (by rw [← h.there_is y]; exact hy)) hkl x (deedV a c d)
  have hnew : ∀ g, (Value.slice a d.ins.length c).ownBlock = some g → w.heap.size ≤ g := fun g hg => (ho.lt g hg).1
  have hbl := h.there b h.fb
  refine ⟨w2, hrun, fun k => F k ∨ (Value.slice a d.ins.length c).ownBlock = some k, ⟨(ht2.block R h'.lt h.R_ne.1).trans h'.head, hm2, fun y => ?_, fun y e hy => ?_, own_turn h'.order ht2 (fun g hg e => (h.v_ne hg).2.1 e), seen_same h'.spent (ht2.block s (h'.there s h.fs) (fun e => h.ne e.symm)), h.ne, .inl h.fR, .inl h.fb, .inl h.fs, fun g hg => .inl (h.fv g hg), fun k hk => ?_⟩, ?_⟩
  · by_cases e : y = x
    · refine .inr ⟨a, c, d, by rw [e, upd_same], by rw [e, upd_same], ?_, fun g hg => .inr hg⟩
      have ho2 := own_turn ho ht2 (fun g hg e => by have := hnew g hg; omega)
      exact ⟨ho2.1, ho2.2.imp id fun ⟨g, cap, cur, q1, q2, q3⟩ => ⟨g, cap, cur, q1, Nat.zero_le _, q3⟩⟩
    · rcases h'.deeds y with ⟨h1, h2⟩ | ⟨a', c', d', h1, h2, h3, h4⟩
      · exact .inl ⟨(upd_other _ _ e).trans h1, (upd_other _ _ e).trans h2⟩
      · exact .inr ⟨a', c', d', (upd_other _ _ e).trans h1, (upd_other _ _ e).trans h2, own_turn h3 ht2 (fun g hg e => (h'.i_ne h3 hg).2.1 e), fun g hg => .inl (h4 g hg)⟩
  · by_cases e' : y = x
    · rw [e', upd_same] at hy; cases hy; exact hd
    · rw [upd_other _ _ e'] at hy
      exact h.fine y e hy
  · exact hk.elim (fun hf => Nat.lt_of_lt_of_le (h'.there k hf) ht2.size) (fun e => Nat.lt_of_lt_of_le (ho.lt k e).2 ht2.size)
  · have : Turn F F w' w2 := ⟨ht2.os, ht2.tape, ht2.output, ht2.size, fun j hj hnj => ht2.block j hj (fun e => hnj (by rw [e]; exact h.fb)), fun j hj => .inl hj⟩
    exact ((Turn.of_below hb).trans this).more (fun k hk => hk.elim .inl (fun e => .inr (hnew k e)))
end
end Go.Proofs.YtaaaplbjeknbkaaGreat.So.Ju

/-
  Contracts of package judge: New, find, isSpent, Has, missing.
-/
namespace Go.Proofs.YtaaaplbjeknbkaaGreat.So.Ju
section
open Go.Proofs.YtaaaplbjeknbkaaGreat.Ju
open Go.RowKit Go.Maps

variable {w w' : World} {F : Nat → Prop} {R : Nat} {M : UInt64 → Option DeedD} {os : List UInt64} {sp : List InD} {b s n : Nat} {ev : UInt64 → Option Value} {v : Value}

theorem own_mono {w : World} {B B' : Nat} {e : TypeId} {size n : Nat} {v : Value} {xs : List Value} (h : w.ownsRow B' e size v n xs) (hb : B ≤ B') : w.ownsRow B e size v n xs :=
  ⟨h.1, h.2.imp id fun ⟨g, cap, cur, q1, q2, q3⟩ => ⟨g, cap, cur, q1, Nat.le_trans hb q2, q3⟩⟩
/-- An empty ledger. -/
theorem led_new (w : World) : Calls Tryz.prog 54 #[] w fun e w' => ∃ R F, e = .returned (.pointer (some ⟨R, 0, none⟩)) ∧ (∀ k, F k → w.heap.size ≤ k) ∧ LedAt w' F R (fun _ => none) [] [] w.heap.size (w.heap.size + 1) 0 (fun _ => none) (.slice none 0 0) ∧ Below w.heap.size w w' := by
  have hmm := @run_makeMap Tryz.prog
  go_enter Tryz.func54, Tryz.ntmps54
  go_wp2
  go_ret
  refine ⟨w.heap.size + 2, fun k => k = w.heap.size ∨ k = w.heap.size + 1 ∨ k = w.heap.size + 2, by simp, fun k hk => by omega, ?_, kept_alloc (kept_alloc (kept_new _ _) _) _⟩
  have hS := set_new (P := Tryz.prog) (k := 62) (e := 4) (ok := inOk) (kl := inKey) (w.alloc (.map #[] 0))
  have hz : (w.alloc (.map #[] 0)).heap.size = w.heap.size + 1 := by simp
  rw [hz] at hS
  refine ⟨?_, tmap_same (tmap_new w) ?_ (fun i hi => by cases hi), fun x => .inl ⟨rfl, rfl⟩, (fun x d h => by cases h), World.ownsRow_nil _ _ _ _, seen_same hS ?_, by omega, .inr (.inr rfl), .inl rfl, .inr (.inl rfl), (fun g hg => by cases hg), (fun k hk => ?_)⟩
  · have := heap_alloc_new ((w.alloc (.map #[] 0)).alloc (.map #[] 0)) (.cells #[.map (some w.heap.size), .slice none 0 0, .map (some (w.heap.size + 1))] 106)
    simpa using this
  · exact (heap_alloc_old _ _ (by simp; omega)).trans (heap_alloc_old _ _ (by simp))
  · exact heap_alloc_old _ _ (by simp)
  · simp
    omega
/-- The answer of find. -/
def FindAns (w : World) (m : Option DeedD) (e : Ending) (w' : World) : Prop :=
  ∃ a c, e = .returned (.tuple #[.agg #[.slice a (m.getD nod).ins.length c, .int .i64 (m.getD nod).outs, .int .i64 (m.getD nod).weight, .int .i64 (m.getD nod).fee], .bool m.isSome]) ∧ (m.getD nod).ins.length ≤ 8 ∧ InsAt w' a (m.getD nod).ins ∧ Below w.heap.size w w'
set_option maxRecDepth 20000 in
theorem find_any (x : UInt64) (w : World) (h : LedAt w F R M os sp b s n ev v) :
    Calls Tryz.prog 110 #[.pointer (some ⟨R, 0, none⟩), .int .u64 x.toNat] w (FindAns w (M x)) := by
  have hk0 := kept_new w (.cells #[.slice none 0 0, .int .i64 0, .int .i64 0, .int .i64 0] 50)
  have hmc := (h.kept hk0).mapc
  have hlk := (h.kept hk0).look_ok x
  have hlt := h.lt
  have hth := h.there_is x
  obtain ⟨a, c, hv, hl, hc, hi⟩ := h.deed x
  rw [hv, hth] at hlk
  unfold deedV at hlk
  clear h hv hth
  unfold FindAns
  obtain ⟨r, hr⟩ : ∃ r, (M x).isSome = r := ⟨_, rfl⟩
  rw [hr] at hlk ⊢
  clear hr
  obtain ⟨d, hd⟩ : ∃ d, (M x).getD nod = d := ⟨_, rfl⟩
  rw [hd] at hlk hl hi hc ⊢
  clear hd hc hk0
  obtain ⟨l, o, g, f⟩ := d
  simp only at hlk hl hi ⊢
  have HI := Lib.hid hi
  clear hi
  go_enter Tryz.func110, Tryz.ntmps110
  go_wp2
  refine bodyPost_ret (v := .tuple #[.agg #[.slice a l.length c, .int .i64 o, .int .i64 g, .int .i64 f], .bool r]) (by simp [results, Tryz.results110, go_sem]) rfl ?_
  have hk : Below w.heap.size w ((w.alloc (.cells #[.slice a l.length c, .int .i64 o, .int .i64 g, .int .i64 f] 50)).alloc (.cells #[.slice a l.length c, .int .i64 o, .int .i64 g, .int .i64 f] 50)) := kept_alloc (kept_new _ _) _
  exact ⟨a, c, rfl, hl, insAt_kept hk HI.out, hk⟩
set_option maxRecDepth 20000 in
theorem isSpent_any (x : InD) (hx : inOk x) (r : Bool) (hr : sp.contains x = r) (w : World) (h : LedAt w F R M os sp b s n ev v) :
    Calls Tryz.prog 112 #[.pointer (some ⟨R, 0, none⟩), .agg #[.int .u64 x.1.toNat, .int .i64 x.2]] w fun e w' => e = .returned (.bool r) ∧ Below w.heap.size w w' := by
  have hk0 := kept_new w (.cells #[.int .u64 x.1.toNat, .int .i64 x.2] 62)
  have hsc := (h.kept hk0).spentc
  have hlt := h.lt
  have hlk := fun q => seen_look (seen_same (h.kept hk0).spent (w' := (w.alloc (.cells #[.int .u64 x.1.toNat, .int .i64 x.2] 62)).drewN q) rfl) x hx
  rw [hr] at hlk
  clear h hr
  go_enter Tryz.func112, Tryz.ntmps112
  go_wp2_with fail
  go_quiet (fail)
  go_wp2_with fail
  go_ret
  exact ⟨rfl, below_drewN hk0 _⟩
set_option maxRecDepth 20000 in
theorem hasJ_any (x : UInt64) (w : World) (h : LedAt w F R M os sp b s n ev v) (r : Bool) (hr : (M x).isSome = r) :
    Calls Tryz.prog 107 #[.pointer (some ⟨R, 0, none⟩), .int .u64 x.toNat] w fun e w' => e = .returned (.bool r) ∧ Below w.heap.size w w' := by
  have H := Lib.hid h
  have HR := Lib.hid hr
  clear h hr
  go_enter Tryz.func107, Tryz.ntmps107
  go_wp2_with fail
  with_reducible refine (find_any x _ H.out).mono ?_
  rintro e w1 ⟨a, c, rfl, hl, hi, hb1⟩
  rw [HR.out]
  obtain ⟨d, hd⟩ : ∃ d, (M x).getD nod = d := ⟨_, rfl⟩
  rw [hd]
  clear hd hl hi
  go_wp2_with fail
  go_ret
  exact ⟨rfl, kept_alloc hb1 _⟩
/-- A function value that finds the deed of an ID, in every world that keeps K. -/
def FindsN (K : World → Prop) (f : FuncId) (pre cap : Array Value) (M : UInt64 → Option DeedD) : Prop :=
  (∀ (args : Array Value) (w : World), (callFunc f args).run Tryz.prog w = .ok (.enter f args) w) ∧
  ∀ (x : UInt64) (w : World), K w → Calls Tryz.prog f (pre.push (.int .u64 x.toNat) ++ cap) w (FindAns w (M x))
set_option maxRecDepth 20000 in
theorem missing_any (K : World → Prop) (hK : ∀ a b, K a → Below a.heap.size a b → K b) (f : FuncId) (pre cap : Array Value) (M : UInt64 → Option DeedD) (hp : FindsN K f pre cap M) (d : DeedD) (a : Option Addr) (cp : Nat) (w : World) (hw : K w) (hl : d.ins.length ≤ 8) (hi : InsAt w a d.ins) :
    Calls Tryz.prog 109 #[.agg #[.slice a d.ins.length cp, .int .i64 d.outs, .int .i64 d.weight, .int .i64 d.fee], .func (.func f) pre cap] w (GaveIds w (missL M d.ins)) := by
  have hcf := hp.1
  have HP := Lib.hid hp.2
  have HK := Lib.hid hK
  have hk0 := kept_new w (.cells #[.slice a d.ins.length cp, .int .i64 d.outs, .int .i64 d.weight, .int .i64 d.fee] 50)
  have HW := Lib.hid (hK _ _ hw hk0)
  have HI := Lib.hid (insAt_kept hk0 hi)
  have HB0 := Lib.hid hk0
  clear hp hK hw hi hk0
  obtain ⟨l, o, g, fe⟩ := d
  simp only at hl HI HB0 HW ⊢
  go_enter Tryz.func109, Tryz.ntmps109
  go_wp2_with fail
  obtain ⟨w0, hw0⟩ : ∃ x, x = w.alloc (.cells #[.slice a l.length cp, .int .i64 o, .int .i64 g, .int .i64 fe] 50) := ⟨_, rfl⟩
  rw [← hw0] at HI HB0 HW ⊢
  clear hw0
  go_loopw [5, 13] (fun vi i wr => ∃ k : Nat, k ≤ l.length ∧ i = .int .i64 k ∧ Hid (OwnIds wr w0.heap.size vi (missL M (l.take k))) ∧ Hid (Below w0.heap.size w0 wr)) (fun _ i _ => l.length - (intOf i).toNat)
  case atStart => exact ⟨0, Nat.zero_le _, rfl, Lib.hid (ownIds_nil _ _), Lib.hid (Below.refl _ _)⟩
  case round =>
    obtain ⟨k, hk, rfl, HO, HB⟩ := hrel
    rename_i u5
    by_cases hkl : k < l.length
    · obtain ⟨bb, oo, rfl, hbb, c0, c1, _⟩ := insAt_kept HB.out HI.out k hkl
      have hst := missL_step (M := M) hkl
      have hlen := missL_length M (l.take k)
      rw [List.length_take] at hlen
      obtain ⟨⟨ix, ia⟩, hix⟩ : ∃ q, l[k] = q := ⟨_, rfl⟩
      rw [hix] at c0 c1 hst
      simp only at c0 c1 hst
      have hk1 := kept_new wr (.cells #[.int .u64 ix.toNat, .int .i64 ia] 62)
      have HK1 := Lib.hid hk1
      have HW1 := Lib.hid (HK.out _ _ HW.out (kept_trans HB.out hk1))
      clear hix hk1
      go_wp2_with fail
      with_reducible refine (HP.out ix _ HW1.out).mono ?_
      rintro e w1 ⟨a1, cc1, rfl, _, _, hb1⟩
      obtain ⟨d0, d1, hs1⟩ := box_pair hb1
      have hb2 := kept_trans HK1.out hb1
      obtain ⟨dd, hdd⟩ : ∃ d, (M ix).getD nod = d := ⟨_, rfl⟩
      rw [hdd]
      obtain ⟨dl, dO, dg, df⟩ := dd
      simp only
      have hk3 := kept_new w1 (.cells #[.slice a1 dl.length cc1, .int .i64 dO, .int .i64 dg, .int .i64 df] 50)
      have hb3 := kept_trans hb2 hk3
      have HO3 := Lib.hid (owns_below HO.out hb3)
      have HB3 := Lib.hid (kept_trans HB.out hb3)
      clear hdd hb1 hb2 hb3 hk3 HK1 HW1
      cases hq : (M ix).isSome with
      | true =>
        rw [if_pos hq] at hst
        have HST := Lib.hid hst
        clear hst hq
        go_wp2_with fail
        go_roundw
        case rel => exact ⟨k + 1, by omega, by go_num, Lib.hid (by rw [HST.out]; exact HO3.out), HB3⟩
        case measure => simp [intOf]; omega
      | false =>
        rw [if_neg (by rw [hq]; simp)] at hst
        obtain ⟨ja, jc, rfl, _, hids, _⟩ := owns_idsAt HO3.out
        have HIDS := Lib.hid hids
        clear hids hq
        cases hc : (missL M (l.take k)).contains ix with
        | true =>
          rw [if_pos hc] at hst
          have HST := Lib.hid hst
          have HQ := Lib.hid hc
          clear hst hc
          go_wp2_with fail
          with_reducible refine (idHas_any ix _ true HQ.out _ _ _ (by omega) HIDS.out).mono ?_
          rintro e w2 ⟨rfl, hb2⟩
          have HO4 := Lib.hid (owns_below HO3.out hb2)
          have HB4 := Lib.hid (kept_trans HB3.out hb2)
          clear hb2
          go_wp2_with fail
          go_roundw
          case rel => exact ⟨k + 1, by omega, by go_num, Lib.hid (by rw [HST.out]; exact HO4.out), HB4⟩
          case measure => simp [intOf]; omega
        | false =>
          rw [if_neg (by rw [hc]; simp)] at hst
          have HST := Lib.hid hst
          have HQ := Lib.hid hc
          clear hst hc
          go_wp2_with fail
          with_reducible refine (idHas_any ix _ false HQ.out _ _ _ (by omega) HIDS.out).mono ?_
          rintro e w2 ⟨rfl, hb2⟩
          have d0' := kept_cell (kept_trans (kept_new _ _) hb2) d0
          have hs2 := (cell_spot d0').2
          have HO4 := Lib.hid (owns_below HO3.out hb2)
          have HB4 := Lib.hid (kept_trans HB3.out hb2)
          clear hb2
          go_wp2_with (at_builtin; refine append_id rfl _ _ rfl ix rfl rfl HO4.out (by omega) HB4.out.size ?_; intro g4 cap4 w4 ho4 hg4 hg5)
          have HO5 := Lib.hid ho4
          have HB5 := Lib.hid (HB4.out.grown hg5 HB4.out.size (fun j hj => (HO4.out.lt j hj).1))
          clear ho4 hg4 hg5
          go_wp2_with fail
          go_roundw
          case rel => exact ⟨k + 1, by omega, by go_num, Lib.hid (by rw [HST.out]; simpa using HO5.out), HB5⟩
          case measure => simp [intOf]; omega
    · have he : l.take k = l := List.take_of_length_le (by omega)
      have HO' := HO.out
      rw [he] at HO'
      obtain ⟨a6, cap6, e6, _, _, _⟩ := owns_idsAt HO'
      subst e6
      have HE := Lib.hid HO'
      clear HO' he
      go_wp2_with fail
      go_ret
      exact ⟨a6, cap6, rfl, own_mono HE.out HB0.out.size, kept_trans HB0.out HB.out⟩
end
end Go.Proofs.YtaaaplbjeknbkaaGreat.So.Ju

/-
  Contracts of package judge: isWicked, payment, Judge.
-/
namespace Go.Proofs.YtaaaplbjeknbkaaGreat.So.Ju
section
open Go.Proofs.YtaaaplbjeknbkaaGreat.Ju
open Go.RowKit Go.Maps

variable {w w' : World} {F : Nat → Prop} {R : Nat} {M : UInt64 → Option DeedD} {os : List UInt64} {sp : List InD} {b s n : Nat} {ev : UInt64 → Option Value} {v : Value}

/-- A function value that says of an In whether it is spent, in every world that keeps K. -/
def SpendsN (K : World → Prop) (f : FuncId) (pre cap : Array Value) (q : InD → Bool) : Prop :=
  (∀ (args : Array Value) (w : World), (callFunc f args).run Tryz.prog w = .ok (.enter f args) w) ∧
  ∀ (x : InD) (w : World), inOk x → K w → Calls Tryz.prog f (pre.push (.agg #[.int .u64 x.1.toNat, .int .i64 x.2]) ++ cap) w fun e w' => e = .returned (.bool (q x)) ∧ Below w.heap.size w w'
theorem finds_led : FindsN (fun w => LedAt w F R M os sp b s n ev v) 110 #[.pointer (some ⟨R, 0, none⟩)] #[] M :=
  ⟨fun _ _ => by kernel_rfl, fun x w hw => find_any x w hw⟩
theorem spends_led : SpendsN (fun w => LedAt w F R M os sp b s n ev v) 112 #[.pointer (some ⟨R, 0, none⟩)] #[] (fun e => sp.contains e) :=
  ⟨fun _ _ => by kernel_rfl, fun x w hx hw => isSpent_any x hx _ rfl w hw⟩
/-- A function value that says of an In whether it is chosen, in every world that keeps K. -/
def PicksO (K : World → Prop) (f : FuncId) (cap : Array Value) (q : InD → Bool) : Prop :=
  (∀ (args : Array Value) (w : World), (callFunc f args).run Tryz.prog w = .ok (.enter f args) w) ∧
  ∀ (e : InD) (w : World), inOk e → K w → Calls Tryz.prog f (#[inV e] ++ cap) w fun x w' => x = .returned (.bool (q e)) ∧ Below w.heap.size w w'
theorem inIndexO_any (K : World → Prop) (hK : ∀ a b, K a → Below a.heap.size a b → K b) (f : FuncId) (cap : Array Value) (q : InD → Bool) (hp : PicksO K f cap q) (l : List InD) (a : Option Addr) (cp : Nat) (w : World) (hw : K w) (hl : l.length ≤ 1000) (hi : InsAt w a l) :
    Calls Tryz.prog 162 #[.slice a l.length cp, .func (.func f) #[] cap] w fun e w' => e = .returned (.int .i64 (firstAt q l)) ∧ Below w.heap.size w w' := by
  have hcf := hp.1
  have HP := Lib.hid hp.2
  have HK := Lib.hid hK
  have HW := Lib.hid hw
  clear hp hK hw
  go_enter Tryz.func162, Tryz.ntmps162
  go_wp2
  go_loopw [8] (fun i wr => ∃ k : Nat, k ≤ l.length ∧ i = .int .i64 k ∧ Hid ((l.take k).findIdx? q = none) ∧ Below w.heap.size w wr) (fun i _ => l.length - (intOf i).toNat)
  case atStart => exact ⟨0, Nat.zero_le _, rfl, Lib.hid rfl, Below.refl _ _⟩
  case round =>
    obtain ⟨k, hk, rfl, NO, hbel⟩ := hrel
    by_cases hlt : k < l.length
    · obtain ⟨b, o, rfl, hb, c0, c1, hok⟩ := insAt_kept hbel hi k hlt
      have HOK : Hid (inOk l[k]) := Lib.hid hok
      clear hok
      go_wp2_with fail
      refine (HP.out l[k] _ HOK.out (HK.out _ _ HW.out hbel)).mono ?_
      rintro e w1 ⟨rfl, hb1⟩
      cases hq : q l[k] with
      | true =>
        have HQ := Lib.hid hq
        clear hq
        go_wp2
        go_ret
        refine ⟨ret_i64 ?_, kept_trans hbel hb1⟩
        exact (firstAt_hit hlt NO.out HQ.out).symm
      | false =>
        have HQ := Lib.hid hq
        clear hq
        go_wp2
        go_roundw
        case rel => exact ⟨k + 1, by omega, by go_num, Lib.hid (firstAt_miss hlt NO.out HQ.out), kept_trans hbel hb1⟩
        case measure => simp [intOf]; omega
    · go_wp2
      go_ret
      refine ⟨ret_i64 ?_, hbel⟩
      have := NO.out
      rw [List.take_of_length_le (by omega)] at this
      unfold firstAt
      rw [this]
theorem inContainsO_any (K : World → Prop) (hK : ∀ a b, K a → Below a.heap.size a b → K b) (f : FuncId) (fc : Array Value) (q : InD → Bool) (hp : PicksO K f fc q) (l : List InD) (a : Option Addr) (cp : Nat) (w : World) (hw : K w) (hl : l.length ≤ 1000) (hi : InsAt w a l) :
    Calls Tryz.prog 142 #[.slice a l.length cp, .func (.func f) #[] fc] w fun e w' => e = .returned (.bool (l.any q)) ∧ Below w.heap.size w w' := by
  have HP := Lib.hid hp
  have HK := Lib.hid hK
  have HW := Lib.hid hw
  have HI := Lib.hid hi
  clear hp hK hw hi
  go_enter Tryz.func142, Tryz.ntmps142
  go_wp2_with fail
  refine (inIndexO_any K HK.out f fc q HP.out l _ _ w HW.out hl HI.out).mono ?_
  rintro e w1 ⟨rfl, hb1⟩
  have e1 := firstAt_neg q l
  obtain ⟨i, hi⟩ : ∃ i, firstAt q l = i := ⟨_, rfl⟩
  rw [hi] at e1 ⊢
  go_wp2
  go_ret
  exact ⟨rfl, hb1⟩
/-- What the closure of isWicked captured. -/
def Caught (c1 c2 : Nat) (f1 : FuncId) (p1 q1 : Array Value) (f2 : FuncId) (p2 q2 : Array Value) (w : World) : Prop := w.cell? ⟨c1, 0, none⟩ = some (.func (.func f1) p1 q1) ∧ w.cell? ⟨c2, 0, none⟩ = some (.func (.func f2) p2 q2)
set_option maxRecDepth 20000 in
theorem wicked1_any (K : World → Prop) (hK : ∀ a b, K a → Below a.heap.size a b → K b) (f1 f2 : FuncId) (p1 q1 p2 q2 : Array Value) (M : UInt64 → Option DeedD) (q : InD → Bool) (h1 : FindsN K f1 p1 q1 M) (h2 : SpendsN K f2 p2 q2 q) (c1 c2 : Nat) (e : InD) (he : inOk e) (w : World) (hw : K w) (hc : Caught c1 c2 f1 p1 q1 f2 p2 q2 w) (r : Bool) (hr : badIn M q e = r) :
    Calls Tryz.prog 144 #[.agg #[.int .u64 e.1.toNat, .int .i64 e.2], .pointer (some ⟨c1, 0, none⟩), .pointer (some ⟨c2, 0, none⟩)] w fun x w' => x = .returned (.bool r) ∧ Below w.heap.size w w' := by
  have hf1 := h1.1
  have hf2 := h2.1
  have H1 := Lib.hid h1.2
  have H2 := Lib.hid h2.2
  have HK := Lib.hid hK
  have hk0 := kept_new w (.cells #[.int .u64 e.1.toNat, .int .i64 e.2] 62)
  have HW := Lib.hid (hK _ _ hw hk0)
  have z1 := kept_cell hk0 hc.1
  have z2 := kept_cell hk0 hc.2
  have s1 := (cell_spot hc.1).2
  have s2 := (cell_spot hc.2).2
  have HB0 := Lib.hid hk0
  have HE := Lib.hid he
  have HR := Lib.hid hr
  clear h1 h2 hK hw hc hk0 he hr
  obtain ⟨ex, ea⟩ := e
  simp only at HW z1 z2 HB0 HE HR ⊢
  go_enter Tryz.func144, Tryz.ntmps144
  go_wp2_with fail
  with_reducible refine (H1.out ex _ HW.out).mono ?_
  rintro x w1 ⟨a1, cc1, rfl, _, _, hb1⟩
  obtain ⟨d0, d1, hs1⟩ := box_pair hb1
  obtain ⟨dd, hdd⟩ : ∃ d, (M ex).getD nod = d := ⟨_, rfl⟩
  rw [hdd]
  have hbad : r = (decide (ea ≥ dd.outs) || q (ex, ea)) := by rw [← HR.out]; unfold badIn; rw [hdd]
  obtain ⟨dl, dO, dg, df⟩ := dd
  simp only
  obtain ⟨rr, hrr⟩ : ∃ r, (M ex).isSome = r := ⟨_, rfl⟩
  rw [hrr]
  have hk3 := kept_new w1 (.cells #[.slice a1 dl.length cc1, .int .i64 dO, .int .i64 dg, .int .i64 df] 50)
  have HW3 := Lib.hid (HK.out _ _ HW.out (kept_trans hb1 hk3))
  have y2 := kept_cell hb1 z2
  have y3 := (cell_spot y2).2
  have HB3 := Lib.hid (kept_trans (kept_trans HB0.out hb1) hk3)
  clear hdd hrr hb1 hk3
  simp only at hbad
  by_cases hge : ea ≥ dO
  · have hd : decide (ea ≥ dO) = true := decide_eq_true hge
    rw [hd, Bool.true_or] at hbad
    have HQ := Lib.hid hbad
    clear hge hbad
    go_wp2_with fail
    go_ret
    exact ⟨ret_bool HQ.out.symm, HB3.out⟩
  · have hd : decide (ea ≥ dO) = false := decide_eq_false hge
    rw [hd, Bool.false_or] at hbad
    have HQ := Lib.hid hbad
    clear hge hbad
    go_wp2_with fail
    with_reducible refine (H2.out (ex, ea) _ HE.out HW3.out).mono ?_
    rintro x w4 ⟨rfl, hb4⟩
    go_wp2_with fail
    go_ret
    exact ⟨ret_bool HQ.out.symm, kept_trans HB3.out hb4⟩
theorem caught_kept {c1 c2 : Nat} {f1 f2 : FuncId} {p1 q1 p2 q2 : Array Value} {a b : World} (h : Caught c1 c2 f1 p1 q1 f2 p2 q2 a) (hb : Below a.heap.size a b) : Caught c1 c2 f1 p1 q1 f2 p2 q2 b := ⟨kept_cell hb h.1, kept_cell hb h.2⟩
set_option maxRecDepth 20000 in
theorem isWicked_any (K : World → Prop) (hK : ∀ a b, K a → Below a.heap.size a b → K b) (f1 f2 : FuncId) (p1 q1 p2 q2 : Array Value) (M : UInt64 → Option DeedD) (q : InD → Bool) (h1 : FindsN K f1 p1 q1 M) (h2 : SpendsN K f2 p2 q2 q) (d : DeedD) (a : Option Addr) (cp : Nat) (w : World) (hw : K w) (hl : d.ins.length ≤ 8) (hi : InsAt w a d.ins) (r : Bool) (hr : wickedL M q d.ins = r) :
    Calls Tryz.prog 111 #[.agg #[.slice a d.ins.length cp, .int .i64 d.outs, .int .i64 d.weight, .int .i64 d.fee], .func (.func f1) p1 q1, .func (.func f2) p2 q2] w fun e w' => e = .returned (.bool r) ∧ Below w.heap.size w w' := by
  obtain ⟨l, o, g, fe⟩ := d
  simp only at hl hi hr ⊢
  obtain ⟨w3, hw3⟩ : ∃ x, x = ((w.alloc (.cells #[.slice a l.length cp, .int .i64 o, .int .i64 g, .int .i64 fe] 50)).alloc (.cells #[.func (.func f1) p1 q1] 160)).alloc (.cells #[.func (.func f2) p2 q2] 162) := ⟨_, rfl⟩
  have hk3 : Below w.heap.size w w3 := by rw [hw3]; exact kept_alloc (kept_alloc (kept_new _ _) _) _
  have hcau : Caught (w.heap.size + 1) (w.heap.size + 2) f1 p1 q1 f2 p2 q2 w3 := by
    rw [hw3]
    constructor
    · simp [go_sem]
    · simp [go_sem]
  have HP : Hid (PicksO (fun w => K w ∧ Caught (w3.heap.size - 2) (w3.heap.size - 1) f1 p1 q1 f2 p2 q2 w) 144 #[.pointer (some ⟨w.heap.size + 1, 0, none⟩), .pointer (some ⟨w.heap.size + 2, 0, none⟩)] (badIn M q)) := Lib.hid ⟨fun _ _ => by kernel_rfl, fun e we he hwe => by
    have hz : w3.heap.size = w.heap.size + 3 := by rw [hw3]; simp
    rw [hz] at hwe
    exact wicked1_any K hK f1 f2 p1 q1 p2 q2 M q h1 h2 _ _ e he we hwe.1 hwe.2 _ rfl⟩
  have HW : Hid (K w3 ∧ Caught (w3.heap.size - 2) (w3.heap.size - 1) f1 p1 q1 f2 p2 q2 w3) := Lib.hid ⟨hK _ _ hw hk3, by
    have hz : w3.heap.size = w.heap.size + 3 := by rw [hw3]; simp
    rw [hz]
    exact hcau⟩
  have HKK : Hid (∀ a b, (K a ∧ Caught (w3.heap.size - 2) (w3.heap.size - 1) f1 p1 q1 f2 p2 q2 a) → Below a.heap.size a b → (K b ∧ Caught (w3.heap.size - 2) (w3.heap.size - 1) f1 p1 q1 f2 p2 q2 b)) := Lib.hid fun a b h hb => ⟨hK a b h.1 hb, caught_kept h.2 hb⟩
  have HI := Lib.hid (insAt_kept hk3 hi)
  have HB := Lib.hid hk3
  have HW3 := Lib.hid hw3
  have HR := Lib.hid hr
  clear hK h1 h2 hw hi hk3 hcau hw3 hr
  go_enter Tryz.func111, Tryz.ntmps111
  go_wp2_with fail
  rw [← HW3.out]
  refine (inContainsO_any _ HKK.out _ _ _ HP.out l _ _ _ HW.out (by omega) HI.out).mono ?_
  rintro e w4 ⟨rfl, hb4⟩
  rw [show l.any (badIn M q) = r from HR.out]
  go_wp2_with fail
  go_ret
  exact ⟨rfl, kept_trans HB.out hb4⟩
end
end Go.Proofs.YtaaaplbjeknbkaaGreat.So.Ju

/-
  Contracts of package judge: payment, Judge.
-/
namespace Go.Proofs.YtaaaplbjeknbkaaGreat.So.Ju
section
open Go.Proofs.YtaaaplbjeknbkaaGreat.Ju
open Go.RowKit Go.Maps

variable {w w' : World} {F : Nat → Prop} {R : Nat} {M : UInt64 → Option DeedD} {os : List UInt64} {sp : List InD} {b s n : Nat} {ev : UInt64 → Option Value} {v : Value}

def feesL (l : List DeedH) : Int := (l.map fun q => q.d.fee).sum
def weightsL (l : List DeedH) : Int := (l.map fun q => q.d.weight).sum
theorem feesL_step {l : List DeedH} {k : Nat} (h : k < l.length) : feesL (l.take (k + 1)) = feesL (l.take k) + l[k].d.fee := by unfold feesL; rw [List.take_succ_eq_append_getElem h, List.map_append, List.sum_append, List.map_cons, List.map_nil, List.sum_cons, List.sum_nil, Int.add_zero]
theorem weightsL_step {l : List DeedH} {k : Nat} (h : k < l.length) : weightsL (l.take (k + 1)) = weightsL (l.take k) + l[k].d.weight := by unfold weightsL; rw [List.take_succ_eq_append_getElem h, List.map_append, List.sum_append, List.map_cons, List.map_nil, List.sum_cons, List.sum_nil, Int.add_zero]
theorem sums_bound {l : List DeedH} (hf : ∀ q ∈ l, checkD q.d = 0) : ∀ k, k ≤ l.length → 0 ≤ feesL (l.take k) ∧ feesL (l.take k) ≤ 1000 * k ∧ 0 ≤ weightsL (l.take k) ∧ weightsL (l.take k) ≤ 1000 * k := fun k => by
  induction k with
  | zero => intro _; simp [feesL, weightsL]
  | succ k ih =>
    intro hk
    have := ih (by omega)
    obtain ⟨_, _, _, _, h5, h6⟩ := check_ok (hf _ (List.getElem_mem (show k < l.length by omega)))
    rw [feesL_step (by omega), weightsL_step (by omega)]
    omega
/-- The cells of deeds in a row. -/
def RowOf (w : World) (a : Option Addr) (l : List DeedH) : Prop := ∀ i (h : i < l.length), ∃ b o, a = some ⟨b, o, none⟩ ∧ b < w.heap.size ∧ DeedHCells w b (o + i * 4) l[i]
theorem deedH_kept {w w' : World} {b o : Nat} {q : DeedH} (hb : Below w.heap.size w w') (h : DeedHCells w b o q) : DeedHCells w' b o q := ⟨kept_cell hb h.1, kept_cell hb h.2.1, kept_cell hb h.2.2.1, kept_cell hb h.2.2.2⟩
theorem rowOf_kept {a : Option Addr} {l : List DeedH} (h : RowOf w a l) (hb : Below w.heap.size w w') : RowOf w' a l := fun i hi => by
  obtain ⟨b, o, e, hlt, hc⟩ := h i hi
  exact ⟨b, o, e, Nat.lt_of_lt_of_le hlt hb.size, deedH_kept hb hc⟩
set_option maxRecDepth 20000 in
theorem payment_any (l : List DeedH) (a : Option Addr) (cap : Nat) (w : World) (hl : l.length ≤ 2) (hf : ∀ q ∈ l, checkD q.d = 0) (hi : RowOf w a l) (r : Int) (hr : payI (feesL l) (weightsL l) = r) :
    Calls Tryz.prog 113 #[.slice a l.length cap] w fun e w' => e = .returned (.int .i64 r) ∧ Below w.heap.size w w' := by
  have HF := Lib.hid (sums_bound hf)
  have HI := Lib.hid hi
  have HR := Lib.hid hr
  have HC := Lib.hid hf
  clear hf hi hr
  go_enter Tryz.func113, Tryz.ntmps113
  go_wp2_with fail
  go_loopw [3, 4, 9] (fun x y i wr => ∃ k : Nat, k ≤ l.length ∧ i = .int .i64 k ∧ x = .int .i64 (feesL (l.take k)) ∧ y = .int .i64 (weightsL (l.take k)) ∧ Hid (Below w.heap.size w wr)) (fun _ _ i _ => l.length - (intOf i).toNat)
  case atStart => exact ⟨0, Nat.zero_le _, rfl, rfl, rfl, Lib.hid (Below.refl _ _)⟩
  case round =>
    obtain ⟨k, hk, rfl, rfl, rfl, HB⟩ := hrel
    have hbd := HF.out k hk
    by_cases hkl : k < l.length
    · obtain ⟨bb, oo, rfl, hbb, c0, c1, c2, c3⟩ := rowOf_kept HI.out HB.out k hkl
      have e1 := feesL_step hkl
      have e2 := weightsL_step hkl
      obtain ⟨_, _, _, _, h5, h6⟩ := check_ok (HC.out _ (List.getElem_mem hkl))
      obtain ⟨⟨qa, qc, ⟨ql, qo, qw, qf⟩⟩, hq⟩ : ∃ q, l[k] = q := ⟨_, rfl⟩
      rw [hq] at c0 c1 c2 c3 e1 e2 h5 h6
      simp only at c0 c1 c2 c3 e1 e2 h5 h6
      obtain ⟨X, hX⟩ : ∃ X, feesL (l.take k) = X := ⟨_, rfl⟩
      obtain ⟨Y, hY⟩ : ∃ Y, weightsL (l.take k) = Y := ⟨_, rfl⟩
      rw [hX] at e1 hbd ⊢
      rw [hY] at e2 hbd ⊢
      have E1 := Lib.hid e1
      have E2 := Lib.hid e2
      clear hX hY e1 e2 hq
      go_wp2_with fail
      go_roundw
      case rel => exact ⟨k + 1, by omega, by go_num, by rw [E1.out], by rw [E2.out], Lib.hid (kept_alloc HB.out _)⟩
      case measure => simp [intOf]; omega
    · have he : l.take k = l := List.take_of_length_le (by omega)
      rw [he] at hbd ⊢
      obtain ⟨X, hX⟩ : ∃ X, feesL l = X := ⟨_, rfl⟩
      obtain ⟨Y, hY⟩ : ∃ Y, weightsL l = Y := ⟨_, rfl⟩
      rw [hX, hY] at hbd ⊢
      have hr := HR.out
      rw [hX, hY] at hr
      unfold payI at hr
      clear hX hY he
      by_cases hlt : 10 * X < Y
      · rw [if_pos hlt] at hr
        have HQ := Lib.hid hr
        clear hr
        go_wp2_with fail
        go_ret
        exact ⟨ret_i64 HQ.out, HB.out⟩
      · rw [if_neg hlt] at hr
        have HQ := Lib.hid hr
        clear hr
        go_wp2_with fail
        go_ret
        exact ⟨ret_i64 HQ.out, HB.out⟩
/-- Judge's answers: a state, IDs in new memory, an error. -/
def GaveJ (w : World) (q : Int × List UInt64 × Int) (e : Ending) (w' : World) : Prop := ∃ a cap, e = .returned (.tuple #[.int .i64 q.1, .slice a q.2.1.length cap, .int .i64 q.2.2]) ∧ OwnIds w' w.heap.size (.slice a q.2.1.length cap) q.2.1 ∧ Below w.heap.size w w'
/-- Judge's answers, over what is found and spent. -/
def judgeM (M : UInt64 → Option DeedD) (q : InD → Bool) (d : DeedD) : Int × List UInt64 × Int := if checkD d ≠ 0 then (0, [], checkD d) else (stateM M q d, missL M d.ins, 0)
set_option maxRecDepth 20000 in
theorem judge_err (d : DeedD) (a : Option Addr) (cap : Nat) (w : World) (hi : InsAt w a d.ins) (r : Int) (hr : checkD d = r) (h0 : r ≠ 0) :
    Calls Tryz.prog 69 #[.pointer (some ⟨R, 0, none⟩), .agg #[.slice a d.ins.length cap, .int .i64 d.outs, .int .i64 d.weight, .int .i64 d.fee]] w (GaveJ w (0, [], r)) := by
  have hk0 := kept_new w (.cells #[.slice a d.ins.length cap, .int .i64 d.outs, .int .i64 d.weight, .int .i64 d.fee] 50)
  have HI := Lib.hid (insAt_kept hk0 hi)
  have HR := Lib.hid hr
  have hrb : (r != 0) = true := by simpa using h0
  clear hi hr
  go_enter Tryz.func69, Tryz.ntmps69
  go_wp2_with fail
  with_reducible refine (check_is d _ _ _ r HI.out HR.out).mono ?_
  rintro e w1 ⟨rfl, hb1⟩
  go_wp2_with fail
  go_ret3
  exact ⟨none, 0, rfl, ownIds_nil _ _, kept_trans hk0 hb1⟩
set_option maxRecDepth 20000 in
theorem judge_ok (d : DeedD) (a : Option Addr) (cap : Nat) (w : World) (h : LedAt w F R M os sp b s n ev v) (hi : InsAt w a d.ins) (hd : checkD d = 0) :
    Calls Tryz.prog 69 #[.pointer (some ⟨R, 0, none⟩), .agg #[.slice a d.ins.length cap, .int .i64 d.outs, .int .i64 d.weight, .int .i64 d.fee]] w (GaveJ w (stateM M (fun e => sp.contains e) d, missL M d.ins, 0)) := by
  have hk0 := kept_new w (.cells #[.slice a d.ins.length cap, .int .i64 d.outs, .int .i64 d.weight, .int .i64 d.fee] 50)
  have HI := Lib.hid (insAt_kept hk0 hi)
  have H := Lib.hid (h.kept hk0)
  have HD := Lib.hid hd
  have HK := Lib.hid hk0
  have hl := (check_ok hd).1
  obtain ⟨m, hm⟩ : ∃ m, missL M d.ins = m := ⟨_, rfl⟩
  obtain ⟨st, hst⟩ : ∃ st, stateM M (fun e => sp.contains e) d = st := ⟨_, rfl⟩
  have hml := missL_length M d.ins
  rw [hm] at hml
  have HM := Lib.hid hm
  have HST := Lib.hid hst
  rw [hm, hst]
  unfold stateM at hst
  rw [hm] at hst
  clear h hi hd hk0 hm
  go_enter Tryz.func69, Tryz.ntmps69
  go_wp2_with fail
  with_reducible refine (check_is d _ _ _ 0 HI.out HD.out).mono ?_
  rintro e w1 ⟨rfl, hb1⟩
  obtain ⟨c0, c1, c2, c3, hs1⟩ := box_four hb1
  have HI1 := Lib.hid (insAt_kept hb1 HI.out)
  have H1 := Lib.hid (H.out.kept hb1)
  have HB1 := Lib.hid (kept_trans HK.out hb1)
  clear hb1
  go_wp2_with fail
  with_reducible refine (missing_any _ (fun _ _ h hb => h.kept hb) _ _ _ M finds_led d a cap _ H1.out hl HI1.out).mono ?_
  rw [HM.out]
  rintro e w2 ⟨a2, cp2, rfl, ho2, hb2⟩
  obtain ⟨g0, g1, g2, g3⟩ : _ ∧ _ ∧ _ ∧ _ := ⟨kept_cell hb2 c0, kept_cell hb2 c1, kept_cell hb2 c2, kept_cell hb2 c3⟩
  have hs2 := (cell_spot g0).2
  have HI2 := Lib.hid (insAt_kept hb2 HI1.out)
  have H2 := Lib.hid (H1.out.kept hb2)
  have HB2 := Lib.hid (kept_trans HB1.out hb2)
  have HO2 := Lib.hid (own_mono ho2 HB1.out.size)
  clear hb2 ho2
  by_cases hne : m ≠ []
  · rw [if_pos hne] at hst
    have hpos : 0 < m.length := List.length_pos_iff.2 hne
    subst hst
    clear hne HST
    go_wp2_with fail
    go_ret3
    exact ⟨a2, cp2, rfl, HO2.out, HB2.out⟩
  · rw [if_neg hne] at hst
    obtain rfl : m = [] := Classical.not_not.1 hne
    clear hne
    cases hw : wickedL M (fun e => sp.contains e) d.ins with
    | true =>
      rw [if_pos hw] at hst
      subst hst
      have HWK := Lib.hid hw
      clear hw HST
      go_wp2_with fail
      with_reducible refine (isWicked_any _ (fun _ _ h hb => h.kept hb) _ _ _ _ _ _ M _ finds_led spends_led d a cap _ H2.out hl HI2.out true HWK.out).mono ?_
      rintro e w3 ⟨rfl, hb3⟩
      go_wp2_with fail
      go_ret3
      exact ⟨none, 0, rfl, ownIds_nil _ _, kept_trans HB2.out hb3⟩
    | false =>
      rw [if_neg (by rw [hw]; simp)] at hst
      have HWK := Lib.hid hw
      have HQ := Lib.hid hst
      clear hw HST hst
      go_wp2_with fail
      with_reducible refine (isWicked_any _ (fun _ _ h hb => h.kept hb) _ _ _ _ _ _ M _ finds_led spends_led d a cap _ H2.out hl HI2.out false HWK.out).mono ?_
      rintro e w3 ⟨rfl, hb3⟩
      obtain ⟨r0, r1, r2, r3⟩ : _ ∧ _ ∧ _ ∧ _ := ⟨kept_cell hb3 g0, kept_cell hb3 g1, kept_cell hb3 g2, kept_cell hb3 g3⟩
      have hs3 := (cell_spot r0).2
      have HROW : Hid (RowOf (w3.alloc (.cells #[.slice a d.ins.length cap, .int .i64 d.outs, .int .i64 d.weight, .int .i64 d.fee] 50)) (some ⟨w3.heap.size, 0, none⟩) [⟨a, cap, d⟩]) := Lib.hid fun i hi => by
        have hi : i < 1 := hi
        obtain rfl : i = 0 := by omega
        refine ⟨w3.heap.size, 0, rfl, by simp, ?_⟩
        unfold DeedHCells
        refine ⟨?_, ?_, ?_, ?_⟩ <;> simp [go_sem]
      have HB3 := Lib.hid (kept_alloc (kept_trans HB2.out hb3) (.cells #[.slice a d.ins.length cap, .int .i64 d.outs, .int .i64 d.weight, .int .i64 d.fee] 50))
      have HP : Hid (payI (feesL [⟨a, cap, d⟩]) (weightsL [⟨a, cap, d⟩]) = st) := Lib.hid (by simpa [feesL, weightsL] using HQ.out)
      have HF : Hid (∀ q ∈ [(⟨a, cap, d⟩ : DeedH)], checkD q.d = 0) := Lib.hid (fun q hq => by rw [List.mem_singleton.1 hq]; exact HD.out)
      clear hb3
      go_wp2_with fail
      refine (payment_any [⟨a, cap, d⟩] _ _ _ (by simp) HF.out HROW.out st HP.out).mono ?_
      rintro e w4 ⟨rfl, hb4⟩
      go_wp2_with fail
      go_ret3
      exact ⟨none, 0, rfl, ownIds_nil _ _, kept_trans HB3.out hb4⟩
theorem judge_any (d : DeedD) (a : Option Addr) (cap : Nat) (w : World) (h : LedAt w F R M os sp b s n ev v) (hi : InsAt w a d.ins) :
    Calls Tryz.prog 69 #[.pointer (some ⟨R, 0, none⟩), .agg #[.slice a d.ins.length cap, .int .i64 d.outs, .int .i64 d.weight, .int .i64 d.fee]] w (GaveJ w (judgeM M (fun e => sp.contains e) d)) := by
  unfold judgeM
  by_cases h0 : checkD d = 0
  · rw [if_neg (not_not_intro h0)]
    exact judge_ok d a cap w h hi h0
  · rw [if_pos h0]
    exact judge_err d a cap w hi _ rfl h0
end
end Go.Proofs.YtaaaplbjeknbkaaGreat.So.Ju

/-
  Contracts of package judge: Deed, All, add.
-/
namespace Go.Proofs.YtaaaplbjeknbkaaGreat.So.Ju
section
open Go.Proofs.YtaaaplbjeknbkaaGreat.Ju
open Go.RowKit Go.Maps

variable {w w' : World} {F : Nat → Prop} {R : Nat} {M : UInt64 → Option DeedD} {os : List UInt64} {sp : List InD} {b s n : Nat} {ev : UInt64 → Option Value} {v : Value}

set_option maxRecDepth 20000 in
theorem deedJ_none (x : UInt64) (w : World) (h : LedAt w F R M os sp b s n ev v) (hx : M x = none) :
    Calls Tryz.prog 119 #[.pointer (some ⟨R, 0, none⟩), .int .u64 x.toNat] w (DeedAns w none) := by
  have H := Lib.hid (h.kept (kept_new w (.cells #[.slice none 0 0, .int .i64 0, .int .i64 0, .int .i64 0] 50)))
  have HX := Lib.hid hx
  clear h hx
  go_enter Tryz.func119, Tryz.ntmps119
  go_wp2_with fail
  with_reducible refine (find_any x _ H.out).mono ?_
  rw [HX.out]
  rintro e w1 ⟨a1, c1, rfl, _, _, hb1⟩
  simp only [Option.getD_none, Option.isSome_none]
  have hB := (hb1.block w.heap.size (by simp)).trans (heap_alloc_new w _)
  have k0 := (head_cell hB 0).trans rfl
  have k1 := (head_cell hB 1).trans rfl
  have k2 := (head_cell hB 2).trans rfl
  have k3 := (head_cell hB 3).trans rfl
  have f0 := frozen_of_row w1 _ 0 _ _ hB
  have f1 := frozen_of_row w1 _ 1 _ _ hB
  have f2 := frozen_of_row w1 _ 2 _ _ hB
  have f3 := frozen_of_row w1 _ 3 _ _ hB
  have hs := (cell_spot k0).2
  have HB := Lib.hid (kept_trans (kept_new _ _) hb1)
  clear hB hb1
  simp only [nod, List.length_nil]
  go_wp2_with fail
  refine bodyPost_ret (v := .tuple #[.agg #[.slice none 0 0, .int .i64 0, .int .i64 0, .int .i64 0], .int .i64 5]) (by simp [results, Tryz.results119, go_sem, k0, k1, k2, k3, hs]) rfl ?_
  have ht := turn_set4 w1 w.heap.size (.slice none 0 0) (.int .i64 0) (.int .i64 0) (.int .i64 0)
  exact ⟨none, 0, rfl, Nat.zero_le _, Nat.zero_le _, fun i hi => absurd hi (by simp [nod]), kept_alloc (HB.out.trans (ht.below (fun k hk => by omega) HB.out.size)) _⟩
set_option maxRecDepth 20000 in
theorem deedJ_some (x : UInt64) (d : DeedD) (w : World) (h : LedAt w F R M os sp b s n ev v) (hx : M x = some d) :
    Calls Tryz.prog 119 #[.pointer (some ⟨R, 0, none⟩), .int .u64 x.toNat] w (DeedAns w (some d)) := by
  have H := Lib.hid (h.kept (kept_new w (.cells #[.slice none 0 0, .int .i64 0, .int .i64 0, .int .i64 0] 50)))
  have HX := Lib.hid hx
  have HF := Lib.hid (h.fine x d hx)
  clear h hx
  go_enter Tryz.func119, Tryz.ntmps119
  go_wp2_with fail
  with_reducible refine (find_any x _ H.out).mono ?_
  rw [HX.out]
  rintro e w1 ⟨a1, c1, rfl, hl1, hi1, hb1⟩
  simp only [Option.getD_some, Option.isSome_some] at hl1 hi1 ⊢
  obtain ⟨dl, dO, dg, df⟩ := d
  simp only at hl1 hi1 ⊢
  have hk := kept_new w1 (.cells #[.slice a1 dl.length c1, .int .i64 dO, .int .i64 dg, .int .i64 df] 50)
  have hB1 := (hk.block w.heap.size (by have := hb1.size; simp at this; omega)).trans ((hb1.block w.heap.size (by simp)).trans (heap_alloc_new w _))
  have HB1 := Lib.hid hB1
  have HI1 := Lib.hid (insAt_kept hk hi1)
  have HB := Lib.hid (kept_trans (kept_trans (kept_new _ _) hb1) hk)
  have HS1 : Hid (w.heap.size < w1.heap.size) := Lib.hid (by have := hb1.size; simp at this; omega)
  clear hB1 hb1 hk hi1
  go_wp2_with fail
  with_reducible refine (clone_any ⟨dl, dO, dg, df⟩ a1 c1 _ hl1 HI1.out).mono ?_
  rintro e w2 ⟨v2, rfl, a2, k2, rfl, ho2, hb2⟩
  have hB := (hb2.block w.heap.size (cell_spot (head_cell HB1.out 0)).2).trans HB1.out
  have c0 := (head_cell hB 0).trans rfl
  have c1 := (head_cell hB 1).trans rfl
  have c2 := (head_cell hB 2).trans rfl
  have c3 := (head_cell hB 3).trans rfl
  have f0 := frozen_of_row w2 _ 0 _ _ hB
  have f1 := frozen_of_row w2 _ 1 _ _ hB
  have f2 := frozen_of_row w2 _ 2 _ _ hB
  have f3 := frozen_of_row w2 _ 3 _ _ hB
  have hs := (cell_spot c0).2
  have HO := Lib.hid ho2
  have HB2 := Lib.hid (kept_trans HB.out hb2)
  clear hB hb2 ho2
  simp only
  go_wp2_with fail
  refine bodyPost_ret (v := .tuple #[.agg #[.slice a2 dl.length k2, .int .i64 dO, .int .i64 dg, .int .i64 df], .int .i64 0]) (by simp [results, Tryz.results119, go_sem, c0, c1, c2, c3]) rfl ?_
  have ht := turn_set4 w2 w.heap.size (.slice a2 dl.length k2) (.int .i64 dO) (.int .i64 dg) (.int .i64 df)
  have ho3 := own_turn HO.out ht (fun k hk e => by have h1 := (HO.out.lt k hk).1; have := HS1.out; simp at h1; omega)
  have ho4 : OwnIns _ _ dl := ⟨ho3.1, ho3.2.imp id fun ⟨g, cap, cur, q1, _, q3⟩ => ⟨g, cap, cur, q1, Nat.zero_le _, q3⟩⟩
  obtain ⟨_, hc4, hi4⟩ := ownIns_slice ho4 (ins_ok HF.out)
  exact ⟨a2, k2, rfl, hl1, hc4, hi4, HB2.out.trans (ht.below (fun k hk => by omega) HB2.out.size)⟩
theorem deedJ_any (x : UInt64) (w : World) (h : LedAt w F R M os sp b s n ev v) :
    Calls Tryz.prog 119 #[.pointer (some ⟨R, 0, none⟩), .int .u64 x.toNat] w (DeedAns w (M x)) := by
  cases hx : M x with
  | none => exact deedJ_none x w h hx
  | some d => exact deedJ_some x d w h hx
/-- All IDs, in new memory. -/
theorem append_noneI (a : Option Addr) (cap : Nat) (ty : TypeId) (w : World) : (Builtin.append_ #[36, 36] ty #[.slice none 0 0, .slice a 0 cap]).run Tryz.prog w = .ok (.slice none 0 0) w := by
  obtain ⟨iE, hiE, _, hz1, _⟩ := info_parts info_u64
  cases a with
  | none => simp [Builtin.append_, run_underlying Tryz.underlying36, Builtin.lenOf, Builtin.firstCells, sizeOf, typeInfo, hiE]
  | some ad => simp [Builtin.append_, run_underlying Tryz.underlying36, Builtin.lenOf, Builtin.firstCells, sizeOf, typeInfo, hiE, loadCells, loadCellsFrom]
theorem step_append_noneI {ops : Array Oper} {rest : List Oper} {o : Oper} {a : Act} {Q : Exit → Act → World → Prop} {w : World} (hgd : o.guard = none) (s x : Operand) (ho : o.op = .call { callee := .builtin .append, args := #[s, x], argTypes := #[36, 36] })
    (ad : Option Addr) (cap : Nat) (hs : a.eval s = .slice none 0 0) (hx : a.eval x = .slice ad 0 cap) (h : wpList Tryz.prog ops Q rest (a.put o.dst (.slice none 0 0)) w) : wpList Tryz.prog ops Q (o :: rest) a w := by
  refine wpList_plain hgd fun K' hK' => ?_
  unfold Oper.wp
  simp [execOp, ho, resolve, invoke, builtin, hs, hx, append_noneI, Result.andThen]
  exact hK' _ _ h
theorem idV_one (l : List UInt64) : ∀ u ∈ l.map idV, u.oneCell' = true := fun u hu => by
  obtain ⟨x, _, rfl⟩ := List.mem_map.1 hu
  rfl
set_option maxRecDepth 20000 in
theorem allJ_any (w : World) (h : LedAt w F R M os sp b s n ev v) (hl : os.length ≤ 10000000000000) :
    Calls Tryz.prog 64 #[.pointer (some ⟨R, 0, none⟩)] w (GaveIds w os) := by
  have hoc := h.orderc.1
  have hlt := h.lt
  have HO := Lib.hid h.order
  clear h
  obtain ⟨ia, icap, rfl, _, hids, _⟩ := owns_idsAt HO.out
  by_cases hnil : os = []
  · subst hnil
    simp only [List.length_nil] at hoc ⊢
    clear hids
    go_enter Tryz.func64, Tryz.ntmps64
    go_wp2_with (at_builtin; refine step_append_noneI rfl _ _ rfl ia icap rfl rfl ?_)
    go_ret
    exact ⟨none, 0, rfl, ownIds_nil _ _, Below.refl _ _⟩
  · have hpos : 0 < os.length := List.length_pos_iff.2 hnil
    obtain ⟨iE, hiE, hz0, hz1, hz2⟩ := info_parts info_u64
    obtain ⟨gg, oo, rfl, _, _⟩ := hids 0 hpos
    have HN : Hid (∀ j u, (os.map idV)[j]? = some u → w.cell? ((⟨gg, oo, none⟩ : Addr).add j) = some u) := Lib.hid fun j u hj => by
      obtain ⟨hj', e⟩ := List.getElem?_eq_some_iff.1 hj
      rw [List.getElem_map] at e
      have hj2 : j < os.length := by simpa using hj'
      obtain ⟨b', o', e', _, c⟩ := hids j hj2
      cases e'
      have f0 : (⟨gg, oo, none⟩ : Addr).add j = ⟨gg, oo + j, none⟩ := by unfold Addr.add; split <;> simp_all
      rw [f0, c, ← e]
      rfl
    have HL := Lib.hid hl
    clear hids hnil
    go_enter Tryz.func64, Tryz.ntmps64
    go_wp2_with (at_builtin; refine wpList_append_lies _ rfl _ _ 36 rfl w.heap.size 22 iE _ 1 8 Tryz.underlying36 hiE hz0 hz1 hz2 rfl (by decide) (.slice none 0 0) 0 [] rfl (World.ownsRow_nil _ _ _ _) ⟨gg, oo, none⟩ os.length icap (os.map idV) rfl (by simp) HN.out (idV_one os) hpos (by have := HL.out; unfold maxLen; omega) (by have := HL.out; omega) (Nat.le_refl _) _ rfl ?_; intro g2 cap2 w2 hown2 hgrow2 _ _)
    have HE : Hid (OwnIds w2 w.heap.size (.slice (some ⟨g2, 0, none⟩) os.length cap2) os) := Lib.hid (by rw [Nat.zero_add] at hown2; exact hown2)
    have HB := Lib.hid (grown_below hgrow2)
    clear hown2 hgrow2
    go_wp2_with fail
    go_ret
    exact ⟨_, _, rfl, HE.out, HB.out⟩
/-- 'append(s, x)' of an ID, to a slice of any length that there is. -/
theorem append_idN {ops : Array Oper} {rest : List Oper} {o : Oper} {a : Act} {Q : Exit → Act → World → Prop} {w : World} (hgd : o.guard = none) (s x : Operand) (ho : o.op = .call { callee := .builtin .append, args := #[s, x], argTypes := #[36, 36] })
    {B : Nat} {v : Value} {d : List UInt64} (y : UInt64) (hs : a.eval s = v) (hx : a.eval x = .slice (some ⟨w.heap.size, 0, none⟩) 1 1) (hown : OwnIds w B v d) (hlen : d.length ≤ 10000000000000) (hB : B ≤ w.heap.size)
    (h : ∀ g cap w', OwnIds w' B (.slice (some ⟨g, 0, none⟩) (d.length + 1) cap) (d ++ [y]) → w.grownBy w' v.ownBlock → (v.ownBlock = some g ∨ w.heap.size ≤ g) → wpList Tryz.prog ops Q rest (a.put o.dst (.slice (some ⟨g, 0, none⟩) (d.length + 1) cap)) w') :
    wpList Tryz.prog ops Q (o :: rest) a (w.alloc (.cells #[.int .u64 y.toNat] 22)) := by
  obtain ⟨i0, hi0, hz0, hz1, hz2⟩ := info_parts info_u64
  refine wpList_append_lies _ hgd s x 36 ho B 22 i0 (.int .u64 0) 1 8 Tryz.underlying36 hi0 hz0 hz1 hz2 rfl (by decide) v d.length (d.map idV) hs (hown.alloc _) ⟨w.heap.size, 0, none⟩ 1 1 [.int .u64 y.toNat] hx rfl (cells_new w _ _) (by simp [Value.oneCell']) (by decide) (by unfold maxLen; omega) (by omega) (by simp; omega) _ rfl ?_
  intro g cap w1 hown' hgrow hat _
  refine h g cap w1 ?_ ((World.grownBy_alloc w _ _).trans hgrow) (hat.imp id (fun e => by rw [e]; simp))
  unfold OwnIds
  rw [List.length_append, List.map_append]
  exact hown'
end
end Go.Proofs.YtaaaplbjeknbkaaGreat.So.Ju

/-
  Contracts of package judge: add.
-/
namespace Go.Proofs.YtaaaplbjeknbkaaGreat.So.Ju
section
open Go.Proofs.YtaaaplbjeknbkaaGreat.Ju
open Go.RowKit Go.Maps

variable {w w' : World} {F : Nat → Prop} {R : Nat} {M : UInt64 → Option DeedD} {os : List UInt64} {sp : List InD} {b s n : Nat} {ev : UInt64 → Option Value} {v : Value}

set_option maxRecDepth 20000 in
set_option maxHeartbeats 1000000 in
theorem add_any (x : UInt64) (d : DeedD) (a : Option Addr) (cap : Nat) (hos : ∀ y, (M y).isSome = true → y ∈ os) (hol : os.length ≤ 5000000000000) (hn : n ≤ 100000000000000) (hd : checkD d = 0) (w : World) (h : LedAt w F R M os sp b s n ev v) (hi : InsAt w a d.ins) (hout : ∀ bb o, d.ins ≠ [] → a = some ⟨bb, o, none⟩ → ¬ F bb) :
    Calls Tryz.prog 108 #[.pointer (some ⟨R, 0, none⟩), .int .u64 x.toNat, .agg #[.slice a d.ins.length cap, .int .i64 d.outs, .int .i64 d.weight, .int .i64 d.fee]] w fun e w' => e = .returned (.tuple #[]) ∧ ∃ F' ev' v', LedAt w' F' R (upd M x (some d)) (os ++ [x]) (sp ++ d.ins) b s (n + d.ins.length) ev' v' ∧ Turn F F' w w' := by
  obtain ⟨l, o, g, f⟩ := d
  simp only at hi hout ⊢
  obtain ⟨w0, hw0⟩ : ∃ x, x = w.alloc (.cells #[.slice a l.length cap, .int .i64 o, .int .i64 g, .int .i64 f] 50) := ⟨_, rfl⟩
  have hk0 : Below w.heap.size w w0 := hw0 ▸ kept_new _ _
  have hbox0 : w0.heap[w.heap.size]? = some (.cells #[.slice a l.length cap, .int .i64 o, .int .i64 g, .int .i64 f] 50 (0, 0)) := hw0 ▸ heap_alloc_new _ _
  have hmc := h.mapc
  have hlt := h.lt
  have hnn := map_not_nil
  have HD := Lib.hid (h.kept hk0.drew)
  have HI := Lib.hid (insAt_kept hk0.drew hi)
  have hl := (check_ok hd).1
  have HC := Lib.hid hd
  have HOS := Lib.hid hos
  have HTD : Hid (Turn F F w w0.drew) := Lib.hid (Turn.of_below hk0.drew)
  have HNB : Hid (∀ k, F k → k < w.heap.size) := Lib.hid h.there
  have HOUT := Lib.hid hout
  have HBOX : Hid (w0.drew.heap[w.heap.size]? = some (.cells #[.slice a l.length cap, .int .i64 o, .int .i64 g, .int .i64 f] 50 (0, 0))) := Lib.hid hbox0
  have HW0 := Lib.hid hw0
  have HBI : Hid (∀ bb oo, l ≠ [] → a = some ⟨bb, oo, none⟩ → bb < w.heap.size) := Lib.hid (fun bb oo hne e => by
    obtain ⟨b', o', e', hb', _⟩ := hi 0 (List.length_pos_iff.2 hne)
    rw [e] at e'
    cases e'
    exact hb')
  simp only at hl
  clear h hi hos hd hout hw0 hbox0 hk0
  go_enter Tryz.func108, Tryz.ntmps108
  go_wp2_with fail
  rw [← HW0.out]
  have hmc0 : w0.cell? ⟨R, 0, none⟩ = some (.map (some b)) := HD.out.mapc
  have hlt0 : R < w0.heap.size := HD.out.lt
  have c0 : w0.cell? ⟨w.heap.size, 0, none⟩ = some (.slice a l.length cap) := head_cell HBOX.out 0
  have c1 : w0.cell? ⟨w.heap.size, 1, none⟩ = some (.int .i64 o) := head_cell HBOX.out 1
  have c2 : w0.cell? ⟨w.heap.size, 2, none⟩ = some (.int .i64 g) := head_cell HBOX.out 2
  have c3 : w0.cell? ⟨w.heap.size, 3, none⟩ = some (.int .i64 f) := head_cell HBOX.out 3
  have hs0 : w.heap.size < w0.heap.size := (cell_spot c0).2
  go_region_law (first
    | (go_simp; go_at_call 135; (with_reducible refine (clone_any ⟨l, o, g, f⟩ a cap _ hl HI.out).mono ?_); rintro e w1 ⟨v1, rfl, a1, kk, rfl, ho1, hb1⟩; obtain ⟨w2, hput, F2, h2, t2⟩ := HD.out.put os HOS.out (by omega) x HC.out hb1 ho1; have j0 := (HD.out.kept hb1).mapc; have j1 := (HD.out.kept hb1).lt; have H2 := Lib.hid h2; have T2 := Lib.hid t2; unfold deedV at hput; clear h2 t2 ho1 hb1))
  all_goals
    have hbx : ∀ k, k < w0.heap.size → ¬ F k → ¬ F2 k := fun k hk hn hf => (T2.out.own k hf).elim hn (fun hle => by have : w0.heap.size ≤ k := hle; omega)
    have hbx2 : w2.heap[w.heap.size]? = some (.cells #[.slice a l.length cap, .int .i64 o, .int .i64 g, .int .i64 f] 50 (0, 0)) := (T2.out.block _ hs0 (fun hf => by have := HNB.out _ hf; omega)).trans HBOX.out
    have HBX2 := Lib.hid hbx2
    have HI2 := Lib.hid (insAt_turn HI.out T2.out HOUT.out)
    have hoc := H2.out.orderc
    have hlt2 := H2.out.lt
    have HNF := Lib.hid hbx
    have HT2 := Lib.hid (HTD.out.trans T2.out)
    have HO2 := Lib.hid H2.out.order
    clear hbx hbx2 hput
    go_wp2_with (at_builtin; refine append_idN rfl _ _ rfl x rfl rfl HO2.out (by omega) (Nat.zero_le _) ?_; intro g3 cap3 w3 ho3 hg3 hat3; refine Hid.out ?_)
    refine Lib.hid ?_
    have ht3 : Turn (fun k => v.ownBlock = some k) (fun k => v.ownBlock = some k) w2 w3 := Turn.of_grown hg3 (fun k hk => hk)
    have hR3 := (ht3.block R hlt2 (fun hg => (H2.out.v_ne hg).1 rfl)).trans H2.out.head
    have k1 : w3.cell? ⟨R, 1, none⟩ = some v := (head_cell hR3 1).trans rfl
    have k2 := frozen_of_row w3 R 1 _ _ hR3
    have k3 := (cell_spot k1).2
    obtain ⟨h4, t4⟩ := H2.out.setOrder (u := .slice (some ⟨g3, 0, none⟩) (os.length + 1) cap3) (fun k hk => hk) ht3 ho3 (fun k hk => by
      have hk : g3 = k := by simpa [Value.ownBlock] using hk
      rw [← hk]
      exact hat3)
    obtain ⟨w4, hw4⟩ : ∃ x, x = w3.setCell ⟨R, 1, none⟩ (.slice (some ⟨g3, 0, none⟩) (os.length + 1) cap3) := ⟨_, rfl⟩
    rw [← hw4] at h4 t4
    obtain ⟨F4, hF4⟩ : ∃ F4, F4 = (fun k => F2 k ∨ (Value.slice (some ⟨g3, 0, none⟩) (os.length + 1) cap3).ownBlock = some k) := ⟨_, rfl⟩
    rw [← hF4] at h4 t4
    have hnb : ¬ F2 w.heap.size := HNF.out _ hs0 (fun hf => by have := HNB.out _ hf; omega)
    have hbx4 : w4.heap[w.heap.size]? = some (.cells #[.slice a l.length cap, .int .i64 o, .int .i64 g, .int .i64 f] 50 (0, 0)) := (t4.block _ (cell_spot (head_cell HBX2.out 0)).2 hnb).trans HBX2.out
    have HI4 := Lib.hid (insAt_turn HI2.out t4 (fun bb oo hne e => HNF.out bb (by have := HBI.out bb oo hne e; omega) (HOUT.out bb oo hne e)))
    have HT4 := Lib.hid (HT2.out.trans t4)
    have HN4 : Hid (∀ bb oo, l ≠ [] → a = some ⟨bb, oo, none⟩ → ¬ F4 bb) := Lib.hid (fun bb oo hne e hf => (t4.own bb hf).elim (HNF.out bb (by have := HBI.out bb oo hne e; omega) (HOUT.out bb oo hne e)) (fun hle => by
      have h1 := HBI.out bb oo hne e
      have h2 := T2.out.size
      have h3 : w0.drew.heap.size = w0.heap.size := rfl
      omega))
    have H4 := Lib.hid h4
    have d0 : w4.cell? ⟨w.heap.size, 0, none⟩ = some (.slice a l.length cap) := head_cell hbx4 0
    have d1 := (cell_spot d0).2
    have HW4 := Lib.hid hw4
    rw [hw4] at d0 d1
    clear h4 t4 hw4 hF4 hbx4 hnb ho3 hg3 hat3 ht3 hR3 HI2 HO2 HBX2 HT2 HI HBOX
    go_wp2_with fail
    rw [← HW4.out] at d0 d1 ⊢
    go_loopw [38] (fun i wr => ∃ k : Nat, k ≤ l.length ∧ i = .int .i64 k ∧ Hid (LedAt wr F4 R (upd M x (some ⟨l, o, g, f⟩)) (os ++ [x]) (sp ++ l.take k) b s (n + k) (upd ev x (some (deedV a1 kk ⟨l, o, g, f⟩))) (.slice (some ⟨g3, 0, none⟩) (os.length + 1) cap3)) ∧ Hid (Turn F4 F4 w4 wr)) (fun i _ => l.length - (intOf i).toNat)
    case atStart => exact ⟨0, Nat.zero_le _, rfl, Lib.hid (by rw [List.take_zero, List.append_nil, Nat.add_zero]; exact H4.out), Lib.hid (Turn.refl _ _)⟩
    case round =>
      obtain ⟨k, hk, rfl, H5, T5⟩ := hrel
      by_cases hkl : k < l.length
      · have hi5 := insAt_turn HI4.out T5.out HN4.out
        obtain ⟨bb, oo, rfl, hbb, p0, p1, hok⟩ := hi5 k hkl
        obtain ⟨⟨ix, ia⟩, hix⟩ : ∃ q, l[k] = q := ⟨_, rfl⟩
        have hts : sp ++ l.take (k + 1) = (sp ++ l.take k) ++ [(ix, ia)] := by rw [List.take_succ_eq_append_getElem hkl, hix, List.append_assoc]
        rw [hix] at p0 p1 hok
        simp only at p0 p1 hok
        obtain ⟨wd, hwd⟩ : ∃ wd, (wr.alloc (.cells #[.int .u64 ix.toNat, .int .i64 ia] 62)).drew = wd := ⟨_, rfl⟩
        have hbd : Below wr.heap.size wr wd := hwd ▸ (kept_new _ _).drew
        have h6 := H5.out.kept hbd
        have q0 : wd.cell? ⟨wr.heap.size, 0, none⟩ = some (.int .u64 ix.toNat) := by rw [← hwd]; show (wr.alloc _).cell? _ = _; simp [go_sem]
        have q1 : wd.cell? ⟨wr.heap.size, 1, none⟩ = some (.int .i64 ia) := by rw [← hwd]; show (wr.alloc _).cell? _ = _; simp [go_sem]
        have q2 := (cell_spot q0).2
        have q3 := h6.spentc
        have q4 := h6.lt
        obtain ⟨w7, hput, h7, t7⟩ := h6.spend (ix, ia) hok (by omega)
        have H7 := Lib.hid h7
        have T7 := Lib.hid ((T5.out.trans (Turn.of_below hbd)).trans t7)
        have HWD := Lib.hid hwd
        have HTS := Lib.hid hts
        clear hi5 hix hts hwd hbd h6 h7 t7 hok
        simp only at hput
        go_wp2_with fail
        refine region_tail 5 (by kernel_rfl) (by kernel_rfl) HWD.out ?_
        simp only [List.take_succ_cons, List.take_zero, List.drop_succ_cons, List.drop_zero]
        repeat still_step
        refine wpStill_nil ?_
        go_wp2_with fail
        go_roundw
        case rel => exact ⟨k + 1, by omega, by go_num, Lib.hid (by rw [HTS.out, ← Nat.add_assoc]; exact H7.out), T7⟩
        case measure => simp [intOf]; omega
      · have he : l.take k = l := List.take_of_length_le (by omega)
        obtain rfl : k = l.length := by omega
        have H5' := H5.out
        rw [he] at H5'
        have HE := Lib.hid H5'
        clear H5' he
        go_wp2_with fail
        go_end0
        exact ⟨rfl, F4, _, _, HE.out, HT4.out.trans T5.out⟩
end
end Go.Proofs.YtaaaplbjeknbkaaGreat.So.Ju

/-
  A ledger over ONE list of deeds: the contracts of all its calls; Accept.
-/
namespace Go.Proofs.YtaaaplbjeknbkaaGreat.So.Ju
section
open Go.Proofs.YtaaaplbjeknbkaaGreat.Ju
open Go.RowKit Go.Maps

variable {w w' : World} {F : Nat → Prop} {R : Nat} {L : List DeedD}

/-- Block R is a ledger with these deeds. -/
def LedL (w : World) (F : Nat → Prop) (R : Nat) (L : List DeedD) : Prop := ∃ b s n ev v, n ≤ 8 * L.length ∧ LedAt w F R (findL L) (L.map idD) (insL L) b s n ev v
theorem LedL.same (h : LedL w F R L) (e : ∀ k, k < w.heap.size → F k → w'.heap[k]? = w.heap[k]?) (hs : w.heap.size ≤ w'.heap.size) : LedL w' F R L := by
  obtain ⟨b, s, n, ev, v, hn, h⟩ := h
  exact ⟨b, s, n, ev, v, hn, h.same e hs⟩
theorem LedL.kept (h : LedL w F R L) (hb : Below w.heap.size w w') : LedL w' F R L := h.same (fun k hk _ => hb.block k hk) hb.size
theorem LedL.turn (h : LedL w F R L) {G G' : Nat → Prop} (ht : Turn G G' w w') (ha : Apart F G) : LedL w' F R L := h.same (fun k hk hf => ht.block k hk (ha k hf)) ht.size
theorem LedL.there (h : LedL w F R L) : There w F := by
  obtain ⟨b, s, n, ev, v, hn, h⟩ := h
  exact h.there
theorem newJ_any (w : World) : Calls Tryz.prog 54 #[] w fun e w' => ∃ R F, e = .returned (.pointer (some ⟨R, 0, none⟩)) ∧ (∀ k, F k → w.heap.size ≤ k) ∧ LedL w' F R [] ∧ Below w.heap.size w w' :=
  (led_new w).mono fun _ _ ⟨R, F, h1, h2, h3, h4⟩ => ⟨R, F, h1, h2, ⟨_, _, _, _, _, Nat.le_refl _, h3⟩, h4⟩
theorem hasL_any (x : UInt64) (w : World) (h : LedL w F R L) (r : Bool) (hr : (findL L x).isSome = r) :
    Calls Tryz.prog 107 #[.pointer (some ⟨R, 0, none⟩), .int .u64 x.toNat] w fun e w' => e = .returned (.bool r) ∧ Below w.heap.size w w' := by
  obtain ⟨b, s, n, ev, v, hn, h⟩ := h
  exact hasJ_any x w h r hr
theorem deedL_any (x : UInt64) (w : World) (h : LedL w F R L) : Calls Tryz.prog 119 #[.pointer (some ⟨R, 0, none⟩), .int .u64 x.toNat] w (DeedAns w (findL L x)) := by
  obtain ⟨b, s, n, ev, v, hn, h⟩ := h
  exact deedJ_any x w h
theorem allL_any (w : World) (h : LedL w F R L) (hl : L.length ≤ 10000000000000) : Calls Tryz.prog 64 #[.pointer (some ⟨R, 0, none⟩)] w (GaveIds w (L.map idD)) := by
  obtain ⟨b, s, n, ev, v, hn, h⟩ := h
  exact allJ_any w h (by simpa using hl)
theorem judgeL_any (d : DeedD) (a : Option Addr) (cap : Nat) (w : World) (h : LedL w F R L) (hi : InsAt w a d.ins) :
    Calls Tryz.prog 69 #[.pointer (some ⟨R, 0, none⟩), .agg #[.slice a d.ins.length cap, .int .i64 d.outs, .int .i64 d.weight, .int .i64 d.fee]] w (GaveJ w (judgeL L d)) := by
  obtain ⟨b, s, n, ev, v, hn, h⟩ := h
  exact judge_any d a cap w h hi
theorem addL_any (d : DeedD) (a : Option Addr) (cap : Nat) (hl : L.length ≤ 5000000000000) (hd : checkD d = 0) (hx : findL L (idD d) = none) (w : World) (h : LedL w F R L) (hi : InsAt w a d.ins) (hout : ∀ bb o, d.ins ≠ [] → a = some ⟨bb, o, none⟩ → ¬ F bb) :
    Calls Tryz.prog 108 #[.pointer (some ⟨R, 0, none⟩), .int .u64 (idD d).toNat, .agg #[.slice a d.ins.length cap, .int .i64 d.outs, .int .i64 d.weight, .int .i64 d.fee]] w fun e w' => e = .returned (.tuple #[]) ∧ ∃ F', LedL w' F' R (L ++ [d]) ∧ Turn F F' w w' := by
  obtain ⟨b, s, n, ev, v, hn, h⟩ := h
  refine (add_any (idD d) d a cap (fun y hy => findL_keys hy) (by simpa using hl) (by omega) hd w h hi hout).mono ?_
  rintro e w' ⟨rfl, F', ev', v', h1, h2⟩
  refine ⟨rfl, F', ⟨b, s, n + d.ins.length, ev', v', ?_, ?_⟩, h2⟩
  rotate_left
  · rw [findL_new hx, List.map_append, insL_snoc]
    exact h1
  · have := (check_ok hd).1
    rw [List.length_append]
    simp only [List.length_cons, List.length_nil]
    omega
set_option maxRecDepth 20000 in
theorem acceptL_any (d : DeedD) (a : Option Addr) (cap : Nat) (hl : L.length ≤ 5000000000000) (w : World) (h : LedL w F R L) (hi : InsAt w a d.ins) (hout : ∀ bb o, d.ins ≠ [] → a = some ⟨bb, o, none⟩ → ¬ F bb) (r : Int) (L' : List DeedD) (hr : acceptL L d = (r, L')) :
    Calls Tryz.prog 68 #[.pointer (some ⟨R, 0, none⟩), .agg #[.slice a d.ins.length cap, .int .i64 d.outs, .int .i64 d.weight, .int .i64 d.fee]] w fun e w' => e = .returned (.int .i64 r) ∧ ∃ F', LedL w' F' R L' ∧ Turn F F' w w' := by
  have hk0 := kept_new w (.cells #[.slice a d.ins.length cap, .int .i64 d.outs, .int .i64 d.weight, .int .i64 d.fee] 50)
  have H := Lib.hid (h.kept hk0)
  have HI := Lib.hid (insAt_kept hk0 hi)
  have HK := Lib.hid hk0
  have HOUT := Lib.hid hout
  unfold acceptL at hr
  clear h hi hk0 hout
  by_cases h0 : checkD d = 0
  · rw [if_neg (not_not_intro h0)] at hr
    have HC := Lib.hid h0
    cases hf : (findL L (idD d)).isSome with
    | true =>
      rw [if_pos hf] at hr
      simp only [Prod.mk.injEq] at hr
      obtain ⟨rfl, rfl⟩ := hr
      have HF := Lib.hid hf
      clear hf h0
      go_enter Tryz.func68, Tryz.ntmps68
      go_wp2_with fail
      with_reducible refine (id_ok d _ _ _ HI.out HC.out).mono ?_
      rintro e w1 ⟨rfl, hb1⟩
      have H1 := Lib.hid (H.out.kept hb1)
      go_wp2_with fail
      with_reducible refine (hasL_any (idD d) _ H1.out true HF.out).mono ?_
      rintro e w2 ⟨rfl, hb2⟩
      go_wp2_with fail
      go_ret
      exact ⟨rfl, F, H1.out.kept hb2, Turn.of_below (kept_trans (kept_trans HK.out hb1) hb2)⟩
    | false =>
      rw [if_neg (by rw [hf]; simp)] at hr
      have hfn : findL L (idD d) = none := by cases hq : findL L (idD d) with | none => rfl | some y => rw [hq] at hf; cases hf
      have HFN := Lib.hid hfn
      have HF := Lib.hid hf
      obtain ⟨st, hst⟩ : ∃ st, stateL L d = st := ⟨_, rfl⟩
      have HJ : Hid (judgeL L d = (st, missL (findL L) d.ins, 0)) := Lib.hid (by unfold judgeL; rw [if_neg (not_not_intro h0), hst])
      have hsb : st = 0 ∨ st = 1 ∨ st = 2 ∨ st = 3 := by
        rw [← hst]
        unfold stateL stateM payI
        split
        · simp
        · split
          · simp
          · split <;> simp
      rw [hst] at hr
      clear hst hf hfn h0
      by_cases hge : st ≥ 2
      · rw [if_pos hge] at hr
        simp only [Prod.mk.injEq] at hr
        obtain ⟨rfl, rfl⟩ := hr
        have hst : st = 2 ∨ st = 3 := by omega
        clear hge hsb
        go_enter Tryz.func68, Tryz.ntmps68
        go_wp2_with fail
        with_reducible refine (id_ok d _ _ _ HI.out HC.out).mono ?_
        rintro e w1 ⟨rfl, hb1⟩
        have H1 := Lib.hid (H.out.kept hb1)
        go_wp2_with fail
        with_reducible refine (hasL_any (idD d) _ H1.out false HF.out).mono ?_
        rintro e w2 ⟨rfl, hb2⟩
        have hb12 := kept_trans hb1 hb2
        obtain ⟨c0, c1, c2, c3, hs1⟩ := box_four hb12
        have HI2 := Lib.hid (insAt_kept hb12 HI.out)
        have H2 := Lib.hid (H1.out.kept hb2)
        have HB2 := Lib.hid (kept_trans HK.out hb12)
        clear hb1 hb2 hb12
        go_wp2_with fail
        with_reducible refine (judgeL_any d a cap _ H2.out HI2.out).mono ?_
        rw [HJ.out]
        rintro e w3 ⟨a3, c3', rfl, ho3, hb3⟩
        have HB3 := Lib.hid (kept_trans HB2.out hb3)
        have H3 := Lib.hid (H2.out.kept hb3)
        clear ho3 hb3
        simp only
        rcases hst with rfl | rfl
        · go_wp2_with fail
          go_ret
          exact ⟨rfl, F, H3.out, Turn.of_below HB3.out⟩
        · go_wp2_with fail
          go_ret
          exact ⟨rfl, F, H3.out, Turn.of_below HB3.out⟩
      · rw [if_neg hge] at hr
        simp only [Prod.mk.injEq] at hr
        obtain ⟨rfl, rfl⟩ := hr
        have hst : st = 0 ∨ st = 1 := by omega
        clear hge hsb
        go_enter Tryz.func68, Tryz.ntmps68
        go_wp2_with fail
        with_reducible refine (id_ok d _ _ _ HI.out HC.out).mono ?_
        rintro e w1 ⟨rfl, hb1⟩
        have H1 := Lib.hid (H.out.kept hb1)
        go_wp2_with fail
        with_reducible refine (hasL_any (idD d) _ H1.out false HF.out).mono ?_
        rintro e w2 ⟨rfl, hb2⟩
        have hb12 := kept_trans hb1 hb2
        obtain ⟨c0, c1, c2, c3, hs1⟩ := box_four hb12
        have HI2 := Lib.hid (insAt_kept hb12 HI.out)
        have H2 := Lib.hid (H1.out.kept hb2)
        have HB2 := Lib.hid (kept_trans HK.out hb12)
        clear hb1 hb2 hb12
        go_wp2_with fail
        with_reducible refine (judgeL_any d a cap _ H2.out HI2.out).mono ?_
        rw [HJ.out]
        rintro e w3 ⟨a3, c3', rfl, ho3, hb3⟩
        have d0 := kept_cell hb3 c0
        have d1 := kept_cell hb3 c1
        have d2 := kept_cell hb3 c2
        have d3 := kept_cell hb3 c3
        have d4 := (cell_spot d0).2
        have HB3 := Lib.hid (kept_trans HB2.out hb3)
        have HI3 := Lib.hid (insAt_kept hb3 HI2.out)
        have H3 := Lib.hid (H2.out.kept hb3)
        clear ho3 hb3
        simp only
        rcases hst with rfl | rfl
        · go_wp2_with fail
          with_reducible refine (addL_any d a cap hl HC.out HFN.out _ H3.out HI3.out HOUT.out).mono ?_
          rintro e w4 ⟨rfl, F4, h4, t4⟩
          have H4 := Lib.hid h4
          have T4 := Lib.hid t4
          clear h4 t4
          go_wp2_with fail
          go_ret
          exact ⟨rfl, F4, H4.out, (Turn.of_below HB3.out).trans T4.out⟩
        · go_wp2_with fail
          with_reducible refine (addL_any d a cap hl HC.out HFN.out _ H3.out HI3.out HOUT.out).mono ?_
          rintro e w4 ⟨rfl, F4, h4, t4⟩
          have H4 := Lib.hid h4
          have T4 := Lib.hid t4
          clear h4 t4
          go_wp2_with fail
          go_ret
          exact ⟨rfl, F4, H4.out, (Turn.of_below HB3.out).trans T4.out⟩
  · rw [if_pos h0] at hr
    simp only [Prod.mk.injEq] at hr
    obtain ⟨hr, rfl⟩ := hr
    rw [hr] at h0
    have HR := Lib.hid hr
    have hrb : (r != 0) = true := by simpa using h0
    clear hr
    go_enter Tryz.func68, Tryz.ntmps68
    go_wp2_with fail
    with_reducible refine (id_err d _ _ _ r HI.out HR.out h0).mono ?_
    rintro e w1 ⟨rfl, hb1⟩
    go_wp2_with fail
    go_ret
    exact ⟨rfl, F, H.out.kept hb1, Turn.of_below (kept_trans HK.out hb1)⟩
end
end Go.Proofs.YtaaaplbjeknbkaaGreat.So.Ju

/-
  A ledger that a law made: the contracts of all calls, as a law's walk uses them; the laws' closed fact.
-/
namespace Go.Proofs.YtaaaplbjeknbkaaGreat.So.Ju
section
open Go.Proofs.YtaaaplbjeknbkaaGreat.Ju
open Go.RowKit Go.Maps

/-- Since world w0 a ledger was made in block R; it has the deeds L, and owns the blocks F. -/
structure HeldJ (w0 w : World) (F : Nat → Prop) (R : Nat) (L : List DeedD) : Prop where
  below : Below w0.heap.size w0 w
  above : ∀ k, F k → w0.heap.size ≤ k
  led : LedL w F R L
  good : GoodJ L

variable {w0 w w' : World} {F : Nat → Prop} {R : Nat} {L : List DeedD}

theorem HeldJ.kept (h : HeldJ w0 w F R L) (hb : Below w.heap.size w w') : HeldJ w0 w' F R L := ⟨kept_trans h.below hb, h.above, h.led.kept hb, h.good⟩
theorem HeldJ.turned (h : HeldJ w0 w F R L) {F' : Nat → Prop} {L' : List DeedD} (hl : LedL w' F' R L') (hg : GoodJ L') (ht : Turn F F' w w') : HeldJ w0 w' F' R L' :=
  ⟨h.below.trans (ht.below h.above h.below.size), ht.above h.above h.below.size, hl, hg⟩
/-- Another thing turned. -/
theorem HeldJ.beside (h : HeldJ w0 w F R L) {G G' : Nat → Prop} (ht : Turn G G' w w') (ha : Apart F G) (hG : ∀ k, G k → w0.heap.size ≤ k) : HeldJ w0 w' F R L :=
  ⟨h.below.trans (ht.below hG h.below.size), h.above, h.led.turn ht ha, h.good⟩
theorem hj_new (w0 w : World) (hb : Below w0.heap.size w0 w) : Calls Tryz.prog 54 #[] w fun e w' => ∃ R F, e = .returned (.pointer (some ⟨R, 0, none⟩)) ∧ HeldJ w0 w' F R [] ∧ (∀ k, F k → w.heap.size ≤ k) ∧ Below w.heap.size w w' :=
  (newJ_any w).mono fun _ _ ⟨R, F, h1, h2, h3, h4⟩ => ⟨R, F, h1, ⟨kept_trans hb h4, fun k hk => Nat.le_trans hb.size (h2 k hk), h3, ⟨fun d hd => by simp at hd, by simp⟩⟩, h2, h4⟩
/-- Accept of a deed whose Ins lie where the ledger does not. -/
theorem hj_acceptG (w0 : World) (F : Nat → Prop) (R : Nat) (L : List DeedD) (w : World) (h : HeldJ w0 w F R L) (hl : L.length ≤ 5000000000000) (d : DeedD) (a : Option Addr) (cap : Nat) (hi : InsAt w a d.ins) (hout : ∀ bb o, d.ins ≠ [] → a = some ⟨bb, o, none⟩ → ¬ F bb) (r : Int) (L' : List DeedD) (hr : acceptL L d = (r, L')) :
    Calls Tryz.prog 68 #[.pointer (some ⟨R, 0, none⟩), .agg #[.slice a d.ins.length cap, .int .i64 d.outs, .int .i64 d.weight, .int .i64 d.fee]] w fun e w' => e = .returned (.int .i64 r) ∧ ∃ F', HeldJ w0 w' F' R L' ∧ Turn F F' w w' :=
  (acceptL_any d a cap hl w h.led hi hout r L' hr).mono fun e w' ⟨h1, F', h2, h3⟩ => ⟨h1, F', h.turned h2 (by have := acceptL_good h.good d; rw [hr] at this; exact this) h3, h3⟩
theorem low_out {F : Nat → Prop} {a : Option Addr} {l : List InD} (hi : InsAt w0 a l) (hF : ∀ k, F k → w0.heap.size ≤ k) : ∀ bb o, l ≠ [] → a = some ⟨bb, o, none⟩ → ¬ F bb := fun bb o hne e hf => by
  obtain ⟨b', o', e', hb', _⟩ := hi 0 (List.length_pos_iff.2 hne)
  rw [e] at e'
  cases e'
  have := hF bb hf
  omega
/-- Accept of a deed that was there ahead of the ledger. -/
theorem hj_accept (w0 : World) (F : Nat → Prop) (R : Nat) (L : List DeedD) (w : World) (h : HeldJ w0 w F R L) (hl : L.length ≤ 5000000000000) (d : DeedD) (a : Option Addr) (cap : Nat) (hi : InsAt w0 a d.ins) (r : Int) (L' : List DeedD) (hr : acceptL L d = (r, L')) :
    Calls Tryz.prog 68 #[.pointer (some ⟨R, 0, none⟩), .agg #[.slice a d.ins.length cap, .int .i64 d.outs, .int .i64 d.weight, .int .i64 d.fee]] w fun e w' => e = .returned (.int .i64 r) ∧ ∃ F', HeldJ w0 w' F' R L' ∧ Turn F F' w w' :=
  hj_acceptG w0 F R L w h hl d a cap (insAt_kept h.below hi) (low_out hi h.above) r L' hr
theorem hj_judge (w0 : World) (F : Nat → Prop) (R : Nat) (L : List DeedD) (w : World) (h : HeldJ w0 w F R L) (d : DeedD) (a : Option Addr) (cap : Nat) (hi : InsAt w a d.ins) (k : Int) (m : List UInt64) (r : Int) (hr : judgeL L d = (k, m, r)) :
    Calls Tryz.prog 69 #[.pointer (some ⟨R, 0, none⟩), .agg #[.slice a d.ins.length cap, .int .i64 d.outs, .int .i64 d.weight, .int .i64 d.fee]] w (GaveJ w (k, m, r)) := hr ▸ judgeL_any d a cap w h.led hi
theorem hj_has (w0 : World) (F : Nat → Prop) (R : Nat) (L : List DeedD) (w : World) (h : HeldJ w0 w F R L) (x : UInt64) (r : Bool) (hr : (findL L x).isSome = r) :
    Calls Tryz.prog 107 #[.pointer (some ⟨R, 0, none⟩), .int .u64 x.toNat] w fun e w' => e = .returned (.bool r) ∧ Below w.heap.size w w' := hasL_any x w h.led r hr
theorem hj_all (w0 : World) (F : Nat → Prop) (R : Nat) (L : List DeedD) (w : World) (h : HeldJ w0 w F R L) (hl : L.length ≤ 10000000000000) : Calls Tryz.prog 64 #[.pointer (some ⟨R, 0, none⟩)] w (GaveIds w (L.map idD)) := allL_any w h.led hl
/-- What a list of deeds makes of a ledger. -/
def runJ (l : List DeedH) : List DeedD := acceptAll (l.map fun q => q.d)
theorem runJ_step {l : List DeedH} {k : Nat} (h : k < l.length) : runJ (l.take (k + 1)) = (acceptL (runJ (l.take k)) l[k].d).2 := by
  unfold runJ
  rw [List.map_take, acceptAll_step (by simpa using h), List.map_take]
  simp
theorem runJ_len (l : List DeedH) (k : Nat) : (runJ (l.take k)).length ≤ l.length := by
  have := (acceptAll_facts ((l.take k).map fun q => q.d)).2
  rw [List.length_map, List.length_take] at this
  unfold runJ
  omega
theorem deedsJ_at {a : Option Addr} {l : List DeedH} (h : DeedsAt w0 a l) (hb : Below w0.heap.size w0 w) (k : Nat) (hk : k < l.length) : ∃ b o, a = some ⟨b, o, none⟩ ∧ b < w.heap.size ∧ DeedHCells w b (o + k * 4) l[k] := by
  obtain ⟨⟨b, o, e, hlt, hc⟩, _⟩ := h k hk
  exact ⟨b, o, e, Nat.lt_of_lt_of_le hlt hb.size, deedH_kept hb hc⟩
theorem deedsAt_kept {a : Option Addr} {l : List DeedH} (h : DeedsAt w0 a l) (hb : Below w0.heap.size w0 w) : DeedsAt w a l := fun i hi => ⟨deedsJ_at h hb i hi, insAt_kept hb (h i hi).2.1, (h i hi).2.2⟩

/-- The deeds of the closed fact. -/
def dS (fee : Int) : DeedD := ⟨[], 1, 10, fee⟩
def d7 : DeedD := ⟨[(7, 0)], 1, 1, 0⟩
theorem acc1 : acceptL [] (dS 1) = (0, [dS 1]) := by
  unfold acceptL
  rw [if_neg (by decide), if_neg (by decide +kernel), if_neg (by decide)]
  rfl
theorem judge7 : judgeL [dS 1] d7 = (2, [7], 0) := by decide +kernel
theorem insAt_new1 (w : World) (x : UInt64) : InsAt (w.alloc (.cells #[.int .u64 x.toNat, .int .i64 0] 62)) (some ⟨w.heap.size, 0, none⟩) [(x, 0)] := fun i hi => by
  have hi : i < 1 := hi
  obtain rfl : i = 0 := by omega
  exact ⟨w.heap.size, 0, rfl, by simp, by simp [go_sem], by simp [go_sem], rfl⟩
set_option maxRecDepth 20000 in
theorem judged_any (w : World) : Calls Tryz.prog 28 #[] w fun e w' => e = .returned (.bool true) ∧ Below w.heap.size w w' := by
  go_enter Tryz.func28, Tryz.ntmps28
  go_wp2_with fail
  with_reducible refine (hj_new w w (Below.refl _ _)).mono ?_
  rintro e w1 ⟨R, F, rfl, h1, _, _⟩
  have H1 := Lib.hid h1
  clear h1
  go_wp2_with fail
  with_reducible refine (simple_any 1 _).mono ?_
  rintro e w2 ⟨rfl, hb2⟩
  have H2 := Lib.hid (H1.out.kept hb2)
  clear hb2
  go_wp2_with fail
  refine (hj_acceptG w F R [] _ H2.out (by simp) (dS 1) none 0 (fun i hi => absurd hi (by simp [dS])) (fun bb o hne => absurd rfl hne) _ _ acc1).mono ?_
  rintro e w3 ⟨rfl, F3, h3, _⟩
  have H3 := Lib.hid h3
  have HI3 := Lib.hid (insAt_new1 w3 7)
  have H4 := Lib.hid (h3.kept (kept_new w3 (.cells #[.int .u64 7, .int .i64 0] 62)))
  clear h3
  go_wp2_with fail
  refine (hj_judge w F3 R [dS 1] _ H4.out d7 (some ⟨w3.heap.size, 0, none⟩) 1 HI3.out _ _ _ judge7).mono ?_
  rintro e w5 ⟨a5, c5, rfl, ho5, hb5⟩
  obtain ⟨a6, c6, e6, _, hids, _⟩ := owns_idsAt ho5
  have hk6 := kept_new w5 (.cells #[.int .u64 7] 22)
  have HI5 : Hid (IdsAt (w5.alloc (.cells #[.int .u64 7] 22)) a5 [7]) := Lib.hid (by
    simp only [Value.slice.injEq] at e6
    rw [e6.1]
    exact idsAt_kept hk6 hids)
  have HI6 : Hid (IdsAt (w5.alloc (.cells #[.int .u64 7] 22)) (some ⟨w5.heap.size, 0, none⟩) [7]) := Lib.hid (fun i hi => by
    have hi : i < 1 := hi
    obtain rfl : i = 0 := by omega
    exact ⟨w5.heap.size, 0, rfl, by simp, by simp [go_sem]⟩)
  have H6 := Lib.hid (H4.out.kept (kept_trans hb5 hk6))
  clear ho5 hb5 e6 hids hk6
  simp only [List.length_cons, List.length_nil]
  go_wp2_with fail
  refine (eqID_is [7] [7] _ _ _ _ _ true (by decide) HI5.out HI6.out rfl).mono ?_
  rintro e w7 ⟨rfl, rfl⟩
  go_wp2_with fail
  refine (hj_all w F3 R [dS 1] _ H6.out (by simp)).mono ?_
  rintro e w8 ⟨a8, c8, rfl, _, hb8⟩
  simp only [List.map_cons, List.map_nil, List.length_cons, List.length_nil]
  go_wp2_with fail
  go_ret
  exact ⟨rfl, kept_trans H6.out.below hb8⟩
end
end Go.Proofs.YtaaaplbjeknbkaaGreat.So.Ju
