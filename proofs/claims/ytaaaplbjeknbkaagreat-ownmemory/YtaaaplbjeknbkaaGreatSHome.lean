/-
  A pool in memory.
-/
import Derived.Test.YtaaaplbjeknbkaaGreatJ13
import Derived.Test.YtaaaplbjeknbkaaGreatJ3
set_option maxRecDepth 20000
namespace Go.Proofs.YtaaaplbjeknbkaaGreat.So.Ho
open Go.Proofs.YtaaaplbjeknbkaaGreat.Ho
open Go.RowKit Go.Maps

/-- Block R is a pool with the links ls and the deeds M: its map lies in block b and holds the values ev, its links are the slice v; F: the blocks that it owns. -/
structure HomeAt (w : World) (F : Nat → Prop) (R : Nat) (it : Option It) (ls : List LD) (M : UInt64 → Option DeedD) (b : Nat) (ev : UInt64 → Option Value) (v : Value) : Prop where
  head : w.heap[R]? = some (.cells #[.map (some b), v] 102 (0, 0))
  map : TMap w b it ev
  deeds : ∀ x, (ev x = none ∧ M x = none) ∨ ∃ a c d, ev x = some (deedV a c d) ∧ M x = some d ∧ OwnIns w (.slice a d.ins.length c) d.ins ∧ ∀ g, (Value.slice a d.ins.length c).ownBlock = some g → F g
  fine : ∀ x d, M x = some d → checkD d = 0
  links : OwnLinks w v ls
  fR : F R
  fb : F b
  fv : ∀ g, v.ownBlock = some g → F g
  there : There w F
  out : ∀ i, it = some i → ¬ F i.r ∧ i.r < w.heap.size


variable {w w' : World} {F : Nat → Prop} {R : Nat} {it : Option It} {ls : List LD} {M : UInt64 → Option DeedD} {b : Nat} {ev : UInt64 → Option Value} {v : Value}

theorem HomeAt.same (h : HomeAt w F R it ls M b ev v) (e : ∀ k, k < w.heap.size → F k → w'.heap[k]? = w.heap[k]?) (er : ∀ i, it = some i → w'.heap[i.r]? = w.heap[i.r]?) (hs : w.heap.size ≤ w'.heap.size) : HomeAt w' F R it ls M b ev v where
  head := (e R (h.there R h.fR) h.fR).trans h.head
  map := tmap_same h.map (e b (h.there b h.fb) h.fb) er
  deeds := fun x => (h.deeds x).imp id fun ⟨a, c, d, h1, h2, h3, h4⟩ => ⟨a, c, d, h1, h2, own_same h3 fun g hg => e g (h.there g (h4 g hg)) (h4 g hg), h4⟩
  fine := h.fine
  links := own_same h.links fun g hg => e g (h.there g (h.fv g hg)) (h.fv g hg)
  fR := h.fR
  fb := h.fb
  fv := h.fv
  there := h.there.later hs
  out := fun i hi => ⟨(h.out i hi).1, Nat.lt_of_lt_of_le (h.out i hi).2 hs⟩
theorem HomeAt.kept (h : HomeAt w F R it ls M b ev v) (hb : Below w.heap.size w w') : HomeAt w' F R it ls M b ev v :=
  h.same (fun k hk _ => hb.block k hk) (fun i hi => hb.block i.r (h.out i hi).2) hb.size
theorem HomeAt.turn (h : HomeAt w F R it ls M b ev v) {G G' : Nat → Prop} (ht : Turn G G' w w') (ha : Apart F G) (hr : ∀ i, it = some i → ¬ G i.r) : HomeAt w' F R it ls M b ev v :=
  h.same (fun k hk hf => ht.block k hk (ha k hf)) (fun i hi => ht.block i.r (h.out i hi).2 (hr i hi)) ht.size
theorem HomeAt.lt (h : HomeAt w F R it ls M b ev v) : R < w.heap.size := h.there R h.fR
theorem HomeAt.mapc (h : HomeAt w F R it ls M b ev v) : w.cell? ⟨R, 0, none⟩ = some (.map (some b)) := (head_cell h.head 0).trans rfl
theorem HomeAt.linkc (h : HomeAt w F R it ls M b ev v) : w.cell? ⟨R, 1, none⟩ = some v ∧ w.frozen? ⟨R, 1, none⟩ = false := ⟨(head_cell h.head 1).trans rfl, frozen_of_row w R 1 _ _ h.head⟩
theorem HomeAt.look (h : HomeAt w F R it ls M b ev v) (x : UInt64) : (Instr.lookup 47 (.map (some b)) (.int .u64 x.toNat) false).run Tryz.prog w = .ok ((ev x).getD zeroD) w := tmap_look h.map x
theorem HomeAt.look_ok (h : HomeAt w F R it ls M b ev v) (x : UInt64) : (Instr.lookup 47 (.map (some b)) (.int .u64 x.toNat) true).run Tryz.prog w = .ok (.tuple #[(ev x).getD zeroD, .bool (ev x).isSome]) w := tmap_look_ok h.map x
theorem HomeAt.there_is (h : HomeAt w F R it ls M b ev v) (x : UInt64) : (ev x).isSome = (M x).isSome := by
  rcases h.deeds x with ⟨h1, h2⟩ | ⟨a, c, d, h1, h2, _⟩
  · rw [h1, h2]; rfl
  · rw [h1, h2]; rfl
/-- The deed of an ID, as the map answers it. -/
theorem HomeAt.deed (h : HomeAt w F R it ls M b ev v) (x : UInt64) : ∃ a c, (ev x).getD zeroD = deedV a c ((M x).getD nod) ∧ ((M x).getD nod).ins.length ≤ 8 ∧ ((M x).getD nod).ins.length ≤ c ∧ InsAt w a ((M x).getD nod).ins := by
  rcases h.deeds x with ⟨h1, h2⟩ | ⟨a, c, d, h1, h2, h3, h4⟩
  · rw [h1, h2]
    exact ⟨none, 0, rfl, Nat.zero_le _, Nat.zero_le _, fun i hi => absurd hi (by simp [nod])⟩
  · rw [h1, h2]
    have hf := h.fine x d h2
    obtain ⟨_, hc, hi⟩ := ownIns_slice h3 (ins_ok hf)
    exact ⟨a, c, rfl, (check_ok hf).1, hc, hi⟩
theorem HomeAt.b_ne (h : HomeAt w F R it ls M b ev v) {g : Nat} (hg : v.ownBlock = some g) : g ≠ R ∧ g ≠ b := by
  obtain ⟨cur, hc⟩ := own_at h.links hg
  refine ⟨fun e => ?_, fun e => ?_⟩
  · rw [e, h.head] at hc; simp at hc
  · obtain ⟨D, hm, _⟩ := h.map
    obtain ⟨n, es, clock, hb, _⟩ := mapIs_owns hm
    rw [e, hb] at hc; cases hc
theorem HomeAt.i_ne (h : HomeAt w F R it ls M b ev v) {l : List InD} {u : Value} (ho : OwnIns w u l) {g : Nat} (hg : u.ownBlock = some g) : g ≠ R ∧ g ≠ b ∧ v.ownBlock ≠ some g := by
  obtain ⟨cur, hc⟩ := own_at ho hg
  refine ⟨fun e => ?_, fun e => ?_, fun e => ?_⟩
  · rw [e, h.head] at hc; simp at hc
  · obtain ⟨D, hm, _⟩ := h.map
    obtain ⟨n, es, clock, hb, _⟩ := mapIs_owns hm
    rw [e, hb] at hc; cases hc
  · obtain ⟨cur', hc'⟩ := own_at h.links e
    rw [hc'] at hc; simp at hc
theorem HomeAt.R_ne (h : HomeAt w F R it ls M b ev v) : R ≠ b := fun e => by
  obtain ⟨D, hm, _⟩ := h.map
  obtain ⟨n, es, clock, hb, _⟩ := mapIs_owns hm
  have := h.head
  rw [e, hb] at this; cases this

/-- The links are written anew, in their block or a new one, and the slice is stored. -/
theorem HomeAt.setLinks (h : HomeAt w F R it ls M b ev v) {u : Value} {l : List LD} {G : Nat → Prop} (hG : ∀ k, G k → v.ownBlock = some k) (ht : Turn G G w w') (ho : OwnLinks w' u l) (hv : ∀ k, u.ownBlock = some k → v.ownBlock = some k ∨ w.heap.size ≤ k) :
    HomeAt (w'.setCell ⟨R, 1, none⟩ u) (fun k => F k ∨ u.ownBlock = some k) R it l M b ev u ∧ Turn F (fun k => F k ∨ u.ownBlock = some k) w (w'.setCell ⟨R, 1, none⟩ u) := by
  have hnR : ¬ G R := fun hg => (h.b_ne (hG R hg)).1 rfl
  have hnb : ¬ G b := fun hg => (h.b_ne (hG b hg)).2 rfl
  have hlt : ∀ k, k < w.heap.size → k < w'.heap.size := fun k hk => Nat.lt_of_lt_of_le hk ht.size
  have hset : ∀ k, k ≠ R → (w'.setCell ⟨R, 1, none⟩ u).heap[k]? = w'.heap[k]? := fun k hk => Below.heap_setCell w' ⟨R, 1, none⟩ u k hk
  have hold : ∀ k, k < w.heap.size → k ≠ R → ¬ G k → (w'.setCell ⟨R, 1, none⟩ u).heap[k]? = w.heap[k]? := fun k hk hkR hn => (hset k hkR).trans (ht.block k hk hn)
  have hvR : ∀ k, u.ownBlock = some k → k ≠ R := fun k hk => (hv k hk).elim (fun e => (h.b_ne e).1) (fun hle e => by have := h.lt; omega)
  refine ⟨⟨?_, tmap_same h.map (hold b (h.there b h.fb) (fun e => h.R_ne e.symm) hnb) (fun i hi => hold i.r (h.out i hi).2 (fun e => (h.out i hi).1 (by rw [e]; exact h.fR)) (fun hg => (h.out i hi).1 (h.fv i.r (hG _ hg)))),
    fun x => (h.deeds x).imp id fun ⟨a, c, d, h1, h2, h3, h4⟩ => ⟨a, c, d, h1, h2, own_same h3 fun g hg => hold g (h.there g (h4 g hg)) (h.i_ne h3 hg).1 (fun hk => (h.i_ne h3 hg).2.2 (hG g hk)), fun g hg => .inl (h4 g hg)⟩,
    h.fine, own_same ho fun g hg => hset g (hvR g hg), .inl h.fR, .inl h.fb, fun g hg => .inr hg, fun k hk => ?_, fun i hi => ⟨fun hk => ?_, ?_⟩⟩, ?_⟩
  · exact heap_setCell_same w' R 1 _ _ u ((ht.block R h.lt hnR).trans h.head)
  · rw [World.size_setCell]
    exact hk.elim (fun hf => hlt k (h.there k hf)) (fun e => (ho.lt k e).2)
  · rcases hk with hk | hk
    · exact (h.out i hi).1 hk
    · exact (hv _ hk).elim (fun e => (h.out i hi).1 (h.fv _ e)) (fun hle => by have := (h.out i hi).2; omega)
  · rw [World.size_setCell]
    exact hlt _ (h.out i hi).2
  · refine ⟨ht.os, ht.tape, ht.output, by rw [World.size_setCell]; exact ht.size, fun k hk hn => hold k hk (fun e => hn (by rw [e]; exact h.fR)) (fun hg => hn (h.fv k (hG k hg))), fun k hk => hk.elim .inl (fun e => (hv k e).elim (fun e' => .inl (h.fv k e')) .inr)⟩
/-- An ID is taken out of the map. -/
theorem HomeAt.deleted (h : HomeAt w F R it ls M b ev v) (x : UInt64) : ∃ w', (∀ ty, (Builtin.delete_ #[47, 22] ty #[.map (some b), .int .u64 x.toNat]).run Tryz.prog w = .ok (.tuple #[]) w') ∧ ∃ n, (∀ i, it = some i → n ≤ i.cnt) ∧
    HomeAt w' F R (it.map fun i => i.drop x n) ls (upd M x none) b (upd ev x none) v ∧ Turn F F w w' := by
  obtain ⟨w5, hdel, ⟨n, hn, hm5⟩, ht5⟩ := tmap_delete h.map x
  refine ⟨w5, hdel, n, hn, ?_, ⟨ht5.os, ht5.tape, ht5.output, ht5.size, fun j hj hnj => ht5.block j hj (fun e => hnj (by rw [e]; exact h.fb)), fun j hj => .inl hj⟩⟩
  refine ⟨(ht5.block R h.lt h.R_ne).trans h.head, hm5, fun y => ?_, fun y d hy => ?_, own_turn h.links ht5 (fun g hg e => (h.b_ne hg).2 e), h.fR, h.fb, h.fv, h.there.later ht5.size, fun i hi => ?_⟩
  · by_cases hy : y = x
    · exact .inl ⟨by rw [hy, upd_same], by rw [hy, upd_same]⟩
    · rcases h.deeds y with ⟨h1, h2⟩ | ⟨a, c, d, h1, h2, h3, h4⟩
      · exact .inl ⟨(upd_other _ _ hy).trans h1, (upd_other _ _ hy).trans h2⟩
      · exact .inr ⟨a, c, d, (upd_other _ _ hy).trans h1, (upd_other _ _ hy).trans h2, own_turn h3 ht5 (fun g hg e => (h.i_ne h3 hg).2.1 e), h4⟩
  · by_cases e : y = x
    · rw [e, upd_same] at hy; cases hy
    · rw [upd_other _ _ e] at hy
      exact h.fine y d hy
  · cases it with
    | none => cases hi
    | some j =>
      cases hi
      exact ⟨(h.out j rfl).1, Nat.lt_of_lt_of_le (h.out j rfl).2 ht5.size⟩
/-- A deed whose Ins lie in a new block is put into the map. -/
theorem HomeAt.put (h : HomeAt w F R none ls M b ev v) (ks : List UInt64) (hks : ∀ x, (M x).isSome = true → x ∈ ks) (hkl : ks.length ≤ 1000) (x : UInt64) {a : Option Addr} {c : Nat} {d : DeedD} (hd : checkD d = 0) (hb : Below w.heap.size w w') (ho : w'.ownsRow w.heap.size 62 2 (.slice a d.ins.length c) d.ins.length (insC d.ins)) :
    ∃ w2, (Instr.mapUpdate 47 (.map (some b)) (.int .u64 x.toNat) (deedV a c d)).run Tryz.prog w' = .ok () w2 ∧ ∃ F', HomeAt w2 F' R none ls (upd M x (some d)) b (upd ev x (some (deedV a c d))) v ∧ Turn F F' w w2 := by
  have h' := h.kept hb
  obtain ⟨w2, hrun, hm2, ht2⟩ := tmap_put h'.map ks (fun y hy => hks y (by rw [← h.there_is y]; exact hy)) hkl x (deedV a c d)
  have hnew : ∀ g, (Value.slice a d.ins.length c).ownBlock = some g → w.heap.size ≤ g := fun g hg => (ho.lt g hg).1
  have hbl := h.there b h.fb
  refine ⟨w2, hrun, fun k => F k ∨ (Value.slice a d.ins.length c).ownBlock = some k, ⟨(ht2.block R h'.lt h.R_ne).trans h'.head, hm2, fun y => ?_, fun y e hy => ?_, own_turn h'.links ht2 (fun g hg e => (h.b_ne hg).2 e), .inl h.fR, .inl h.fb, fun g hg => .inl (h.fv g hg), fun k hk => ?_, fun i hi => by cases hi⟩, ?_⟩
  · by_cases e : y = x
    · refine .inr ⟨a, c, d, by rw [e, upd_same], by rw [e, upd_same], ?_, fun g hg => .inr hg⟩
      have ho2 := own_turn ho ht2 (fun g hg e => by have := hnew g hg; omega)
      exact ⟨ho2.1, ho2.2.imp id fun ⟨g, cap, cur, q1, q2, q3⟩ => ⟨g, cap, cur, q1, Nat.zero_le _, q3⟩⟩
    · rcases h'.deeds y with ⟨h1, h2⟩ | ⟨a', c', d', h1, h2, h3, h4⟩
      · exact .inl ⟨(upd_other _ _ e).trans h1, (upd_other _ _ e).trans h2⟩
      · exact .inr ⟨a', c', d', (upd_other _ _ e).trans h1, (upd_other _ _ e).trans h2, own_turn h3 ht2 (fun g hg e => (h'.i_ne h3 hg).2.1 e), fun g hg => .inl (h4 g hg)⟩
  · by_cases e' : y = x
    · rw [e', upd_same] at hy; cases hy; exact hd
    · rw [upd_other _ _ e'] at hy
      exact h.fine y e hy
  · exact hk.elim (fun hf => Nat.lt_of_lt_of_le (h'.there k hf) ht2.size) (fun e => Nat.lt_of_lt_of_le (ho.lt k e).2 ht2.size)
  · have : Turn F F w' w2 := ⟨ht2.os, ht2.tape, ht2.output, ht2.size, fun j hj hnj => ht2.block j hj (fun e => hnj (by rw [e]; exact h.fb)), fun j hj => .inl hj⟩
    exact ((Turn.of_below hb).trans this).more (fun k hk => hk.elim .inl (fun e => .inr (hnew k e)))
end Go.Proofs.YtaaaplbjeknbkaaGreat.So.Ho
