/-
  A tracker in memory.
-/
import Derived.Test.YtamiddnkgjfdhaaIdsDel
import Derived.Test.YtamiddnkgjfdhaaTMap
namespace Go.Proofs.Ytamiddnkgjfdhaa
open Go.RowKit Go.Maps

/-- A tracker as plain data: its salt, the entries of each ID that has some in the map, the IDs of each peer. -/
structure TS where
  salt : UInt64
  E : UInt64 → Option (List TEnt)
  I : Nat → List UInt64
/-- The entries of an ID. -/
def TS.ents (s : TS) (x : UInt64) : List TEnt := (s.E x).getD []
/-- A function with another value in one place. -/
def upd {α β : Type} [DecidableEq α] (f : α → β) (a : α) (v : β) : α → β := fun x => if x = a then v else f x
theorem upd_same {α β : Type} [DecidableEq α] (f : α → β) (a : α) (v : β) : upd f a v a = v := if_pos rfl
theorem upd_other {α β : Type} [DecidableEq α] (f : α → β) {a x : α} (v : β) (h : x ≠ a) : upd f a v x = f x := if_neg h
/-- The ten cells of a tracker. -/
def trackC (salt : UInt64) (b : Nat) (pv : Nat → Value) : Array Value := #[.int .u64 salt.toNat, .map (some b), pv 0, pv 1, pv 2, pv 3, pv 4, pv 5, pv 6, pv 7]
/-- Block R is a tracker with the data s: its map lies in block b and holds the slices ev, the peers' slices are pv; F: the blocks that it owns. -/
structure TrackAt (w : World) (F : Nat → Prop) (R : Nat) (it : Option It) (s : TS) (b : Nat) (ev : UInt64 → Option Value) (pv : Nat → Value) : Prop where
  head : w.heap[R]? = some (.cells (trackC s.salt b pv) 68 (0, 0))
  map : TMap w b it ev
  ents : ∀ x, (ev x = none ∧ s.E x = none) ∨ ∃ v l, ev x = some v ∧ s.E x = some l ∧ OwnEnts w v l
  ids : ∀ p, p < 8 → OwnIds w 0 (pv p) (s.I p)
  eapart : ∀ x y u v g, ev x = some u → ev y = some v → u.ownBlock = some g → v.ownBlock = some g → x = y
  papart : ∀ p q g, p < 8 → q < 8 → (pv p).ownBlock = some g → (pv q).ownBlock = some g → p = q
  fR : F R
  fb : F b
  fe : ∀ x v g, ev x = some v → v.ownBlock = some g → F g
  fp : ∀ p g, p < 8 → (pv p).ownBlock = some g → F g
  there : There w F
  out : ∀ i, it = some i → ¬ F i.r ∧ i.r < w.heap.size

theorem own_at {w : World} {B : Nat} {e : TypeId} {size n : Nat} {v : Value} {xs : List Value} {g : Nat} (h : w.ownsRow B e size v n xs) (hg : v.ownBlock = some g) : ∃ cur, w.heap[g]? = some (.cells cur e (0, 0)) := by
  rcases h.2 with ⟨hv, _⟩ | ⟨g', cap, cur, hv, _, hh, _⟩
  · rw [hv] at hg; cases hg
  · rw [hv] at hg
    simp only [Value.ownBlock, Option.some.injEq] at hg
    subst hg
    exact ⟨cur, hh⟩
theorem own_same {w w' : World} {B : Nat} {e : TypeId} {size n : Nat} {v : Value} {xs : List Value} (h : w.ownsRow B e size v n xs) (hs : ∀ g, v.ownBlock = some g → w'.heap[g]? = w.heap[g]?) : w'.ownsRow B e size v n xs := by
  refine ⟨h.1, ?_⟩
  rcases h.2 with hv | ⟨g, cap, cur, hv, hb, hh, r⟩
  · exact .inl hv
  · exact .inr ⟨g, cap, cur, hv, hb, (hs g (by rw [hv]; rfl)).trans hh, r⟩
theorem own_turn {w w' : World} {G G' : Nat → Prop} {B : Nat} {e : TypeId} {size n : Nat} {v : Value} {xs : List Value} (h : w.ownsRow B e size v n xs) (ht : Turn G G' w w') (hn : ∀ g, v.ownBlock = some g → ¬ G g) : w'.ownsRow B e size v n xs :=
  own_same h fun g hg => ht.block g ((h.lt g hg).2) (hn g hg)

variable {w w' : World} {F : Nat → Prop} {R : Nat} {it : Option It} {s : TS} {b : Nat} {ev : UInt64 → Option Value} {pv : Nat → Value}

theorem TrackAt.row (h : TrackAt w F R it s b ev pv) {x : UInt64} {v : Value} (hv : ev x = some v) : ∃ l, s.E x = some l ∧ OwnEnts w v l := by
  rcases h.ents x with ⟨h1, _⟩ | ⟨v', l, h1, h2, h3⟩
  · rw [h1] at hv; cases hv
  · rw [h1] at hv; cases hv; exact ⟨l, h2, h3⟩
theorem TrackAt.same (h : TrackAt w F R it s b ev pv) (e : ∀ k, k < w.heap.size → F k → w'.heap[k]? = w.heap[k]?) (er : ∀ i, it = some i → w'.heap[i.r]? = w.heap[i.r]?) (hs : w.heap.size ≤ w'.heap.size) : TrackAt w' F R it s b ev pv where
  head := (e R (h.there R h.fR) h.fR).trans h.head
  map := tmap_same h.map (e b (h.there b h.fb) h.fb) er
  ents := fun x => (h.ents x).imp id fun ⟨v, l, h1, h2, h3⟩ => ⟨v, l, h1, h2, own_same h3 fun g hg => e g (h.there g (h.fe x v g h1 hg)) (h.fe x v g h1 hg)⟩
  ids := fun p hp => own_same (h.ids p hp) fun g hg => e g (h.there g (h.fp p g hp hg)) (h.fp p g hp hg)
  eapart := h.eapart
  papart := h.papart
  fR := h.fR
  fb := h.fb
  fe := h.fe
  fp := h.fp
  there := h.there.later hs
  out := fun i hi => ⟨(h.out i hi).1, Nat.lt_of_lt_of_le (h.out i hi).2 hs⟩
theorem TrackAt.kept (h : TrackAt w F R it s b ev pv) (hb : Below w.heap.size w w') : TrackAt w' F R it s b ev pv :=
  h.same (fun k hk _ => hb.block k hk) (fun i hi => hb.block i.r (h.out i hi).2) hb.size
theorem TrackAt.turn (h : TrackAt w F R it s b ev pv) {G G' : Nat → Prop} (ht : Turn G G' w w') (ha : Apart F G) (hr : ∀ i, it = some i → ¬ G i.r) : TrackAt w' F R it s b ev pv :=
  h.same (fun k hk hf => ht.block k hk (ha k hf)) (fun i hi => ht.block i.r (h.out i hi).2 (hr i hi)) ht.size
theorem TrackAt.lt (h : TrackAt w F R it s b ev pv) : R < w.heap.size := h.there R h.fR
theorem head_cell {w : World} {R : Nat} {cs : Array Value} {t : TypeId} {fr : Nat × Nat} (h : w.heap[R]? = some (.cells cs t fr)) (j : Nat) : w.cell? ⟨R, j, none⟩ = cs[j]? := by simp [World.cell?, h]
theorem TrackAt.salt (h : TrackAt w F R it s b ev pv) : w.cell? ⟨R, 0, none⟩ = some (.int .u64 s.salt.toNat) := head_cell h.head 0
theorem TrackAt.mapc (h : TrackAt w F R it s b ev pv) : w.cell? ⟨R, 1, none⟩ = some (.map (some b)) := head_cell h.head 1
theorem trackC_at (salt : UInt64) (b : Nat) (pv : Nat → Value) (p : Nat) (hp : p < 8) : (trackC salt b pv)[2 + p]? = some (pv p) := by
  match p, hp with
  | 0, _ => rfl
  | 1, _ => rfl
  | 2, _ => rfl
  | 3, _ => rfl
  | 4, _ => rfl
  | 5, _ => rfl
  | 6, _ => rfl
  | 7, _ => rfl
theorem trackC_set (salt : UInt64) (b : Nat) (pv : Nat → Value) (p : Nat) (hp : p < 8) (v : Value) : (trackC salt b pv).setIfInBounds (2 + p) v = trackC salt b (upd pv p v) := by
  match p, hp with
  | 0, _ => rfl
  | 1, _ => rfl
  | 2, _ => rfl
  | 3, _ => rfl
  | 4, _ => rfl
  | 5, _ => rfl
  | 6, _ => rfl
  | 7, _ => rfl
theorem TrackAt.idc (h : TrackAt w F R it s b ev pv) (p : Nat) (hp : p < 8) : w.cell? ⟨R, 2 + p, none⟩ = some (pv p) ∧ w.frozen? ⟨R, 2 + p, none⟩ = false :=
  ⟨(head_cell h.head (2 + p)).trans (trackC_at _ _ _ p hp), frozen_of_row w R (2 + p) _ _ h.head⟩
theorem TrackAt.look (h : TrackAt w F R it s b ev pv) (x : UInt64) : (Instr.lookup 65 (.map (some b)) (.int .u64 x.toNat) false).run Try.prog w = .ok ((ev x).getD (.slice none 0 0)) w := tmap_look h.map x
/-- The slice of an ID, as the map answers it. -/
theorem TrackAt.slice (h : TrackAt w F R it s b ev pv) (x : UInt64) : OwnEnts w ((ev x).getD (.slice none 0 0)) (s.ents x) := by
  rcases h.ents x with ⟨h1, h2⟩ | ⟨v, l, h1, h2, h3⟩
  · rw [h1]; unfold TS.ents; rw [h2]; exact World.ownsRow_nil _ _ _ _
  · rw [h1]; unfold TS.ents; rw [h2]; exact h3
/-- The kinds of blocks tell them apart. -/
theorem TrackAt.e_ne (h : TrackAt w F R it s b ev pv) {x : UInt64} {v : Value} {g : Nat} (hv : ev x = some v) (hg : v.ownBlock = some g) : g ≠ R ∧ g ≠ b ∧ ∀ p, p < 8 → (pv p).ownBlock ≠ some g := by
  obtain ⟨l, _, ho⟩ := h.row hv
  obtain ⟨cur, hc⟩ := own_at ho hg
  refine ⟨fun e => ?_, fun e => ?_, fun p hp e => ?_⟩
  · rw [e, h.head] at hc; simp at hc
  · obtain ⟨D, hm, _⟩ := h.map
    obtain ⟨n, es, clock, hb, _⟩ := mapIs_owns hm
    rw [e, hb] at hc; cases hc
  · obtain ⟨cur', hc'⟩ := own_at (h.ids p hp) e
    rw [hc'] at hc; simp at hc
theorem TrackAt.p_ne (h : TrackAt w F R it s b ev pv) {p g : Nat} (hp : p < 8) (hg : (pv p).ownBlock = some g) : g ≠ R ∧ g ≠ b ∧ ∀ x v, ev x = some v → v.ownBlock ≠ some g := by
  obtain ⟨cur, hc⟩ := own_at (h.ids p hp) hg
  refine ⟨fun e => ?_, fun e => ?_, fun x v hv e => (h.e_ne hv e).2.2 p hp hg⟩
  · rw [e, h.head] at hc; simp at hc
  · obtain ⟨D, hm, _⟩ := h.map
    obtain ⟨n, es, clock, hb, _⟩ := mapIs_owns hm
    rw [e, hb] at hc; cases hc
theorem TrackAt.R_ne (h : TrackAt w F R it s b ev pv) : R ≠ b := fun e => by
  obtain ⟨D, hm, _⟩ := h.map
  obtain ⟨n, es, clock, hb, _⟩ := mapIs_owns hm
  have := h.head
  rw [e, hb] at this; cases this

/-- The entries of an ID are written in their places. -/
theorem TrackAt.setEnts (h : TrackAt w F R it s b ev pv) {x : UInt64} {v : Value} {g : Nat} {l : List TEnt} (hv : ev x = some v) (hg : v.ownBlock = some g) (ht : Turn (fun k => k = g) (fun k => k = g) w w') (ho : OwnEnts w' v l) :
    TrackAt w' F R it { s with E := upd s.E x (some l) } b ev pv ∧ Turn F F w w' := by
  obtain ⟨n1, n2, n3⟩ := h.e_ne hv hg
  refine ⟨⟨(ht.block R h.lt (fun e => n1 e.symm)).trans h.head, tmap_same h.map (ht.block b (h.there b h.fb) (fun e => n2 e.symm)) (fun i hi => ht.block i.r (h.out i hi).2 (fun e => (h.out i hi).1 (by rw [e]; exact h.fe x v g hv hg))), fun y => ?_, fun p hp => own_turn (h.ids p hp) ht (fun k hk e => n3 p hp (by rw [← e]; exact hk)),
    h.eapart, h.papart, h.fR, h.fb, h.fe, h.fp, h.there.later ht.size, fun i hi => ⟨(h.out i hi).1, Nat.lt_of_lt_of_le (h.out i hi).2 ht.size⟩⟩, ?_⟩
  · by_cases hy : y = x
    · subst hy
      exact .inr ⟨v, l, hv, upd_same _ _ _, ho⟩
    · rcases h.ents y with ⟨h1, h2⟩ | ⟨u, m, h1, h2, h3⟩
      · exact .inl ⟨h1, (upd_other _ _ hy).trans h2⟩
      · exact .inr ⟨u, m, h1, (upd_other _ _ hy).trans h2, own_turn h3 ht (fun k hk e => hy (h.eapart y x u v g h1 hv (by rw [← e]; exact hk) hg))⟩
  · exact ⟨ht.os, ht.tape, ht.output, ht.size, fun k hk hn => ht.block k hk (fun e => hn (by rw [e]; exact h.fe x v g hv hg)), fun k hk => .inl hk⟩
/-- The IDs of a peer are written anew, in their block or a new one, and the slice is stored. -/
theorem TrackAt.setIds (h : TrackAt w F R it s b ev pv) {p : Nat} (hp : p < 8) {v : Value} {l : List UInt64} {G : Nat → Prop} (hG : ∀ k, G k → (pv p).ownBlock = some k) (ht : Turn G G w w') (ho : OwnIds w' 0 v l) (hv : ∀ k, v.ownBlock = some k → (pv p).ownBlock = some k ∨ w.heap.size ≤ k) :
    TrackAt (w'.setCell ⟨R, 2 + p, none⟩ v) (fun k => F k ∨ v.ownBlock = some k) R it { s with I := upd s.I p l } b ev (upd pv p v) ∧ Turn F (fun k => F k ∨ v.ownBlock = some k) w (w'.setCell ⟨R, 2 + p, none⟩ v) := by
  have hnR : ¬ G R := fun hg => (h.p_ne hp (hG R hg)).1 rfl
  have hnb : ¬ G b := fun hg => (h.p_ne hp (hG b hg)).2.1 rfl
  have hlt : ∀ k, k < w.heap.size → k < w'.heap.size := fun k hk => Nat.lt_of_lt_of_le hk ht.size
  have hset : ∀ k, k ≠ R → (w'.setCell ⟨R, 2 + p, none⟩ v).heap[k]? = w'.heap[k]? := fun k hk => Below.heap_setCell w' ⟨R, 2 + p, none⟩ v k hk
  have hold : ∀ k, k < w.heap.size → k ≠ R → ¬ G k → (w'.setCell ⟨R, 2 + p, none⟩ v).heap[k]? = w.heap[k]? := fun k hk hkR hn => (hset k hkR).trans (ht.block k hk hn)
  have hvR : ∀ k, v.ownBlock = some k → k ≠ R := fun k hk => (hv k hk).elim (fun e => (h.p_ne hp e).1) (fun hle e => by have := h.lt; omega)
  have hlater : ∀ k, F k ∨ v.ownBlock = some k → k < (w'.setCell ⟨R, 2 + p, none⟩ v).heap.size := fun k hk => by
    rw [World.size_setCell]
    exact hk.elim (fun hf => hlt k (h.there k hf)) (fun e => (ho.lt k e).2)
  refine ⟨⟨?_, tmap_same h.map (hold b (h.there b h.fb) (fun e => h.R_ne e.symm) hnb) (fun i hi => hold i.r (h.out i hi).2 (fun e => (h.out i hi).1 (by rw [e]; exact h.fR)) (fun hg => (h.out i hi).1 (h.fp p i.r hp (hG _ hg)))), fun x => (h.ents x).imp id fun ⟨u, m, h1, h2, h3⟩ => ⟨u, m, h1, h2, own_same h3 fun g hg => hold g (h.there g (h.fe x u g h1 hg)) (h.e_ne h1 hg).1 (fun hk => (h.e_ne h1 hg).2.2 p hp (hG g hk))⟩,
    fun q hq => ?_, h.eapart, fun q r g hq hr h1 h2 => ?_, .inl h.fR, .inl h.fb, fun x u g h1 h2 => .inl (h.fe x u g h1 h2), fun q g hq hg => ?_, hlater, fun i hi => ⟨fun hk => ?_, ?_⟩⟩, ?_⟩
  · rw [← trackC_set _ _ _ p hp]
    exact heap_setCell_same w' R (2 + p) _ _ v ((ht.block R h.lt hnR).trans h.head)
  · by_cases hqp : q = p
    · subst hqp
      show OwnIds _ 0 (upd pv q v q) (upd s.I q l q)
      rw [upd_same, upd_same]
      exact own_same ho fun g hg => hset g (hvR g hg)
    · show OwnIds _ 0 (upd pv p v q) (upd s.I p l q)
      rw [upd_other _ _ hqp, upd_other _ _ hqp]
      exact own_same (h.ids q hq) fun g hg => hold g (h.there g (h.fp q g hq hg)) (h.p_ne hq hg).1 (fun hk => hqp (h.papart q p g hq hp hg (hG g hk)))
  · have key : ∀ q g, q < 8 → q ≠ p → (upd pv p v q).ownBlock = some g → v.ownBlock ≠ some g := fun q g hq hqp h1 h2 => by
      rw [upd_other _ _ hqp] at h1
      exact (hv g h2).elim (fun e => hqp (h.papart q p g hq hp h1 e)) (fun hle => by have := h.there g (h.fp q g hq h1); omega)
    by_cases hqp : q = p
    · by_cases hrp : r = p
      · rw [hqp, hrp]
      · rw [hqp, upd_same] at h1
        exact absurd h1 (key r g hr hrp h2)
    · by_cases hrp : r = p
      · rw [hrp, upd_same] at h2
        exact absurd h2 (key q g hq hqp h1)
      · rw [upd_other _ _ hqp] at h1
        rw [upd_other _ _ hrp] at h2
        exact h.papart q r g hq hr h1 h2
  · by_cases hqp : q = p
    · rw [hqp, upd_same] at hg
      exact .inr hg
    · rw [upd_other _ _ hqp] at hg
      exact .inl (h.fp q g hq hg)
  · rcases hk with hk | hk
    · exact (h.out i hi).1 hk
    · exact (hv _ hk).elim (fun e => (h.out i hi).1 (h.fp p _ hp e)) (fun hle => by have := (h.out i hi).2; omega)
  · rw [World.size_setCell]
    exact hlt _ (h.out i hi).2
  · refine ⟨ht.os, ht.tape, ht.output, by rw [World.size_setCell]; exact ht.size, fun k hk hn => hold k hk (fun e => hn (by rw [e]; exact h.fR)) (fun hg => hn (h.fp p k hp (hG k hg))), fun k hk => hk.elim .inl (fun e => (hv k e).elim (fun e' => .inl (h.fp p k hp e')) .inr)⟩
end Go.Proofs.Ytamiddnkgjfdhaa
