/-
  A tracker that a law has made, with memory of the law's own beside it.
-/
import Derived.Test.YtamiddnkgjfdhaaHolders
import Derived.Test.YtamiddnkgjfdhaaTrackLaws1
import Derived.Test.YtamiddnkgjfdhaaIntOpen
namespace Go.Proofs.Ytamiddnkgjfdhaa
open Go.RowKit Go.Maps

/-- A tracker that a law has made since the world w0; the blocks Z are the law's own. -/
def TrkZ (w0 w : World) (R : Nat) (salt : UInt64) (L : List TEnt) (Z : Nat → Prop) : Prop := ∃ F, TL w F R salt L ∧ (∀ k, F k → w0.heap.size ≤ k) ∧ Below w0.heap.size w0 w ∧ ∀ k, Z k → ¬ F k ∧ k < w.heap.size ∧ w0.heap.size ≤ k
/-- These blocks are as they were. -/
def SameOn (Z : Nat → Prop) (w w' : World) : Prop := ∀ k, Z k → w'.heap[k]? = w.heap[k]?
theorem SameOn.own {Z : Nat → Prop} {w w' : World} (h : SameOn Z w w') {B : Nat} {e : TypeId} {size n : Nat} {v : Value} {xs : List Value} (ho : w.ownsRow B e size v n xs) (hz : ∀ k, v.ownBlock = some k → Z k) : w'.ownsRow B e size v n xs := own_same ho fun g hg => h g (hz g hg)
theorem SameOn.trans {Z : Nat → Prop} {a b c : World} (h : SameOn Z a b) (k : SameOn Z b c) : SameOn Z a c := fun i hi => (k i hi).trans (h i hi)
theorem Trk.z {w0 w : World} {R : Nat} {salt : UInt64} {L : List TEnt} (h : Trk w0 w R salt L) : TrkZ w0 w R salt L (fun _ => False) := by
  obtain ⟨F, h1, h2, h3⟩ := h
  exact ⟨F, h1, h2, h3, fun _ h => h.elim⟩
theorem TrkZ.trk {w0 w : World} {R : Nat} {salt : UInt64} {L : List TEnt} {Z : Nat → Prop} (h : TrkZ w0 w R salt L Z) : Trk w0 w R salt L := by
  obtain ⟨F, h1, h2, h3, _⟩ := h
  exact ⟨F, h1, h2, h3⟩
theorem TrkZ.below {w0 w : World} {R : Nat} {salt : UInt64} {L : List TEnt} {Z : Nat → Prop} (h : TrkZ w0 w R salt L Z) : Below w0.heap.size w0 w := h.trk.below
theorem TrkZ.good {w0 w : World} {R : Nat} {salt : UInt64} {L : List TEnt} {Z : Nat → Prop} (h : TrkZ w0 w R salt L Z) : Good L := h.trk.good
theorem TrkZ.less {w0 w : World} {R : Nat} {salt : UInt64} {L : List TEnt} {Z Z' : Nat → Prop} (h : TrkZ w0 w R salt L Z) (hz : ∀ k, Z' k → Z k) : TrkZ w0 w R salt L Z' := by
  obtain ⟨F, h1, h2, h3, h4⟩ := h
  exact ⟨F, h1, h2, h3, fun k hk => h4 k (hz k hk)⟩
theorem TrkZ.turned {w0 w w' : World} {F F' : Nat → Prop} {R : Nat} {salt : UInt64} {L' : List TEnt} {Z : Nat → Prop} (h2 : ∀ k, F k → w0.heap.size ≤ k) (h3 : Below w0.heap.size w0 w) (h4 : ∀ k, Z k → ¬ F k ∧ k < w.heap.size ∧ w0.heap.size ≤ k) (h' : TL w' F' R salt L') (ht : Turn F F' w w') : TrkZ w0 w' R salt L' Z ∧ SameOn Z w w' :=
  ⟨⟨F', h', ht.above h2 h3.size, h3.trans (ht.below h2 h3.size), fun k hk => ⟨fun hf => (ht.own k hf).elim (h4 k hk).1 (fun hle => by have := (h4 k hk).2.1; omega), Nat.lt_of_lt_of_le (h4 k hk).2.1 ht.size, (h4 k hk).2.2⟩⟩, fun k hk => ht.block k (h4 k hk).2.1 (h4 k hk).1⟩
theorem TrkZ.kept {w0 w w' : World} {R : Nat} {salt : UInt64} {L : List TEnt} {Z : Nat → Prop} (h : TrkZ w0 w R salt L Z) (hb : Below w.heap.size w w') : TrkZ w0 w' R salt L Z ∧ SameOn Z w w' := by
  obtain ⟨F, h1, h2, h3, h4⟩ := h
  exact TrkZ.turned h2 h3 h4 (h1.kept hb) (Turn.of_below hb)
/-- The law writes into its own memory, or makes some. -/
theorem TrkZ.beside {w0 w w' : World} {R : Nat} {salt : UInt64} {L : List TEnt} {Z Z' G G' : Nat → Prop} (h : TrkZ w0 w R salt L Z) (ht : Turn G G' w w') (hG : ∀ k, G k → Z k) (hZ : ∀ k, Z' k → (Z k ∨ w.heap.size ≤ k) ∧ k < w'.heap.size) : TrkZ w0 w' R salt L Z' := by
  obtain ⟨F, h1, h2, h3, h4⟩ := h
  refine ⟨F, h1.turn ht (fun k hf hg => (h4 k (hG k hg)).1 hf), h2, h3.trans (ht.below (fun k hk => (h4 k (hG k hk)).2.2) h3.size), fun k hk => ?_⟩
  obtain ⟨h5, h6⟩ := hZ k hk
  refine ⟨fun hf => h5.elim (fun hz => (h4 k hz).1 hf) (fun hle => by have := h1.there k hf; omega), h6, h5.elim (fun hz => (h4 k hz).2.2) (fun hle => Nat.le_trans h3.size hle)⟩
theorem TrkZ.grown {w0 w w' : World} {R : Nat} {salt : UInt64} {L : List TEnt} {Z Z' : Nat → Prop} {row : Option Nat} (h : TrkZ w0 w R salt L Z) (hg : w.grownBy w' row) (hr : ∀ k, row = some k → Z k) (hZ : ∀ k, Z' k → (Z k ∨ w.heap.size ≤ k) ∧ k < w'.heap.size) : TrkZ w0 w' R salt L Z' := h.beside (Turn.of_grown hg hr) (fun _ hk => hk) hZ

theorem trkz_announce (w0 : World) (R : Nat) (salt : UInt64) (L : List TEnt) (Z : Nat → Prop) (w : World) (h : TrkZ w0 w R salt L Z) (p : Int) (x : UInt64) (t : Int) (f : Bool) (c : Int) (L' : List TEnt) (hc : annC L p x t f = (c, L')) : Calls Try.prog 19 #[.pointer (some ⟨R, 0, none⟩), .int .i64 p, .int .u64 x.toNat, .int .i64 t, .bool f] w fun e w' =>
    e = .returned (.int .i64 c) ∧ TrkZ w0 w' R salt L' Z ∧ SameOn Z w w' := by
  obtain ⟨F, h1, h2, h3, h4⟩ := h
  refine (tl_announce F R salt L w h1 p x t f).mono ?_
  rw [hc]
  rintro e w' ⟨rfl, F', h5, h6⟩
  exact ⟨rfl, TrkZ.turned h2 h3 h4 h5 h6⟩
theorem trkz_due (w0 : World) (R : Nat) (salt : UInt64) (L : List TEnt) (Z : Nat → Prop) (w : World) (h : TrkZ w0 w R salt L Z) (now : Int) : Calls Try.prog 30 #[.pointer (some ⟨R, 0, none⟩), .int .i64 now] w fun e w' => e = .returned (.tuple #[]) ∧ TrkZ w0 w' R salt (dueL now L) Z ∧ SameOn Z w w' := by
  obtain ⟨F, h1, h2, h3, h4⟩ := h
  refine (tl_due F R salt L w h1 now).mono ?_
  rintro e w' ⟨rfl, F', h5, h6⟩
  exact ⟨rfl, TrkZ.turned h2 h3 h4 h5 h6⟩
theorem trkz_ask (w0 : World) (R : Nat) (salt : UInt64) (L : List TEnt) (Z : Nat → Prop) (w : World) (h : TrkZ w0 w R salt L Z) (p : Int) (x : UInt64) (t : Int) (c : Int) (L' : List TEnt) (hc : askC L p x t = (c, L')) : Calls Try.prog 26 #[.pointer (some ⟨R, 0, none⟩), .int .i64 p, .int .u64 x.toNat, .int .i64 t] w fun e w' =>
    e = .returned (.int .i64 c) ∧ TrkZ w0 w' R salt L' Z ∧ SameOn Z w w' := by
  obtain ⟨F, h1, h2, h3, h4⟩ := h
  refine (tl_ask F R salt L w h1 p x t).mono ?_
  rw [hc]
  rintro e w' ⟨rfl, F', h5, h6⟩
  exact ⟨rfl, TrkZ.turned h2 h3 h4 h5 h6⟩
/-- The slice that is handed out is the law's own from now on. -/
theorem trkz_next (w0 : World) (R : Nat) (salt : UInt64) (L : List TEnt) (Z : Nat → Prop) (w : World) (h : TrkZ w0 w R salt L Z) (p : Int) (n : Nat) (hpn : p = n) (hp : n < 8) (l : List UInt64) (hl : (idsOf L n).filter ((ofL salt L).isNext n) = l) : Calls Try.prog 20 #[.pointer (some ⟨R, 0, none⟩), .int .i64 p] w fun e w' =>
    ∃ a cap, e = .returned (.tuple #[.slice a l.length cap, .int .i64 0]) ∧ (l.length ≤ cap ∧ IdsAt w' a l) ∧ TrkZ w0 w' R salt L (fun k => Z k ∨ ∃ o sp, a = some ⟨k, o, sp⟩ ∧ 0 < l.length) ∧ SameOn Z w w' := by
  subst hpn
  have hh := h
  obtain ⟨F, h1, h2, h3, h4⟩ := h
  refine (tl_next F R salt L w h1 n hp).mono ?_
  rw [hl]
  rintro e w' ⟨⟨a, cap, rfl, h5, h6, h7⟩, hb⟩
  obtain ⟨k1, k2⟩ := hh.kept hb
  refine ⟨a, cap, rfl, ⟨h5, h6⟩, hh.beside (Z' := fun k => Z k ∨ ∃ o sp, a = some ⟨k, o, sp⟩ ∧ 0 < l.length) (G := fun _ => False) (G' := fun _ => False) ⟨hb.os, hb.tape, hb.output, hb.size, fun k hk _ => hb.block k hk, fun _ h => h.elim⟩ (fun _ h => h.elim) (fun k hk => ?_), k2⟩
  rcases hk with hk | ⟨o, sp, e, hpos⟩
  · exact ⟨.inl hk, Nat.lt_of_lt_of_le (h4 k hk).2.1 hb.size⟩
  · obtain ⟨b, o', e', hlt, _⟩ := h6 0 hpos
    rw [e] at e'
    cases e'
    exact ⟨.inr (h7 k o none e), hlt⟩
theorem trkz_holders (w0 : World) (R : Nat) (salt : UInt64) (L : List TEnt) (Z : Nat → Prop) (w : World) (h : TrkZ w0 w R salt L Z) (x : UInt64) (l : List Int) (hl : holdersL L x = l) : Calls Try.prog 15 #[.pointer (some ⟨R, 0, none⟩), .int .u64 x.toNat] w fun e w' =>
    ∃ a cap, e = .returned (.slice a l.length cap) ∧ IntsAt w' a l ∧ TrkZ w0 w' R salt L Z ∧ Below w.heap.size w w' := by
  have hh := h
  obtain ⟨F, h1, h2, h3, h4⟩ := h
  refine (tl_holders F R salt L w h1 x).mono ?_
  rw [hl]
  rintro e w' ⟨⟨a, cap, rfl, h5, h6, h7⟩, hb⟩
  exact ⟨a, cap, rfl, h6, (hh.kept hb).1, hb⟩
theorem below_same {Z : Nat → Prop} {w w' : World} (hb : Below w.heap.size w w') (hz : ∀ k, Z k → k < w.heap.size) : SameOn Z w w' := fun k hk => hb.block k (hz k hk)
theorem u64_next (y : UInt64) : IntKind.u64.wrap ((y.toNat : Int) + 1) = ((y + 1).toNat : Int) := by
  rw [UInt64.toNat_add]
  have e : (1 : UInt64).toNat = 1 := rfl
  have hy := y.toNat_lt
  rw [e]
  show ((y.toNat : Int) + 1) % 18446744073709551616 = _
  omega
theorem u64_next_ne (y : UInt64) : y + 1 ≠ y := fun e => by
  have h := congrArg UInt64.toNat e
  rw [UInt64.toNat_add] at h
  have e1 : (1 : UInt64).toNat = 1 := rfl
  have hy := y.toNat_lt
  rw [e1] at h
  omega
/-- 'append(s, x)', and where the new slice lies. -/
theorem append_id2 {ops : Array Oper} {rest : List Oper} {o : Oper} {a : Act} {Q : Exit → Act → World → Prop} {w : World} (hgd : o.guard = none) (s x : Operand) (ho : o.op = .call { callee := .builtin .append, args := #[s, x], argTypes := #[44, 44] })
    {B : Nat} {v : Value} {d : List UInt64} (y : UInt64) (hs : a.eval s = v) (hx : a.eval x = .slice (some ⟨w.heap.size, 0, none⟩) 1 1) (hown : OwnIds w B v d) (hlen : d.length ≤ 1000000) (hB : B ≤ w.heap.size)
    (h : ∀ g cap w', OwnIds w' B (.slice (some ⟨g, 0, none⟩) (d.length + 1) cap) (d ++ [y]) → w.grownBy w' v.ownBlock → (v.ownBlock = some g ∨ w.heap.size ≤ g) → wpList Try.prog ops Q rest (a.put o.dst (.slice (some ⟨g, 0, none⟩) (d.length + 1) cap)) w') :
    wpList Try.prog ops Q (o :: rest) a (w.alloc (.cells #[.int .u64 y.toNat] 22)) := by
  obtain ⟨i0, hi0, hz0, hz1, hz2⟩ := info_parts info_u64
  refine wpList_append_lies _ hgd s x 44 ho B 22 i0 (.int .u64 0) 1 8 Try.underlying44 hi0 hz0 hz1 hz2 rfl (by decide) v d.length (d.map idV) hs (hown.alloc _) ⟨w.heap.size, 0, none⟩ 1 1 [.int .u64 y.toNat] hx rfl (cells_new w _ _) (by simp [Value.oneCell']) (by decide) (by unfold maxLen; omega) (by omega) (by simp; omega) _ rfl ?_
  intro g cap w1 hown' hgrow hat _
  refine h g cap w1 ?_ ((World.grownBy_alloc w _ _).trans hgrow) (hat.imp id (fun e => by rw [e]; simp))
  unfold OwnIds
  rw [List.length_append, List.map_append]
  exact hown'
/-- The law's own slice has grown. -/
theorem TrkZ.appended {w0 w w' : World} {R : Nat} {salt : UInt64} {L : List TEnt} {v : Value} {g n cap : Nat} (h : TrkZ w0 w R salt L (fun k => v.ownBlock = some k)) (hg : w.grownBy w' v.ownBlock) (hat : v.ownBlock = some g ∨ w.heap.size ≤ g) (hlt : g < w'.heap.size) : TrkZ w0 w' R salt L (fun k => (Value.slice (some ⟨g, 0, none⟩) n cap).ownBlock = some k) :=
  h.grown hg (fun _ hk => hk) (fun k hk => by
    have hk' : g = k := by simpa [Value.ownBlock] using hk
    subst hk'
    exact ⟨hat, hlt⟩)
end Go.Proofs.Ytamiddnkgjfdhaa
