/-
  A tracker that a law has made, and three slices of ints of the law's own.
-/
import Derived.Test.YtamiddnkgjfdhaaTrackOneW
import Derived.Test.YtamiddnkgjfdhaaIntList
namespace Go.Proofs.Ytamiddnkgjfdhaa
open Go.RowKit Go.Maps

structure Three (w : World) (C : Nat) (u : Value) (l : List Int) (v : Value) (m : List Int) (y : Value) (n : List Int) : Prop where
  o1 : OwnInts w C u l
  o2 : OwnInts w C v m
  o3 : OwnInts w C y n
  d12 : ∀ k, u.ownBlock = some k → v.ownBlock ≠ some k
  d13 : ∀ k, u.ownBlock = some k → y.ownBlock ≠ some k
  d23 : ∀ k, v.ownBlock = some k → y.ownBlock ≠ some k
def blocks3 (u v y : Value) (k : Nat) : Prop := u.ownBlock = some k ∨ v.ownBlock = some k ∨ y.ownBlock = some k
/-- A tracker and three slices. -/
def Bag (w0 w : World) (R : Nat) (salt : UInt64) (L : List TEnt) (u : Value) (l : List Int) (v : Value) (m : List Int) (y : Value) (n : List Int) : Prop := TrkZ w0 w R salt L (blocks3 u v y) ∧ Three w w0.heap.size u l v m y n
section
variable {w0 w w' : World} {R : Nat} {salt : UInt64} {L L' : List TEnt} {u v y : Value} {l m n : List Int}
theorem Three.rot {C : Nat} (h : Three w C u l v m y n) : Three w C v m y n u l := ⟨h.o2, h.o3, h.o1, h.d23, fun k h1 h2 => h.d12 k h2 h1, fun k h1 h2 => h.d13 k h2 h1⟩
theorem Bag.rot (h : Bag w0 w R salt L u l v m y n) : Bag w0 w R salt L v m y n u l := ⟨h.1.less (fun k hk => by rcases hk with h | h | h; exact .inr (.inl h); exact .inr (.inr h); exact .inl h), h.2.rot⟩
theorem Bag.swap (h : Bag w0 w R salt L u l v m y n) : Bag w0 w R salt L v m u l y n := ⟨h.1.less (fun k hk => by rcases hk with h | h | h; exact .inr (.inl h); exact .inl h; exact .inr (.inr h)), h.2.o2, h.2.o1, h.2.o3, fun k h1 h2 => h.2.d12 k h2 h1, h.2.d23, h.2.d13⟩
theorem Bag.below (h : Bag w0 w R salt L u l v m y n) : Below w0.heap.size w0 w := h.1.below
theorem Bag.start (h : Trk w0 w R salt L) : Bag w0 w R salt L (.slice none 0 0) [] (.slice none 0 0) [] (.slice none 0 0) [] :=
  ⟨h.z.less (fun k hk => by rcases hk with h | h | h <;> cases h), ownInts_nil _ _, ownInts_nil _ _, ownInts_nil _ _, (fun k hk => by cases hk), (fun k hk => by cases hk), (fun k hk => by cases hk)⟩
theorem Bag.turned (h : Bag w0 w R salt L u l v m y n) (h1 : TrkZ w0 w' R salt L' (blocks3 u v y)) (hs : SameOn (blocks3 u v y) w w') : Bag w0 w' R salt L' u l v m y n :=
  ⟨h1, hs.own h.2.o1 (fun _ hk => .inl hk), hs.own h.2.o2 (fun _ hk => .inr (.inl hk)), hs.own h.2.o3 (fun _ hk => .inr (.inr hk)), h.2.d12, h.2.d13, h.2.d23⟩
theorem Bag.kept (h : Bag w0 w R salt L u l v m y n) (hb : Below w.heap.size w w') : Bag w0 w' R salt L u l v m y n := by
  obtain ⟨h1, h2⟩ := h.1.kept hb
  exact h.turned h1 h2
/-- The first of the three has grown. -/
theorem Bag.grown (h : Bag w0 w R salt L u l v m y n) {g len cap : Nat} {l' : List Int} (hg : w.grownBy w' u.ownBlock) (hat : u.ownBlock = some g ∨ w.heap.size ≤ g) (ho : OwnInts w' w0.heap.size (.slice (some ⟨g, 0, none⟩) len cap) l') : Bag w0 w' R salt L (.slice (some ⟨g, 0, none⟩) len cap) l' v m y n := by
  have hgl := (ownInts_block ho g rfl).2
  have e2 : ∀ k, v.ownBlock = some k → w'.heap[k]? = w.heap[k]? := fun k hk => hg.block k (ownInts_block h.2.o2 k hk).2 (fun e => h.2.d12 k e.symm hk)
  have e3 : ∀ k, y.ownBlock = some k → w'.heap[k]? = w.heap[k]? := fun k hk => hg.block k (ownInts_block h.2.o3 k hk).2 (fun e => h.2.d13 k e.symm hk)
  have hsz := hg.size
  refine ⟨h.1.grown hg (fun k hk => .inl hk) (fun k hk => ?_), ho, own_same h.2.o2 e2, own_same h.2.o3 e3, fun k hk hv => ?_, fun k hk hv => ?_, h.2.d23⟩
  · rcases hk with hk | hk | hk
    · have : g = k := by simpa [Value.ownBlock] using hk
      subst this
      exact ⟨hat.imp .inl id, hgl⟩
    · exact ⟨.inl (.inr (.inl hk)), Nat.lt_of_lt_of_le (ownInts_block h.2.o2 k hk).2 hsz⟩
    · exact ⟨.inl (.inr (.inr hk)), Nat.lt_of_lt_of_le (ownInts_block h.2.o3 k hk).2 hsz⟩
  · have : g = k := by simpa [Value.ownBlock] using hk
    subst this
    rcases hat with e | e
    · exact h.2.d12 g e hv
    · have := (ownInts_block h.2.o2 g hv).2; omega
  · have : g = k := by simpa [Value.ownBlock] using hk
    subst this
    rcases hat with e | e
    · exact h.2.d13 g e hv
    · have := (ownInts_block h.2.o3 g hv).2; omega
end
section
variable (w0 : World) (R : Nat) (salt : UInt64) (L : List TEnt) (u : Value) (l : List Int) (v : Value) (m : List Int) (y : Value) (n : List Int) (w : World) (h : Bag w0 w R salt L u l v m y n)
include h
theorem bag_announce (p : Int) (x : UInt64) (t : Int) (f : Bool) (c : Int) (L' : List TEnt) (hc : annC L p x t f = (c, L')) : Calls Try.prog 19 #[.pointer (some ⟨R, 0, none⟩), .int .i64 p, .int .u64 x.toNat, .int .i64 t, .bool f] w fun e w' =>
    e = .returned (.int .i64 c) ∧ Bag w0 w' R salt L' u l v m y n := by
  refine (trkz_announce w0 R salt L _ w h.1 p x t f c L' hc).mono ?_
  rintro e w' ⟨rfl, h1, h2⟩
  exact ⟨rfl, h.turned h1 h2⟩
theorem bag_due (now : Int) : Calls Try.prog 30 #[.pointer (some ⟨R, 0, none⟩), .int .i64 now] w fun e w' => e = .returned (.tuple #[]) ∧ Bag w0 w' R salt (dueL now L) u l v m y n := by
  refine (trkz_due w0 R salt L _ w h.1 now).mono ?_
  rintro e w' ⟨rfl, h1, h2⟩
  exact ⟨rfl, h.turned h1 h2⟩
theorem bag_ask (p : Int) (x : UInt64) (t : Int) (c : Int) (L' : List TEnt) (hc : askC L p x t = (c, L')) : Calls Try.prog 26 #[.pointer (some ⟨R, 0, none⟩), .int .i64 p, .int .u64 x.toNat, .int .i64 t] w fun e w' =>
    e = .returned (.int .i64 c) ∧ Bag w0 w' R salt L' u l v m y n := by
  refine (trkz_ask w0 R salt L _ w h.1 p x t c L' hc).mono ?_
  rintro e w' ⟨rfl, h1, h2⟩
  exact ⟨rfl, h.turned h1 h2⟩
theorem bag_next (p : Nat) (hp : p < 8) (ids : List UInt64) (hl : nextL salt L p = ids) : Calls Try.prog 20 #[.pointer (some ⟨R, 0, none⟩), .int .i64 p] w fun e w' =>
    ∃ a cap, e = .returned (.tuple #[.slice a ids.length cap, .int .i64 0]) ∧ Bag w0 w' R salt L u l v m y n := by
  refine (trkz_next w0 R salt L _ w h.1 p p rfl hp ids hl).mono ?_
  rintro e w' ⟨a, cap, rfl, _, h1, h2⟩
  exact ⟨a, cap, rfl, h.turned (h1.less (fun k hk => .inl hk)) h2⟩
theorem bag_holders (x : UInt64) (hs : List Int) (hl : holdersL L x = hs) : Calls Try.prog 15 #[.pointer (some ⟨R, 0, none⟩), .int .u64 x.toNat] w fun e w' =>
    ∃ a cap, e = .returned (.slice a hs.length cap) ∧ Bag w0 w' R salt L u l v m y n := by
  refine (trkz_holders w0 R salt L _ w h.1 x hs hl).mono ?_
  rintro e w' ⟨a, cap, rfl, _, _, hb⟩
  exact ⟨a, cap, rfl, h.kept hb⟩
end
end Go.Proofs.Ytamiddnkgjfdhaa
