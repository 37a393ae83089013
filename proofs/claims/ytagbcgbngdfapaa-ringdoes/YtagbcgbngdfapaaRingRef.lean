/-
  The reference's filter in memory (its generations are slices of IDs), and the contracts of its Put, Has and Count.
-/
import Derived.Test.YtagbcgbngdfapaaRingMath
import Derived.Test.YtagbcgbngdfapaaTurn
import Derived.Test.YtagbcgbngdfapaaIdsOwn
import Derived.Deep.OwnRows
import Derived.BigQuiet
namespace Go.Proofs.Ytagbcgbngdfapaa
open Go.RowKit Go.Maps

/-- A slice of IDs in a block of G other than B, or nil. -/
def RowAt (w : World) (G : Nat → Prop) (B : Nat) (v : Value) (l : List UInt64) : Prop :=
  (l = [] ∧ v = .slice none 0 0) ∨ ∃ b c, v = .slice (some ⟨b, 0, none⟩) l.length c ∧ 0 < l.length ∧ G b ∧ b ≠ B ∧ IdsAt w (some ⟨b, 0, none⟩) l
theorem idsAt_block {w w' : World} {b o : Nat} {l : List UInt64} (h : IdsAt w (some ⟨b, o, none⟩) l) (e : w'.heap[b]? = w.heap[b]?) (hs : w.heap.size ≤ w'.heap.size) : IdsAt w' (some ⟨b, o, none⟩) l := fun i hi => by
  obtain ⟨b', o', he, hb, hc⟩ := h i hi
  cases he
  exact ⟨_, _, rfl, Nat.lt_of_lt_of_le hb hs, (World.cell?_of_block (a := ⟨b, o + i, none⟩) e).trans hc⟩
theorem rowAt_same {w w' : World} {G G' : Nat → Prop} {B : Nat} {v : Value} {l : List UInt64} (h : RowAt w G B v l) (e : ∀ k, G k → k ≠ B → w'.heap[k]? = w.heap[k]?) (hG : ∀ k, G k → G' k) (hs : w.heap.size ≤ w'.heap.size) : RowAt w' G' B v l := by
  rcases h with h | ⟨b, c, h1, h2, h3, h4, h5⟩
  · exact .inl h
  · exact .inr ⟨b, c, h1, h2, hG b h3, h4, idsAt_block h5 (e b h3 h4) hs⟩
theorem rowAt_form {w : World} {G : Nat → Prop} {B : Nat} {v : Value} {l : List UInt64} (h : RowAt w G B v l) : ∃ a c, v = .slice a l.length c ∧ IdsAt w a l := by
  rcases h with ⟨rfl, rfl⟩ | ⟨b, c, h1, _, _, _, h5⟩
  · exact ⟨none, 0, rfl, idsAt_nil w none⟩
  · exact ⟨_, c, h1, h5⟩
theorem rowAt_nil (w : World) (G : Nat → Prop) (B : Nat) : RowAt w G B (.slice none 0 0) [] := .inl ⟨rfl, rfl⟩
/-- The cells of a filter of the reference. -/
def boxR (n : Int) (y o : Value) (i : Nat) : Value := (#[.int .i64 n, y, o][i]?).getD undef
/-- Block B is a filter of the reference; G: the blocks that it owns. -/
def RefAt (w : World) (G : Nat → Prop) (B : Nat) (s : RingS) : Prop :=
  ∃ y o, w.rowIs B 30 3 (boxR s.size y o) ∧ RowAt w G B y s.cur ∧ RowAt w G B o s.prev ∧ G B ∧ There w G
theorem refAt_same {w w' : World} {G : Nat → Prop} {B : Nat} {s : RingS} (h : RefAt w G B s) (e : ∀ k, k < w.heap.size → G k → w'.heap[k]? = w.heap[k]?) (hs : w.heap.size ≤ w'.heap.size) : RefAt w' G B s := by
  obtain ⟨y, o, h1, h2, h3, h4, h5⟩ := h
  exact ⟨y, o, h1.of_block (e B (h5 B h4) h4), rowAt_same h2 (fun k hk _ => e k (h5 k hk) hk) (fun _ hk => hk) hs, rowAt_same h3 (fun k hk _ => e k (h5 k hk) hk) (fun _ hk => hk) hs, h4, h5.later hs⟩
theorem refAt_kept {w w' : World} {G : Nat → Prop} {B : Nat} {s : RingS} (h : RefAt w G B s) (hb : Below w.heap.size w w') : RefAt w' G B s := refAt_same h (fun k hk _ => hb.block k hk) hb.size
theorem refAt_turn {w w' : World} {F F' G : Nat → Prop} {B : Nat} {s : RingS} (h : RefAt w G B s) (ht : Turn F F' w w') (ha : Apart G F) : RefAt w' G B s := refAt_same h (fun k hk hg => ht.block k hk (ha k hg)) ht.size
theorem refAt_there {w : World} {G : Nat → Prop} {B : Nat} {s : RingS} (h : RefAt w G B s) : There w G := by
  obtain ⟨_, _, _, _, _, _, h⟩ := h
  exact h
theorem boxR_made (w : World) (n : Int) (y o : Value) : (w.alloc (.cells #[.int .i64 n, y, o] 30)).rowIs w.heap.size 30 3 (boxR n y o) :=
  World.rowIs_alloc w #[.int .i64 n, y, o] 30 _ (fun i hi => by
    have : i < 3 := hi
    match i, this with
    | 0, _ => rfl
    | 1, _ => rfl
    | 2, _ => rfl)
theorem boxR_set0 {w : World} {b : Nat} {n m : Int} {y o : Value} (h : w.rowIs b 30 3 (boxR n y o)) : (w.setCell ⟨b, 0, none⟩ (.int .i64 m)).rowIs b 30 3 (boxR m y o) :=
  (h.set 0 _).congr fun i hi => by
    match i, hi with
    | 0, _ => rfl
    | 1, _ => rfl
    | 2, _ => rfl
theorem boxR_set1 {w : World} {b : Nat} {n : Int} {y o u : Value} (h : w.rowIs b 30 3 (boxR n y o)) : (w.setCell ⟨b, 1, none⟩ u).rowIs b 30 3 (boxR n u o) :=
  (h.set 1 u).congr fun i hi => by
    match i, hi with
    | 0, _ => rfl
    | 1, _ => rfl
    | 2, _ => rfl
theorem boxR_set2 {w : World} {b : Nat} {n : Int} {y o u : Value} (h : w.rowIs b 30 3 (boxR n y o)) : (w.setCell ⟨b, 2, none⟩ u).rowIs b 30 3 (boxR n y u) :=
  (h.set 2 u).congr fun i hi => by
    match i, hi with
    | 0, _ => rfl
    | 1, _ => rfl
    | 2, _ => rfl
theorem boxR_cells {w : World} {b : Nat} {n : Int} {y o : Value} (h : w.rowIs b 30 3 (boxR n y o)) :
    (w.cell? ⟨b, 0, none⟩ = some (.int .i64 n) ∧ w.cell? ⟨b, 1, none⟩ = some y ∧ w.cell? ⟨b, 2, none⟩ = some o) ∧ w.frozen? ⟨b, 0, none⟩ = false ∧ w.frozen? ⟨b, 1, none⟩ = false ∧ w.frozen? ⟨b, 2, none⟩ = false :=
  ⟨⟨h.cell (i := 0) (by omega), h.cell (i := 1) (by omega), h.cell (i := 2) (by omega)⟩, h.frozen 0, h.frozen 1, h.frozen 2⟩
theorem ref_made (w : World) (n : Nat) : RefAt (w.alloc (.cells #[.int .i64 n, .slice none 0 0, .slice none 0 0] 30)) (fun k => k = w.heap.size) w.heap.size (RingS.none n) :=
  ⟨_, _, boxR_made w n _ _, .inl ⟨rfl, rfl⟩, .inl ⟨rfl, rfl⟩, rfl, fun k hk => by simp; omega⟩

/-- The reference's Copy. -/
theorem copy_any (G : Nat → Prop) (B : Nat) (v : Value) (l : List UInt64) (w : World) (h : RowAt w G B v l) (hl : l.length ≤ 1000) :
    Calls Try.prog 20 #[v] w fun e w' => ∃ v', e = .returned v' ∧ OwnIds w' w.heap.size v' l ∧ Below w.heap.size w w' := by
  obtain ⟨i0, hi0, hz0, hz1, hz2⟩ := info_parts info_u64
  rcases h with ⟨rfl, rfl⟩ | ⟨b, c, rfl, hpos, hG, hne, hi⟩
  · have hnil := ownIds_nil w w.heap.size
    go_enter Try.func20, Try.ntmps20
    go_wp2_with (at_builtin; refine wpList_append_own_none rfl _ _ 28 rfl w.heap.size 31 i0 1 Try.underlying28 hi0 _ 0 [] rfl hnil rfl ?_)
    go_ret
    exact ⟨_, rfl, hnil, Below.refl _ _⟩
  · have hnews : ∀ j u, (l.map idV)[j]? = some u → w.cell? ((⟨b, 0, none⟩ : Addr).add j) = some u := fun j u hu => by
      have hj : j < l.length := by
        rcases Nat.lt_or_ge j l.length with h | h
        · exact h
        · rw [List.getElem?_eq_none (by simpa using h)] at hu; cases hu
      obtain ⟨b', o', e, _, hc⟩ := hi j hj
      cases e
      have f0 : (⟨b, 0, none⟩ : Addr).add j = ⟨b, 0 + j, none⟩ := by unfold Addr.add; split <;> simp_all
      rw [f0, hc]
      rw [List.getElem?_map, List.getElem?_eq_getElem hj] at hu
      exact hu
    have hone : ∀ u ∈ l.map idV, u.oneCell' = true := fun u hu => by
      obtain ⟨z, _, rfl⟩ := List.mem_map.1 hu
      rfl
    have hnil := World.ownsRow_nil w w.heap.size 31 1
    clear hi
    go_enter Try.func20, Try.ntmps20
    go_wp2_with (at_builtin; refine wpList_append_lies _ rfl _ _ 28 rfl w.heap.size 31 i0 (.int .u64 0) 1 8 Try.underlying28 hi0 hz0 hz1 hz2 rfl (by decide) _ 0 [] rfl hnil ⟨b, 0, none⟩ l.length c (l.map idV) rfl (by simp) hnews hone hpos (by unfold maxLen; omega) (by omega) (Nat.le_refl _) _ rfl ?_; intro g cap w1 hown hgrow hat hlt)
    go_ret
    refine ⟨_, rfl, ?_, (Below.refl _ _).grown hgrow (Nat.le_refl _) (fun k hk => by cases hk)⟩
    simpa using hown
end Go.Proofs.Ytagbcgbngdfapaa
