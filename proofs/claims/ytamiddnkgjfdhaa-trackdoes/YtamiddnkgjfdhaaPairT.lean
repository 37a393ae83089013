/-
  A tracker and the reference's, side by side.
-/
import Derived.Test.YtamiddnkgjfdhaaRefT5
import Derived.Test.YtamiddnkgjfdhaaOpsOpen
import Derived.Deep.RegionHeld3
namespace Go.Proofs.Ytamiddnkgjfdhaa
open Go.RowKit Go.Maps

/-- A tracker with entries L and the reference's with entries M, both made since the world w0; they share nothing, and the blocks Z lie beside them. -/
def PairT (w0 w : World) (Z : Nat → Prop) (R B : Nat) (salt : UInt64) (L M : List TEnt) : Prop :=
  ∃ F G v, TL w F R salt L ∧ RefTr w G B salt M v ∧ Good M ∧ Apart F G ∧ (∀ k, F k → w0.heap.size ≤ k) ∧ (∀ k, G k → w0.heap.size ≤ k) ∧ Below w0.heap.size w0 w ∧ ∀ k, Z k → ¬ F k ∧ ¬ G k ∧ k < w.heap.size
section
variable {w0 w w' : World} {Z : Nat → Prop} {R B : Nat} {salt : UInt64} {L M : List TEnt}
theorem PairT.below (h : PairT w0 w Z R B salt L M) : Below w0.heap.size w0 w := by
  obtain ⟨F, G, v, h1, h2, h3, h4, h5, h6, h7, h8⟩ := h
  exact h7
theorem PairT.kept (h : PairT w0 w Z R B salt L M) (hb : Below w.heap.size w w') : PairT w0 w' Z R B salt L M := by
  obtain ⟨F, G, v, h1, h2, h3, h4, h5, h6, h7, h8⟩ := h
  exact ⟨F, G, v, h1.kept hb, h2.kept hb, h3, h4, h5, h6, kept_trans h7 hb, fun k hk => ⟨(h8 k hk).1, (h8 k hk).2.1, Nat.lt_of_lt_of_le (h8 k hk).2.2 hb.size⟩⟩
theorem PairT.there (h : PairT w0 w Z R B salt L M) : ∀ k, Z k → k < w.heap.size := by
  obtain ⟨F, G, v, h1, h2, h3, h4, h5, h6, h7, h8⟩ := h
  exact fun k hk => (h8 k hk).2.2
theorem PairT.less (h : PairT w0 w Z R B salt L M) {Z' : Nat → Prop} (hz : ∀ k, Z' k → Z k) : PairT w0 w Z' R B salt L M := by
  obtain ⟨F, G, v, h1, h2, h3, h4, h5, h6, h7, h8⟩ := h
  exact ⟨F, G, v, h1, h2, h3, h4, h5, h6, h7, fun k hk => h8 k (hz k hk)⟩
/-- One block more beside them. -/
theorem PairT.beside (h : PairT w0 w Z R B salt L M) (o : Obj) : PairT w0 (w.alloc o) (fun k => Z k ∨ k = w.heap.size) R B salt L M := by
  have hb := kept_new w o
  obtain ⟨F, G, v, h1, h2, h3, h4, h5, h6, h7, h8⟩ := h
  refine ⟨F, G, v, h1.kept hb, h2.kept hb, h3, h4, h5, h6, kept_trans h7 hb, fun k hk => ?_⟩
  rcases hk with hk | rfl
  · exact ⟨(h8 k hk).1, (h8 k hk).2.1, Nat.lt_of_lt_of_le (h8 k hk).2.2 hb.size⟩
  · exact ⟨fun hf => Nat.lt_irrefl _ (h1.there _ hf), fun hg => Nat.lt_irrefl _ (h2.there _ hg), by simp⟩
theorem PairT.left {F F' G : Nat → Prop} {v : Value} {L' : List TEnt} (h2 : RefTr w G B salt M v) (h3 : Good M) (h4 : Apart F G) (h5 : ∀ k, F k → w0.heap.size ≤ k) (h6 : ∀ k, G k → w0.heap.size ≤ k) (h7 : Below w0.heap.size w0 w) (h8 : ∀ k, Z k → ¬ F k ∧ ¬ G k ∧ k < w.heap.size)
    (h1 : TL w' F' R salt L') (ht : Turn F F' w w') : PairT w0 w' Z R B salt L' M ∧ SameOn Z w w' :=
  ⟨⟨F', G, v, h1, h2.turn ht h4.symm, h3, ht.apart h4 h2.there, ht.above h5 h7.size, h6, h7.trans (ht.below h5 h7.size), fun k hk => ⟨fun hf => (ht.own k hf).elim (h8 k hk).1 (fun hle => by have := (h8 k hk).2.2; omega), (h8 k hk).2.1, Nat.lt_of_lt_of_le (h8 k hk).2.2 ht.size⟩⟩, fun k hk => ht.block k (h8 k hk).2.2 (h8 k hk).1⟩
theorem PairT.right {F G : Nat → Prop} {M' : List TEnt} (h1 : TL w F R salt L) (h4 : Apart F G) (h5 : ∀ k, F k → w0.heap.size ≤ k) (h6 : ∀ k, G k → w0.heap.size ≤ k) (h7 : Below w0.heap.size w0 w) (h8 : ∀ k, Z k → ¬ F k ∧ ¬ G k ∧ k < w.heap.size)
    (h2 : RefTurned w w' G B salt M') (h3 : Good M') : PairT w0 w' Z R B salt L M' ∧ SameOn Z w w' := by
  obtain ⟨G', v', h2, ht⟩ := h2
  exact ⟨⟨F, G', v', h1.turn ht h4, h2, h3, (ht.apart h4.symm h1.there).symm, h5, ht.above h6 h7.size, h7.trans (ht.below h6 h7.size), fun k hk => ⟨(h8 k hk).1, fun hf => (ht.own k hf).elim (h8 k hk).2.1 (fun hle => by have := (h8 k hk).2.2; omega), Nat.lt_of_lt_of_le (h8 k hk).2.2 ht.size⟩⟩, fun k hk => ht.block k (h8 k hk).2.2 (h8 k hk).2.1⟩
end
section
variable (w0 : World) (Z : Nat → Prop) (R B : Nat) (salt : UInt64) (L M : List TEnt) (w : World) (h : PairT w0 w Z R B salt L M)
include h
theorem pairT_announce (p : Int) (x : UInt64) (t : Int) (f : Bool) (c : Int) (L' : List TEnt) (hc : annC L p x t f = (c, L')) : Calls Try.prog 19 #[.pointer (some ⟨R, 0, none⟩), .int .i64 p, .int .u64 x.toNat, .int .i64 t, .bool f] w fun e w' =>
    e = .returned (.int .i64 c) ∧ PairT w0 w' Z R B salt L' M ∧ SameOn Z w w' := by
  obtain ⟨F, G, v, h1, h2, h3, h4, h5, h6, h7, h8⟩ := h
  refine (tl_announce F R salt L w h1 p x t f).mono ?_
  rw [hc]
  rintro e w' ⟨rfl, F', h9, ht⟩
  exact ⟨rfl, PairT.left h2 h3 h4 h5 h6 h7 h8 h9 ht⟩
theorem pairT_due (now : Int) : Calls Try.prog 30 #[.pointer (some ⟨R, 0, none⟩), .int .i64 now] w fun e w' => e = .returned (.tuple #[]) ∧ PairT w0 w' Z R B salt (dueL now L) M ∧ SameOn Z w w' := by
  obtain ⟨F, G, v, h1, h2, h3, h4, h5, h6, h7, h8⟩ := h
  refine (tl_due F R salt L w h1 now).mono ?_
  rintro e w' ⟨rfl, F', h9, ht⟩
  exact ⟨rfl, PairT.left h2 h3 h4 h5 h6 h7 h8 h9 ht⟩
theorem pairT_ask (p : Int) (x : UInt64) (t : Int) (c : Int) (L' : List TEnt) (hc : askC L p x t = (c, L')) : Calls Try.prog 26 #[.pointer (some ⟨R, 0, none⟩), .int .i64 p, .int .u64 x.toNat, .int .i64 t] w fun e w' =>
    e = .returned (.int .i64 c) ∧ PairT w0 w' Z R B salt L' M ∧ SameOn Z w w' := by
  obtain ⟨F, G, v, h1, h2, h3, h4, h5, h6, h7, h8⟩ := h
  refine (tl_ask F R salt L w h1 p x t).mono ?_
  rw [hc]
  rintro e w' ⟨rfl, F', h9, ht⟩
  exact ⟨rfl, PairT.left h2 h3 h4 h5 h6 h7 h8 h9 ht⟩
theorem pairT_answer (p : Int) (x : UInt64) (c : Int) (L' : List TEnt) (hc : answerC L p x = (c, L')) : Calls Try.prog 35 #[.pointer (some ⟨R, 0, none⟩), .int .i64 p, .int .u64 x.toNat] w fun e w' =>
    e = .returned (.int .i64 c) ∧ PairT w0 w' Z R B salt L' M ∧ SameOn Z w w' := by
  obtain ⟨F, G, v, h1, h2, h3, h4, h5, h6, h7, h8⟩ := h
  refine (tl_answer F R salt L w h1 p x).mono ?_
  rw [hc]
  rintro e w' ⟨rfl, F', h9, ht⟩
  exact ⟨rfl, PairT.left h2 h3 h4 h5 h6 h7 h8 h9 ht⟩
theorem pairT_forget (x : UInt64) : Calls Try.prog 27 #[.pointer (some ⟨R, 0, none⟩), .int .u64 x.toNat] w fun e w' => e = .returned (.tuple #[]) ∧ PairT w0 w' Z R B salt (forgetL L x) M ∧ SameOn Z w w' := by
  obtain ⟨F, G, v, h1, h2, h3, h4, h5, h6, h7, h8⟩ := h
  refine (tl_forget F R salt L w h1 x).mono ?_
  rintro e w' ⟨rfl, F', h9, ht⟩
  exact ⟨rfl, PairT.left h2 h3 h4 h5 h6 h7 h8 h9 ht⟩
theorem pairT_drop (p : Int) (c : Int) (L' : List TEnt) (hc : dropC L p = (c, L')) : Calls Try.prog 29 #[.pointer (some ⟨R, 0, none⟩), .int .i64 p] w fun e w' =>
    e = .returned (.int .i64 c) ∧ PairT w0 w' Z R B salt L' M ∧ SameOn Z w w' := by
  obtain ⟨F, G, v, h1, h2, h3, h4, h5, h6, h7, h8⟩ := h
  refine (tl_drop F R salt L w h1 p).mono ?_
  rw [hc]
  rintro e w' ⟨rfl, F', h9, ht⟩
  exact ⟨rfl, PairT.left h2 h3 h4 h5 h6 h7 h8 h9 ht⟩
theorem pairT_refannounce (p : Int) (x : UInt64) (t : Int) (f : Bool) (c : Int) (M' : List TEnt) (hc : annC M p x t f = (c, M')) : Calls Try.prog 32 #[.pointer (some ⟨B, 0, none⟩), .int .i64 p, .int .u64 x.toNat, .int .i64 t, .bool f] w fun e w' =>
    e = .returned (.int .i64 c) ∧ PairT w0 w' Z R B salt L M' ∧ SameOn Z w w' := by
  obtain ⟨F, G, v, h1, h2, h3, h4, h5, h6, h7, h8⟩ := h
  unfold annC at hc
  by_cases hg : goodP p ∧ goodT t
  · rw [if_pos hg] at hc
    obtain ⟨n, rfl, hn, hnn⟩ := peer_nat hg.1
    rw [hnn] at hc
    refine (refAnn_any n hn x t hg.2 f w h2 (all_few h3.peer h3.few)).mono ?_
    have hgd := good_ann h3 hn x t f
    rw [hc] at hgd ⊢
    rintro e w' ⟨rfl, h9⟩
    exact ⟨rfl, PairT.right h1 h4 h5 h6 h7 h8 h9 hgd⟩
  · rw [if_neg hg] at hc
    cases hc
    refine (refAnn_bad (B := B) p t (by by_cases hp : goodP p; exact .inr (fun ht => hg ⟨hp, ht⟩); exact .inl hp) x f w).mono ?_
    rintro e w' ⟨rfl, rfl⟩
    exact ⟨rfl, PairT.right h1 h4 h5 h6 h7 h8 (ref_still h2 (Below.refl _ _)) h3⟩
theorem pairT_refdue (now : Int) : Calls Try.prog 33 #[.pointer (some ⟨B, 0, none⟩), .int .i64 now] w fun e w' => e = .returned (.tuple #[]) ∧ PairT w0 w' Z R B salt L (dueL now M) ∧ SameOn Z w w' := by
  obtain ⟨F, G, v, h1, h2, h3, h4, h5, h6, h7, h8⟩ := h
  refine (refDue_any now w h2 (all_few h3.peer h3.few) h3.st).mono ?_
  rintro e w' ⟨rfl, h9⟩
  exact ⟨rfl, PairT.right h1 h4 h5 h6 h7 h8 h9 (good_due h3 now)⟩
theorem pairT_refask (p : Int) (x : UInt64) (t : Int) (c : Int) (M' : List TEnt) (hc : askC M p x t = (c, M')) : Calls Try.prog 34 #[.pointer (some ⟨B, 0, none⟩), .int .i64 p, .int .u64 x.toNat, .int .i64 t] w fun e w' =>
    e = .returned (.int .i64 c) ∧ PairT w0 w' Z R B salt L M' ∧ SameOn Z w w' := by
  obtain ⟨F, G, v, h1, h2, h3, h4, h5, h6, h7, h8⟩ := h
  unfold askC at hc
  by_cases hg : goodP p ∧ goodT t
  · rw [if_pos hg] at hc
    obtain ⟨n, rfl, hn, hnn⟩ := peer_nat hg.1
    rw [hnn] at hc
    refine (refAsk_any n hn x t hg.2 w h2 (all_few h3.peer h3.few) h3.nodup).mono ?_
    have hgd := good_ask h3 n x t
    rw [hc] at hgd ⊢
    rintro e w' ⟨rfl, h9⟩
    exact ⟨rfl, PairT.right h1 h4 h5 h6 h7 h8 h9 hgd⟩
  · rw [if_neg hg] at hc
    cases hc
    refine (refAsk_bad (B := B) p t (by by_cases hp : goodP p; exact .inr (fun ht => hg ⟨hp, ht⟩); exact .inl hp) x w).mono ?_
    rintro e w' ⟨rfl, rfl⟩
    exact ⟨rfl, PairT.right h1 h4 h5 h6 h7 h8 (ref_still h2 (Below.refl _ _)) h3⟩
theorem pairT_refanswer (p : Int) (x : UInt64) (c : Int) (M' : List TEnt) (hc : answerC M p x = (c, M')) : Calls Try.prog 36 #[.pointer (some ⟨B, 0, none⟩), .int .i64 p, .int .u64 x.toNat] w fun e w' =>
    e = .returned (.int .i64 c) ∧ PairT w0 w' Z R B salt L M' ∧ SameOn Z w w' := by
  obtain ⟨F, G, v, h1, h2, h3, h4, h5, h6, h7, h8⟩ := h
  unfold answerC at hc
  by_cases hg : goodP p
  · rw [if_pos hg] at hc
    obtain ⟨n, rfl, hn, hnn⟩ := peer_nat hg
    rw [hnn] at hc
    refine (refAnswer_any n hn x w h2 (all_few h3.peer h3.few) h3.nodup).mono ?_
    have hgd := good_answer h3 n x
    rw [hc] at hgd ⊢
    rintro e w' ⟨rfl, h9⟩
    exact ⟨rfl, PairT.right h1 h4 h5 h6 h7 h8 h9 hgd⟩
  · rw [if_neg hg] at hc
    cases hc
    refine (refAnswer_bad (B := B) p hg x w).mono ?_
    rintro e w' ⟨rfl, rfl⟩
    exact ⟨rfl, PairT.right h1 h4 h5 h6 h7 h8 (ref_still h2 (Below.refl _ _)) h3⟩
theorem pairT_refforget (x : UInt64) : Calls Try.prog 37 #[.pointer (some ⟨B, 0, none⟩), .int .u64 x.toNat] w fun e w' => e = .returned (.tuple #[]) ∧ PairT w0 w' Z R B salt L (forgetL M x) ∧ SameOn Z w w' := by
  obtain ⟨F, G, v, h1, h2, h3, h4, h5, h6, h7, h8⟩ := h
  refine (refForget_any x w h2 (all_few h3.peer h3.few)).mono ?_
  rintro e w' ⟨rfl, h9⟩
  exact ⟨rfl, PairT.right h1 h4 h5 h6 h7 h8 h9 (good_forget h3 x)⟩
theorem pairT_refdrop (p : Int) (c : Int) (M' : List TEnt) (hc : dropC M p = (c, M')) : Calls Try.prog 38 #[.pointer (some ⟨B, 0, none⟩), .int .i64 p] w fun e w' =>
    e = .returned (.int .i64 c) ∧ PairT w0 w' Z R B salt L M' ∧ SameOn Z w w' := by
  obtain ⟨F, G, v, h1, h2, h3, h4, h5, h6, h7, h8⟩ := h
  unfold dropC at hc
  by_cases hg : goodP p
  · rw [if_pos hg] at hc
    obtain ⟨n, rfl, hn, hnn⟩ := peer_nat hg
    rw [hnn] at hc
    refine (refDrop_any n hn w h2 (all_few h3.peer h3.few)).mono ?_
    cases hc
    rintro e w' ⟨rfl, h9⟩
    exact ⟨rfl, PairT.right h1 h4 h5 h6 h7 h8 h9 (good_drop h3 n)⟩
  · rw [if_neg hg] at hc
    cases hc
    refine (refDrop_bad (B := B) p hg w).mono ?_
    rintro e w' ⟨rfl, hb⟩
    exact ⟨rfl, PairT.right h1 h4 h5 h6 h7 h8 (ref_still h2 hb) h3⟩
theorem pairT_holders (x : UInt64) (l : List Int) (hl : holdersL L x = l) : Calls Try.prog 15 #[.pointer (some ⟨R, 0, none⟩), .int .u64 x.toNat] w fun e w' => ∃ a cap, e = .returned (.slice a l.length cap) ∧ IntsAt w' a l ∧ Below w.heap.size w w' := by
  obtain ⟨F, G, v, h1, h2, h3, h4, h5, h6, h7, h8⟩ := h
  refine (tl_holders F R salt L w h1 x).mono ?_
  rw [hl]
  rintro e w' ⟨⟨a, cap, rfl, _, h9, _⟩, hb⟩
  exact ⟨a, cap, rfl, h9, hb⟩
theorem pairT_refholders (x : UInt64) (l : List Int) (hl : holdersL M x = l) : Calls Try.prog 16 #[.pointer (some ⟨B, 0, none⟩), .int .u64 x.toNat] w fun e w' => ∃ a cap, e = .returned (.slice a l.length cap) ∧ IntsAt w' a l ∧ Below w.heap.size w w' := by
  obtain ⟨F, G, v, h1, h2, h3, h4, h5, h6, h7, h8⟩ := h
  refine (refHolders_any x w h2 (all_few h3.peer h3.few)).mono ?_
  rw [hl]
  rintro e w' ⟨⟨a, cap, rfl, _, h9, _⟩, hb⟩
  exact ⟨a, cap, rfl, h9, hb⟩
theorem pairT_counts (p n m k : Int) (hk : (if goodP p then (((L.filter fun e => e.peer == p.toNat).length : Int), ((L.filter fun e => e.peer == p.toNat && e.st == 2).length : Int), (0 : Int)) else (0, 0, 1)) = (n, m, k)) :
    Calls Try.prog 17 #[.pointer (some ⟨R, 0, none⟩), .int .i64 p] w fun e w' => e = .returned (.tuple #[.int .i64 n, .int .i64 m, .int .i64 k]) ∧ Below w.heap.size w w' := by
  obtain ⟨F, G, v, h1, h2, h3, h4, h5, h6, h7, h8⟩ := h
  exact tl_counts F R salt L w h1 p n m k hk
theorem pairT_refcounts (p n m k : Int) (hk : (if goodP p then (((M.filter fun e => e.peer == p.toNat).length : Int), ((M.filter fun e => e.peer == p.toNat && e.st == 2).length : Int), (0 : Int)) else (0, 0, 1)) = (n, m, k)) :
    Calls Try.prog 18 #[.pointer (some ⟨B, 0, none⟩), .int .i64 p] w fun e w' => e = .returned (.tuple #[.int .i64 n, .int .i64 m, .int .i64 k]) ∧ Below w.heap.size w w' := by
  obtain ⟨F, G, v, h1, h2, h3, h4, h5, h6, h7, h8⟩ := h
  by_cases hg : goodP p
  · rw [if_pos hg] at hk
    obtain ⟨q, rfl, hn, hnn⟩ := peer_nat hg
    rw [hnn] at hk
    simp only [Prod.mk.injEq] at hk
    obtain ⟨rfl, rfl, rfl⟩ := hk
    exact refCounts_any q hn w h2 (all_few h3.peer h3.few)
  · rw [if_neg hg] at hk
    simp only [Prod.mk.injEq] at hk
    obtain ⟨rfl, rfl, rfl⟩ := hk
    refine (refCounts_bad (B := B) p hg w).mono ?_
    rintro e w' ⟨rfl, rfl⟩
    exact ⟨rfl, Below.refl _ _⟩
end
/-- Both are new. -/
theorem pairT_made {w0 w : World} {R : Nat} {salt : UInt64} (h : Trk w0 w R salt []) : PairT w0 (w.alloc (.cells #[.int .u64 salt.toNat, .slice none 0 0] 29)) (fun _ => False) R w.heap.size salt [] [] := by
  obtain ⟨F, h1, h2, h3⟩ := h
  refine ⟨F, fun k => k = w.heap.size, .slice none 0 0, h1.kept (kept_new _ _), ⟨by show (w.heap.push _)[w.heap.size]? = _; rw [Array.getElem?_push_size], World.ownsRow_nil _ _ _ _, fun _ => rfl, rfl, fun k hk => by simp [Value.ownBlock] at hk, fun k hk => by rw [hk]; simp⟩, good_nil, fun k hf hg => ?_, h2, fun k hk => by rw [hk]; exact h3.size, kept_alloc h3 _, fun _ hz => hz.elim⟩
  have := h1.there k hf
  omega
end Go.Proofs.Ytamiddnkgjfdhaa
