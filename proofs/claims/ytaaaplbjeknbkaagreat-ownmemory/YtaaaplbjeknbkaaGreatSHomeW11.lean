/-
  The contract of Add.
-/
import Derived.Test.YtaaaplbjeknbkaaGreatSHomeW10
import Derived.Test.YtaaaplbjeknbkaaGreatSHomeMath
set_option maxRecDepth 20000
namespace Go.Proofs.YtaaaplbjeknbkaaGreat.So.Ho
open Go.Proofs.YtaaaplbjeknbkaaGreat.Ho
open Go.RowKit Go.Maps

variable {w w' : World} {F : Nat → Prop} {R : Nat} {it : Option It} {ls : List LD} {M : UInt64 → Option DeedD} {b : Nat} {ev : UInt64 → Option Value} {v : Value} {L : List LinkD}

theorem info_link : (Tryz.prog.info? 153).map (fun i => (i.zero, i.size, i.bytes)) = some (some (.agg #[.int .i64 0, .int .u64 0]), 2, 16) := by kernel_rfl
/-- A link is appended, and the slice is stored. -/
theorem HomeAt.appended (h : HomeAt w F R none ls M b ev v) {x : LD} {g cap : Nat} {o : Obj} (hg : (w.alloc o).grownBy w' v.ownBlock) (ho : w'.ownsRow 0 153 2 (.slice (some ⟨g, 0, none⟩) (ls.length + 1) cap) (ls.length + 1) (linksC ls ++ linkC x)) (hat : v.ownBlock = some g ∨ g = w.heap.size + 1) :
    (w'.cell? ⟨R, 1, none⟩ = some v ∧ w'.frozen? ⟨R, 1, none⟩ = false ∧ R < w'.heap.size) ∧
      ∃ F', HomeAt (w'.setCell ⟨R, 1, none⟩ (.slice (some ⟨g, 0, none⟩) (ls.length + 1) cap)) F' R none (ls ++ [x]) M b ev (.slice (some ⟨g, 0, none⟩) (ls.length + 1) cap) ∧ Turn F F' w (w'.setCell ⟨R, 1, none⟩ (.slice (some ⟨g, 0, none⟩) (ls.length + 1) cap)) := by
  have ht : Turn (fun k => v.ownBlock = some k) (fun k => v.ownBlock = some k) w w' := (Turn.of_below (kept_new w o)).trans (Turn.of_grown hg (fun k hk => hk))
  have ho' : OwnLinks w' (.slice (some ⟨g, 0, none⟩) (ls.length + 1) cap) (ls ++ [x]) := by
    unfold OwnLinks
    rw [List.length_append, linksC_append]
    have : linksC [x] = linkC x := by simp [linksC]
    rw [this]
    exact ho
  obtain ⟨h2, t2⟩ := h.setLinks (fun k hk => hk) ht ho' (fun k hk => by
    have hk : g = k := by simpa [Value.ownBlock] using hk
    rcases hat with h1 | h1
    · exact .inl (by rw [← hk]; exact h1)
    · exact .inr (by omega))
  have hR := ht.block R h.lt (fun hk => (h.b_ne hk).1 rfl)
  exact ⟨⟨(World.cell?_of_block (a := ⟨R, 1, none⟩) hR).trans h.linkc.1, (World.frozen?_of_block (a := ⟨R, 1, none⟩) hR).trans h.linkc.2, Nat.lt_of_lt_of_le h.lt ht.size⟩, _, h2, t2⟩
/-- A pool with these links and deeds. -/
def HomeL (w : World) (F : Nat → Prop) (R : Nat) (L : List LinkD) : Prop := ∃ b ev v, HomeAt w F R none (lsOf L) (deedOf L) b ev v
/-- A boxed deed. -/
def BoxIs (n : Nat) (a : Option Addr) (cap : Nat) (d : DeedD) (w : World) : Prop := w.heap[n]? = some (.cells #[.slice a d.ins.length cap, .int .i64 d.outs, .int .i64 d.weight, .int .i64 d.fee] 50 (0, 0))
theorem boxIs_cells {n : Nat} {a : Option Addr} {cap : Nat} {d : DeedD} (h : BoxIs n a cap d w) : w.cell? ⟨n, 0, none⟩ = some (.slice a d.ins.length cap) ∧ w.cell? ⟨n, 1, none⟩ = some (.int .i64 d.outs) ∧ w.cell? ⟨n, 2, none⟩ = some (.int .i64 d.weight) ∧ w.cell? ⟨n, 3, none⟩ = some (.int .i64 d.fee) ∧ n < w.heap.size :=
  ⟨head_cell h 0, head_cell h 1, head_cell h 2, head_cell h 3, (cell_spot (head_cell h 0)).2⟩
theorem boxIs_kept {n : Nat} {a : Option Addr} {cap : Nat} {d : DeedD} (h : BoxIs n a cap d w) (hb : Below w.heap.size w w') : BoxIs n a cap d w' := (hb.block n (boxIs_cells h).2.2.2.2).trans h
/-- How many links there are, read off memory. -/
def lenAt (w : World) (R : Nat) : Nat := match w.cell? ⟨R, 1, none⟩ with | some (.slice _ n _) => n | _ => 0
theorem HomeL.lenAt (h : HomeL w F R L) : lenAt w R = L.length := by
  obtain ⟨b, ev, v, h⟩ := h
  obtain ⟨a, cap, rfl, _, _⟩ := h.linkForm
  unfold Go.Proofs.YtaaaplbjeknbkaaGreat.So.Ho.lenAt
  rw [h.linkc.1]
  exact lsOf_len L
/-- The new link with its deed. -/
def newL (L : List LinkD) (p : Nat) (x : UInt64) (d : DeedD) : List LinkD := L ++ [⟨p, x, (deedOf L x).getD d⟩]
theorem deedOf_new (p : Nat) (x : UInt64) (d : DeedD) (y : UInt64) : deedOf (newL L p x d) y = if (deedOf L x).isSome then deedOf L y else upd (deedOf L) x (some d) y := by
  unfold newL
  cases hy : deedOf L y with
  | some e =>
    have h1 : deedOf (L ++ [⟨p, x, (deedOf L x).getD d⟩]) y = some e := by
      unfold deedOf at hy ⊢
      obtain ⟨l, hl, rfl⟩ := Option.map_eq_some_iff.1 hy
      rw [List.find?_append, hl]
      rfl
    rw [h1]
    split
    · rfl
    · rename_i hx
      by_cases e' : y = x
      · rw [← e', hy] at hx
        exact absurd rfl hx
      · rw [upd_other _ _ e', hy]
  | none =>
    have h0 : (L.find? fun l => l.id == y) = none := by
      unfold deedOf at hy
      exact Option.map_eq_none_iff.1 hy
    have h1 : deedOf (L ++ [⟨p, x, (deedOf L x).getD d⟩]) y = if x = y then some ((deedOf L x).getD d) else none := by
      show ((L ++ [(⟨p, x, (deedOf L x).getD d⟩ : LinkD)]).find? fun l : LinkD => l.id == y).map (fun l : LinkD => l.d) = _
      rw [List.find?_append, h0]
      by_cases e : x = y
      · rw [if_pos e]
        simp [e]
      · rw [if_neg e]
        simp [e]
    rw [h1]
    by_cases e : x = y
    · subst e
      rw [hy, if_pos rfl, upd_same]
      simp
    · rw [if_neg e]
      split
      · rfl
      · rw [upd_other _ _ (fun e' => e e'.symm), hy]
theorem newL_good {p : Nat} {x : UInt64} {d : DeedD} (h : GoodL 24 L) (hp : p < 8) (hd : checkD d = 0) (ht : ¬ ∃ l ∈ L, l.peer = p ∧ l.id = x) : GoodL 25 (newL L p x d) where
  len := by unfold newL; have := h.len; simp; omega
  peer := fun l hl => by
    rcases List.mem_append.1 hl with hl | hl
    · exact h.peer l hl
    · rw [List.mem_singleton.1 hl]; exact hp
  fine := fun l hl => by
    rcases List.mem_append.1 hl with hl | hl
    · exact h.fine l hl
    · rw [List.mem_singleton.1 hl]
      show checkD ((deedOf L x).getD d) = 0
      cases hx : deedOf L x with
      | none => exact hd
      | some e =>
        obtain ⟨m, hm, _, rfl⟩ := deedOf_some hx
        exact h.fine m hm
  one := fun l hl m hm e => by
    have key : ∀ l ∈ L, l.id = x → l.d = (deedOf L x).getD d := fun l hl e => by
      rw [← e, deedOf_mem h hl]
      rfl
    rcases List.mem_append.1 hl with hl | hl
    · rcases List.mem_append.1 hm with hm | hm
      · exact h.one l hl m hm e
      · rw [List.mem_singleton.1 hm] at e ⊢
        exact key l hl e
    · rcases List.mem_append.1 hm with hm | hm
      · rw [List.mem_singleton.1 hl] at e ⊢
        exact (key m hm e.symm).symm
      · rw [List.mem_singleton.1 hl, List.mem_singleton.1 hm]
  nodup := by
    unfold newL lsOf
    rw [List.map_append]
    refine List.nodup_append.2 ⟨h.nodup, by simp, ?_⟩
    intro u hu y hy e
    obtain ⟨l, hl, rfl⟩ := List.mem_map.1 hu
    simp only [List.map_cons, List.map_nil, List.mem_singleton] at hy
    rw [hy] at e
    simp only [ldOf, LD.mk.injEq] at e
    exact ht ⟨l, hl, e⟩
end Go.Proofs.YtaaaplbjeknbkaaGreat.So.Ho
