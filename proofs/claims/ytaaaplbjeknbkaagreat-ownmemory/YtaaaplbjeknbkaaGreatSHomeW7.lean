/-
  Contracts of package orphan that take links away: unlink, removeOldest, Remove, Drop.
-/
import Derived.Test.YtaaaplbjeknbkaaGreatSHomeW6
set_option maxRecDepth 20000
namespace Go.Proofs.YtaaaplbjeknbkaaGreat.So.Ho
open Go.Proofs.YtaaaplbjeknbkaaGreat.Ho
open Go.RowKit Go.Maps

variable {w w' : World} {F : Nat → Prop} {R : Nat} {it : Option It} {ls : List LD} {M : UInt64 → Option DeedD} {b : Nat} {ev : UInt64 → Option Value} {v : Value}

/-- The deeds that have a link. -/
def linkedM (ls : List LD) (M : UInt64 → Option DeedD) : UInt64 → Option DeedD := fun y => if ls.any (fun l => l.id == y) then M y else none
/-- The links without the chosen ones: the call, and what the store behind it makes of the pool. -/
theorem unlink_call (K : World → Prop) (hK : ∀ a b, K a → Below a.heap.size a b → K b) (f : FuncId) (fc : Array Value) (q : LD → Bool) (hp : PicksL K f fc q) (w : World) (hw : K w) (h : HomeAt w F R it ls M b ev v) (hKs : ∀ g, F g → ∀ a j u, K a → K (a.setCell ⟨g, j, none⟩ u)) (hl : ls.length ≤ 1000) :
    Calls Tryz.prog 157 #[v, .func (.func f) #[] fc] w fun e w' => ∃ a n cp, e = .returned (.slice a n cp) ∧ (∀ k, k < w.heap.size → ¬ F k → w'.heap[k]? = w.heap[k]?) ∧
      (w'.cell? ⟨R, 1, none⟩ = some v ∧ w'.frozen? ⟨R, 1, none⟩ = false ∧ w.heap.size ≤ w'.heap.size) ∧
      HomeAt (w'.setCell ⟨R, 1, none⟩ (.slice a n cp)) (fun k => F k ∨ (Value.slice a n cp).ownBlock = some k) R it (ls.filter fun e => !q e) M b ev (.slice a n cp) ∧ Turn F (fun k => F k ∨ (Value.slice a n cp).ownBlock = some k) w (w'.setCell ⟨R, 1, none⟩ (.slice a n cp)) := by
  refine (linkDelete_own K hK f fc q hp ls v w hw (fun g hg => hKs g (h.fv g hg)) hl h.links).mono ?_
  rintro e w' ⟨a, n, cp, rfl, ho, hob, ht⟩
  obtain ⟨r1, r2⟩ := h.setLinks (fun k hk => hk) ht ho (fun k hk => .inl (by rw [← hob]; exact hk))
  have hR := ht.block R h.lt (fun hk => (h.b_ne hk).1 rfl)
  refine ⟨a, n, cp, rfl, fun k hk hn => ht.block k hk (fun hk' => hn (h.fv k hk')), ⟨?_, ?_, ht.size⟩, r1, r2⟩
  · exact (World.cell?_of_block (a := ⟨R, 1, none⟩) hR).trans h.linkc.1
  · exact (World.frozen?_of_block (a := ⟨R, 1, none⟩) hR).trans h.linkc.2
theorem box_one {w w' : World} {F : Nat → Prop} {u : Value} {t : TypeId} (h : ∀ k, k < (w.alloc (.cells #[u] t)).drew.heap.size → ¬ F k → w'.heap[k]? = (w.alloc (.cells #[u] t)).drew.heap[k]?) (hn : ¬ F w.heap.size) : w'.cell? ⟨w.heap.size, 0, none⟩ = some u :=
  (World.cell?_of_block (a := ⟨w.heap.size, 0, none⟩) (h w.heap.size (by show _ < (w.alloc _).heap.size; simp) hn)).trans (by show (w.alloc _).cell? _ = _; simp [go_sem])
theorem alloc_lt {w w' : World} {o : Obj} (h : (w.alloc o).drew.heap.size ≤ w'.heap.size) : w.heap.size < w'.heap.size := by
  have : (w.alloc o).drew.heap.size = w.heap.size + 1 := by show (w.alloc o).heap.size = _; simp
  omega
set_option maxRecDepth 20000 in
theorem unlink_any (K : World → Prop) (hK : ∀ a b, K a → Below a.heap.size a b → K b) (f : FuncId) (fc : Array Value) (q : LD → Bool) (hp : PicksL K f fc q) (w : World) (hw : K w) (h : HomeAt w F R none ls M b ev v) (hKs : ∀ g, F g → ∀ a j u, K a → K (a.setCell ⟨g, j, none⟩ u)) (hl : ls.length ≤ 1000) :
    Calls Tryz.prog 129 #[.pointer (some ⟨R, 0, none⟩), .func (.func f) #[] fc] w fun e w' => e = .returned (.tuple #[]) ∧ ∃ F' ev' v', HomeAt w' F' R none (ls.filter fun e => !q e) (linkedM (ls.filter fun e => !q e) M) b ev' v' ∧ Turn F F' w w' := by
  have hkd := (kept_new w (.cells #[.pointer (some ⟨R, 0, none⟩)] 103)).drew
  have hlc := h.linkc.1
  have hlt := h.lt
  have HD := Lib.hid (h.kept hkd)
  have HTD : Hid (Turn F F w _) := Lib.hid (Turn.of_below hkd)
  have HP := Lib.hid hp
  have HK := Lib.hid hK
  have HKs := Lib.hid hKs
  have HW := Lib.hid (hK _ _ hw hkd)
  have HNB : Hid (¬ F w.heap.size) := Lib.hid (fun hF => by have := h.there _ hF; omega)
  clear h hp hK hw hKs hkd
  go_enter Tryz.func129, Tryz.ntmps129
  go_wp2_with fail
  go_region_law (first
    | (go_simp; go_at_call 157; (with_reducible refine (unlink_call K HK.out f fc q HP.out _ HW.out HD.out HKs.out hl).mono ?_); rintro e w1 ⟨a1, n1, cp1, rfl, hk1, ⟨j0, j1, jz⟩, t1, u1⟩; have d0 := box_one hk1 HNB.out; have T1 := Lib.hid t1; have U1 := Lib.hid u1; clear t1 u1 hk1; have hz1 := alloc_lt jz; have hz2 := Nat.lt_trans hlt hz1))
  all_goals
    have d1 : (w1.setCell ⟨R, 1, none⟩ (.slice a1 n1 cp1)).cell? ⟨w.heap.size, 0, none⟩ = some (.pointer (some ⟨R, 0, none⟩)) := (World.cell?_of_block (a := ⟨w.heap.size, 0, none⟩) (Below.heap_setCell _ _ _ _ (by simp; omega))).trans d0
    have HD1 : Hid (CellIs w.heap.size (.pointer (some ⟨R, 0, none⟩)) (w1.setCell ⟨R, 1, none⟩ (.slice a1 n1 cp1))) := Lib.hid d1
    have hm1 := T1.out.mapc
    have hn1 : ¬ (F w.heap.size ∨ (Value.slice a1 n1 cp1).ownBlock = some w.heap.size) := fun hF => by
      rcases U1.out.own _ hF with hF | hF
      · exact HNB.out hF
      · have : (w.alloc (.cells #[.pointer (some ⟨R, 0, none⟩)] 103)).drew.heap.size = w.heap.size + 1 := by show (w.alloc _).heap.size = _; simp
        omega
    have HN1 := Lib.hid hn1
    have hl1 : (ls.filter fun e => !q e).length ≤ 1000 := Nat.le_trans (List.length_filter_le _ _) hl
    clear hn1
    go_wp2_with fail
    with_reducible refine (mapDelete_any w.heap.size _ T1.out hl1 HD1.out HN1.out).mono ?_
    rintro e w3 ⟨rfl, ev3, h3, t3⟩
    have H3 := Lib.hid h3
    have T3 := Lib.hid t3
    clear h3 t3
    go_wp2_with fail
    go_end0
    exact ⟨rfl, _, ev3, _, H3.out, (HTD.out.trans U1.out).trans T3.out⟩
theorem remove_any (x : UInt64) (w : World) (h : HomeAt w F R none ls M b ev v) (hl : ls.length ≤ 1000) :
    Calls Tryz.prog 165 #[.pointer (some ⟨R, 0, none⟩), .int .u64 x.toNat] w fun e w' => e = .returned (.bool (M x).isSome) ∧ ∃ F' ev' v', HomeAt w' F' R none (ls.filter fun e => !(e.id == x)) (linkedM (ls.filter fun e => !(e.id == x)) M) b ev' v' ∧ Turn F F' w w' := by
  have hk := kept_new w (.cells #[.int .u64 x.toNat] 22)
  have H := Lib.hid (h.kept hk)
  have HC : Hid (CellIs w.heap.size (.int .u64 x.toNat) (w.alloc (.cells #[.int .u64 x.toNat] 22))) := Lib.hid (cellIs_new _ _ _)
  have HNB : Hid (∀ g, F g → w.heap.size ≠ g) := Lib.hid (fun g hg => by have := h.there _ hg; omega)
  have HK := Lib.hid hk
  clear h hk
  go_enter Tryz.func165, Tryz.ntmps165
  go_wp2_with fail
  with_reducible refine (has_home x _ H.out).mono ?_
  rintro e w1 ⟨rfl, hb1⟩
  have H1 := Lib.hid (H.out.kept hb1)
  have HC1 := Lib.hid (cellIs_kept _ _ _ _ HC.out hb1)
  have HB1 := Lib.hid (kept_trans HK.out hb1)
  clear hb1
  go_wp2_with fail
  refine (unlink_any _ (cellIs_kept _ _) _ _ _ (picks_remove w.heap.size x) _ HC1.out H1.out (fun g hg => cellIs_set _ (HNB.out g hg)) hl).mono ?_
  rintro e w2 ⟨rfl, F2, ev2, v2, h2, t2⟩
  have H2 := Lib.hid h2
  have T2 := Lib.hid t2
  clear h2 t2
  go_wp2_with fail
  go_ret
  exact ⟨rfl, F2, ev2, v2, H2.out, (Turn.of_below HB1.out).trans T2.out⟩
theorem drop_yes (p : Nat) (hp : p < 8) (w : World) (h : HomeAt w F R none ls M b ev v) (hl : ls.length ≤ 1000) :
    Calls Tryz.prog 87 #[.pointer (some ⟨R, 0, none⟩), .int .i64 p] w fun e w' => e = .returned (.int .i64 0) ∧ ∃ F' ev' v', HomeAt w' F' R none (ls.filter fun e => !(e.peer == p)) (linkedM (ls.filter fun e => !(e.peer == p)) M) b ev' v' ∧ Turn F F' w w' := by
  have hk := kept_new w (.cells #[.int .i64 p] 3)
  have H := Lib.hid (h.kept hk)
  have HC : Hid (CellIs w.heap.size (.int .i64 p) (w.alloc (.cells #[.int .i64 p] 3))) := Lib.hid (cellIs_new _ _ _)
  have HNB : Hid (∀ g, F g → w.heap.size ≠ g) := Lib.hid (fun g hg => by have := h.there _ hg; omega)
  have HK := Lib.hid hk
  clear h hk
  go_enter Tryz.func87, Tryz.ntmps87
  go_wp2_with fail
  with_reducible refine (isPeer_yes p p rfl hp _).mono ?_
  rintro e w1 ⟨rfl, rfl⟩
  go_wp2_with fail
  refine (unlink_any _ (cellIs_kept _ _) _ _ _ (picks_drop w.heap.size p) _ HC.out H.out (fun g hg => cellIs_set _ (HNB.out g hg)) hl).mono ?_
  rintro e w2 ⟨rfl, F2, ev2, v2, h2, t2⟩
  have H2 := Lib.hid h2
  have T2 := Lib.hid t2
  clear h2 t2
  go_wp2_with fail
  go_ret
  exact ⟨rfl, F2, ev2, v2, H2.out, (Turn.of_below HK.out).trans T2.out⟩
theorem drop_no (p : Int) (hp : ¬ goodP p) (w : World) :
    Calls Tryz.prog 87 #[.pointer (some ⟨R, 0, none⟩), .int .i64 p] w fun e w' => e = .returned (.int .i64 1) ∧ Below w.heap.size w w' := by
  have HP := Lib.hid hp
  clear hp
  go_enter Tryz.func87, Tryz.ntmps87
  go_wp2_with fail
  with_reducible refine (isPeer_no p HP.out _).mono ?_
  rintro e w1 ⟨rfl, rfl⟩
  go_wp2_with fail
  go_ret
  exact ⟨rfl, kept_new _ _⟩
end Go.Proofs.YtaaaplbjeknbkaaGreat.So.Ho
