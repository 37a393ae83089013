/-
  Byte slices that a call builds by append: what they hold, and which memory may have turned. No program is named here.
-/
import Derived.OwnWalk
import Derived.Maps.AppendAt
import Derived.Laws.IdiomStrings
import Derived.Lib.SmallJoins
import Derived.Below
import Derived.Lib.AppendStr
import Derived.Test.YtihbcgdbennegaaSumMath
namespace Go.Proofs.Ytihbcgdbennegaa
open Go.RowKit Go.Joins

def byteV (b : UInt8) : Value := .int .u8 b.toNat
/-- The slice v owns a row of memory, from block B on, that holds these bytes. -/
def BytesAt (e : TypeId) (w : World) (B : Nat) (v : Value) (l : List UInt8) : Prop := w.ownsRow B e 1 v l.length (l.map byteV)
/-- From world w0, in which the slice was v0, to world w, in which it is v and holds l: no other old memory has turned. -/
structure Buf (e : TypeId) (B : Nat) (w0 : World) (v0 : Value) (w : World) (v : Value) (l : List UInt8) : Prop where
  own : BytesAt e w B v l
  grown : w0.grownBy w v0.ownBlock
  lies : v.ownBlock = v0.ownBlock ∨ ∃ k, v.ownBlock = some k ∧ w0.heap.size ≤ k

theorem buf_refl {e : TypeId} {B : Nat} {w : World} {v : Value} {l : List UInt8} (h : BytesAt e w B v l) : Buf e B w v w v l :=
  ⟨h, ⟨rfl, rfl, rfl, Nat.le_refl _, fun _ _ _ => rfl⟩, .inl rfl⟩
theorem buf_trans {e : TypeId} {B : Nat} {w0 w1 w2 : World} {v0 v1 v2 : Value} {l1 l2 : List UInt8} (h : Buf e B w0 v0 w1 v1 l1) (k : Buf e B w1 v1 w2 v2 l2) : Buf e B w0 v0 w2 v2 l2 := by
  refine ⟨k.own, ⟨k.grown.os.trans h.grown.os, k.grown.tape.trans h.grown.tape, k.grown.output.trans h.grown.output, Nat.le_trans h.grown.size k.grown.size, fun i hi hne => ?_⟩, ?_⟩
  · refine (k.grown.block i (Nat.lt_of_lt_of_le hi h.grown.size) ?_).trans (h.grown.block i hi hne)
    rcases h.lies with e | ⟨j, e, hj⟩
    · rw [e]; exact hne
    · rw [e]; intro ee; cases ee; omega
  · rcases k.lies with e | ⟨j, e, hj⟩
    · rw [e]; exact h.lies
    · exact .inr ⟨j, e, Nat.le_trans h.grown.size hj⟩
theorem buf_alloc {e : TypeId} {B : Nat} {w0 w : World} {v0 v : Value} {l : List UInt8} (h : Buf e B w0 v0 w v l) (o : Obj) : Buf e B w0 v0 (w.alloc o) v l :=
  ⟨h.own.alloc o, ⟨h.grown.os, h.grown.tape, h.grown.output, by have := h.grown.size; simp; omega, fun i hi hne => (Below.heap_alloc w o i (Nat.lt_of_lt_of_le hi h.grown.size)).trans (h.grown.block i hi hne)⟩, h.lies⟩
/-- All memory below B stands. -/
theorem buf_below {e : TypeId} {B : Nat} {w0 w : World} {v0 v : Value} {l0 l : List UInt8} (h0 : BytesAt e w0 B v0 l0) (hB : B ≤ w0.heap.size) (h : Buf e B w0 v0 w v l) : Below B w0 w :=
  (Below.refl B w0).grown h.grown hB (fun k hk => (h0.lt k hk).1)
/-- A cell of another block stands. -/
theorem buf_cell {e : TypeId} {B : Nat} {w0 w : World} {v0 v : Value} {l : List UInt8} (h : Buf e B w0 v0 w v l) {p : Addr} {u : Value} (hc : w0.cell? p = some u) (hne : some p.block ≠ v0.ownBlock) : w.cell? p = some u :=
  h.grown.cell hc hne
theorem bytes_one (l : List UInt8) : ∀ u ∈ l.map byteV, u.oneCell' = true := by
  intro u hu
  obtain ⟨b, _, rfl⟩ := List.mem_map.1 hu
  rfl
theorem cells_new (w : World) (cs : List Value) (t : TypeId) : ∀ j u, cs[j]? = some u → (w.alloc (.cells cs.toArray t)).cell? ((⟨w.heap.size, 0, none⟩ : Addr).add j) = some u := by
  intro j u hj
  have e : (⟨w.heap.size, 0, none⟩ : Addr).add j = ⟨w.heap.size, j, none⟩ := by unfold Addr.add; split <;> simp_all
  rw [e]
  rw [World.cell?_alloc_mark]
  simpa using hj

/-- 'append(s, b0, b1, ..)': the new bytes lie in a block of their own, laid just ahead. -/
theorem wpList_append_bytes {P : Program} {t e : TypeId} {i : TypeInfo} (ht : P.underlying t = some (.slice e)) (hi : P.info? e = some i) (hz : i.zero = some (.int .u8 0)) (hsize : i.size = 1) (hby : i.bytes = 1)
    {ops : Array Oper} {rest : List Oper} {o : Oper} {a : Act} {Q : Exit → Act → World → Prop} {w : World} {cs : List Value} (hgd : o.guard = none) (s x : Operand) (ho : o.op = .call { callee := .builtin .append, args := #[s, x], argTypes := #[t, t] })
    {B : Nat} {v : Value} {l news : List UInt8} (hs : a.eval s = v) (hx : a.eval x = .slice (some ⟨w.heap.size, 0, none⟩) news.length news.length) (hcs : cs = news.map byteV)
    (hown : BytesAt e w B v l) (hlen : l.length + news.length ≤ 1000000) (hB : B ≤ w.heap.size)
    (h : ∀ v' w', Buf e B w v w' v' (l ++ news) → wpList P ops Q rest (a.put o.dst v') w') : wpList P ops Q (o :: rest) a (w.alloc (.cells cs.toArray e)) := by
  subst hcs
  refine wpList_append_own_at _ hgd s x t ho B e i (.int .u8 0) 1 1 ht hi hz hsize hby rfl (by decide) v l.length (l.map byteV) hs (hown.alloc _) ⟨w.heap.size, 0, none⟩ news.length news.length (news.map byteV) hx (by simp) (cells_new w _ e) (bytes_one news)
    (by unfold maxLen; omega) (by omega) (by simp; omega) ?_
  intro v' w1 hown' hgrow _ hat
  refine h v' w1 ⟨?_, ⟨hgrow.os, hgrow.tape, hgrow.output, by have := hgrow.size; simp at this; omega, fun k hk hne => ?_⟩, ?_⟩
  · unfold BytesAt
    rw [List.length_append, List.map_append]
    exact hown'
  · exact (hgrow.block k (by simp; omega) hne).trans (Below.heap_alloc w _ k hk)
  · rcases hat with h1 | h1
    · exact .inl h1
    · exact .inr ⟨_, h1, by simp⟩

/-- 'string(b)' of such a slice. -/
theorem conv_bytes {P : Program} {e : TypeId} {w : World} {B : Nat} {v : Value} {l : List UInt8} (src dst : TypeId) (hs : P.underlying src = some (.slice e)) (he : P.underlying e = some (.int .u8)) (hd : P.underlying dst = some .string)
    (h : BytesAt e w B v l) (hl : l ≠ []) : (convert src dst v).run P w = .ok (.string ⟨l.toArray⟩) w := by
  obtain ⟨g, cap, rfl⟩ := ownsRow_form h (List.length_pos_iff.2 hl)
  refine run_convert_bytes_back w src dst e ⟨g, 0, none⟩ cap l hs he hd fun j hj => ?_
  refine h.cells (g := g) rfl j _ ?_
  rw [List.getElem?_map, List.getElem?_eq_getElem hj]
  rfl

/-- Such a slice stands where all memory stands. -/
theorem owns_below {w w' : World} {B size n : Nat} {e : TypeId} {v : Value} {xs : List Value} (h : w.ownsRow B e size v n xs) (hb : Below w.heap.size w w') : w'.ownsRow B e size v n xs :=
  h.kept (row := none) ⟨hb.os, hb.tape, hb.output, hb.size, fun k hk _ => hb.block k hk⟩ (by cases hv : v.ownBlock <;> simp)
theorem buf_later {e : TypeId} {B : Nat} {w0 w w' : World} {v0 v : Value} {l : List UInt8} (h : Buf e B w0 v0 w v l) (hb : Below w.heap.size w w') : Buf e B w0 v0 w' v l :=
  ⟨owns_below h.own hb, ⟨hb.os.trans h.grown.os, hb.tape.trans h.grown.tape, hb.output.trans h.grown.output, Nat.le_trans h.grown.size hb.size, fun i hi hne => (hb.block i (Nat.lt_of_lt_of_le hi h.grown.size)).trans (h.grown.block i hi hne)⟩, h.lies⟩
theorem bytes_nil (e : TypeId) (w : World) (B : Nat) : BytesAt e w B (.slice none 0 0) [] := World.ownsRow_nil w B e 1

/-- 'append(b, s...)', s a string. -/
theorem run_append_str {P : Program} {w : World} {t u e : TypeId} {i : TypeInfo} (ht : P.underlying t = some (.slice e)) (hu : P.underlying u = some .string) (hi : P.info? e = some i) (hz : i.zero = some (.int .u8 0)) (hsize : i.size = 1) (hby : i.bytes = 1) (ty : TypeId)
    {B : Nat} {v : Value} {l : List UInt8} {s : ByteArray} (hown : BytesAt e w B v l) (hlen : l.length + s.size ≤ 1000000) (hB : B ≤ w.heap.size) :
    ∃ v' w', (Builtin.append_ #[t, u] ty #[v, .string s]).run P w = .ok v' w' ∧ Buf e B w v w' v' (l ++ s.data.toList) := by
  obtain ⟨v', w', hr, ho, hg, hnil⟩ := Lib.run_append_own_string (P := P) w B t u ty e i ht hu hi hz hsize hby v l.length _ hown s (by unfold maxLen; omega) (by omega) hB
  have hsl : s.data.toList.length = s.size := by simp
  refine ⟨v', w', hr, ⟨?_, hg, ?_⟩⟩
  · unfold BytesAt
    rw [List.length_append, List.map_append, hsl]
    exact ho
  · rcases hown.2 with ⟨rfl, h0⟩ | ⟨g, cap, cur, rfl, hbg, hg', hnc, hcm, hcs, htake⟩
    · by_cases hm : s.size = 0
      · left
        rw [hnil.2 ⟨rfl, hm⟩]
      · right
        have h1 := run_append_nil_string (P := P) w t u ty e i (.int .u8 0) ht hu hi hz s (by omega) (by omega) (by rw [hby]; omega)
        rw [h1] at hr
        cases hr
        exact ⟨_, rfl, Nat.le_refl _⟩
    · have hcs' : cur.size = cap := by simpa using hcs
      by_cases hroom : l.length + s.size ≤ cap
      · left
        have h1 := Lib.run_append_room_string (P := P) w t u ty e i ht hu hi hsize g l.length cap cur hg' s hroom (by omega)
        rw [h1] at hr
        cases hr
        rfl
      · right
        have holds : ∀ j u, (l.map byteV)[j]? = some u → w.cell? ((⟨g, 0, none⟩ : Addr).add j) = some u := hown.cells (g := g) rfl
        have h1 := Lib.run_append_grow_string (P := P) w t u ty e i (.int .u8 0) ht hu hi hz ⟨g, 0, none⟩ l.length cap (l.map byteV) (by rw [hsize]; simp) holds s (by omega) (by omega) (by rw [hby]; exact growslice_fits (by omega) (by omega))
        rw [h1] at hr
        cases hr
        exact ⟨_, rfl, Nat.le_refl _⟩
theorem wpList_append_str {P : Program} {t u e : TypeId} {i : TypeInfo} (ht : P.underlying t = some (.slice e)) (hu : P.underlying u = some .string) (hi : P.info? e = some i) (hz : i.zero = some (.int .u8 0)) (hsize : i.size = 1) (hby : i.bytes = 1)
    {ops : Array Oper} {rest : List Oper} {o : Oper} {a : Act} {Q : Exit → Act → World → Prop} {w : World} (hgd : o.guard = none) (sl x : Operand) (ho : o.op = .call { callee := .builtin .append, args := #[sl, x], argTypes := #[t, u] })
    {B : Nat} {v : Value} {l : List UInt8} {s : ByteArray} (hs : a.eval sl = v) (hx : a.eval x = .string s) (hown : BytesAt e w B v l) (hlen : l.length + s.size ≤ 1000000) (hB : B ≤ w.heap.size)
    (h : ∀ v' w', Buf e B w v w' v' (l ++ s.data.toList) → wpList P ops Q rest (a.put o.dst v') w') : wpList P ops Q (o :: rest) a w := by
  refine wpList_plain hgd fun K hK => ?_
  obtain ⟨v', w', hr, h2⟩ := run_append_str (P := P) ht hu hi hz hsize hby o.type hown hlen hB (s := s)
  unfold Oper.wp execOp
  simp only [ho, resolve, invoke, builtin, Sem.run_bind, Sem.run_pure, Result.andThen_ok, List.map_toArray, List.map_cons, List.map_nil, hs, hx, hr]
  exact hK _ _ (h v' w' h2)
end Go.Proofs.Ytihbcgdbennegaa
