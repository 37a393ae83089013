/-
  Slices of IDs: how they lie in memory; contracts of the functions that only look them over (the reference's Has and Eq, the program's repeats and known).
-/
import Derived.Test.YtnigjhfdeinlhabCodes
import Derived.Test.YtnigjhfdeinlhabMsgMath
import Derived.Maps.OwnOps
import Derived.Maps.OwnSet
namespace Go.Proofs.Ytnigjhfdeinlhab
open Go.RowKit Go.Maps

/-- The memory behind a slice's address holds these IDs. -/
def IdsAt (w : World) (a : Option Addr) (l : List UInt64) : Prop :=
  ∀ i (h : i < l.length), ∃ b o, a = some ⟨b, o, none⟩ ∧ b < w.heap.size ∧ w.cell? ⟨b, o + i, none⟩ = some (.int .u64 l[i].toNat)
theorem idsAt_kept {a b : World} {x : Option Addr} {l : List UInt64} (h : Below a.heap.size a b) (hi : IdsAt a x l) : IdsAt b x l := fun i hl => by
  obtain ⟨bb, o, e, hb, c0⟩ := hi i hl
  exact ⟨bb, o, e, Nat.lt_of_lt_of_le hb h.size, kept_cell h c0⟩
theorem idsAt_nil (w : World) (a : Option Addr) : IdsAt w a [] := fun i hi => absurd hi (by simp)
theorem idsAt_take {w : World} {a : Option Addr} {l : List UInt64} (k : Nat) (h : IdsAt w a l) : IdsAt w a (l.take k) := fun i hi => by
  have h1 : i < l.length := by rw [List.length_take] at hi; omega
  rw [List.getElem_take]
  exact h i h1
theorem idsAt_set {w : World} {a : Option Addr} {l : List UInt64} {n : Nat} {p : Addr} (h : IdsAt w a l) (hf : Fresh n a) (hp : p.block < n) (v : Value) : IdsAt (w.setCell p v) a l := fun i hi => by
  obtain ⟨b, o, e, hb, c0⟩ := h i hi
  have hn : b ≠ p.block := by have := hf b o none e; omega
  have hs : ∀ oo, (w.setCell p v).cell? ⟨b, oo, none⟩ = w.cell? ⟨b, oo, none⟩ := fun oo => World.cell?_of_block (w := w) (a := ⟨b, oo, none⟩) (Below.heap_setCell w p v b hn)
  exact ⟨b, o, e, by simpa using hb, by rw [hs]; exact c0⟩

theorem contains_id {l : List UInt64} {x : UInt64} {k : Nat} (h : k < l.length) (e : x = l[k]) : l.contains x = true := by
  rw [List.contains_iff_mem]; rw [e]; exact List.getElem_mem h
theorem take_contains_id {l : List UInt64} {x : UInt64} {k : Nat} (h : k < l.length) (n : (l.take k).contains x = false) (e : x ≠ l[k]) : (l.take (k + 1)).contains x = false := by
  rw [List.take_succ_eq_append_getElem h, ← Bool.not_eq_true, List.contains_iff_mem, List.mem_append, not_or]
  refine ⟨by rw [← List.contains_iff_mem, n]; simp, by simpa using e⟩

theorem hasID_any (l : List UInt64) (x : UInt64) (r : Bool) (HR : Hid (l.contains x = r)) (a : Option Addr) (cap : Nat) (w : World) (hl : l.length ≤ maxLen) (hi : IdsAt w a l) :
    Calls Try.prog 22 #[.slice a l.length cap, .int .u64 x.toNat] w fun e w' => e = .returned (.bool r) ∧ w = w' := by
  unfold maxLen at hl
  go_enter Try.func22, Try.ntmps22
  go_wp2
  go_loop [9] (fun i => ∃ k : Nat, k ≤ l.length ∧ i = .int .i64 k ∧ Hid ((l.take k).contains x = false)) (fun i => l.length - (intOf i).toNat)
  case atStart => exact ⟨0, Nat.zero_le _, rfl, Lib.hid rfl⟩
  case round =>
    obtain ⟨k, hk, rfl, NO⟩ := hrel
    by_cases hlt : k < l.length
    · obtain ⟨b, o, rfl, hb, hd⟩ := hi k hlt
      by_cases hx : x = l[k]
      · have hxb : ((x.toNat : Int) == (l[k].toNat : Int)) = true := by rw [u64_beq]; exact beq_iff_eq.2 hx
        have HX := Lib.hid hx
        clear hx
        go_wp2
        go_ret
        exact ⟨ret_bool ((contains_id hlt HX.out).symm.trans HR.out), rfl⟩
      · have hxb : ((x.toNat : Int) == (l[k].toNat : Int)) = false := by rw [u64_beq]; exact beq_eq_false_iff_ne.2 hx
        have HX := Lib.hid hx
        clear hx
        go_wp2
        go_round
        case rel => exact ⟨k + 1, by omega, by go_num, Lib.hid (take_contains_id hlt NO.out HX.out)⟩
        case measure => simp [intOf]; omega
    · go_wp2
      go_ret
      refine ⟨ret_bool ?_, rfl⟩
      have := NO.out
      rw [List.take_of_length_le (by omega)] at this
      exact this.symm.trans HR.out
theorem hasID_take (l : List UInt64) (k : Nat) (r : Bool) (x : UInt64) (a : Option Addr) (cap : Nat) (w : World) (hk : k ≤ l.length) (hl : l.length ≤ maxLen) (hi : IdsAt w a l) (h : (l.take k).contains x = r) :
    Calls Try.prog 22 #[.slice a k cap, .int .u64 x.toNat] w fun e w' => e = .returned (.bool r) ∧ w = w' := by
  have := hasID_any (l.take k) x r (Lib.hid h) a cap w (by rw [List.length_take]; omega) (idsAt_take k hi)
  rw [List.length_take, Nat.min_eq_left hk] at this
  exact this

theorem eqID_any (l m : List UInt64) (a b : Option Addr) (ca cb : Nat) (w : World) (hl : l.length ≤ maxLen) (ha : IdsAt w a l) (hb : IdsAt w b m) :
    Calls Try.prog 28 #[.slice a l.length ca, .slice b m.length cb] w fun e w' => e = .returned (.bool (l == m)) ∧ w = w' := by
  unfold maxLen at hl
  by_cases hlen : l.length = m.length
  · have hln : ((l.length : Int) != (m.length : Int)) = false := by simp [hlen]
    have HL := Lib.hid hlen
    clear hlen
    go_enter Try.func28, Try.ntmps28
    go_wp2
    go_loop [14] (fun i => ∃ k : Nat, k ≤ l.length ∧ i = .int .i64 k ∧ Hid (l.take k = m.take k)) (fun i => l.length - (intOf i).toNat)
    case atStart => exact ⟨0, Nat.zero_le _, rfl, Lib.hid (by simp)⟩
    case round =>
      obtain ⟨k, hk, rfl, NO⟩ := hrel
      by_cases hlt : k < l.length
      · have hlm : k < m.length := by have := HL.out; omega
        obtain ⟨b1, o1, rfl, hb1, hd0⟩ := ha k hlt
        obtain ⟨b2, o2, rfl, hb2, hf0⟩ := hb k hlm
        by_cases hx : l[k] = m[k]
        · have hxb : ((l[k].toNat : Int) != (m[k].toNat : Int)) = false := by rw [bne, u64_beq, beq_iff_eq.2 hx]; rfl
          have HX := Lib.hid hx
          clear hx
          go_wp2
          go_round
          case rel => exact ⟨k + 1, by omega, by go_num, Lib.hid (take_eq_step hlt hlm NO.out HX.out)⟩
          case measure => simp [intOf]; omega
        · have hxb : ((l[k].toNat : Int) != (m[k].toNat : Int)) = true := by rw [bne, u64_beq, beq_eq_false_iff_ne.2 hx]; rfl
          have HX := Lib.hid hx
          clear hx
          go_wp2
          go_ret
          exact ⟨ret_bool (beq_eq_false_iff_ne.2 (ne_of_at hlt hlm HX.out)).symm, rfl⟩
      · go_wp2
        go_ret
        refine ⟨ret_bool ?_, rfl⟩
        have h1 := NO.out
        rw [List.take_of_length_le (by omega), List.take_of_length_le (by have := HL.out; omega)] at h1
        exact (beq_iff_eq.2 h1).symm
  · have hln : ((l.length : Int) != (m.length : Int)) = true := by simp; omega
    have HL := Lib.hid hlen
    clear hlen
    go_enter Try.func28, Try.ntmps28
    go_wp2
    go_ret
    exact ⟨ret_bool (beq_eq_false_iff_ne.2 fun h => HL.out (by rw [h])).symm, rfl⟩
theorem eqID_is (l m : List UInt64) (a b : Option Addr) (ca cb : Nat) (w : World) (r : Bool) (hl : l.length ≤ maxLen) (ha : IdsAt w a l) (hb : IdsAt w b m) (h : (l == m) = r) :
    Calls Try.prog 28 #[.slice a l.length ca, .slice b m.length cb] w fun e w' => e = .returned (.bool r) ∧ w = w' := h ▸ eqID_any l m a b ca cb w hl ha hb

theorem known_yes (k : Int) (w : World) (h : within k 1 4 = true) : Calls Try.prog 19 #[.int .i64 k] w fun e w' => e = .returned (.bool true) ∧ w = w' := by
  rcases within_known h with rfl | rfl | rfl | rfl <;>
  · clear h
    go_enter Try.func19, Try.ntmps19
    go_wp2
    go_ret
    exact ⟨rfl, rfl⟩
theorem known_no (k : Int) (w : World) (h : within k 1 4 = false) : Calls Try.prog 19 #[.int .i64 k] w fun e w' => e = .returned (.bool false) ∧ w = w' := by
  have h' := of_decide_eq_false (p := 1 ≤ k ∧ k ≤ 4) h
  have h1 : (k == 1) = false := beq_eq_false_iff_ne.2 (by omega)
  have h2 : (k == 2) = false := beq_eq_false_iff_ne.2 (by omega)
  have h3 : (k == 3) = false := beq_eq_false_iff_ne.2 (by omega)
  have h4 : (k == 4) = false := beq_eq_false_iff_ne.2 (by omega)
  clear h h'
  go_enter Try.func19, Try.ntmps19
  go_wp2
  go_ret
  exact ⟨rfl, rfl⟩

/-- Block b is a map of IDs to true: just those of l are its keys, and 'size' tells whether one was put twice. -/
def CountIs (w : World) (b k : Nat) (l : List UInt64) (c : Nat) : Prop :=
  ∃ D : DataW Unit, w.ownsMap Try.prog 41 (plainElem Try.prog 4) b k D ∧ IsMap D ∧ (∀ x : UInt64, Maps.has D (.int .u64 x.toNat) = (l.take k).contains x) ∧ Maps.size D = c ∧ c ≤ k ∧ (c = k ↔ (l.take k).Nodup)
theorem u64_keyed : Maps.Keyed Try.prog 41 := int_keyed Try.underlying41
theorem u64_key (x : UInt64) : keyOf Try.prog 41 (.int .u64 x.toNat) = some (.int .u64 x.toNat) := keyOf_int_mk Try.underlying41 (wf_u64_of x)
theorem count_new (w : World) (l : List UInt64) : CountIs (w.alloc (.map #[] 0)) w.heap.size 0 l 0 :=
  ⟨.map [], World.ownsMap_made w _ _ _, isMap_empty, fun _ => rfl, rfl, Nat.le_refl _, by simp⟩
theorem count_put {w : World} {b k c : Nat} {l : List UInt64} (h : CountIs w b k l c) (hk : k < l.length) (hn : k < maxLen) :
    ∃ w' c', (Instr.mapUpdate 49 (.map (some b)) (.int .u64 l[k].toNat) (.bool true)).run Try.prog w = .ok () w' ∧ CountIs w' b (k + 1) l c' ∧ w.grownBy w' (some b) := by
  obtain ⟨D, hD, hm, hat, hs, hc1, hc2⟩ := h
  obtain ⟨w', hrun, hown, hg⟩ := hD.update u64_keyed Try.underlying49 hn (u64_key l[k]) (plainElem_bool Try.underlying4 true)
  have hsz := size_put (hD.tidy u64_keyed) (k := .int .u64 l[k].toNat) (.lit (.bool true))
  rw [hat, hs] at hsz
  refine ⟨w', _, hrun, ⟨_, hown, hm.put _ _, fun y => ?_, hsz, ?_, ?_⟩, hg⟩
  · rw [List.take_succ_eq_append_getElem hk]
    by_cases hyx : y = l[k]
    · subst hyx
      rw [has_put_same hm (u64_keyed.key (u64_key _))]
      exact (List.contains_iff_mem.2 (List.mem_append.2 (.inr (List.mem_singleton.2 rfl)))).symm
    · rw [has_put_other (fun ee => hyx (by simp only [Lit.int.injEq, true_and] at ee; exact u64_inj ee)), hat y]
      rw [Bool.eq_iff_iff, List.contains_iff_mem, List.contains_iff_mem, List.mem_append, List.mem_singleton]
      exact ⟨.inl, fun h => h.elim id (fun e => absurd e hyx)⟩
  · split <;> omega
  · rw [nodup_snoc hk]
    by_cases hx : (l.take k).contains l[k] = true
    · rw [if_pos hx, hx]
      constructor
      · intro e; omega
      · rintro ⟨_, e⟩; cases e
    · rw [if_neg hx, ← hc2]
      rw [Bool.not_eq_true] at hx
      rw [hx]
      constructor
      · intro e; exact ⟨by omega, rfl⟩
      · rintro ⟨e, _⟩; omega
theorem count_len {w : World} {b k c : Nat} {l : List UInt64} (h : CountIs w b k l c) (ty : TypeId) : (Builtin.len_ #[49] ty #[.map (some b)]).run Try.prog w = .ok (.int .i64 c) w := by
  obtain ⟨D, hD, _, _, hs, _⟩ := h
  rw [← hs]
  exact hD.len Try.underlying49 ty

theorem repeatsID_any (l : List UInt64) (a : Option Addr) (cap : Nat) (w : World) (hl : l.length ≤ 20) (hi : IdsAt w a l) :
    Calls Try.prog 20 #[.slice a l.length cap] w fun e w' => e = .returned (.bool (decide (¬ l.Nodup))) ∧ Below w.heap.size w w' := by
  have hmm := @run_makeMap Try.prog
  go_enter Try.func20, Try.ntmps20
  go_wp2
  go_loopw [9] (fun i wr => ∃ k c : Nat, k ≤ l.length ∧ i = .int .i64 k ∧ Hid (CountIs wr w.heap.size k l c) ∧ Below w.heap.size w wr) (fun i _ => l.length - (intOf i).toNat)
  case atStart => exact ⟨0, 0, Nat.zero_le _, rfl, Lib.hid (count_new w l), kept_new w _⟩
  case round =>
    obtain ⟨k, c, hk, rfl, SE, hbel⟩ := hrel
    by_cases hlt : k < l.length
    · obtain ⟨b, o, rfl, hb, hd⟩ := idsAt_kept hbel hi k hlt
      obtain ⟨w1, c1, hput, S1, hg⟩ := count_put SE.out hlt (by unfold maxLen; omega)
      have HS := Lib.hid S1
      clear S1
      go_wp2
      go_roundw
      case rel => exact ⟨k + 1, c1, by omega, by go_num, HS, hbel.grown hg hbel.size (fun j hj => by cases hj; exact Nat.le_refl _)⟩
      case measure => simp [intOf]; omega
    · have hlen := fun ty => count_len SE.out ty
      obtain ⟨D, _, _, _, _, hc1, hc2⟩ := SE.out
      have he : l.take k = l := List.take_of_length_le (by omega)
      rw [he] at hc2
      have HC : Hid (decide (c < l.length) = decide (¬ l.Nodup)) := Lib.hid (by
        rw [decide_eq_decide, ← hc2]
        omega)
      clear hc1 hc2 he
      go_wp2
      go_ret
      exact ⟨ret_bool HC.out, hbel⟩
theorem repeatsID_is (l : List UInt64) (a : Option Addr) (cap : Nat) (w : World) (r : Bool) (hl : l.length ≤ 20) (hi : IdsAt w a l) (h : decide (¬ l.Nodup) = r) :
    Calls Try.prog 20 #[.slice a l.length cap] w fun e w' => e = .returned (.bool r) ∧ Below w.heap.size w w' := h ▸ repeatsID_any l a cap w hl hi
/-- '[]byte{b0, b1, ..}': a block of its own. -/
theorem bytes_built (e : TypeId) (w : World) (cs : Array Value) (l : List UInt8) (n : Nat) (hcs : cs = (l.map byteV).toArray) (hn : n = l.length) (hl : n ≤ 1000000) : BytesAt e (w.alloc (.cells cs e)) w.heap.size (.slice (some ⟨w.heap.size, 0, none⟩) n n) l := by
  subst hcs hn
  exact ⟨by simp, .inr ⟨w.heap.size, l.length, _, rfl, Nat.le_refl _, heap_alloc_new w _, Nat.le_refl _, by unfold maxLen; omega, by simp, by simpa using List.take_of_length_le (by simp)⟩⟩
end Go.Proofs.Ytnigjhfdeinlhab
