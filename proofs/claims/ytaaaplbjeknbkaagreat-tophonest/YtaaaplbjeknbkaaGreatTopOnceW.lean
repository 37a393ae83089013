/-
  TopOnce: the walk.
-/
import Derived.Test.YtaaaplbjeknbkaaGreatChainedW
import Derived.Test.YtaaaplbjeknbkaaGreatChainMath
set_option maxRecDepth 20000
namespace Go.Proofs.YtaaaplbjeknbkaaGreat
open Go.RowKit Go.Maps

variable {w w' w0 : World} {F F' : Nat → Prop} {R : Nat} {s u : NS}

/-- 'append(s, x)' of an ID, with the block that the slice lies in then. -/
theorem append_id2 {ops : Array Oper} {rest : List Oper} {o : Oper} {a : Act} {Q : Exit → Act → World → Prop} {w : World} (hgd : o.guard = none) (s x : Operand) (ho : o.op = .call { callee := .builtin .append, args := #[s, x], argTypes := #[36, 36] })
    {B : Nat} {v : Value} {d : List UInt64} (y : UInt64) (hs : a.eval s = v) (hx : a.eval x = .slice (some ⟨w.heap.size, 0, none⟩) 1 1) (hown : OwnIds w B v d) (hlen : d.length ≤ 1000000) (hB : B ≤ w.heap.size)
    (h : ∀ g cap w', OwnIds w' B (.slice (some ⟨g, 0, none⟩) (d.length + 1) cap) (d ++ [y]) → w.grownBy w' v.ownBlock → (v.ownBlock = some g ∨ w.heap.size ≤ g) → wpList Tryz.prog ops Q rest (a.put o.dst (.slice (some ⟨g, 0, none⟩) (d.length + 1) cap)) w') :
    wpList Tryz.prog ops Q (o :: rest) a (w.alloc (.cells #[.int .u64 y.toNat] 22)) := by
  obtain ⟨i0, hi0, hz0, hz1, hz2⟩ := info_parts info_u64
  refine wpList_append_lies _ hgd s x 36 ho B 22 i0 (.int .u64 0) 1 8 Tryz.underlying36 hi0 hz0 hz1 hz2 rfl (by decide) v d.length (d.map idV) hs (hown.alloc _) ⟨w.heap.size, 0, none⟩ 1 1 [.int .u64 y.toNat] hx rfl (cells_new w _ _) (by simp [Value.oneCell']) (by decide) (by unfold maxLen; omega) (by omega) (by simp; omega) _ rfl ?_
  intro g cap w1 hown' hgrow hat _
  refine h g cap w1 ?_ ((World.grownBy_alloc w _ _).trans hgrow) (hat.imp id fun e => by rw [e]; simp)
  unfold OwnIds
  rw [List.length_append, List.map_append]
  exact hown'
/-- A node, and IDs of the law's own. -/
structure NodeIds (w0 w : World) (F : Nat → Prop) (R : Nat) (u : NS) (v : Value) (ids : List UInt64) : Prop where
  mine : Mine w0 w F R u
  own : OwnIds w w0.heap.size v ids
  out : ∀ g, v.ownBlock = some g → ¬ F g
variable {v : Value} {ids : List UInt64}
theorem NodeIds.kept (h : NodeIds w0 w F R u v ids) (hb : Below w.heap.size w w') : NodeIds w0 w' F R u v ids := ⟨h.mine.kept hb, ownIds_below h.own hb, h.out⟩
theorem NodeIds.turned (h : NodeIds w0 w F R u v ids) {u' : NS} (hn : NodeAt w' F' R u') (ht : Turn F F' w w') : NodeIds w0 w' F' R u' v ids :=
  ⟨h.mine.turned hn ht, own_turn h.own ht h.out, fun g hg hf => (ht.own g hf).elim (h.out g hg) (fun hle => by have := (h.own.lt g hg).2; omega)⟩
theorem NodeIds.grown (h : NodeIds w0 w F R u v ids) {g n cap : Nat} {ids' : List UInt64} (hg : w.grownBy w' v.ownBlock) (ho : OwnIds w' w0.heap.size (.slice (some ⟨g, 0, none⟩) n cap) ids') (hat : v.ownBlock = some g ∨ w.heap.size ≤ g) : NodeIds w0 w' F R u (.slice (some ⟨g, 0, none⟩) n cap) ids' := by
  refine ⟨⟨h.mine.node.turn (Turn.of_grown (F := fun k => v.ownBlock = some k) hg (fun k hk => hk)) (fun k hf hk => h.out k hk hf), h.mine.above, h.mine.below.grown hg h.mine.below.size (fun k hk => (h.own.lt k hk).1)⟩, ho, fun k hk hf => ?_⟩
  have e : g = k := by simpa [Value.ownBlock] using hk
  subst e
  exact hat.elim (fun e => h.out g e hf) (fun hle => by have := h.mine.node.there g hf; omega)
theorem NodeIds.at (h : NodeIds w0 w F R u v ids) : ∃ a cap, v = .slice a ids.length cap ∧ ids.length ≤ cap ∧ IdsAt w a ids := by
  obtain ⟨a, c, h1, h2, h3, _⟩ := owns_idsAt h.own
  exact ⟨a, c, h1, h2, h3⟩
theorem eqID_len (l : List UInt64) (m n : Nat) (hm : l.length = m) (hn : l.length = n) (a b : Option Addr) (ca cb : Nat) (w : World) (hl : l.length ≤ maxLen) (ha : IdsAt w a l) (hb : IdsAt w b l) : Calls Tryz.prog 33 #[.slice a m ca, .slice b n cb] w fun e w' => e = .returned (.bool true) ∧ w = w' := by
  subst hm hn
  exact eqID_is l l a b ca cb w true hl ha hb (by simp)
theorem tbytesOf_len (l : List UInt64) (n : Nat) (hn : l.length = n) (a : Option Addr) (cap : Nat) (B : ByteArray) (hB : bytesM ⟨1, l, ⟨#[]⟩⟩ = B) (w : World) (hi : IdsAt w a l) : Calls Tryz.prog 47 #[.agg #[.int .i64 1, .slice a n cap, .string ⟨#[]⟩]] w fun e w' => e = .returned (.string B) ∧ Below w.heap.size w w' := by
  subst hn
  exact tbytesOf_ann l a cap B hB w hi
theorem chained_is (l : List Int) (n : Nat) (a : Option Addr) (cap : Nat) (hn : l.length = n) (hl : n ≤ 12) (w : World) (hi : Tr.IntsAt w a l) : Calls Tryz.prog 42 #[.slice a n cap] w fun e w' => ∃ v H, e = .returned v ∧ Deeds w' w.heap.size v H ∧ H.map (fun q => q.d) = chainD l ∧ Below w.heap.size w w' := by
  subst hn
  exact chained_any l a cap hl w hi
theorem intsAt_take' {a : Option Addr} {l : List Int} (k : Nat) (h : Tr.IntsAt w a l) : Tr.IntsAt w a (l.take k) := Tr.intsAt_take k h
theorem chain_of {l : List DeedD} (h : ChainF l) (hn : (l.map Ju.idD).Nodup) : Chain l := ⟨h.fine, h.first, h.next, h.pays, h.weight, hn⟩
/-- What a node is, once the first m deeds of a chain are accepted. -/
structure OSt (l : List DeedD) (m : Nat) (t : Int) (u : NS) : Prop where
  A : u.A = l.take m
  P : u.P = []
  T : u.T = []
  W : u.W = Ri.RingS.none 50
  now : u.now = t
theorem OSt.bring {l : List DeedD} {m : Nat} {t : Int} (h : OSt l m t u) (hc : Chain l) (hm : m < l.length) {p : Nat} (hp : p < 8) : OSt l (m + 1) t (u.bring p l[m]) := by
  have hW : u.W.has (Ju.idD l[m]) = false := by rw [h.W]; rfl
  rw [chain_bring hc hm h.A h.P hW]
  refine ⟨rfl, h.P, ?_, h.W, h.now⟩
  show Tr.forgetL (Tr.answerC u.T p (Ju.idD l[m])).2 (Ju.idD l[m]) = []
  rw [h.T]
  unfold Tr.answerC
  rw [if_pos ⟨by omega, by omega⟩]
  rfl
theorem OSt.join {l : List DeedD} {m : Nat} {t : Int} (h : OSt l m t u) (p : Int) (f : Bool) : OSt l m t (u.join p f).1 := by
  unfold NS.join
  split
  · exact h
  · split
    · exact h
    · exact ⟨h.A, h.P, h.T, h.W, h.now⟩
theorem announce_known {p : Nat} : ∀ {l : List UInt64}, (∀ x ∈ l, u.knows x = true) → u.announce p l = u
  | [], _ => rfl
  | x :: r, h => by
    have e : u.announce p (x :: r) = (u.announce1 p x).announce p r := rfl
    rw [e, ann1_known (h x List.mem_cons_self), announce_known fun y hy => h y (List.mem_cons_of_mem _ hy)]
theorem OSt.knows {l : List DeedD} {t : Int} (h : OSt l l.length t u) : ∀ x ∈ l.map Ju.idD, u.knows x = true := fun x hx => by
  obtain ⟨d, hd, rfl⟩ := List.mem_map.1 hx
  unfold NS.knows
  have : (Ju.findL u.A (Ju.idD d)).isSome = true := by
    rw [h.A, List.take_length]
    exact Ju.findL_some.2 ⟨d, hd, rfl⟩
  rw [this]
  rfl
theorem OSt.pass {l : List DeedD} {m : Nat} {t k : Int} (h : OSt l m t u) (hk : 0 ≤ k) (ht : t + k ≤ 1099511627776) : u.pass k = ({ u with now := u.now + k }, [], 0) ∧ OSt l m (t + k) ({ u with now := u.now + k } : NS) :=
  ⟨pass_none h.T (by rw [h.now]; omega), ⟨h.A, h.P, h.T, h.W, by show u.now + k = _; rw [h.now]⟩⟩
theorem join0c (salt : UInt64) (w : World) (h : NodeAt w F R (NS.new salt)) : Calls Tryz.prog 35 #[.pointer (some ⟨R, 0, none⟩), .int .i64 0, .bool false] w (TurnsN w F R (.int .i64 0) ((NS.new salt).setPeer 0 (true, false))) := join_any 0 false _ (join_new salt 0 (by decide) false) w h
end Go.Proofs.YtaaaplbjeknbkaaGreat
