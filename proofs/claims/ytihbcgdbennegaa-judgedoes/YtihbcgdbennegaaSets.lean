/-
  A map from keys to bools that a call makes and keeps to itself, as the list of the keys that were put: no program is named here.
-/
import Derived.Maps.OwnSet
import Derived.Maps.Views
import Derived.Below
import Derived.StillTailTactics
namespace Go.Proofs.Ytihbcgdbennegaa
open Go.RowKit Go.Maps

/-- A region whose operations read but for the last ones: the world behind its draw stands under a name of its own. -/
theorem region_tail {P : Program} {id : Nat} {Q : Exit → Act → World → Prop} {a : Act} {w w2 : World} {l : List Oper} (n : Nat) (hm : P.follows .mixedOrders = true) (hB : Region.lexTailB .any l.toArray n = true) (hw : w.drew = w2)
    (h : wpStill P l.toArray w2 (fun a' => wpList P l.toArray Q (l.drop n) a' w2) (l.take n) a) : (Code.region id l.toArray true).wp P Q a w := by
  subst hw
  exact wp_region_still_tail n hm hB h

theorem keyOf_struct2 {P : Program} {k : TypeId} {f0 f1 : Field} {q0 q1 : IntKind} (hu : P.underlying k = some (.struct #[f0, f1])) (hkt : P.keyType k = true) (hC : P.cellsOf k = 2) (hn : (#[f0, f1].all (·.name != "_")) = true)
    (o0 : f0.offset = 0) (o1 : f1.offset = 1) (h0 : P.underlying f0.type = some (.int q0)) (h1 : P.underlying f1.type = some (.int q1)) (c0 : P.cellsOf f0.type = 1) (c1 : P.cellsOf f1.type = 1) {m : Nat} (hsz : P.types.size = m + 1)
    {a b : Int} (wa : (Lit.int q0 a).wf = true) (wb : (Lit.int q1 b).wf = true) : keyOf P k (.agg #[.int q0 a, .int q1 b]) = some (.string (keyBytes [.int q0 a, .int q1 b])) := by
  unfold keyOf
  simp only [hu]
  rw [if_pos (by simp [hkt, Value.formed, hu, hC]), hsz]
  unfold Program.keyLits
  simp only [hu, Value.cells]
  rw [if_pos ⟨by rw [hC]; rfl, hn⟩, List.mapM_cons, List.mapM_cons, List.mapM_nil]
  simp [o0, o1, c0, c1, Program.keyLits, h0, h1, wa, wb]

section
variable {α : Type} [BEq α] {P : Program} {k e t : TypeId} {ok : α → Prop} {kl : α → Lit}

/-- Block b is a map whose keys with 'true' are just these, each put once or more often. -/
def SetIs (P : Program) (k e : TypeId) (ok : α → Prop) (kl : α → Lit) (w : World) (b n : Nat) (ks : List α) : Prop :=
  ∃ D : DataW Unit, w.ownsMap P k (plainElem P e) b n D ∧ IsMap D ∧ ∀ x, ok x → D.atKey (kl x) (.lit (.bool false)) = .lit (.bool (ks.contains x))

theorem set_new (w : World) : SetIs P k e ok kl (w.alloc (.map #[] 0)) w.heap.size 0 ([] : List α) :=
  ⟨.map [], World.ownsMap_made w P k _, isMap_empty, fun _ _ => rfl⟩
theorem set_alloc {w : World} {b n : Nat} {ks : List α} (h : SetIs P k e ok kl w b n ks) (o : Obj) : SetIs P k e ok kl (w.alloc o) b n ks := by
  obtain ⟨D, hD, r⟩ := h
  exact ⟨D, hD.alloc o, r⟩
theorem set_look [LawfulBEq α] {w : World} {b n : Nat} {ks : List α} (h : SetIs P k e ok kl w b n ks) (K : Keyed P k) (ht : P.underlying t = some (.map k e)) (he : P.underlying e = some .bool) (hz : (zeroValue e).run P w = .ok (.bool false) w)
    {x : α} {v : Value} (hx : ok x) (hkey : keyOf P k v = some (kl x)) : (Instr.lookup t (.map (some b)) v false).run P w = .ok (.bool (ks.contains x)) w := by
  obtain ⟨D, hD, _, hat⟩ := h
  obtain ⟨u, ps, hrun, hu⟩ := hD.lookup K ht hz (plainElem_bool he false) hkey
  rw [hat x hx] at hu
  rw [hrun]
  unfold plainElem at hu
  rw [he] at hu
  cases u <;> simp at hu
  rw [hu.1]
  simp
theorem set_put [LawfulBEq α] {w : World} {b n : Nat} {ks : List α} (h : SetIs P k e ok kl w b n ks) (K : Keyed P k) (ht : P.underlying t = some (.map k e)) (he : P.underlying e = some .bool) (hn : n < maxLen)
    {x : α} {v : Value} (hx : ok x) (hkey : keyOf P k v = some (kl x)) (hinj : ∀ y, ok y → kl y = kl x → y = x) :
    ∃ w', (Instr.mapUpdate t (.map (some b)) v (.bool true)).run P w = .ok () w' ∧ SetIs P k e ok kl w' b (n + 1) (ks ++ [x]) ∧ w.grownBy w' (some b) := by
  obtain ⟨D, hD, hm, hat⟩ := h
  obtain ⟨w', hrun, hown, hg⟩ := hD.update K ht hn hkey (plainElem_bool he true)
  refine ⟨w', hrun, ⟨_, hown, hm.put _ _, fun y hy => ?_⟩, hg⟩
  by_cases hyx : y = x
  · subst hyx
    rw [atKey_put_same hm (K.key hkey)]
    simp
  · rw [atKey_put_other (fun ee => hyx (hinj y hy ee)), hat y hy]
    simp [hyx]
end
end Go.Proofs.Ytihbcgdbennegaa
