import Derived.Test.YtlboemhbealnmaaGreatP9
import Derived.Test.YtlboemhbealnmaaGreatP10
import Derived.Test.YtlboemhbealnmaaGreatP2
import Derived.BigGuard
import Derived.BigCall
import Derived.CellFam
import Derived.Deep.Draws
import Derived.Deep.QuietTactic
import Derived.BigQuiet
import Derived.ChangeSlices
import Derived.Lib.SmallJoins
import Derived.Deep.Slices
set_option maxRecDepth 20000
namespace Go.Proofs.YtlboemhbealnmaaGreat.Tr
def entsOf (L:List TEnt) (x:UInt64):List TEnt:=L.filter fun e=>e.id == x
def idsOf (L:List TEnt) (p:Nat):List UInt64:=(L.filter fun e=>e.peer == p).map fun e=>e.id
def ofL (salt:UInt64) (L:List TEnt):TS:=⟨salt,fun x=>if entsOf L x=[] then none else some (entsOf L x),idsOf L⟩
def TS.Eqv (s t:TS):Prop:=s.salt=t.salt∧(∀ x,s.E x=t.E x)∧∀ p,p < 8→s.I p=t.I p
def openL (L:List TEnt) (x:UInt64):Bool:=L.any fun e=>e.id == x && e.st != 3
def settleL (L:List TEnt):List TEnt:=L.filter fun e=>openL L e.id
structure Good (L:List TEnt):Prop where
 peer:∀ e ∈ L,e.peer < 8
 nodup:L.Pairwise fun a b=>¬ (a.peer=b.peer∧a.id=b.id)
 few:∀ p,p < 8→(L.filter fun e=>e.peer == p).length≤20
 open':∀ e ∈ L,openL L e.id=true
 one:∀ a ∈ L,∀ b ∈ L,a.id=b.id→a.st=2→b.st=2→a.peer=b.peer
 st:∀ e ∈ L,e.st≤3
theorem ofL_ents (salt:UInt64) (L:List TEnt) (x:UInt64):(ofL salt L).ents x=entsOf L x:=by
 show Option.getD (if entsOf L x=[] then none else some (entsOf L x)) []=_
 split
 ·rename_i h;rw [h];rfl
 ·rfl
theorem ents_pair {L:List TEnt} (h:L.Pairwise fun a b=>¬ (a.peer=b.peer∧a.id=b.id)) (x:UInt64):((entsOf L x).map fun e=>e.peer).Nodup:=by
 unfold List.Nodup
 rw [List.pairwise_map]
 refine List.Pairwise.imp_of_mem (fun {a b} ha hb hab=>?_) (h.filter _)
 have h1:a.id=x:=beq_iff_eq.1 (List.mem_filter.1 ha).2
 have h2:b.id=x:=beq_iff_eq.1 (List.mem_filter.1 hb).2
 exact fun e=>hab ⟨e,h1.trans h2.symm⟩
theorem ids_nodup {L:List TEnt} (h:L.Pairwise fun a b=>¬ (a.peer=b.peer∧a.id=b.id)) (p:Nat):(idsOf L p).Nodup:=by
 unfold idsOf List.Nodup
 rw [List.pairwise_map]
 refine List.Pairwise.imp_of_mem (fun {a b} ha hb hab=>?_) (h.filter _)
 have h1:a.peer=p:=beq_iff_eq.1 (List.mem_filter.1 ha).2
 have h2:b.peer=p:=beq_iff_eq.1 (List.mem_filter.1 hb).2
 exact fun e=>hab ⟨h1.trans h2.symm,e⟩
theorem nodup_leN:∀ {a b:List Nat},a.Nodup→(∀ x ∈ a,x ∈ b)→a.length≤b.length
 | [],_,_,_=>Nat.zero_le _
 | x :: r,b,hn,hs=>by
  obtain ⟨hx,hr⟩:=List.nodup_cons.1 hn
  have hxb:x ∈ b:=hs x (by simp)
  have:=nodup_leN hr (b:=b.erase x) (fun y hy=>(List.mem_erase_of_ne (show y≠x from fun e=>hx (e▸hy))).2 (hs y (by simp [hy])))
  rw [List.length_erase_of_mem hxb] at this
  have h1:0 < b.length:=List.length_pos_of_mem hxb
  simp only [List.length_cons]
  omega
theorem ents_eight {L:List TEnt} (h:Good L) (x:UInt64):(entsOf L x).length≤8:=by
 have:=nodup_leN (ents_pair h.nodup x) (b:=List.range 8) (fun p hp=>by
  obtain ⟨e,he,rfl⟩:=List.mem_map.1 hp
  exact List.mem_range.2 (h.peer e (List.mem_filter.1 he).1))
 simpa using this
theorem ids_length (L:List TEnt) (p:Nat):(idsOf L p).length=(L.filter fun e=>e.peer == p).length:=by unfold idsOf;rw [List.length_map]
theorem ids_mem {L:List TEnt} {p:Nat} {x:UInt64}:x ∈ idsOf L p ↔ ∃ e ∈ L,e.peer=p∧e.id=x:=by
 unfold idsOf
 simp only [List.mem_map,List.mem_filter,beq_iff_eq]
 constructor
 ·rintro ⟨e,⟨h1,h2⟩,h3⟩;exact ⟨e,h1,h2,h3⟩
 ·rintro ⟨e,h1,h2,h3⟩;exact ⟨e,⟨h1,h2⟩,h3⟩
theorem ents_mem {L:List TEnt} {x:UInt64} {e:TEnt}:e ∈ entsOf L x ↔ e ∈ L∧e.id=x:=by unfold entsOf;rw [List.mem_filter,beq_iff_eq]
theorem all_few {L:List TEnt} (hp:∀ e ∈ L,e.peer < 8) (hf:∀ p,p < 8→(L.filter fun e=>e.peer == p).length≤20):L.length≤160:=by
 have key:∀ n,n≤8→(L.filter fun e=>decide (e.peer < n)).length≤20 * n:=by
  intro n
  induction n with
  | zero=>
   intro _
   rw [List.filter_eq_nil_iff.2 (fun e _=>by simp)]
   simp
  | succ n ih=>
   intro hn
   have h1:=ih (by omega)
   have h2:=hf n (by omega)
   have h3:∀ M:List TEnt,(M.filter fun e=>decide (e.peer < n+1)).length=(M.filter fun e=>decide (e.peer < n)).length+(M.filter fun e=>e.peer == n).length:=by
    intro M
    induction M with
    | nil=>rfl
    | cons a r ihr=>
     simp only [List.filter_cons]
     by_cases ha:a.peer < n
     ·have e1:decide (a.peer < n+1)=true:=decide_eq_true (by omega)
      have e2:decide (a.peer < n)=true:=decide_eq_true ha
      have e3:(a.peer == n)=false:=beq_eq_false_iff_ne.2 (by omega)
      simp only [e1,e2,e3,if_true,Bool.false_eq_true,if_false,List.length_cons]
      omega
     ·by_cases hb:a.peer=n
      ·have e1:decide (a.peer < n+1)=true:=decide_eq_true (by omega)
       have e2:decide (a.peer < n)=false:=decide_eq_false ha
       have e3:(a.peer == n)=true:=beq_iff_eq.2 hb
       simp only [e1,e2,e3,if_true,Bool.false_eq_true,if_false,List.length_cons]
       omega
      ·have e1:decide (a.peer < n+1)=false:=decide_eq_false (by omega)
       have e2:decide (a.peer < n)=false:=decide_eq_false ha
       have e3:(a.peer == n)=false:=beq_eq_false_iff_ne.2 hb
       simp only [e1,e2,e3,Bool.false_eq_true,if_false]
       omega
   rw [h3]
   omega
 have h8:=key 8 (Nat.le_refl _)
 rw [List.filter_eq_self.2 (fun e he=>decide_eq_true (hp e he))] at h8
 omega
theorem ofL_fine (salt:UInt64) {L:List TEnt} (h:Good L):(ofL salt L).Fine:=by
 refine ⟨fun x=>?_,fun p hp=>by show (idsOf L p).length≤20;rw [ids_length];exact h.few p hp⟩
 rw [ofL_ents]
 exact ⟨ents_eight h x,fun e he=>h.peer e (ents_mem.1 he).1⟩
theorem ofL_linked (salt:UInt64) (L:List TEnt):(ofL salt L).Linked:=fun p _ y hy=>by
 obtain ⟨e,he,hp,hi⟩:=ids_mem.1 hy
 exact ⟨e,by rw [ofL_ents];exact ents_mem.2 ⟨he,hi⟩,hp⟩
theorem ofL_small (salt:UInt64) {L:List TEnt} (h:Good L):(ofL salt L).Small:=by
 refine ⟨L.map fun e=>e.id,by have:=all_few h.peer h.few;simp;omega,fun x hx=>?_⟩
 have hx:(if entsOf L x=[] then none else some (entsOf L x)).isSome=true:=hx
 by_cases he:entsOf L x=[]
 ·rw [if_pos he] at hx;cases hx
 ·obtain ⟨e,he⟩:=List.exists_mem_of_ne_nil _ he
  obtain ⟨h1,h2⟩:=ents_mem.1 he
  exact List.mem_map.2 ⟨e,h1,h2⟩
theorem ofL_full (salt:UInt64) (L:List TEnt):(ofL salt L).Full:=fun x l h=>by
 have h:(if entsOf L x=[] then none else some (entsOf L x))=some l:=h
 by_cases he:entsOf L x=[]
 ·rw [if_pos he] at h;cases h
 ·rw [if_neg he] at h;cases h;exact he
theorem good_nil:Good []:=⟨by simp,List.Pairwise.nil,fun p _=>by simp,by simp,by simp,by simp⟩
theorem open_ents (M:List TEnt) (x:UInt64):openL M x=!((entsOf M x).all fun e=>e.st == 3):=by
 rw [Bool.eq_iff_iff]
 unfold openL entsOf
 simp only [List.any_eq_true,Bool.and_eq_true,Bool.not_eq_true',List.all_eq_false,List.mem_filter,bne_iff_ne]
 constructor
 ·rintro ⟨e,h1,h2,h3⟩;exact ⟨e,⟨h1,h2⟩,by simpa using h3⟩
 ·rintro ⟨e,⟨h1,h2⟩,h3⟩;exact ⟨e,h1,h2,by simpa using h3⟩
theorem settle_ents (M:List TEnt) (x:UInt64):entsOf (settleL M) x=if openL M x then entsOf M x else []:=by
 unfold entsOf settleL
 rw [List.filter_filter]
 cases ho:openL M x with
 | true=>
  rw [if_pos rfl]
  refine List.filter_congr fun e _=>?_
  by_cases he:e.id=x
  ·rw [he,ho];simp
  ·simp [he]
 | false=>
  rw [if_neg (by decide),List.filter_eq_nil_iff]
  intro e _
  by_cases he:e.id=x
  ·rw [he,ho];simp
  ·simp [he]
theorem settle_ids (M:List TEnt) (p:Nat):idsOf (settleL M) p=(idsOf M p).filter fun y=>openL M y:=by
 unfold idsOf settleL
 rw [List.filter_filter,List.filter_map,List.filter_filter]
 congr 1
 refine List.filter_congr fun e _=>?_
 exact Bool.and_comm _ _
theorem settle_open {M:List TEnt} {x:UInt64}:openL (settleL M) x=openL M x:=by
 rw [open_ents,open_ents,settle_ents,open_ents]
 cases h:(entsOf M x).all fun e=>e.st == 3
 ·simp only [Bool.not_false,if_true,h]
 ·simp
theorem good_filter {L:List TEnt} (h:Good L) (q:TEnt→Bool) (ho:∀ e ∈ L,q e=true→openL (L.filter q) e.id=true):Good (L.filter q) where
 peer:=fun e he=>h.peer e (List.mem_filter.1 he).1
 nodup:=h.nodup.filter _
 few:=fun p hp=>Nat.le_trans (by
  rw [List.filter_filter]
  have:∀ M:List TEnt,(M.filter fun a=>(a.peer == p) && q a).length≤(M.filter fun e=>e.peer == p).length:=fun M=>by
   induction M with
   | nil=>simp
   | cons a r ih=>
    simp only [List.filter_cons]
    cases h1:a.peer == p <;> cases h2:q a <;> simp <;> omega
  exact this L) (h.few p hp)
 open':=fun e he=>ho e (List.mem_filter.1 he).1 (List.mem_filter.1 he).2
 one:=fun a ha b hb=>h.one a (List.mem_filter.1 ha).1 b (List.mem_filter.1 hb).1
 st:=fun e he=>h.st e (List.mem_filter.1 he).1
structure Near (L:List TEnt):Prop where
 peer:∀ e ∈ L,e.peer < 8
 nodup:L.Pairwise fun a b=>¬ (a.peer=b.peer∧a.id=b.id)
 few:∀ p,p < 8→(L.filter fun e=>e.peer == p).length≤20
 one:∀ a ∈ L,∀ b ∈ L,a.id=b.id→a.st=2→b.st=2→a.peer=b.peer
 st:∀ e ∈ L,e.st≤3
theorem Good.near {L:List TEnt} (h:Good L):Near L:=⟨h.peer,h.nodup,h.few,h.one,h.st⟩
theorem near_filter {L:List TEnt} (h:Near L) (q:TEnt→Bool):Near (L.filter q) where
 peer:=fun e he=>h.peer e (List.mem_filter.1 he).1
 nodup:=h.nodup.filter _
 few:=fun p hp=>Nat.le_trans (by
  rw [List.filter_filter]
  have:∀ M:List TEnt,(M.filter fun a=>(a.peer == p) && q a).length≤(M.filter fun e=>e.peer == p).length:=fun M=>by
   induction M with
   | nil=>simp
   | cons a r ih=>
    simp only [List.filter_cons]
    cases h1:a.peer == p <;> cases h2:q a <;> simp <;> omega
  exact this L) (h.few p hp)
 one:=fun a ha b hb=>h.one a (List.mem_filter.1 ha).1 b (List.mem_filter.1 hb).1
 st:=fun e he=>h.st e (List.mem_filter.1 he).1
theorem near_settle {L:List TEnt} (h:Near L):Good (settleL L):=by
 have hn:=near_filter h (fun e=>openL L e.id)
 exact ⟨hn.peer,hn.nodup,hn.few,fun e he=>by
  show openL (settleL L) e.id=true
  rw [settle_open]
  exact (List.mem_filter.1 he).2,hn.one,hn.st⟩
theorem near_map {L:List TEnt} (h:Near L) (f:TEnt→TEnt) (hp:∀ e,(f e).peer=e.peer) (hi:∀ e,(f e).id=e.id) (hs:∀ e ∈ L,(f e).st≤3) (h2:∀ a ∈ L,∀ b ∈ L,a.id=b.id→(f a).st=2→(f b).st=2→a.peer=b.peer):Near (L.map f) where
 peer:=fun e he=>by obtain ⟨a,ha,rfl⟩:=List.mem_map.1 he;rw [hp];exact h.peer a ha
 nodup:=by
  rw [List.pairwise_map]
  refine h.nodup.imp fun {a b} hab=>?_
  rw [hp,hp,hi,hi]
  exact hab
 few:=fun p hp8=>by
  rw [List.filter_map,List.length_map]
  have:(fun e=>e.peer == p) ∘ f=fun e:TEnt=>e.peer == p:=funext fun e=>by show ((f e).peer == p)=_;rw [hp]
  rw [this]
  exact h.few p hp8
 one:=fun a ha b hb=>by
  obtain ⟨a',ha',rfl⟩:=List.mem_map.1 ha
  obtain ⟨b',hb',rfl⟩:=List.mem_map.1 hb
  rw [hi,hi,hp,hp]
  exact h2 a' ha' b' hb'
 st:=fun e he=>by obtain ⟨a,ha,rfl⟩:=List.mem_map.1 he;exact hs a ha
theorem map_ents (L:List TEnt) (f:TEnt→TEnt) (hi:∀ e,(f e).id=e.id) (x:UInt64):entsOf (L.map f) x=(entsOf L x).map f:=by
 unfold entsOf
 rw [List.filter_map]
 congr 1
 refine List.filter_congr fun e _=>?_
 show ((f e).id == x)=_
 rw [hi]
theorem map_ids (L:List TEnt) (f:TEnt→TEnt) (hp:∀ e,(f e).peer=e.peer) (hi:∀ e,(f e).id=e.id) (p:Nat):idsOf (L.map f) p=idsOf L p:=by
 unfold idsOf
 rw [List.filter_map,List.map_map]
 have h1:(fun e=>e.peer == p) ∘ f=fun e:TEnt=>e.peer == p:=funext fun e=>by show ((f e).peer == p)=_;rw [hp]
 have h2:(fun e:TEnt=>e.id) ∘ f=fun e=>e.id:=funext fun e=>hi e
 rw [h1,h2]
end Go.Proofs.YtlboemhbealnmaaGreat.Tr
namespace Go.Proofs.YtlboemhbealnmaaGreat.Tr
def isE (p:Nat) (x:UInt64) (e:TEnt):Bool:=e.peer == p && e.id == x
def annL (L:List TEnt) (p:Nat) (x:UInt64) (t:Int) (f:Bool):Int × List TEnt:=
 if L.any (isE p x) then (6,L) else if 20≤(L.filter fun e=>e.peer == p).length then (2,L) else (0,L ++ [⟨p,x,f,0,t⟩])
def dueL (now:Int) (L:List TEnt):List TEnt:=settleL (L.map (dueE now))
def askE (p:Nat) (x:UInt64) (t:Int) (e:TEnt):TEnt:=if isE p x e then { e with st:=2,till:=t } else e
def mayAsk (L:List TEnt) (p:Nat) (x:UInt64):Bool:=L.any (fun e=>isE p x e && e.st == 1) && !L.any (fun e=>e.id == x && e.st == 2)
def askL (L:List TEnt) (p:Nat) (x:UInt64) (t:Int):Int × List TEnt:=
 if L.any (isE p x) then (if mayAsk L p x then (0,L.map (askE p x t)) else (7,L)) else (5,L)
def doneE (p:Nat) (x:UInt64) (e:TEnt):TEnt:=if isE p x e then { e with st:=3 } else e
def answerL (L:List TEnt) (p:Nat) (x:UInt64):Int × List TEnt:=if L.any (isE p x) then (0,settleL (L.map (doneE p x))) else (5,L)
def forgetL (L:List TEnt) (x:UInt64):List TEnt:=L.filter fun e=>!(e.id == x)
def dropL (L:List TEnt) (p:Nat):List TEnt:=settleL (L.filter fun e=>!(e.peer == p))
theorem dueE_id (now:Int) (e:TEnt):(dueE now e).id=e.id:=by unfold dueE;split <;> (try split) <;> (try split) <;> rfl
theorem dueE_two {now:Int} {e:TEnt} (h:(dueE now e).st=2):e.st=2:=by
 unfold dueE at h
 split at h
 ·split at h
  ·simp at h
  ·split at h
   ·simp at h
   ·exact h
 ·exact h
theorem dueE_st {now:Int} {e:TEnt} (h:e.st≤3):(dueE now e).st≤3:=by
 unfold dueE
 split
 ·split
  ·simp
  ·split
   ·simp
   ·exact h
 ·exact h
theorem askE_peer (p:Nat) (x:UInt64) (t:Int) (e:TEnt):(askE p x t e).peer=e.peer:=by unfold askE;split <;> rfl
theorem askE_id (p:Nat) (x:UInt64) (t:Int) (e:TEnt):(askE p x t e).id=e.id:=by unfold askE;split <;> rfl
theorem doneE_peer (p:Nat) (x:UInt64) (e:TEnt):(doneE p x e).peer=e.peer:=by unfold doneE;split <;> rfl
theorem doneE_id (p:Nat) (x:UInt64) (e:TEnt):(doneE p x e).id=e.id:=by unfold doneE;split <;> rfl
theorem good_ann {L:List TEnt} (h:Good L) {p:Nat} (hp:p < 8) (x:UInt64) (t:Int) (f:Bool):Good (annL L p x t f).2:=by
 unfold annL
 split
 ·exact h
 ·rename_i hn
  split
  ·exact h
  ·rename_i hf
   have hno:∀ e ∈ L,¬ (e.peer=p∧e.id=x):=fun e he hh=>hn (List.any_eq_true.2 ⟨e,he,by simp [isE,hh.1,hh.2]⟩)
   have hop:∀ y,openL L y=true→openL (L ++ [⟨p,x,f,0,t⟩]) y=true:=fun y hy=>by
    unfold openL at hy ⊢
    rw [List.any_append,hy]
    rfl
   refine ⟨fun e he=>?_,?_,fun q hq=>?_,fun e he=>?_,fun a ha b hb hab h2 h3=>?_,fun e he=>?_⟩
   ·rcases List.mem_append.1 he with he | he
    ·exact h.peer e he
    ·rw [List.mem_singleton.1 he];exact hp
   ·rw [List.pairwise_append]
    refine ⟨h.nodup,List.pairwise_singleton _ _,fun a ha b hb=>?_⟩
    rw [List.mem_singleton.1 hb]
    exact hno a ha
   ·rw [List.filter_append,List.length_append]
    by_cases hqp:q=p
    ·subst hqp
     simp
     omega
    ·have:(p == q)=false:=beq_eq_false_iff_ne.2 (fun e=>hqp e.symm)
     simp [this]
     exact h.few q hq
   ·rcases List.mem_append.1 he with he | he
    ·exact hop _ (h.open' e he)
    ·rw [List.mem_singleton.1 he]
     unfold openL
     rw [List.any_append]
     simp
   ·rcases List.mem_append.1 ha with ha | ha
    ·rcases List.mem_append.1 hb with hb | hb
     ·exact h.one a ha b hb hab h2 h3
     ·rw [List.mem_singleton.1 hb] at h3;simp at h3
    ·rw [List.mem_singleton.1 ha] at h2;simp at h2
   ·rcases List.mem_append.1 he with he | he
    ·exact h.st e he
    ·rw [List.mem_singleton.1 he];simp
theorem good_due {L:List TEnt} (h:Good L) (now:Int):Good (dueL now L):=
 near_settle (near_map h.near (dueE now) (dueE_peer now) (dueE_id now) (fun e he=>dueE_st (h.st e he)) (fun a ha b hb hab h2 h3=>h.one a ha b hb hab (dueE_two h2) (dueE_two h3)))
theorem may_none {L:List TEnt} {p:Nat} {x:UInt64} (h:mayAsk L p x=true):(∃ e ∈ L,e.peer=p∧e.id=x∧e.st=1)∧∀ e ∈ L,e.id=x→e.st≠2:=by
 unfold mayAsk at h
 rw [Bool.and_eq_true,Bool.not_eq_true',List.any_eq_true,List.any_eq_false] at h
 obtain ⟨⟨e,he,h1⟩,h2⟩:=h
 simp only [isE,Bool.and_eq_true,beq_iff_eq] at h1 h2
 exact ⟨⟨e,he,h1.1.1,h1.1.2,h1.2⟩,fun e he hx hs=>h2 e he ⟨hx,hs⟩⟩
theorem good_ask {L:List TEnt} (h:Good L) (p:Nat) (x:UInt64) (t:Int):Good (askL L p x t).2:=by
 unfold askL
 split
 ·split
  ·rename_i hm
   obtain ⟨_,hno⟩:=may_none hm
   have hask2:∀ e ∈ L,(askE p x t e).st=2→(e.peer=p∧e.id=x)∨e.st=2:=fun e _ hs=>by
    unfold askE at hs
    split at hs
    ·rename_i hi
     simp only [isE,Bool.and_eq_true,beq_iff_eq] at hi
     exact .inl hi
    ·exact .inr hs
   have hn:=near_map h.near (askE p x t) (askE_peer p x t) (askE_id p x t) (fun e he=>by
    unfold askE
    split
    ·simp
    ·exact h.st e he) (fun a ha b hb hab h2 h3=>by
    rcases hask2 a ha h2 with h4 | h4 <;> rcases hask2 b hb h3 with h5 | h5
    ·rw [h4.1,h5.1]
    ·exact absurd h5 (hno b hb (hab.symm.trans h4.2))
    ·exact absurd h4 (hno a ha (hab.trans h5.2))
    ·exact h.one a ha b hb hab h4 h5)
   refine ⟨hn.peer,hn.nodup,hn.few,fun e he=>?_,hn.one,hn.st⟩
   obtain ⟨a,ha,rfl⟩:=List.mem_map.1 he
   rw [askE_id]
   have:=h.open' a ha
   unfold openL at this ⊢
   rw [List.any_eq_true] at this ⊢
   obtain ⟨c,hc,h1⟩:=this
   refine ⟨askE p x t c,List.mem_map.2 ⟨c,hc,rfl⟩,?_⟩
   rw [Bool.and_eq_true] at h1 ⊢
   rw [askE_id]
   refine ⟨h1.1,?_⟩
   unfold askE
   split
   ·rfl
   ·exact h1.2
  ·exact h
 ·exact h
theorem good_answer {L:List TEnt} (h:Good L) (p:Nat) (x:UInt64):Good (answerL L p x).2:=by
 unfold answerL
 split
 ·have hd2:∀ e:TEnt,(doneE p x e).st=2→e.st=2:=fun e hs=>by
   unfold doneE at hs
   split at hs
   ·simp at hs
   ·exact hs
  exact near_settle (near_map h.near (doneE p x) (doneE_peer p x) (doneE_id p x) (fun e he=>by
   unfold doneE
   split
   ·simp
   ·exact h.st e he) (fun a ha b hb hab h2 h3=>h.one a ha b hb hab (hd2 a h2) (hd2 b h3)))
 ·exact h
theorem good_forget {L:List TEnt} (h:Good L) (x:UInt64):Good (forgetL L x):=good_filter h _ fun e he hq=>by
 have:=h.open' e he
 unfold openL at this ⊢
 rw [List.any_eq_true] at this ⊢
 obtain ⟨c,hc,h1⟩:=this
 refine ⟨c,List.mem_filter.2 ⟨hc,?_⟩,h1⟩
 rw [Bool.and_eq_true,beq_iff_eq] at h1
 rw [h1.1]
 exact hq
theorem good_drop {L:List TEnt} (h:Good L) (p:Nat):Good (dropL L p):=near_settle (near_filter h.near _)
theorem find_any_eq {L:List TEnt} {p:Nat} {x:UInt64}:(entsOf L x).findIdx? (fun e=>e.peer == p)=none ↔ L.any (isE p x)=false:=by
 rw [List.findIdx?_eq_none_iff,List.any_eq_false]
 constructor
 ·intro h e he hi
  simp only [isE,Bool.and_eq_true,beq_iff_eq] at hi
  have:=h e (ents_mem.2 ⟨he,hi.2⟩)
  rw [hi.1] at this
  simp at this
 ·intro h e he
  obtain ⟨h1,h2⟩:=ents_mem.1 he
  have:=h e h1
  simp only [isE,h2,Bool.and_eq_true,beq_iff_eq,and_true] at this
  exact beq_eq_false_iff_ne.2 this
theorem eqv_ann (salt:UInt64) (L:List TEnt) (p:Nat) (x:UInt64) (t:Int) (f:Bool):((ofL salt L).announce p x t f).1=(annL L p x t f).1∧((ofL salt L).announce p x t f).2.Eqv (ofL salt (annL L p x t f).2):=by
 unfold TS.announce annL
 rw [ofL_ents]
 cases hfi:(entsOf L x).findIdx? (fun e=>e.peer == p) with
 | some i=>
  have:L.any (isE p x)=true:=by
   rw [← Bool.not_eq_false]
   intro hc
   rw [find_any_eq.2 hc] at hfi
   cases hfi
  rw [if_pos this]
  exact ⟨rfl,rfl,fun _=>rfl,fun _ _=>rfl⟩
 | none=>
  have:¬ L.any (isE p x)=true:=by rw [find_any_eq.1 hfi];decide
  rw [if_neg this]
  have hlen:((ofL salt L).I p).length=(L.filter fun e=>e.peer == p).length:=ids_length L p
  show (if 20≤((ofL salt L).I p).length then _ else _:Int × TS).1=_∧(if 20≤((ofL salt L).I p).length then _ else _:Int × TS).2.Eqv _
  rw [hlen]
  split
  ·exact ⟨rfl,rfl,fun _=>rfl,fun _ _=>rfl⟩
  ·refine ⟨rfl,rfl,fun y=>?_,fun q _=>?_⟩
   ·show upd (ofL salt L).E x (some (entsOf L x ++ [⟨p,x,f,0,t⟩])) y=if entsOf (L ++ [⟨p,x,f,0,t⟩]) y=[] then none else some (entsOf (L ++ [⟨p,x,f,0,t⟩]) y)
    have he:entsOf (L ++ [⟨p,x,f,0,t⟩]) y=entsOf L y ++ if y=x then [⟨p,x,f,0,t⟩] else []:=by
     unfold entsOf
     rw [List.filter_append]
     congr 1
     by_cases hy:y=x
     ·rw [if_pos hy,hy];simp
     ·rw [if_neg hy];have hy':¬ x=y:=fun e=>hy e.symm;simp [hy']
    rw [he]
    by_cases hy:y=x
    ·subst hy
     rw [upd_same,if_pos rfl,if_neg (by simp)]
    ·rw [upd_other _ _ hy,if_neg hy,List.append_nil]
     rfl
   ·show upd (idsOf L) p (idsOf L p ++ [x]) q=idsOf (L ++ [⟨p,x,f,0,t⟩]) q
    unfold idsOf
    rw [List.filter_append,List.map_append]
    by_cases hq:q=p
    ·subst hq
     rw [upd_same]
     simp
    ·rw [upd_other _ _ hq]
     have hq':¬ p=q:=fun e=>hq e.symm
     simp [hq']
theorem eqv_due (salt:UInt64) (L:List TEnt) (now:Int):((ofL salt L).due now).Eqv (ofL salt (dueL now L)):=by
 have hgone:∀ y,(ofL salt L).gone now y=!openL (L.map (dueE now)) y:=fun y=>by
  rw [open_ents,map_ents _ _ (dueE_id now),Bool.not_not,List.all_map]
  unfold TS.gone
  rw [ofL_ents]
  rfl
 refine ⟨rfl,fun x=>?_,fun p _=>?_⟩
 ·show (if (ofL salt L).gone now x then none else ((ofL salt L).E x).map (List.map (dueE now)))=if entsOf (settleL (L.map (dueE now))) x=[] then none else some (entsOf (settleL (L.map (dueE now))) x)
  rw [hgone,settle_ents,map_ents _ _ (dueE_id now)]
  cases ho:openL (L.map (dueE now)) x with
  | false=>simp
  | true=>
   simp only [Bool.not_true,Bool.false_eq_true,if_false,if_true]
   show Option.map _ (if entsOf L x=[] then none else some (entsOf L x))=_
   by_cases he:entsOf L x=[]
   ·rw [if_pos he,he];rfl
   ·rw [if_neg he,if_neg (by simpa using he)];rfl
 ·show (idsOf L p).filter _=idsOf (settleL (L.map (dueE now))) p
  rw [settle_ids,map_ids _ _ (dueE_peer now) (dueE_id now)]
  refine List.filter_congr fun y _=>?_
  rw [hgone]
  simp
theorem peer_inj {l:List TEnt} (hn:(l.map fun e=>e.peer).Nodup) {i k:Nat} (hi:i < l.length) (hk:k < l.length) (h:l[i].peer=l[k].peer):i=k:=by
 unfold List.Nodup at hn
 rw [List.pairwise_map] at hn
 rcases Nat.lt_trichotomy i k with h3 | h3 | h3
 ·exact absurd h (List.pairwise_iff_getElem.1 hn i k hi hk h3)
 ·exact h3
 ·exact absurd h.symm (List.pairwise_iff_getElem.1 hn k i hk hi h3)
theorem set_map {l:List TEnt} {p i:Nat} (hn:(l.map fun e=>e.peer).Nodup) (g:TEnt→TEnt) (hi:i < l.length) (hp:l[i].peer=p):l.set i (g l[i])=l.map fun e=>if e.peer == p then g e else e:=by
 apply List.ext_getElem (by simp)
 intro k h1 h2
 rw [List.getElem_set,List.getElem_map]
 have hk:k < l.length:=by simpa using h1
 split
 ·rename_i e
  subst e
  rw [if_pos (beq_iff_eq.2 hp)]
 ·rename_i hne
  rw [if_neg]
  rw [beq_iff_eq]
  intro hpk
  exact hne (peer_inj hn hi hk (hp.trans hpk.symm))
theorem eqv_set (salt:UInt64) {L:List TEnt} (h:Good L) {p i:Nat} {x:UInt64} (g:TEnt→TEnt) (f:TEnt→TEnt) (hg:∀ e,(f e).peer=e.peer∧(f e).id=e.id) (hf:∀ e,f e=if isE p x e then g e else e) (hi:i < (entsOf L x).length) (hp:(entsOf L x)[i].peer=p) :
  TS.Eqv { ofL salt L with E:=upd (ofL salt L).E x (some ((entsOf L x).set i (g (entsOf L x)[i]))) } (ofL salt (L.map f)):=by
 refine ⟨rfl,fun y=>?_,fun q _=>(map_ids L f (fun e=>(hg e).1) (fun e=>(hg e).2) q).symm⟩
 show upd (ofL salt L).E x _ y=if entsOf (L.map f) y=[] then none else some (entsOf (L.map f) y)
 rw [map_ents L f (fun e=>(hg e).2)]
 by_cases hy:y=x
 ·subst hy
  rw [upd_same,set_map (ents_pair h.nodup y) g hi hp,if_neg (by
   intro e
   have:=congrArg List.length e
   rw [List.length_map] at this
   simp at this
   rw [this] at hi
   simp at hi)]
  congr 1
  refine List.map_congr_left fun e he=>?_
  rw [hf]
  simp [isE,(ents_mem.1 he).2]
 ·rw [upd_other _ _ hy]
  have:(entsOf L y).map f=entsOf L y:=by
   rw [List.map_congr_left (g:=id) (fun e he=>by
    rw [hf,if_neg]
    ·rfl
    ·simp only [isE,(ents_mem.1 he).2,Bool.and_eq_true,beq_iff_eq,not_and]
     exact fun _ e=>hy e),List.map_id]
  rw [this]
  rfl
theorem eqv_ask (salt:UInt64) {L:List TEnt} (h:Good L) (p:Nat) (x:UInt64) (t:Int):((ofL salt L).ask p x t).1=(askL L p x t).1∧((ofL salt L).ask p x t).2.Eqv (ofL salt (askL L p x t).2):=by
 unfold TS.ask askL
 rw [ofL_ents]
 cases hfi:(entsOf L x).findIdx? (fun e=>e.peer == p) with
 | none=>
  rw [if_neg (by rw [find_any_eq.1 hfi];decide)]
  exact ⟨rfl,rfl,fun _=>rfl,fun _ _=>rfl⟩
 | some i=>
  have hany:L.any (isE p x)=true:=by
   rw [← Bool.not_eq_false]
   intro hc
   rw [find_any_eq.2 hc] at hfi
   cases hfi
  obtain ⟨hi,hp,_⟩:=List.findIdx?_eq_some_iff_getElem.1 hfi
  have hp:(entsOf L x)[i].peer=p:=beq_iff_eq.1 hp
  rw [if_pos hany]
  simp only [List.getElem?_eq_getElem hi]
  have huniq:∀ e ∈ L,e.peer=p→e.id=x→e=(entsOf L x)[i]:=fun e he h1 h2=>by
   have hm:e ∈ entsOf L x:=ents_mem.2 ⟨he,h2⟩
   obtain ⟨k,hk,rfl⟩:=List.mem_iff_getElem.1 hm
   have:k=i:=peer_inj (ents_pair h.nodup x) hk hi (h1.trans hp.symm)
   subst this
   rfl
  have hmay:(((entsOf L x)[i].st=1∧(entsOf L x).findIdx? (fun e=>e.st == 2)=none)) ↔ mayAsk L p x=true:=by
   unfold mayAsk
   rw [Bool.and_eq_true,Bool.not_eq_true',List.any_eq_true,List.any_eq_false,List.findIdx?_eq_none_iff]
   constructor
   ·rintro ⟨h1,h2⟩
    obtain ⟨h3,h4⟩:=ents_mem.1 (List.getElem_mem hi)
    refine ⟨⟨_,h3,by simp [isE,hp,h4,h1]⟩,fun e he hh=>?_⟩
    simp only [Bool.and_eq_true,beq_iff_eq] at hh
    have:=h2 e (ents_mem.2 ⟨he,hh.1⟩)
    rw [hh.2] at this
    simp at this
   ·rintro ⟨⟨e,he,h1⟩,h2⟩
    simp only [isE,Bool.and_eq_true,beq_iff_eq] at h1 h2
    refine ⟨by rw [← huniq e he h1.1.1 h1.1.2];exact h1.2,fun e he=>?_⟩
    obtain ⟨h3,h4⟩:=ents_mem.1 he
    exact beq_eq_false_iff_ne.2 (fun hs=>h2 e h3 ⟨h4,hs⟩)
  by_cases hm:mayAsk L p x=true
  ·rw [if_pos hm,if_pos (hmay.2 hm)]
   exact ⟨rfl,eqv_set salt h (fun e=>{ e with st:=2,till:=t }) (askE p x t) (fun e=>⟨askE_peer p x t e,askE_id p x t e⟩) (fun e=>rfl) hi hp⟩
  ·rw [if_neg hm,if_neg (fun hc=>hm (hmay.1 hc))]
   exact ⟨rfl,rfl,fun _=>rfl,fun _ _=>rfl⟩
end Go.Proofs.YtlboemhbealnmaaGreat.Tr
namespace Go.Proofs.YtlboemhbealnmaaGreat.Tr
theorem TS.Eqv.ents {s t:TS} (h:s.Eqv t) (x:UInt64):s.ents x=t.ents x:=by unfold TS.ents;rw [h.2.1 x]
theorem forget_ents (L:List TEnt) (x y:UInt64):entsOf (forgetL L x) y=if y=x then [] else entsOf L y:=by
 unfold entsOf forgetL
 rw [List.filter_filter]
 by_cases hy:y=x
 ·rw [if_pos hy,List.filter_eq_nil_iff]
  intro e _
  rw [hy]
  cases e.id == x <;> simp
 ·rw [if_neg hy]
  refine List.filter_congr fun e _=>?_
  by_cases he:e.id=y
  ·simp [he,hy]
  ·simp [he]
theorem forget_ids (L:List TEnt) (x:UInt64) (p:Nat):idsOf (forgetL L x) p=(idsOf L p).filter fun y=>!(y == x):=by
 unfold idsOf forgetL
 rw [List.filter_filter,List.filter_map,List.filter_filter]
 congr 1
 refine List.filter_congr fun e _=>?_
 exact Bool.and_comm _ _
theorem eqv_forget_of (salt:UInt64) {s:TS} {L:List TEnt} (h:s.Eqv (ofL salt L)) (x:UInt64):(s.forget x).Eqv (ofL salt (forgetL L x)):=by
 refine ⟨h.1,fun y=>?_,fun p hp=>?_⟩
 ·show upd s.E x none y=if entsOf (forgetL L x) y=[] then none else some (entsOf (forgetL L x) y)
  rw [forget_ents]
  by_cases hy:y=x
  ·rw [hy,upd_same,if_pos rfl,if_pos rfl]
  ·rw [upd_other _ _ hy,if_neg hy]
   exact h.2.1 y
 ·show cutIds x s.I (s.ents x) p=idsOf (forgetL L x) p
  rw [h.ents,forget_ids,cutIds_at,h.2.2 p hp]
  ·rfl
  ·intro hm
   rw [h.2.2 p hp] at hm
   exact ofL_linked salt L p hp x hm
theorem eqv_forget (salt:UInt64) (L:List TEnt) (x:UInt64):((ofL salt L).forget x).Eqv (ofL salt (forgetL L x)):=eqv_forget_of salt ⟨rfl,fun _=>rfl,fun _ _=>rfl⟩ x
theorem eqv_settle (salt:UInt64) {s:TS} {M:List TEnt} (hs:s.Eqv (ofL salt M)) (x:UInt64) (h:∀ e ∈ M,e.id≠x→openL M e.id=true):(s.settle x).Eqv (ofL salt (settleL M)):=by
 have hents:s.ents x=entsOf M x:=(hs.ents x).trans (ofL_ents salt M x)
 unfold TS.settle
 rw [hents]
 cases hd:(entsOf M x).all fun e=>e.st == 3 with
 | true=>
  have hno:openL M x=false:=by rw [open_ents,hd];rfl
  have hM:settleL M=forgetL M x:=by
   unfold settleL forgetL
   refine List.filter_congr fun e he=>?_
   by_cases hx:e.id=x
   ·rw [hx,hno];simp
   ·rw [h e he hx];simp [hx]
  rw [if_pos rfl,hM]
  exact eqv_forget_of salt hs x
 | false=>
  have hyes:openL M x=true:=by rw [open_ents,hd];rfl
  have hM:settleL M=M:=by
   unfold settleL
   rw [List.filter_eq_self]
   intro e he
   by_cases hx:e.id=x
   ·rw [hx];exact hyes
   ·exact h e he hx
  rw [if_neg (by decide),hM]
  exact hs
theorem eqv_answer (salt:UInt64) {L:List TEnt} (h:Good L) (p:Nat) (x:UInt64):((ofL salt L).answer p x).1=(answerL L p x).1∧((ofL salt L).answer p x).2.Eqv (ofL salt (answerL L p x).2):=by
 unfold TS.answer answerL
 rw [ofL_ents]
 cases hfi:(entsOf L x).findIdx? (fun e=>e.peer == p) with
 | none=>
  rw [if_neg (by rw [find_any_eq.1 hfi];decide)]
  exact ⟨rfl,rfl,fun _=>rfl,fun _ _=>rfl⟩
 | some i=>
  have hany:L.any (isE p x)=true:=by
   rw [← Bool.not_eq_false]
   intro hc
   rw [find_any_eq.2 hc] at hfi
   cases hfi
  obtain ⟨hi,hp,_⟩:=List.findIdx?_eq_some_iff_getElem.1 hfi
  have hp:(entsOf L x)[i].peer=p:=beq_iff_eq.1 hp
  rw [if_pos hany]
  simp only [List.getElem?_eq_getElem hi]
  have he:=eqv_set salt h (p:=p) (x:=x) (fun e=>{ e with st:=3 }) (doneE p x) (fun e=>⟨doneE_peer p x e,doneE_id p x e⟩) (fun e=>rfl) hi hp
  refine ⟨trivial,eqv_settle salt he x fun e hm hx=>?_⟩
  obtain ⟨a,ha,rfl⟩:=List.mem_map.1 hm
  rw [doneE_id] at hx ⊢
  have hsame:doneE p x a=a:=by unfold doneE;rw [if_neg];simp [isE,hx]
  have ho:=h.open' a ha
  unfold openL at ho ⊢
  rw [List.any_eq_true] at ho ⊢
  obtain ⟨c,hc,h1⟩:=ho
  have hci:c.id=a.id:=by rw [Bool.and_eq_true,beq_iff_eq] at h1;exact h1.1
  refine ⟨doneE p x c,List.mem_map.2 ⟨c,hc,rfl⟩,?_⟩
  have:doneE p x c=c:=by unfold doneE;rw [if_neg];simp [isE,hci,hx]
  rw [this]
  exact h1
theorem eqv_drop (salt:UInt64) {L:List TEnt} (h:Good L) (p:Nat):((ofL salt L).drop p).Eqv (ofL salt (dropL L p)):=by
 obtain ⟨M,hM⟩:∃ M,(L.filter fun e=>!(e.peer == p))=M:=⟨_,rfl⟩
 have hlone:∀ y,(ofL salt L).lone p y=entsOf M y:=fun y=>by
  unfold TS.lone
  rw [ofL_ents,← hM]
  unfold entsOf
  rw [List.filter_filter,List.filter_filter]
  exact List.filter_congr fun e _=>Bool.and_comm _ _
 have hld:∀ y,(ofL salt L).loneDone p y=!openL M y:=fun y=>by
  unfold TS.loneDone
  rw [hlone,open_ents,Bool.not_not]
 have hnot:∀ y,y ∉ idsOf L p→entsOf M y=entsOf L y:=fun y hy=>by
  rw [← hM]
  unfold entsOf
  rw [List.filter_filter]
  refine List.filter_congr fun e he=>?_
  by_cases hi:e.id=y
  ·have:e.peer≠p:=fun hp=>hy (ids_mem.2 ⟨e,he,hp,hi⟩)
   simp [this]
  ·simp [hi]
 have hop:∀ y,y ∉ idsOf L p→entsOf L y≠[]→openL M y=true:=fun y hy hne=>by
  obtain ⟨e,he⟩:=List.exists_mem_of_ne_nil _ hne
  obtain ⟨h1,h2⟩:=ents_mem.1 he
  have ho:=h.open' e h1
  rw [h2,open_ents] at ho
  rw [open_ents,hnot y hy]
  exact ho
 have hdl:dropL L p=settleL M:=by unfold dropL;rw [hM]
 rw [hdl]
 refine ⟨rfl,fun y=>?_,fun q _=>?_⟩
 ·show (if (idsOf L p).contains y then (if (ofL salt L).loneDone p y then none else some ((ofL salt L).lone p y)) else (if entsOf L y=[] then none else some (entsOf L y)))=if entsOf (settleL M) y=[] then none else some (entsOf (settleL M) y)
  rw [settle_ents,hld,hlone]
  cases hc:(idsOf L p).contains y with
  | true=>
   cases ho:openL M y with
   | false=>simp
   | true=>
    have:entsOf M y≠[]:=fun e=>by
     rw [open_ents,e] at ho
     simp at ho
    simp [this]
  | false=>
   have hy:y ∉ idsOf L p:=fun hm=>by rw [List.contains_iff_mem.2 hm] at hc;cases hc
   rw [if_neg (by decide)]
   by_cases he:entsOf L y=[]
   ·rw [if_pos he,hnot y hy,he];simp
   ·rw [if_neg he,hop y hy he,if_pos rfl,hnot y hy,if_neg he]
 ·show upd (fun q=>if q=p then idsOf L p else (idsOf L q).filter fun y=>!((idsOf L p).contains y && (ofL salt L).loneDone p y)) p [] q=idsOf (settleL M) q
  rw [settle_ids]
  by_cases hq:q=p
  ·subst hq
   rw [upd_same]
   have:idsOf M q=[]:=by
    unfold idsOf
    rw [← hM,List.filter_filter,List.filter_eq_nil_iff.2]
    ·rfl
    ·intro e _
     cases e.peer == q <;> simp
   rw [this]
   rfl
  ·rw [upd_other _ _ hq,if_neg hq]
   have:idsOf M q=idsOf L q:=by
    unfold idsOf
    rw [← hM,List.filter_filter]
    congr 1
    refine List.filter_congr fun e _=>?_
    by_cases he:e.peer=q
    ·have:e.peer≠p:=fun e'=>hq (he.symm.trans e')
     simp [he,hq]
    ·simp [he]
   rw [this]
   refine List.filter_congr fun y hy=>?_
   rw [hld]
   cases hc:(idsOf L p).contains y with
   | true=>simp
   | false=>
    have hyn:y ∉ idsOf L p:=fun hm=>by rw [List.contains_iff_mem.2 hm] at hc;cases hc
    obtain ⟨e,he,_,hi⟩:=ids_mem.1 hy
    rw [hop y hyn (List.ne_nil_of_mem (ents_mem.2 ⟨he,hi⟩))]
    rfl
theorem flies_eq (salt:UInt64) {L:List TEnt} (h:Good L) {e:TEnt} (he:e ∈ L):(ofL salt L).flies e.peer e.id=(e.st == 2):=by
 unfold TS.flies
 rw [ofL_ents]
 cases hfi:(entsOf L e.id).findIdx? (fun e=>e.st == 2) with
 | none=>
  have:=List.findIdx?_eq_none_iff.1 hfi e (ents_mem.2 ⟨he,rfl⟩)
  rw [this]
 | some i=>
  obtain ⟨hi,hp,_⟩:=List.findIdx?_eq_some_iff_getElem.1 hfi
  have hp:(entsOf L e.id)[i].st=2:=beq_iff_eq.1 hp
  obtain ⟨h1,h2⟩:=ents_mem.1 (List.getElem_mem hi)
  simp only [List.getElem?_eq_getElem hi]
  rw [Bool.eq_iff_iff,beq_iff_eq,beq_iff_eq]
  constructor
  ·intro hpe
   obtain ⟨k,hk,hke⟩:=List.mem_iff_getElem.1 (ents_mem.2 ⟨he,rfl⟩:e ∈ entsOf L e.id)
   have:i=k:=peer_inj (ents_pair h.nodup e.id) hi hk (by rw [hpe,hke])
   subst this
   rw [← hke]
   exact hp
  ·intro hs
   exact h.one _ h1 e he h2 hp hs
theorem counts_eq (salt:UInt64) {L:List TEnt} (h:Good L) (p:Nat):((idsOf L p).filter ((ofL salt L).flies p)).length=(L.filter fun e=>e.peer == p && e.st == 2).length:=by
 unfold idsOf
 rw [List.filter_map,List.length_map,List.filter_filter]
 congr 1
 refine List.filter_congr fun e he=>?_
 by_cases hp:e.peer=p
 ·subst hp
  show ((ofL salt L).flies e.peer e.id && _)=_
  rw [flies_eq salt h he]
  exact Bool.and_comm _ _
 ·have:(e.peer == p)=false:=beq_eq_false_iff_ne.2 hp
  simp [this]
end Go.Proofs.YtlboemhbealnmaaGreat.Tr
set_option maxRecDepth 20000
namespace Go.Proofs.YtlboemhbealnmaaGreat.Tr
open Go.RowKit Go.Maps
def TL (w:World) (F:Nat→Prop) (R:Loc) (salt:UInt64) (L:List TEnt):Prop:=Good L∧TrackIn w F R (ofL salt L)
theorem TrackIn.as {w:World} {F:Nat→Prop} {R:Loc} {s t:TS} (h:TrackIn w F R s) (he:s.Eqv t):TrackIn w F R t:=by
 obtain ⟨b,ev,pv,h⟩:=h
 exact ⟨b,ev,pv,h.as he.1 he.2.1 he.2.2⟩
theorem TL.kept {w w':World} {F:Nat→Prop} {R:Loc} {salt:UInt64} {L:List TEnt} (h:TL w F R salt L) (hb:Below w.heap.size w w'):TL w' F R salt L:=by
 obtain ⟨hg,b,ev,pv,h⟩:=h
 exact ⟨hg,b,ev,pv,h.kept hb⟩
theorem TL.there {w:World} {F:Nat→Prop} {R:Loc} {salt:UInt64} {L:List TEnt} (h:TL w F R salt L):There w F:=by
 obtain ⟨_,_,_,_,h⟩:=h
 exact h.there
theorem TL.block {w:World} {F:Nat→Prop} {R:Loc} {salt:UInt64} {L:List TEnt} (h:TL w F R salt L):F R.b:=by
 obtain ⟨_,_,_,_,h⟩:=h
 exact h.fR
def goodP (p:Int):Prop:=0≤p∧p < 8
instance (p:Int):Decidable (goodP p):=inferInstanceAs (Decidable (_∧_))
def annC (L:List TEnt) (p:Int) (x:UInt64) (t:Int) (f:Bool):Int × List TEnt:=if goodP p∧goodT t then annL L p.toNat x t f else (1,L)
def askC (L:List TEnt) (p:Int) (x:UInt64) (t:Int):Int × List TEnt:=if goodP p∧goodT t then askL L p.toNat x t else (1,L)
def answerC (L:List TEnt) (p:Int) (x:UInt64):Int × List TEnt:=if goodP p then answerL L p.toNat x else (1,L)
def dropC (L:List TEnt) (p:Int):Int × List TEnt:=if goodP p then (0,dropL L p.toNat) else (1,L)
theorem peer_nat {p:Int} (h:goodP p):∃ n:Nat,p=n∧n < 8∧p.toNat=n:=⟨p.toNat,by have:=h.1;omega,by have:=h.1;have:=h.2;omega,rfl⟩
theorem tl_announce (F:Nat→Prop) (R:Loc) (salt:UInt64) (L:List TEnt) (w:World) (h:TL w F R salt L) (p:Int) (x:UInt64) (t:Int) (f:Bool):Calls Tryz.prog 92 #[.pointer (some ⟨R.b,17,none⟩),.int .i64 p,.int .u64 x.toNat,.int .i64 t,.bool f] w fun e w'=>
  e=.returned (.int .i64 (annC L p x t f).1)∧∃ F',TL w' F' R salt (annC L p x t f).2∧Turn F F' w w':=by
 obtain ⟨hg,b,ev,pv,h⟩:=h
 unfold annC
 by_cases hc:goodP p∧goodT t
 ·rw [if_pos hc]
  obtain ⟨n,rfl,hn,hnn⟩:=peer_nat hc.1
  rw [hnn]
  refine (announce_any n hn x t hc.2 f w h (ofL_fine salt hg) (ofL_small salt hg)).mono ?_
  rintro e w' ⟨rfl,F',h1,h2⟩
  obtain ⟨e1,e2⟩:=eqv_ann salt L n x t f
  exact ⟨by rw [e1],F',⟨good_ann hg hn x t f,h1.as e2⟩,h2⟩
 ·rw [if_neg hc]
  refine (announce_arg (R:=R) p t ?_ x f w).mono ?_
  ·by_cases hp:goodP p
   ·exact .inr (fun ht=>hc ⟨hp,ht⟩)
   ·exact .inl hp
  ·rintro e w' ⟨rfl,rfl⟩
   exact ⟨rfl,F,⟨hg,b,ev,pv,h⟩,Turn.refl _ _⟩
theorem tl_due (F:Nat→Prop) (R:Loc) (salt:UInt64) (L:List TEnt) (w:World) (h:TL w F R salt L) (now:Int):Calls Tryz.prog 52 #[.pointer (some ⟨R.b,17,none⟩),.int .i64 now] w fun e w'=>e=.returned (.tuple #[])∧∃ F',TL w' F' R salt (dueL now L)∧Turn F F' w w':=by
 obtain ⟨hg,b,ev,pv,h⟩:=h
 refine (due_all now w h (ofL_fine salt hg) (ofL_linked salt L)).mono ?_
 rintro e w' ⟨rfl,F',ev',pv',h1,h2⟩
 exact ⟨rfl,F',⟨good_due hg now,TrackIn.as ⟨b,ev',pv',h1⟩ (eqv_due salt L now)⟩,h2⟩
theorem tl_ask (F:Nat→Prop) (R:Loc) (salt:UInt64) (L:List TEnt) (w:World) (h:TL w F R salt L) (p:Int) (x:UInt64) (t:Int):Calls Tryz.prog 108 #[.pointer (some ⟨R.b,17,none⟩),.int .i64 p,.int .u64 x.toNat,.int .i64 t] w fun e w'=>
  e=.returned (.int .i64 (askC L p x t).1)∧∃ F',TL w' F' R salt (askC L p x t).2∧Turn F F' w w':=by
 obtain ⟨hg,b,ev,pv,h⟩:=h
 unfold askC
 by_cases hc:goodP p∧goodT t
 ·rw [if_pos hc]
  obtain ⟨n,rfl,hn,hnn⟩:=peer_nat hc.1
  rw [hnn]
  refine (ask_any n hn x t hc.2 w h (ofL_fine salt hg)).mono ?_
  rintro e w' ⟨rfl,h1,h2⟩
  obtain ⟨e1,e2⟩:=eqv_ask salt hg n x t
  exact ⟨by rw [e1],F,⟨good_ask hg n x t,TrackIn.as ⟨b,ev,pv,h1⟩ e2⟩,h2⟩
 ·rw [if_neg hc]
  refine (ask_arg (R:=R) p t ?_ x w).mono ?_
  ·by_cases hp:goodP p
   ·exact .inr (fun ht=>hc ⟨hp,ht⟩)
   ·exact .inl hp
  ·rintro e w' ⟨rfl,rfl⟩
   exact ⟨rfl,F,⟨hg,b,ev,pv,h⟩,Turn.refl _ _⟩
theorem tl_answer (F:Nat→Prop) (R:Loc) (salt:UInt64) (L:List TEnt) (w:World) (h:TL w F R salt L) (p:Int) (x:UInt64):Calls Tryz.prog 48 #[.pointer (some ⟨R.b,17,none⟩),.int .i64 p,.int .u64 x.toNat] w fun e w'=>
  e=.returned (.int .i64 (answerC L p x).1)∧∃ F',TL w' F' R salt (answerC L p x).2∧Turn F F' w w':=by
 obtain ⟨hg,b,ev,pv,h⟩:=h
 unfold answerC
 by_cases hc:goodP p
 ·rw [if_pos hc]
  obtain ⟨n,rfl,hn,hnn⟩:=peer_nat hc
  rw [hnn]
  refine (answer_any n hn x w h (ofL_fine salt hg)).mono ?_
  rintro e w' ⟨rfl,F',h1,h2⟩
  obtain ⟨e1,e2⟩:=eqv_answer salt hg n x
  exact ⟨by rw [e1],F',⟨good_answer hg n x,h1.as e2⟩,h2⟩
 ·rw [if_neg hc]
  refine (answer_arg (R:=R) p hc x w).mono ?_
  rintro e w' ⟨rfl,rfl⟩
  exact ⟨rfl,F,⟨hg,b,ev,pv,h⟩,Turn.refl _ _⟩
theorem tl_forget (F:Nat→Prop) (R:Loc) (salt:UInt64) (L:List TEnt) (w:World) (h:TL w F R salt L) (x:UInt64):Calls Tryz.prog 139 #[.pointer (some ⟨R.b,17,none⟩),.int .u64 x.toNat] w fun e w'=>e=.returned (.tuple #[])∧∃ F',TL w' F' R salt (forgetL L x)∧Turn F F' w w':=by
 obtain ⟨hg,b,ev,pv,h⟩:=h
 refine (forget_any x w h (ofL_fine salt hg)).mono ?_
 rintro e w' ⟨rfl,F',pv',n,_,h1,h2,_⟩
 exact ⟨rfl,F',⟨good_forget hg x,TrackIn.as ⟨b,_,pv',h1⟩ (eqv_forget salt L x)⟩,h2⟩
theorem tl_drop (F:Nat→Prop) (R:Loc) (salt:UInt64) (L:List TEnt) (w:World) (h:TL w F R salt L) (p:Int):Calls Tryz.prog 44 #[.pointer (some ⟨R.b,17,none⟩),.int .i64 p] w fun e w'=>e=.returned (.int .i64 (dropC L p).1)∧∃ F',TL w' F' R salt (dropC L p).2∧Turn F F' w w':=by
 obtain ⟨hg,b,ev,pv,h⟩:=h
 unfold dropC
 by_cases hc:goodP p
 ·rw [if_pos hc]
  obtain ⟨n,rfl,hn,hnn⟩:=peer_nat hc
  rw [hnn]
  refine (drop_any n hn w h (ofL_fine salt hg) (ofL_linked salt L) (ofL_small salt hg) (ids_nodup hg.nodup n)).mono ?_
  rintro e w' ⟨rfl,F',h1,h2⟩
  exact ⟨rfl,F',⟨good_drop hg n,h1.as (eqv_drop salt hg n)⟩,h2⟩
 ·rw [if_neg hc]
  refine (drop_arg (R:=R) p hc w).mono ?_
  rintro e w' ⟨rfl,hb⟩
  exact ⟨rfl,F,TL.kept ⟨hg,b,ev,pv,h⟩ hb,Turn.of_below hb⟩
theorem tl_counts (F:Nat→Prop) (R:Loc) (salt:UInt64) (L:List TEnt) (w:World) (h:TL w F R salt L) (p n:Int) (m:Int) (k:Int) (hk:(if goodP p then (((L.filter fun e=>e.peer == p.toNat).length:Int),((L.filter fun e=>e.peer == p.toNat && e.st == 2).length:Int),(0:Int)) else (0,0,1))=(n,m,k)) :
  Calls Tryz.prog 39 #[.pointer (some ⟨R.b,17,none⟩),.int .i64 p] w fun e w'=>e=.returned (.tuple #[.int .i64 n,.int .i64 m,.int .i64 k])∧Below w.heap.size w w':=by
 obtain ⟨hg,b,ev,pv,h⟩:=h
 by_cases hc:goodP p
 ·rw [if_pos hc] at hk
  obtain ⟨q,rfl,hn,hnn⟩:=peer_nat hc
  rw [hnn] at hk
  simp only [Prod.mk.injEq] at hk
  obtain ⟨rfl,rfl,rfl⟩:=hk
  refine (counts_any q hn w h (ofL_fine salt hg)).mono ?_
  rintro e w' ⟨rfl,hb⟩
  refine ⟨?_,hb⟩
  rw [show (ofL salt L).I q=idsOf L q from rfl,ids_length,counts_eq salt hg]
 ·rw [if_neg hc] at hk
  simp only [Prod.mk.injEq] at hk
  obtain ⟨rfl,rfl,rfl⟩:=hk
  refine (counts_arg (R:=R) p hc w).mono ?_
  rintro e w' ⟨rfl,rfl⟩
  exact ⟨rfl,Below.refl _ _⟩
theorem tl_next (F:Nat→Prop) (R:Loc) (salt:UInt64) (L:List TEnt) (w:World) (h:TL w F R salt L) (p:Nat) (hp:p < 8):Calls Tryz.prog 107 #[.pointer (some ⟨R.b,17,none⟩),.int .i64 p] w fun e w'=>GaveIds w ((idsOf L p).filter ((ofL salt L).isNext p)) e w'∧Below w.heap.size w w':=by
 obtain ⟨hg,b,ev,pv,h⟩:=h
 exact next_any p hp w h (ofL_fine salt hg) (ofL_full salt L)
end Go.Proofs.YtlboemhbealnmaaGreat.Tr
namespace Go.Proofs.YtlboemhbealnmaaGreat.Tr
open Go.RowKit
def IntsAt (w:World) (a:Option Addr) (l:List Int):Prop:=
 ∀ i (h:i < l.length),∃ b o,a=some ⟨b,o,none⟩∧b < w.heap.size∧w.cell? ⟨b,o+i,none⟩=some (.int .i64 l[i])
end Go.Proofs.YtlboemhbealnmaaGreat.Tr
namespace Go.Proofs.YtlboemhbealnmaaGreat.Tr
open Go.RowKit
end Go.Proofs.YtlboemhbealnmaaGreat.Tr
namespace Go.Proofs.YtlboemhbealnmaaGreat.Tr
open Go.ChangeShapes Go.WideShapes Go.ChangeAt Go.RowKit Go.Joins Go.Deep
end Go.Proofs.YtlboemhbealnmaaGreat.Tr
namespace Go.Proofs.YtlboemhbealnmaaGreat.Tr
open Go.RowKit
end Go.Proofs.YtlboemhbealnmaaGreat.Tr
namespace Go.Proofs.YtlboemhbealnmaaGreat.Tr
open Go.RowKit Go.Maps
variable {w w':World} {F:Nat→Prop} {R:Nat} {it:Option It} {s:TS} {b:Nat} {ev:UInt64→Option Value} {pv:Nat→Value}
end Go.Proofs.YtlboemhbealnmaaGreat.Tr
