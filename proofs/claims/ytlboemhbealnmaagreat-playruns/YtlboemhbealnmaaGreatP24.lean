import Derived.Test.YtlboemhbealnmaaGreatP11
import Derived.Test.YtlboemhbealnmaaGreatP16
import Derived.Test.YtlboemhbealnmaaGreatP23
import Derived.Test.YtlboemhbealnmaaGreatP17
set_option maxRecDepth 20000
namespace Go.Proofs.YtlboemhbealnmaaGreat
open Go.RowKit Go.Maps
structure NS where
 peers:Nat→Bool × Bool
 now:Int
 salt:UInt64
 T:List Tr.TEnt
 P:List Ho.LinkD
 A:List DeedD
 W:Ri.RingS
 Q:Ri.RingS
def NS.new (salt:UInt64):NS:=⟨fun _=>(false,false),0,salt,[],[],[],Ri.RingS.none 50,Ri.RingS.none 20⟩
structure NGood (s:NS):Prop where
 now:0≤s.now∧s.now≤1099511627776
 T:Tr.Good s.T
 P:Ho.GoodL 24 s.P
 A:Ju.GoodJ s.A
 W:s.W.Good
 Q:s.Q.Good
def NS.settle (s:NS) (x:UInt64):NS:={ s with T:=Tr.forgetL s.T x,P:=Ho.removeL s.P x }
def NS.accept (s:NS) (x:UInt64) (d:DeedD):NS:=({ s with A:=(Ju.acceptL s.A d).2 }:NS).settle x
def NS.payer (s:NS) (x:UInt64) (d:DeedD):Option UInt64:=(Ho.childL s.P x).find? fun c=>decide (Ju.pairL s.A d ((Ho.deedOf s.P c).getD nod)=(0,0))
def NS.seek (s:NS) (x:UInt64) (d:DeedD):NS × List UInt64:=match s.payer x d with
 | none=>(s,[])
 | some c=>let t:=(s.accept x d).accept c ((Ho.deedOf s.P c).getD nod);(t,Ho.childL t.P x ++ Ho.childL t.P c)
def NS.examine (s:NS) (x:UInt64) (d:DeedD):NS × List UInt64:=
 if (Ju.judgeL s.A d).1=0 then (s.accept x d,Ho.childL (s.accept x d).P x)
 else if (Ju.judgeL s.A d).1=1 then (({ s with Q:=s.Q.put x }:NS).settle x).seek x d
 else if (Ju.judgeL s.A d).1=3 then (({ s with W:=s.W.put x }:NS).settle x,[])
 else (s,[])
theorem remove_len {L:List Ho.LinkD} {x:UInt64} {d:DeedD} (h:Ho.deedOf L x=some d):(Ho.removeL L x).length < L.length:=by
 unfold Ho.deedOf at h
 unfold Ho.removeL
 cases hf:L.find? fun l=>l.id == x with
 | none=>rw [hf] at h;cases h
 | some l=>
  have hm:=List.mem_of_find?_eq_some hf
  have hx:=List.find?_some hf
  exact List.length_filter_lt_length_iff_exists.2 ⟨l,hm,by simpa using hx⟩
theorem remove_le (L:List Ho.LinkD) (x:UInt64):(Ho.removeL L x).length≤L.length:=List.length_filter_le _ _
theorem seek_le (s:NS) (x:UInt64) (d:DeedD):(s.seek x d).1.P.length≤s.P.length:=by
 unfold NS.seek
 split
 ·exact Nat.le_refl _
 ·rename_i c _
  show (Ho.removeL (Ho.removeL s.P x) c).length≤_
  exact Nat.le_trans (remove_le _ _) (remove_le _ _)
theorem examine_step (s:NS) (x:UInt64) (d d':DeedD) (h:Ho.deedOf s.P x=some d'):(s.examine x d).1.P.length < s.P.length∨s.examine x d=(s,[]):=by
 unfold NS.examine
 split
 ·exact .inl (remove_len h)
 ·split
  ·refine .inl (Nat.lt_of_le_of_lt (seek_le _ x d) ?_)
   exact remove_len h
  ·split
   ·exact .inl (remove_len h)
   ·exact .inr rfl
def NS.follow (s:NS) (q:List UInt64):NS:=match q with
 | []=>s
 | x :: r=>match _h:Ho.deedOf s.P x with
  | none=>s.follow r
  | some d=>(s.examine x d).1.follow (r ++ (s.examine x d).2)
termination_by (s.P.length,q.length)
decreasing_by
 ·exact Prod.Lex.right _ (by simp)
 ·rcases examine_step s x d d _h with h1 | h1
  ·exact Prod.Lex.left _ _ h1
  ·rw [h1]
   exact Prod.Lex.right _ (by simp)
theorem follow_nil (s:NS):s.follow []=s:=by rw [NS.follow]
theorem follow_none (s:NS) (x:UInt64) (r:List UInt64) (h:Ho.deedOf s.P x=none):s.follow (x :: r)=s.follow r:=by
 rw [NS.follow]
 split
 ·rfl
 ·rename_i d h';rw [h] at h';cases h'
theorem follow_some (s:NS) (x:UInt64) (r:List UInt64) (d:DeedD) (h:Ho.deedOf s.P x=some d):s.follow (x :: r)=(s.examine x d).1.follow (r ++ (s.examine x d).2):=by
 rw [NS.follow]
 split
 ·rename_i h';rw [h] at h';cases h'
 ·rename_i d' h'
  rw [h] at h'
  cases h'
  rfl
def NS.want (s:NS) (p:Nat) (x:UInt64):NS:=if (Ho.deedOf s.P x).isSome || s.W.has x then s else { s with T:=(Tr.annC s.T p x s.now (s.peers p).2).2 }
def NS.adopt (s:NS) (p:Nat) (x:UInt64) (d:DeedD) (ms:List UInt64):NS:=
 let t:NS:={ s with T:=Tr.forgetL s.T x,P:=(Ho.addC s.P p x d).2 }
 if (Ho.deedOf t.P x).isSome then ms.foldl (fun s m=>s.want p m) t else t
def NS.bring (s:NS) (p:Nat) (d:DeedD):NS:=
 let t:NS:={ s with T:=(Tr.answerC s.T p (Ju.idD d)).2 }
 if (Ju.findL t.A (Ju.idD d)).isSome || t.W.has (Ju.idD d) then t
 else
  let r:=t.examine (Ju.idD d) d
  (if (Ju.judgeL t.A d).2.1≠[] then r.1.adopt p (Ju.idD d) d (Ju.judgeL t.A d).2.1 else r.1).follow r.2
def NS.later (s:NS) (k:Int):Int:=min (s.now+k) 1099511627776
def NS.knows (s:NS) (x:UInt64):Bool:=(Ju.findL s.A x).isSome || (Ho.deedOf s.P x).isSome || s.W.has x || s.Q.has x
def NS.announce1 (s:NS) (p:Nat) (x:UInt64):NS:=if s.knows x then s else { s with T:=(Tr.annC s.T p x (if (s.peers p).2 then s.now else s.later 3) (s.peers p).2).2 }
def NS.announce (s:NS) (p:Nat) (l:List UInt64):NS:=l.foldl (fun s x=>s.announce1 p x) s
def NS.missing (s:NS) (p:Nat) (l:List UInt64):NS:=l.foldl (fun s x=>{ s with T:=(Tr.answerC s.T p x).2 }) s
def NS.asks (s:NS) (p:Nat):List UInt64:=(((Tr.idsOf s.T p).filter ((Tr.ofL s.salt s.T).isNext p))).take (4 - (s.T.filter fun e=>e.peer == p && e.st == 2).length)
def NS.request (s:NS) (p:Nat):NS:=(s.asks p).foldl (fun s x=>{ s with T:=(Tr.askC s.T p x (s.later 10)).2 }) s
structure OutD where
 peer:Nat
 bytes:ByteArray
def message (p:Nat) (m:Ms.MsgD):List OutD:=if Ms.checkM m=0 then [⟨p,str (Ms.encM m)⟩] else []
def NS.wait (s:NS):Nat→NS × List OutD
 | 0=>(s,[])
 | k+1=>let r:=s.wait k;(r.1.request k,r.2 ++ message k ⟨2,r.1.asks k,⟨#[]⟩⟩)
def NS.fetch (s:NS) (p:Nat) (l:List UInt64):List OutD:=
 (l.flatMap fun x=>match Ju.findL s.A x with | none=>[] | some d=>message p ⟨3,[],str (encB d)⟩) ++ message p ⟨4,l.filter (fun x=>(Ju.findL s.A x).isNone),⟨#[]⟩⟩
end Go.Proofs.YtlboemhbealnmaaGreat
namespace Go.Proofs.YtlboemhbealnmaaGreat
open Go.RowKit Go.Maps
def ocOf (cs:Array Value):Nat→Value:=fun i=>cs.getD i (.bool false)
theorem ocOf_at {cs:Array Value} {i:Nat} {v:Value} (h:cs[i]?=some v):ocOf cs i=v:=by
 unfold ocOf
 rw [Array.getD_eq_getD_getElem?,h]
 rfl
theorem ocOf_some {cs:Array Value} (hs:cs.size=34) {i:Nat} (h:i < 34):some (ocOf cs i)=cs[i]?:=by
 have:i < cs.size:=by omega
 rw [Array.getElem?_eq_getElem this]
 exact congrArg some (ocOf_at (Array.getElem?_eq_getElem this))
theorem none34 {cs:Array Value} (hs:cs.size=34) {i:Nat} (h:34≤i):cs[i]?=none:=Array.getElem?_eq_none (by omega)
theorem trackC_other (oc:Nat→Value) (salt:UInt64) (b:Nat) (pv:Nat→Value) (i:Nat) (h:i < 17∨27≤i∧i < 34):(Tr.trackC oc salt b pv)[i]?=some (oc i):=by
 match i,h with
 | 0,_=>rfl
 | 1,_=>rfl
 | 2,_=>rfl
 | 3,_=>rfl
 | 4,_=>rfl
 | 5,_=>rfl
 | 6,_=>rfl
 | 7,_=>rfl
 | 8,_=>rfl
 | 9,_=>rfl
 | 10,_=>rfl
 | 11,_=>rfl
 | 12,_=>rfl
 | 13,_=>rfl
 | 14,_=>rfl
 | 15,_=>rfl
 | 16,_=>rfl
 | 17,h=>exact absurd h (by omega)
 | 18,h=>exact absurd h (by omega)
 | 19,h=>exact absurd h (by omega)
 | 20,h=>exact absurd h (by omega)
 | 21,h=>exact absurd h (by omega)
 | 22,h=>exact absurd h (by omega)
 | 23,h=>exact absurd h (by omega)
 | 24,h=>exact absurd h (by omega)
 | 25,h=>exact absurd h (by omega)
 | 26,h=>exact absurd h (by omega)
 | 27,_=>rfl
 | 28,_=>rfl
 | 29,_=>rfl
 | 30,_=>rfl
 | 31,_=>rfl
 | 32,_=>rfl
 | 33,_=>rfl
 | n+34,h=>exact absurd h (by omega)
theorem homeC_other (oc:Nat→Value) (m v:Value) (i:Nat) (h:i < 27∨29≤i∧i < 34):(Ho.homeC oc m v)[i]?=some (oc i):=by
 match i,h with
 | 0,_=>rfl
 | 1,_=>rfl
 | 2,_=>rfl
 | 3,_=>rfl
 | 4,_=>rfl
 | 5,_=>rfl
 | 6,_=>rfl
 | 7,_=>rfl
 | 8,_=>rfl
 | 9,_=>rfl
 | 10,_=>rfl
 | 11,_=>rfl
 | 12,_=>rfl
 | 13,_=>rfl
 | 14,_=>rfl
 | 15,_=>rfl
 | 16,_=>rfl
 | 17,_=>rfl
 | 18,_=>rfl
 | 19,_=>rfl
 | 20,_=>rfl
 | 21,_=>rfl
 | 22,_=>rfl
 | 23,_=>rfl
 | 24,_=>rfl
 | 25,_=>rfl
 | 26,_=>rfl
 | 27,h=>exact absurd h (by omega)
 | 28,h=>exact absurd h (by omega)
 | 29,_=>rfl
 | 30,_=>rfl
 | 31,_=>rfl
 | 32,_=>rfl
 | 33,_=>rfl
 | n+34,h=>exact absurd h (by omega)
theorem ledC_other (oc:Nat→Value) (m v s:Value) (i:Nat) (h:i < 29∨32≤i∧i < 34):(Ju.ledC oc m v s)[i]?=some (oc i):=by
 match i,h with
 | 0,_=>rfl
 | 1,_=>rfl
 | 2,_=>rfl
 | 3,_=>rfl
 | 4,_=>rfl
 | 5,_=>rfl
 | 6,_=>rfl
 | 7,_=>rfl
 | 8,_=>rfl
 | 9,_=>rfl
 | 10,_=>rfl
 | 11,_=>rfl
 | 12,_=>rfl
 | 13,_=>rfl
 | 14,_=>rfl
 | 15,_=>rfl
 | 16,_=>rfl
 | 17,_=>rfl
 | 18,_=>rfl
 | 19,_=>rfl
 | 20,_=>rfl
 | 21,_=>rfl
 | 22,_=>rfl
 | 23,_=>rfl
 | 24,_=>rfl
 | 25,_=>rfl
 | 26,_=>rfl
 | 27,_=>rfl
 | 28,_=>rfl
 | 29,h=>exact absurd h (by omega)
 | 30,h=>exact absurd h (by omega)
 | 31,h=>exact absurd h (by omega)
 | 32,_=>rfl
 | 33,_=>rfl
 | n+34,h=>exact absurd h (by omega)
theorem trackC_self {cs:Array Value} (hs:cs.size=34) {salt:UInt64} {b:Nat} {pv:Nat→Value} (h:∀ i,17≤i→i < 27→cs[i]?=(Tr.trackC (ocOf cs) salt b pv)[i]?):Tr.trackC (ocOf cs) salt b pv=cs:=by
 refine Array.ext_getElem? fun i=>?_
 by_cases h1:34≤i
 ·rw [none34 hs h1,none34 rfl h1]
 ·by_cases h2:17≤i∧i < 27
  ·exact (h i h2.1 h2.2).symm
  ·rw [trackC_other _ _ _ _ i (by omega)]
   exact ocOf_some hs (by omega)
theorem homeC_self {cs:Array Value} (hs:cs.size=34) {m v:Value} (h0:cs[27]?=some m) (h1:cs[28]?=some v):Ho.homeC (ocOf cs) m v=cs:=by
 refine Array.ext_getElem? fun i=>?_
 by_cases h3:34≤i
 ·rw [none34 hs h3,none34 rfl h3]
 ·by_cases h2:i < 27∨29≤i∧i < 34
  ·rw [homeC_other _ _ _ i h2]
   exact ocOf_some hs (by omega)
  ·obtain rfl | rfl:i=27∨i=28:=by omega
   ·exact h0.symm
   ·exact h1.symm
theorem ledC_self {cs:Array Value} (hs:cs.size=34) {m v s:Value} (h0:cs[29]?=some m) (h1:cs[30]?=some v) (h2:cs[31]?=some s):Ju.ledC (ocOf cs) m v s=cs:=by
 refine Array.ext_getElem? fun i=>?_
 by_cases h3:34≤i
 ·rw [none34 hs h3,none34 rfl h3]
 ·by_cases h4:i < 29∨32≤i∧i < 34
  ·rw [ledC_other _ _ _ _ i h4]
   exact ocOf_some hs (by omega)
  ·obtain rfl | rfl | rfl:i=29∨i=30∨i=31:=by omega
   ·exact h0.symm
   ·exact h1.symm
   ·exact h2.symm
variable {w w':World} {F F':Nat→Prop} {R:Nat} {s:NS}
abbrev Cells (w:World) (R:Nat) (cs:Array Value):Prop:=w.heap[R]?=some (.cells cs 88 (0,0))
def But (F:Nat→Prop) (R:Nat) (w w':World):Prop:=w.heap.size≤w'.heap.size∧∀ k,k < w.heap.size→F k→k≠R→w'.heap[k]?=w.heap[k]?
theorem TL_head {oc:Nat→Value} {salt:UInt64} {L:List Tr.TEnt} (h:Tr.TL w F ⟨R,oc⟩ salt L):∃ b pv,Cells w R (Tr.trackC oc salt b pv):=by
 obtain ⟨_,b,ev,pv,h⟩:=h
 exact ⟨b,pv,h.head⟩
theorem HL_head {oc:Nat→Value} {L:List Ho.LinkD} (h:Ho.HL w F ⟨R,oc⟩ L):∃ m v,Cells w R (Ho.homeC oc m v):=by
 obtain ⟨_,b,ev,v,h⟩:=h
 exact ⟨_,v,h.head⟩
theorem LedL_head {oc:Nat→Value} {L:List DeedD} (h:Ju.LedL w F ⟨R,oc⟩ L):∃ m v s,Cells w R (Ju.ledC oc m v s):=by
 obtain ⟨b,s,n,ev,v,_,h⟩:=h
 exact ⟨_,v,_,h.head⟩
theorem cells_eq {cs cs':Array Value} (h:Cells w R cs) (h':Cells w R cs'):cs=cs':=by
 unfold Cells at h h'
 rw [h] at h'
 simpa using h'
theorem TL_again {oc:Nat→Value} {salt:UInt64} {L:List Tr.TEnt} {cs cs':Array Value} (h:Tr.TL w F ⟨R,oc⟩ salt L) (hc:Cells w R cs) (hc':Cells w' R cs') (hs:cs'.size=34) (hi:∀ i,17≤i→i < 27→cs'[i]?=cs[i]?) (hb:But F R w w'):Tr.TL w' F ⟨R,ocOf cs'⟩ salt L:=by
 obtain ⟨hg,b,ev,pv,h⟩:=h
 have e:=cells_eq hc h.head
 have e':Tr.trackC (ocOf cs') salt b pv=cs':=trackC_self hs fun i h1 h2=>by
  rw [hi i h1 h2,e]
  match i,h1,h2 with
  | 17,_,_=>rfl
  | 18,_,_=>rfl
  | 19,_,_=>rfl
  | 20,_,_=>rfl
  | 21,_,_=>rfl
  | 22,_,_=>rfl
  | 23,_,_=>rfl
  | 24,_,_=>rfl
  | 25,_,_=>rfl
  | 26,_,_=>rfl
  | n+27,_,h=>exact absurd h (by omega)
 have e2:=hb.2
 refine ⟨hg,b,ev,pv,?_⟩
 exact {
  head:=by show w'.heap[R]?=some (.cells (Tr.trackC (ocOf cs') salt b pv) _ _);rw [e'];exact hc'
  map:=Tr.tmap_same h.map (e2 b (h.there b h.fb) h.fb (fun e=>h.R_ne e.symm)) (fun i hi=>by cases hi)
  ents:=fun x=>(h.ents x).imp id fun ⟨v,l,h1,h2,h3⟩=>⟨v,l,h1,h2,Tr.own_same h3 fun g hg=>e2 g (h.there g (h.fe x v g h1 hg)) (h.fe x v g h1 hg) (h.e_ne h1 hg).1⟩
  ids:=fun p hp=>Tr.own_same (h.ids p hp) fun g hg=>e2 g (h.there g (h.fp p g hp hg)) (h.fp p g hp hg) (h.p_ne hp hg).1
  eapart:=h.eapart
  papart:=h.papart
  fR:=h.fR
  fb:=h.fb
  fe:=h.fe
  fp:=h.fp
  there:=h.there.later hb.1
  out:=fun i hi=>by cases hi }
theorem HL_again {oc:Nat→Value} {L:List Ho.LinkD} {cs cs':Array Value} (h:Ho.HL w F ⟨R,oc⟩ L) (hc:Cells w R cs) (hc':Cells w' R cs') (hs:cs'.size=34) (hi:∀ i,27≤i→i < 29→cs'[i]?=cs[i]?) (hb:But F R w w'):Ho.HL w' F ⟨R,ocOf cs'⟩ L:=by
 obtain ⟨hg,b,ev,v,h⟩:=h
 have e:=cells_eq hc h.head
 have e':Ho.homeC (ocOf cs') (.map (some b)) v=cs':=homeC_self hs (by rw [hi 27 (by omega) (by omega),e];rfl) (by rw [hi 28 (by omega) (by omega),e];rfl)
 have e2:=hb.2
 refine ⟨hg,b,ev,v,?_⟩
 exact {
  head:=by show w'.heap[R]?=some (.cells (Ho.homeC (ocOf cs') (.map (some b)) v) _ _);rw [e'];exact hc'
  map:=tmap_same h.map (e2 b (h.there b h.fb) h.fb (fun e=>h.R_ne e.symm)) (fun i hi=>by cases hi)
  deeds:=fun x=>(h.deeds x).imp id fun ⟨a,c,d,h1,h2,h3,h4⟩=>⟨a,c,d,h1,h2,own_same h3 fun g hg=>e2 g (h.there g (h4 g hg)) (h4 g hg) (h.i_ne h3 hg).1,h4⟩
  fine:=h.fine
  links:=own_same h.links fun g hg=>e2 g (h.there g (h.fv g hg)) (h.fv g hg) (h.b_ne hg).1
  fR:=h.fR
  fb:=h.fb
  fv:=h.fv
  there:=h.there.later hb.1
  out:=fun i hi=>by cases hi }
theorem LedL_again {oc:Nat→Value} {L:List DeedD} {cs cs':Array Value} (h:Ju.LedL w F ⟨R,oc⟩ L) (hc:Cells w R cs) (hc':Cells w' R cs') (hs:cs'.size=34) (hi:∀ i,29≤i→i < 32→cs'[i]?=cs[i]?) (hb:But F R w w'):Ju.LedL w' F ⟨R,ocOf cs'⟩ L:=by
 obtain ⟨b,s,n,ev,v,hn,h⟩:=h
 have e:=cells_eq hc h.head
 have e':Ju.ledC (ocOf cs') (.map (some b)) v (.map (some s))=cs':=ledC_self hs (by rw [hi 29 (by omega) (by omega),e];rfl) (by rw [hi 30 (by omega) (by omega),e];rfl) (by rw [hi 31 (by omega) (by omega),e];rfl)
 have e2:=hb.2
 refine ⟨b,s,n,ev,v,hn,?_⟩
 exact {
  head:=by show w'.heap[R]?=some (.cells (Ju.ledC (ocOf cs') (.map (some b)) v (.map (some s))) _ _);rw [e'];exact hc'
  map:=tmap_same h.map (e2 b (h.there b h.fb) h.fb (fun e=>h.R_ne.1 e.symm)) (fun i hi=>by cases hi)
  deeds:=fun x=>(h.deeds x).imp id fun ⟨a,c,d,h1,h2,h3,h4⟩=>⟨a,c,d,h1,h2,own_same h3 fun g hg=>e2 g (h.there g (h4 g hg)) (h4 g hg) (h.i_ne h3 hg).1,h4⟩
  fine:=h.fine
  order:=own_same h.order fun g hg=>e2 g (h.there g (h.fv g hg)) (h.fv g hg) (h.v_ne hg).1
  spent:=Ju.seen_same h.spent (e2 s (h.there s h.fs) h.fs (fun e=>h.R_ne.2 e.symm))
  ne:=h.ne
  fR:=h.fR
  fb:=h.fb
  fs:=h.fs
  fv:=h.fv
  there:=h.there.later hb.1 }
structure NodeIs (w:World) (F:Nat→Prop) (R:Nat) (s:NS) (cs:Array Value) (FT FH FJ FW FQ:Nat→Prop) (a z:Nat):Prop where
 head:Cells w R cs
 size:cs.size=34
 peers:∀ p,p < 8→cs[2 * p]?=some (.bool (s.peers p).1)∧cs[2 * p+1]?=some (.bool (s.peers p).2)
 now:cs[16]?=some (.int .i64 s.now)
 T:Tr.TL w FT ⟨R,ocOf cs⟩ s.salt s.T
 P:Ho.HL w FH ⟨R,ocOf cs⟩ s.P
 A:Ju.LedL w FJ ⟨R,ocOf cs⟩ s.A
 cW:cs[32]?=some (.pointer (some ⟨a,0,none⟩))
 cQ:cs[33]?=some (.pointer (some ⟨z,0,none⟩))
 W:Ri.RingAt w FW a s.W
 Q:Ri.RingAt w FQ z s.Q
 good:NGood s
 th:∀ k,FT k→FH k→k=R
 tj:∀ k,FT k→FJ k→k=R
 hj:∀ k,FH k→FJ k→k=R
 tw:Apart FT FW
 hw:Apart FH FW
 jw:Apart FJ FW
 tq:Apart FT FQ
 hq:Apart FH FQ
 jq:Apart FJ FQ
 wq:Apart FW FQ
 all:∀ k,F k ↔ FT k∨FH k∨FJ k∨FW k∨FQ k
def NodeAt (w:World) (F:Nat→Prop) (R:Nat) (s:NS):Prop:=∃ cs FT FH FJ FW FQ a z,NodeIs w F R s cs FT FH FJ FW FQ a z
theorem NodeAt.good (h:NodeAt w F R s):NGood s:=by
 obtain ⟨_,_,_,_,_,_,_,_,h⟩:=h
 exact h.good
theorem NodeAt.there (h:NodeAt w F R s):There w F:=by
 obtain ⟨_,_,_,_,_,_,_,_,h⟩:=h
 intro k hk
 rcases (h.all k).1 hk with hk | hk | hk | hk | hk
 ·exact h.T.there k hk
 ·exact h.P.there k hk
 ·exact h.A.there k hk
 ·exact Ri.ringAt_there h.W k hk
 ·exact Ri.ringAt_there h.Q k hk
theorem NodeAt.block (h:NodeAt w F R s):F R:=by
 obtain ⟨_,_,_,_,_,_,_,_,h⟩:=h
 exact (h.all R).2 (.inl h.T.block)
theorem NodeAt.same (h:NodeAt w F R s) (e:∀ k,k < w.heap.size→F k→w'.heap[k]?=w.heap[k]?) (hs:w.heap.size≤w'.heap.size):NodeAt w' F R s:=by
 have hl:=h.there
 have hR:=h.block
 obtain ⟨cs,FT,FH,FJ,FW,FQ,a,z,h⟩:=h
 have hc:Cells w' R cs:=(e R (hl R hR) hR).trans h.head
 refine ⟨cs,FT,FH,FJ,FW,FQ,a,z,?_⟩
 exact { h with
  head:=hc
  T:=TL_again h.T h.head hc h.size (fun _ _ _=>rfl) ⟨hs,fun k hk hf _=>e k hk ((h.all k).2 (.inl hf))⟩
  P:=HL_again h.P h.head hc h.size (fun _ _ _=>rfl) ⟨hs,fun k hk hf _=>e k hk ((h.all k).2 (.inr (.inl hf)))⟩
  A:=LedL_again h.A h.head hc h.size (fun _ _ _=>rfl) ⟨hs,fun k hk hf _=>e k hk ((h.all k).2 (.inr (.inr (.inl hf))))⟩
  W:=Ri.ringAt_same h.W (fun k hk hf=>e k hk ((h.all k).2 (.inr (.inr (.inr (.inl hf)))))) hs
  Q:=Ri.ringAt_same h.Q (fun k hk hf=>e k hk ((h.all k).2 (.inr (.inr (.inr (.inr hf)))))) hs }
theorem NodeAt.kept (h:NodeAt w F R s) (hb:Below w.heap.size w w'):NodeAt w' F R s:=h.same (fun k hk _=>hb.block k hk) hb.size
theorem NodeAt.turn (h:NodeAt w F R s) {G G':Nat→Prop} (ht:Turn G G' w w') (ha:Apart F G):NodeAt w' F R s:=h.same (fun k hk hf=>ht.block k hk (ha k hf)) ht.size
theorem NodeIs.turnT {cs:Array Value} {FT FH FJ FW FQ FT':Nat→Prop} {a z:Nat} (h:NodeIs w F R s cs FT FH FJ FW FQ a z) {T':List Tr.TEnt} (hT:Tr.TL w' FT' ⟨R,ocOf cs⟩ s.salt T') (ht:Turn FT FT' w w'):∃ F',NodeAt w' F' R { s with T:=T' }∧Turn F F' w w':=by
 obtain ⟨b,pv,hc⟩:=TL_head hT
 have hT2:=hT
 have ho:∀ i,i < 17∨27≤i∧i < 34→(Tr.trackC (ocOf cs) s.salt b pv)[i]?=cs[i]?:=fun i hi=>by
  rw [trackC_other _ _ _ _ i hi]
  have:i < cs.size:=by rw [h.size];omega
  rw [Array.getElem?_eq_getElem this]
  exact congrArg some (ocOf_at (Array.getElem?_eq_getElem this))
 have hn:∀ k,FT' k→FT k∨w.heap.size≤k:=ht.own
 have hR:FT R:=h.T.block
 have out:∀ {G:Nat→Prop},There w G→(∀ k,FT k→¬ G k)→Apart FT' G:=fun hG ha k hk hg=>(hn k hk).elim (fun hf=>ha k hf hg) (fun hle=>by have:=hG k hg;omega)
 have outR:∀ {G:Nat→Prop},There w G→(∀ k,FT k→G k→k=R)→∀ k,FT' k→G k→k=R:=fun hG ha k hk hg=>(hn k hk).elim (fun hf=>ha k hf hg) (fun hle=>by have:=hG k hg;omega)
 have hsz:(Tr.trackC (ocOf cs) s.salt b pv).size=34:=rfl
 refine ⟨fun k=>FT' k∨FH k∨FJ k∨FW k∨FQ k,⟨Tr.trackC (ocOf cs) s.salt b pv,FT',FH,FJ,FW,FQ,a,z,?_⟩,?_⟩
 ·exact {
   head:=hc
   size:=hsz
   peers:=fun p hp=>⟨(ho _ (by omega)).trans (h.peers p hp).1,(ho _ (by omega)).trans (h.peers p hp).2⟩
   now:=(ho _ (by omega)).trans h.now
   T:=TL_again hT hc hc hsz (fun _ _ _=>rfl) ⟨Nat.le_refl _,fun _ _ _ _=>rfl⟩
   P:=HL_again h.P h.head hc hsz (fun i h1 h2=>ho i (by omega)) ⟨ht.size,fun k hk hf hk2=>ht.block k hk (fun hT=>hk2 (h.th k hT hf))⟩
   A:=LedL_again h.A h.head hc hsz (fun i h1 h2=>ho i (by omega)) ⟨ht.size,fun k hk hf hk2=>ht.block k hk (fun hT=>hk2 (h.tj k hT hf))⟩
   cW:=(ho _ (by omega)).trans h.cW
   cQ:=(ho _ (by omega)).trans h.cQ
   W:=Ri.ringAt_turn h.W ht h.tw.symm
   Q:=Ri.ringAt_turn h.Q ht h.tq.symm
   good:={ h.good with T:=hT2.1 }
   th:=outR h.P.there h.th
   tj:=outR h.A.there h.tj
   hj:=h.hj
   tw:=out (Ri.ringAt_there h.W) h.tw
   hw:=h.hw
   jw:=h.jw
   tq:=out (Ri.ringAt_there h.Q) h.tq
   hq:=h.hq
   jq:=h.jq
   wq:=h.wq
   all:=fun k=>Iff.rfl }
 ·refine ⟨ht.os,ht.tape,ht.output,ht.size,fun k hk hf=>ht.block k hk (fun hT=>hf ((h.all k).2 (.inl hT))),fun k hk=>?_⟩
  rcases hk with hk | hk
  ·exact (hn k hk).imp (fun hT=>(h.all k).2 (.inl hT)) id
  ·exact .inl ((h.all k).2 (.inr hk))
theorem NodeIs.turnP {cs:Array Value} {FT FH FJ FW FQ FH':Nat→Prop} {a z:Nat} (h:NodeIs w F R s cs FT FH FJ FW FQ a z) {P':List Ho.LinkD} (hP:Ho.HL w' FH' ⟨R,ocOf cs⟩ P') (ht:Turn FH FH' w w'):∃ F',NodeAt w' F' R { s with P:=P' }∧Turn F F' w w':=by
 obtain ⟨m,v,hc⟩:=HL_head hP
 have hP2:=hP
 have ho:∀ i,i < 27∨29≤i∧i < 34→(Ho.homeC (ocOf cs) m v)[i]?=cs[i]?:=fun i hi=>by
  rw [homeC_other _ _ _ i hi]
  have:i < cs.size:=by rw [h.size];omega
  rw [Array.getElem?_eq_getElem this]
  exact congrArg some (ocOf_at (Array.getElem?_eq_getElem this))
 have hn:∀ k,FH' k→FH k∨w.heap.size≤k:=ht.own
 have out:∀ {G:Nat→Prop},There w G→(∀ k,FH k→¬ G k)→Apart FH' G:=fun hG ha k hk hg=>(hn k hk).elim (fun hf=>ha k hf hg) (fun hle=>by have:=hG k hg;omega)
 have outR:∀ {G:Nat→Prop},There w G→(∀ k,FH k→G k→k=R)→∀ k,FH' k→G k→k=R:=fun hG ha k hk hg=>(hn k hk).elim (fun hf=>ha k hf hg) (fun hle=>by have:=hG k hg;omega)
 have hsz:(Ho.homeC (ocOf cs) m v).size=34:=rfl
 refine ⟨fun k=>FT k∨FH' k∨FJ k∨FW k∨FQ k,⟨Ho.homeC (ocOf cs) m v,FT,FH',FJ,FW,FQ,a,z,?_⟩,?_⟩
 ·exact {
   head:=hc
   size:=hsz
   peers:=fun p hp=>⟨(ho _ (by omega)).trans (h.peers p hp).1,(ho _ (by omega)).trans (h.peers p hp).2⟩
   now:=(ho _ (by omega)).trans h.now
   T:=TL_again h.T h.head hc hsz (fun i h1 h2=>ho i (by omega)) ⟨ht.size,fun k hk hf hk2=>ht.block k hk (fun hT=>hk2 (h.th k hf hT))⟩
   P:=HL_again hP hc hc hsz (fun _ _ _=>rfl) ⟨Nat.le_refl _,fun _ _ _ _=>rfl⟩
   A:=LedL_again h.A h.head hc hsz (fun i h1 h2=>ho i (by omega)) ⟨ht.size,fun k hk hf hk2=>ht.block k hk (fun hT=>hk2 (h.hj k hT hf))⟩
   cW:=(ho _ (by omega)).trans h.cW
   cQ:=(ho _ (by omega)).trans h.cQ
   W:=Ri.ringAt_turn h.W ht h.hw.symm
   Q:=Ri.ringAt_turn h.Q ht h.hq.symm
   good:={ h.good with P:=hP2.1 }
   th:=fun k h1 h2=>outR h.T.there (fun k a b=>h.th k b a) k h2 h1
   tj:=h.tj
   hj:=outR h.A.there h.hj
   tw:=h.tw
   hw:=out (Ri.ringAt_there h.W) h.hw
   jw:=h.jw
   tq:=h.tq
   hq:=out (Ri.ringAt_there h.Q) h.hq
   jq:=h.jq
   wq:=h.wq
   all:=fun k=>Iff.rfl }
 ·refine ⟨ht.os,ht.tape,ht.output,ht.size,fun k hk hf=>ht.block k hk (fun hT=>hf ((h.all k).2 (.inr (.inl hT)))),fun k hk=>?_⟩
  rcases hk with hk | hk | hk
  ·exact .inl ((h.all k).2 (.inl hk))
  ·exact (hn k hk).imp (fun hT=>(h.all k).2 (.inr (.inl hT))) id
  ·exact .inl ((h.all k).2 (.inr (.inr hk)))
theorem NodeIs.turnA {cs:Array Value} {FT FH FJ FW FQ FJ':Nat→Prop} {a z:Nat} (h:NodeIs w F R s cs FT FH FJ FW FQ a z) {A':List DeedD} (hA:Ju.LedL w' FJ' ⟨R,ocOf cs⟩ A') (hg:Ju.GoodJ A') (ht:Turn FJ FJ' w w'):∃ F',NodeAt w' F' R { s with A:=A' }∧Turn F F' w w':=by
 obtain ⟨m,v,u,hc⟩:=LedL_head hA
 have ho:∀ i,i < 29∨32≤i∧i < 34→(Ju.ledC (ocOf cs) m v u)[i]?=cs[i]?:=fun i hi=>by
  rw [ledC_other _ _ _ _ i hi]
  have:i < cs.size:=by rw [h.size];omega
  rw [Array.getElem?_eq_getElem this]
  exact congrArg some (ocOf_at (Array.getElem?_eq_getElem this))
 have hn:∀ k,FJ' k→FJ k∨w.heap.size≤k:=ht.own
 have out:∀ {G:Nat→Prop},There w G→(∀ k,FJ k→¬ G k)→Apart FJ' G:=fun hG ha k hk hg=>(hn k hk).elim (fun hf=>ha k hf hg) (fun hle=>by have:=hG k hg;omega)
 have outR:∀ {G:Nat→Prop},There w G→(∀ k,FJ k→G k→k=R)→∀ k,FJ' k→G k→k=R:=fun hG ha k hk hg=>(hn k hk).elim (fun hf=>ha k hf hg) (fun hle=>by have:=hG k hg;omega)
 have hsz:(Ju.ledC (ocOf cs) m v u).size=34:=rfl
 refine ⟨fun k=>FT k∨FH k∨FJ' k∨FW k∨FQ k,⟨Ju.ledC (ocOf cs) m v u,FT,FH,FJ',FW,FQ,a,z,?_⟩,?_⟩
 ·exact {
   head:=hc
   size:=hsz
   peers:=fun p hp=>⟨(ho _ (by omega)).trans (h.peers p hp).1,(ho _ (by omega)).trans (h.peers p hp).2⟩
   now:=(ho _ (by omega)).trans h.now
   T:=TL_again h.T h.head hc hsz (fun i h1 h2=>ho i (by omega)) ⟨ht.size,fun k hk hf hk2=>ht.block k hk (fun hT=>hk2 (h.tj k hf hT))⟩
   P:=HL_again h.P h.head hc hsz (fun i h1 h2=>ho i (by omega)) ⟨ht.size,fun k hk hf hk2=>ht.block k hk (fun hT=>hk2 (h.hj k hf hT))⟩
   A:=LedL_again hA hc hc hsz (fun _ _ _=>rfl) ⟨Nat.le_refl _,fun _ _ _ _=>rfl⟩
   cW:=(ho _ (by omega)).trans h.cW
   cQ:=(ho _ (by omega)).trans h.cQ
   W:=Ri.ringAt_turn h.W ht h.jw.symm
   Q:=Ri.ringAt_turn h.Q ht h.jq.symm
   good:={ h.good with A:=hg }
   th:=h.th
   tj:=fun k h1 h2=>outR h.T.there (fun k a b=>h.tj k b a) k h2 h1
   hj:=fun k h1 h2=>outR h.P.there (fun k a b=>h.hj k b a) k h2 h1
   tw:=h.tw
   hw:=h.hw
   jw:=out (Ri.ringAt_there h.W) h.jw
   tq:=h.tq
   hq:=h.hq
   jq:=out (Ri.ringAt_there h.Q) h.jq
   wq:=h.wq
   all:=fun k=>Iff.rfl }
 ·refine ⟨ht.os,ht.tape,ht.output,ht.size,fun k hk hf=>ht.block k hk (fun hT=>hf ((h.all k).2 (.inr (.inr (.inl hT))))),fun k hk=>?_⟩
  rcases hk with hk | hk | hk | hk
  ·exact .inl ((h.all k).2 (.inl hk))
  ·exact .inl ((h.all k).2 (.inr (.inl hk)))
  ·exact (hn k hk).imp (fun hT=>(h.all k).2 (.inr (.inr (.inl hT)))) id
  ·exact .inl ((h.all k).2 (.inr (.inr (.inr hk))))
theorem NodeIs.turnW {cs:Array Value} {FT FH FJ FW FQ FW':Nat→Prop} {a z:Nat} (h:NodeIs w F R s cs FT FH FJ FW FQ a z) {W':Ri.RingS} (hW:Ri.RingAt w' FW' a W') (hg:W'.Good) (ht:Turn FW FW' w w'):∃ F',NodeAt w' F' R { s with W:=W' }∧Turn F F' w w':=by
 have hn:∀ k,FW' k→FW k∨w.heap.size≤k:=ht.own
 have out:∀ {G:Nat→Prop},There w G→(∀ k,G k→¬ FW k)→Apart G FW':=fun hG ha k hg hk=>(hn k hk).elim (fun hf=>ha k hg hf) (fun hle=>by have:=hG k hg;omega)
 have hb:∀ {G:Nat→Prop},(∀ k,G k→¬ FW k)→But G R w w':=fun ha=>⟨ht.size,fun k hk hf _=>ht.block k hk (ha k hf)⟩
 have hc:Cells w' R cs:=(ht.block R (h.T.there R h.T.block) (h.tw R h.T.block)).trans h.head
 refine ⟨fun k=>FT k∨FH k∨FJ k∨FW' k∨FQ k,⟨cs,FT,FH,FJ,FW',FQ,a,z,?_⟩,?_⟩
 ·exact { h with
   head:=hc
   T:=TL_again h.T h.head hc h.size (fun _ _ _=>rfl) (hb h.tw)
   P:=HL_again h.P h.head hc h.size (fun _ _ _=>rfl) (hb h.hw)
   A:=LedL_again h.A h.head hc h.size (fun _ _ _=>rfl) (hb h.jw)
   W:=hW
   Q:=Ri.ringAt_turn h.Q ht h.wq.symm
   good:={ h.good with W:=hg }
   tw:=out h.T.there h.tw
   hw:=out h.P.there h.hw
   jw:=out h.A.there h.jw
   wq:=(out (Ri.ringAt_there h.Q) h.wq.symm).symm
   all:=fun k=>Iff.rfl }
 ·refine ⟨ht.os,ht.tape,ht.output,ht.size,fun k hk hf=>ht.block k hk (fun hT=>hf ((h.all k).2 (.inr (.inr (.inr (.inl hT)))))),fun k hk=>?_⟩
  rcases hk with hk | hk | hk | hk | hk
  ·exact .inl ((h.all k).2 (.inl hk))
  ·exact .inl ((h.all k).2 (.inr (.inl hk)))
  ·exact .inl ((h.all k).2 (.inr (.inr (.inl hk))))
  ·exact (hn k hk).imp (fun hT=>(h.all k).2 (.inr (.inr (.inr (.inl hT))))) id
  ·exact .inl ((h.all k).2 (.inr (.inr (.inr (.inr hk)))))
theorem NodeIs.turnQ {cs:Array Value} {FT FH FJ FW FQ FQ':Nat→Prop} {a z:Nat} (h:NodeIs w F R s cs FT FH FJ FW FQ a z) {Q':Ri.RingS} (hQ:Ri.RingAt w' FQ' z Q') (hg:Q'.Good) (ht:Turn FQ FQ' w w'):∃ F',NodeAt w' F' R { s with Q:=Q' }∧Turn F F' w w':=by
 have hn:∀ k,FQ' k→FQ k∨w.heap.size≤k:=ht.own
 have out:∀ {G:Nat→Prop},There w G→(∀ k,G k→¬ FQ k)→Apart G FQ':=fun hG ha k hg hk=>(hn k hk).elim (fun hf=>ha k hg hf) (fun hle=>by have:=hG k hg;omega)
 have hb:∀ {G:Nat→Prop},(∀ k,G k→¬ FQ k)→But G R w w':=fun ha=>⟨ht.size,fun k hk hf _=>ht.block k hk (ha k hf)⟩
 have hc:Cells w' R cs:=(ht.block R (h.T.there R h.T.block) (h.tq R h.T.block)).trans h.head
 refine ⟨fun k=>FT k∨FH k∨FJ k∨FW k∨FQ' k,⟨cs,FT,FH,FJ,FW,FQ',a,z,?_⟩,?_⟩
 ·exact { h with
   head:=hc
   T:=TL_again h.T h.head hc h.size (fun _ _ _=>rfl) (hb h.tq)
   P:=HL_again h.P h.head hc h.size (fun _ _ _=>rfl) (hb h.hq)
   A:=LedL_again h.A h.head hc h.size (fun _ _ _=>rfl) (hb h.jq)
   W:=Ri.ringAt_turn h.W ht h.wq
   Q:=hQ
   good:={ h.good with Q:=hg }
   tq:=out h.T.there h.tq
   hq:=out h.P.there h.hq
   jq:=out h.A.there h.jq
   wq:=out (Ri.ringAt_there h.W) h.wq
   all:=fun k=>Iff.rfl }
 ·refine ⟨ht.os,ht.tape,ht.output,ht.size,fun k hk hf=>ht.block k hk (fun hT=>hf ((h.all k).2 (.inr (.inr (.inr (.inr hT)))))),fun k hk=>?_⟩
  rcases hk with hk | hk | hk | hk | hk
  ·exact .inl ((h.all k).2 (.inl hk))
  ·exact .inl ((h.all k).2 (.inr (.inl hk)))
  ·exact .inl ((h.all k).2 (.inr (.inr (.inl hk))))
  ·exact .inl ((h.all k).2 (.inr (.inr (.inr (.inl hk)))))
  ·exact (hn k hk).imp (fun hT=>(h.all k).2 (.inr (.inr (.inr (.inr hT))))) id
end Go.Proofs.YtlboemhbealnmaaGreat
