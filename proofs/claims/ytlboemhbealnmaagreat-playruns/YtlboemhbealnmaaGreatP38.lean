import Derived.Test.YtlboemhbealnmaaGreatP24
import Derived.Test.YtlboemhbealnmaaGreatP32
import Derived.Test.YtlboemhbealnmaaGreatP34
import Derived.Test.YtlboemhbealnmaaGreatP37
import Derived.Test.YtlboemhbealnmaaGreatP31
import Derived.Test.YtlboemhbealnmaaGreatP30
import Derived.Test.YtlboemhbealnmaaGreatP33
import Derived.Test.YtlboemhbealnmaaGreatP35
import Derived.Test.YtlboemhbealnmaaGreatP29
import Derived.Test.YtlboemhbealnmaaGreatP19
import Derived.StillTailTactics
set_option maxRecDepth 20000
namespace Go.Proofs.YtlboemhbealnmaaGreat
open Go.RowKit Go.Maps
theorem ocOf_some19 {cs:Array Value} (hs:cs.size=19) {i:Nat} (h:i < 19):some (ocOf cs i)=cs[i]?:=by
 have:i < cs.size:=by omega
 rw [Array.getElem?_eq_getElem this]
 exact congrArg some (ocOf_at (Array.getElem?_eq_getElem this))
theorem none19 {cs:Array Value} (hs:cs.size=19) {i:Nat} (h:19≤i):cs[i]?=none:=Array.getElem?_eq_none (by omega)
theorem refTC_other (oc:Nat→Value) (salt:UInt64) (v:Value) (i:Nat) (h:i < 0∨2≤i∧i < 19):(refTC oc salt v)[i]?=some (oc i):=
 match i,h with
 | 0,h=>absurd h (by omega)
 | 1,h=>absurd h (by omega)
 | 2,_=>rfl
 | 3,_=>rfl
 | 4,_=>rfl
 | 5,_=>rfl
 | 6,_=>rfl
 | 7,_=>rfl
 | 8,_=>rfl
 | 9,_=>rfl
 | 10,_=>rfl
 | 11,_=>rfl
 | 12,_=>rfl
 | 13,_=>rfl
 | 14,_=>rfl
 | 15,_=>rfl
 | 16,_=>rfl
 | 17,_=>rfl
 | 18,_=>rfl
 | n+19,h=>absurd h (by omega)
theorem refHC_other (oc:Nat→Value) (v:Value) (i:Nat) (h:i < 2∨3≤i∧i < 19):(refHC oc v)[i]?=some (oc i):=
 match i,h with
 | 0,_=>rfl
 | 1,_=>rfl
 | 2,h=>absurd h (by omega)
 | 3,_=>rfl
 | 4,_=>rfl
 | 5,_=>rfl
 | 6,_=>rfl
 | 7,_=>rfl
 | 8,_=>rfl
 | 9,_=>rfl
 | 10,_=>rfl
 | 11,_=>rfl
 | 12,_=>rfl
 | 13,_=>rfl
 | 14,_=>rfl
 | 15,_=>rfl
 | 16,_=>rfl
 | 17,_=>rfl
 | 18,_=>rfl
 | n+19,h=>absurd h (by omega)
theorem refJC_other (oc:Nat→Value) (v:Value) (i:Nat) (h:i < 3∨4≤i∧i < 19):(refJC oc v)[i]?=some (oc i):=
 match i,h with
 | 0,_=>rfl
 | 1,_=>rfl
 | 2,_=>rfl
 | 3,h=>absurd h (by omega)
 | 4,_=>rfl
 | 5,_=>rfl
 | 6,_=>rfl
 | 7,_=>rfl
 | 8,_=>rfl
 | 9,_=>rfl
 | 10,_=>rfl
 | 11,_=>rfl
 | 12,_=>rfl
 | 13,_=>rfl
 | 14,_=>rfl
 | 15,_=>rfl
 | 16,_=>rfl
 | 17,_=>rfl
 | 18,_=>rfl
 | n+19,h=>absurd h (by omega)
theorem refWC_other (oc:Nat→Value) (n:Int) (y o:Value) (i:Nat) (h:i < 4∨7≤i∧i < 19):(refWC oc n y o)[i]?=some (oc i):=
 match i,h with
 | 0,_=>rfl
 | 1,_=>rfl
 | 2,_=>rfl
 | 3,_=>rfl
 | 4,h=>absurd h (by omega)
 | 5,h=>absurd h (by omega)
 | 6,h=>absurd h (by omega)
 | 7,_=>rfl
 | 8,_=>rfl
 | 9,_=>rfl
 | 10,_=>rfl
 | 11,_=>rfl
 | 12,_=>rfl
 | 13,_=>rfl
 | 14,_=>rfl
 | 15,_=>rfl
 | 16,_=>rfl
 | 17,_=>rfl
 | 18,_=>rfl
 | n+19,h=>absurd h (by omega)
theorem refQC_other (oc:Nat→Value) (n:Int) (y o:Value) (i:Nat) (h:i < 7∨10≤i∧i < 19):(refQC oc n y o)[i]?=some (oc i):=
 match i,h with
 | 0,_=>rfl
 | 1,_=>rfl
 | 2,_=>rfl
 | 3,_=>rfl
 | 4,_=>rfl
 | 5,_=>rfl
 | 6,_=>rfl
 | 7,h=>absurd h (by omega)
 | 8,h=>absurd h (by omega)
 | 9,h=>absurd h (by omega)
 | 10,_=>rfl
 | 11,_=>rfl
 | 12,_=>rfl
 | 13,_=>rfl
 | 14,_=>rfl
 | 15,_=>rfl
 | 16,_=>rfl
 | 17,_=>rfl
 | 18,_=>rfl
 | n+19,h=>absurd h (by omega)
theorem refTC_self {cs:Array Value} (hs:cs.size=19) {salt:UInt64} {v:Value} (h0:cs[0]?=some (.int .u64 salt.toNat)) (h1:cs[1]?=some (v)):refTC (ocOf cs) salt v=cs:=by
 refine Array.ext_getElem? fun i=>?_
 by_cases h3:19≤i
 ·rw [none19 hs h3,none19 rfl h3]
 ·by_cases hout:i < 0∨2≤i∧i < 19
  ·rw [refTC_other _ _ _ i hout]
   exact ocOf_some19 hs (by omega)
  ·obtain rfl | rfl:i=0∨i=1:=by omega
   ·exact h0.symm
   ·exact h1.symm
theorem refHC_self {cs:Array Value} (hs:cs.size=19) {v:Value} (h0:cs[2]?=some (v)):refHC (ocOf cs) v=cs:=by
 refine Array.ext_getElem? fun i=>?_
 by_cases h3:19≤i
 ·rw [none19 hs h3,none19 rfl h3]
 ·by_cases hout:i < 2∨3≤i∧i < 19
  ·rw [refHC_other _ _ i hout]
   exact ocOf_some19 hs (by omega)
  ·obtain rfl:i=2:=by omega
   exact h0.symm
theorem refJC_self {cs:Array Value} (hs:cs.size=19) {v:Value} (h0:cs[3]?=some (v)):refJC (ocOf cs) v=cs:=by
 refine Array.ext_getElem? fun i=>?_
 by_cases h3:19≤i
 ·rw [none19 hs h3,none19 rfl h3]
 ·by_cases hout:i < 3∨4≤i∧i < 19
  ·rw [refJC_other _ _ i hout]
   exact ocOf_some19 hs (by omega)
  ·obtain rfl:i=3:=by omega
   exact h0.symm
theorem refWC_self {cs:Array Value} (hs:cs.size=19) {n:Int} {y o:Value} (h0:cs[4]?=some (.int .i64 n)) (h1:cs[5]?=some (y)) (h2:cs[6]?=some (o)):refWC (ocOf cs) n y o=cs:=by
 refine Array.ext_getElem? fun i=>?_
 by_cases h3:19≤i
 ·rw [none19 hs h3,none19 rfl h3]
 ·by_cases hout:i < 4∨7≤i∧i < 19
  ·rw [refWC_other _ _ _ _ i hout]
   exact ocOf_some19 hs (by omega)
  ·obtain rfl | rfl | rfl:i=4∨i=5∨i=6:=by omega
   ·exact h0.symm
   ·exact h1.symm
   ·exact h2.symm
theorem refQC_self {cs:Array Value} (hs:cs.size=19) {n:Int} {y o:Value} (h0:cs[7]?=some (.int .i64 n)) (h1:cs[8]?=some (y)) (h2:cs[9]?=some (o)):refQC (ocOf cs) n y o=cs:=by
 refine Array.ext_getElem? fun i=>?_
 by_cases h3:19≤i
 ·rw [none19 hs h3,none19 rfl h3]
 ·by_cases hout:i < 7∨10≤i∧i < 19
  ·rw [refQC_other _ _ _ _ i hout]
   exact ocOf_some19 hs (by omega)
  ·obtain rfl | rfl | rfl:i=7∨i=8∨i=9:=by omega
   ·exact h0.symm
   ·exact h1.symm
   ·exact h2.symm
variable {w w':World} {G G':Nat→Prop} {B:Nat} {s:NS}
abbrev RCells (w:World) (B:Nat) (cs:Array Value):Prop:=w.heap[B]?=some (.cells cs 54 (0,0))
theorem rcells_eq {cs cs':Array Value} (h:RCells w B cs) (h':RCells w B cs'):cs=cs':=by
 unfold RCells at h h'
 rw [h] at h'
 simpa using h'
structure Beside (w w':World) (G G':Nat→Prop) (B:Nat):Prop where
 size:w.heap.size≤w'.heap.size
 block:∀ k,k < w.heap.size→k≠B→w'.heap[k]?=w.heap[k]?
 more:∀ k,G k→G' k
 there:There w' G'
theorem reft_again {cs cs':Array Value} {salt:UInt64} {L:List Tr.TEnt} {v:Value} (h:Tr.RefTr w G ⟨B,ocOf cs⟩ salt L v) (hc:RCells w B cs) (hc':RCells w' B cs') (hs:cs'.size=19) (hi:∀ i,i < 2→cs'[i]?=cs[i]?) (hb:Beside w w' G G' B):Tr.RefTr w' G' ⟨B,ocOf cs'⟩ salt L v:=by
 have e:=rcells_eq hc h.head
 have e':refTC (ocOf cs') salt v=cs':=refTC_self hs (by rw [hi 0 (by omega),e];rfl) (by rw [hi 1 (by omega),e];rfl)
 exact {
  head:=by show w'.heap[B]?=some (.cells (refTC (ocOf cs') salt v) _ _);rw [e'];exact hc'
  row:=own_same h.row fun g hg=>hb.block g (h.there g (h.gv g hg)) (fun e=>by
   obtain ⟨cur,hcur⟩:=own_at h.row hg
   rw [e,hc] at hcur
   simp at hcur)
  none:=h.none
  gB:=hb.more _ h.gB
  gv:=fun k hk=>hb.more _ (h.gv k hk)
  there:=hb.there }
theorem refh_again {cs cs':Array Value} {L:List Ho.LinkD} (h:Ho.RefL w G ⟨B,ocOf cs⟩ L) (hc:RCells w B cs) (hc':RCells w' B cs') (hs:cs'.size=19) (hi:∀ i,2≤i→i < 3→cs'[i]?=cs[i]?) (hb:Beside w w' G G' B):Ho.RefL w' G' ⟨B,ocOf cs'⟩ L:=by
 obtain ⟨rs,v,h,rfl⟩:=h
 have e:=rcells_eq hc h.head
 have e':refHC (ocOf cs') v=cs':=refHC_self hs (by rw [hi 2 (by omega) (by omega),e];rfl)
 refine ⟨rs,v,?_,rfl⟩
 exact {
  head:=by show w'.heap[B]?=some (.cells (refHC (ocOf cs') v) _ _);rw [e'];exact hc'
  row:=own_same h.row fun g hg=>hb.block g (h.there g (h.gv g hg)) (fun e=>by
   obtain ⟨cur,hcur⟩:=own_at h.row hg
   rw [e,hc] at hcur
   simp at hcur)
  ins:=fun x hx=>⟨insAt_same (h.ins x hx).1 (fun bb o hne ea=>hb.block bb (h.there bb ((h.ins x hx).2.1 bb o hne ea).1) ((h.ins x hx).2.1 bb o hne ea).2) hb.size,⟨fun bb o hne ea=>⟨hb.more _ ((h.ins x hx).2.1 bb o hne ea).1,((h.ins x hx).2.1 bb o hne ea).2⟩,(h.ins x hx).2.2⟩⟩
  gB:=hb.more _ h.gB
  gv:=fun k hk=>hb.more _ (h.gv k hk)
  there:=hb.there }
theorem refj_again {cs cs':Array Value} {L:List DeedD} (h:Ju.RefJ w G ⟨B,ocOf cs⟩ L) (hc:RCells w B cs) (hc':RCells w' B cs') (hs:cs'.size=19) (hi:∀ i,3≤i→i < 4→cs'[i]?=cs[i]?) (hb:Beside w w' G G' B):Ju.RefJ w' G' ⟨B,ocOf cs'⟩ L:=by
 obtain ⟨a,cap,l,hh,hd,hr,hn,h1,h2⟩:=h
 have e:=rcells_eq hc hh
 have e':refJC (ocOf cs') (.slice a l.length cap)=cs':=refJC_self hs (by rw [hi 3 (by omega) (by omega),e];rfl)
 refine ⟨a,cap,l,?_,hd,Ju.rowJ_same hr (fun bb o hne ea=>hb.block bb (hn.2 bb (h1 bb o hne ea).1) (h1 bb o hne ea).2) (fun q hq bb o hne ea=>hb.block bb (hn.2 bb (h2 q hq bb o hne ea).1) (h2 q hq bb o hne ea).2) hb.size,⟨hb.more _ hn.1,hb.there⟩,fun bb o hne ea=>⟨hb.more _ (h1 bb o hne ea).1,(h1 bb o hne ea).2⟩,fun q hq bb o hne ea=>⟨hb.more _ (h2 q hq bb o hne ea).1,(h2 q hq bb o hne ea).2⟩⟩
 show w'.heap[B]?=some (.cells (refJC (ocOf cs') (.slice a l.length cap)) _ _)
 rw [e']
 exact hc'
theorem refw_again {cs cs':Array Value} {r:Ri.RingS} (h:Ri.RefAt w G ⟨B,ocOf cs⟩ r) (hc:RCells w B cs) (hc':RCells w' B cs') (hs:cs'.size=19) (hi:∀ i,4≤i→i < 7→cs'[i]?=cs[i]?) (hb:Beside w w' G G' B):Ri.RefAt w' G' ⟨B,ocOf cs'⟩ r:=by
 obtain ⟨y,o,hh,h2,h3,h4,h5⟩:=h
 have e:=rcells_eq hc hh
 have e':refWC (ocOf cs') r.size y o=cs':=refWC_self hs (by rw [hi 4 (by omega) (by omega),e];rfl) (by rw [hi 5 (by omega) (by omega),e];rfl) (by rw [hi 6 (by omega) (by omega),e];rfl)
 refine ⟨y,o,?_,Ri.rowAt_same h2 (fun k hk hne=>hb.block k (h5 k hk) hne) hb.more hb.size,Ri.rowAt_same h3 (fun k hk hne=>hb.block k (h5 k hk) hne) hb.more hb.size,hb.more _ h4,hb.there⟩
 show w'.heap[B]?=some (.cells (refWC (ocOf cs') r.size y o) _ _)
 rw [e']
 exact hc'
theorem refq_again {cs cs':Array Value} {r:Ri.RingS} (h:Rq.RefAt w G ⟨B,ocOf cs⟩ r) (hc:RCells w B cs) (hc':RCells w' B cs') (hs:cs'.size=19) (hi:∀ i,7≤i→i < 10→cs'[i]?=cs[i]?) (hb:Beside w w' G G' B):Rq.RefAt w' G' ⟨B,ocOf cs'⟩ r:=by
 obtain ⟨y,o,hh,h2,h3,h4,h5⟩:=h
 have e:=rcells_eq hc hh
 have e':refQC (ocOf cs') r.size y o=cs':=refQC_self hs (by rw [hi 7 (by omega) (by omega),e];rfl) (by rw [hi 8 (by omega) (by omega),e];rfl) (by rw [hi 9 (by omega) (by omega),e];rfl)
 refine ⟨y,o,?_,Ri.rowAt_same h2 (fun k hk hne=>hb.block k (h5 k hk) hne) hb.more hb.size,Ri.rowAt_same h3 (fun k hk hne=>hb.block k (h5 k hk) hne) hb.more hb.size,hb.more _ h4,hb.there⟩
 show w'.heap[B]?=some (.cells (refQC (ocOf cs') r.size y o) _ _)
 rw [e']
 exact hc'
def stand (b:Bool × Bool):Int:=if b.1 then (if b.2 then 2 else 1) else 0
structure RNc (w:World) (G:Nat→Prop) (B:Nat) (s:NS) (cs:Array Value):Prop where
 head:RCells w B cs
 size:cs.size=19
 T:∃ v,Tr.RefTr w G ⟨B,ocOf cs⟩ s.salt s.T v
 P:Ho.RefL w G ⟨B,ocOf cs⟩ s.P
 A:Ju.RefJ w G ⟨B,ocOf cs⟩ s.A
 W:Ri.RefAt w G ⟨B,ocOf cs⟩ s.W
 Q:Rq.RefAt w G ⟨B,ocOf cs⟩ s.Q
 peers:∀ p,p < 8→cs[10+p]?=some (.int .i64 (stand (s.peers p)))
 now:cs[18]?=some (.int .i64 s.now)
 good:NGood s
 gB:G B
 there:There w G
def RN (w:World) (G:Nat→Prop) (B:Nat) (s:NS):Prop:=∃ cs,RNc w G B s cs
theorem RN.good (h:RN w G B s):NGood s:=by obtain ⟨cs,h⟩:=h;exact h.good
theorem RN.there (h:RN w G B s):There w G:=by obtain ⟨cs,h⟩:=h;exact h.there
theorem RN.gB (h:RN w G B s):G B:=by obtain ⟨cs,h⟩:=h;exact h.gB
theorem RN.lt (h:RN w G B s):B < w.heap.size:=h.there B h.gB
theorem RN.same (h:RN w G B s) (e:∀ k,k < w.heap.size→G k→w'.heap[k]?=w.heap[k]?) (hs:w.heap.size≤w'.heap.size):RN w' G B s:=by
 obtain ⟨cs,h⟩:=h
 obtain ⟨v,hT⟩:=h.T
 obtain ⟨rs,u,hP,hl⟩:=h.P
 exact ⟨cs,(e B (h.there B h.gB) h.gB).trans h.head,h.size,⟨v,hT.same e hs⟩,⟨rs,u,hP.same e hs,hl⟩,h.A.same e hs,Ri.refAt_same h.W e hs,Rq.refAt_same h.Q e hs,h.peers,h.now,h.good,h.gB,h.there.later hs⟩
theorem RN.kept (h:RN w G B s) (hb:Below w.heap.size w w'):RN w' G B s:=h.same (fun k hk _=>hb.block k hk) hb.size
theorem RN.turn (h:RN w G B s) {F F':Nat→Prop} (ht:Turn F F' w w') (ha:Apart G F):RN w' G B s:=h.same (fun k hk hg=>ht.block k hk (ha k hg)) ht.size
theorem grow_beside (ht:Gain B G G' w w') (hth:There w' G'):Beside w w' G G' B:=⟨ht.size,ht.block,ht.more,hth⟩
theorem RNc.turnT {cs:Array Value} (h:RNc w G B s cs) {T:List Tr.TEnt} (h1:∃ v,Tr.RefTr w' G' ⟨B,ocOf cs⟩ s.salt T v) (ht:Gain B G G' w w') (hg:Tr.Good T):RN w' G' B { s with T:=T }:=by
 have h0:=h1
 obtain ⟨v,h1⟩:=h1
 have hc:=h1.head
 have hth:=h1.there
 have hgB:=h1.gB
 have hb:=grow_beside ht hth
 have hi:∀ i,i < 0∨2≤i∧i < 19→(refTC (ocOf cs) s.salt v)[i]?=cs[i]?:=fun i hi=>by
  rw [refTC_other _ _ _ i hi]
  exact ocOf_some19 h.size (by omega)
 have hoc:∀ i,i < 0∨2≤i∧i < 19→ocOf (refTC (ocOf cs) s.salt v) i=ocOf cs i:=fun i hi=>ocOf_at (refTC_other _ _ _ i hi)
 refine ⟨refTC (ocOf cs) s.salt v,hc,rfl,?_,?_,?_,?_,?_,fun p hp=>(hi (10+p) (by omega)).trans (h.peers p hp),(hi 18 (by omega)).trans h.now,{ h.good with T:=hg },hgB,hth⟩
 ·refine ⟨v,{ head:=?_,row:=h1.row,none:=h1.none,gB:=hgB,gv:=h1.gv,there:=hth }⟩
  exact hc
 ·exact refh_again h.P h.head hc rfl (fun i h1 h2=>hi i (by omega)) hb
 ·exact refj_again h.A h.head hc rfl (fun i h1 h2=>hi i (by omega)) hb
 ·exact refw_again h.W h.head hc rfl (fun i h1 h2=>hi i (by omega)) hb
 ·exact refq_again h.Q h.head hc rfl (fun i h1 h2=>hi i (by omega)) hb
theorem RNc.turnP {cs:Array Value} (h:RNc w G B s cs) {P:List Ho.LinkD} (h1:Ho.RefL w' G' ⟨B,ocOf cs⟩ P) (ht:Gain B G G' w w') (hg:Ho.GoodL 24 P):RN w' G' B { s with P:=P }:=by
 have h0:=h1
 obtain ⟨rs,v,h1,hl⟩:=h1
 have hc:=h1.head
 have hth:=h1.there
 have hgB:=h1.gB
 have hb:=grow_beside ht hth
 have hi:∀ i,i < 2∨3≤i∧i < 19→(refHC (ocOf cs) v)[i]?=cs[i]?:=fun i hi=>by
  rw [refHC_other _ _ i hi]
  exact ocOf_some19 h.size (by omega)
 have hoc:∀ i,i < 2∨3≤i∧i < 19→ocOf (refHC (ocOf cs) v) i=ocOf cs i:=fun i hi=>ocOf_at (refHC_other _ _ i hi)
 refine ⟨refHC (ocOf cs) v,hc,rfl,?_,?_,?_,?_,?_,fun p hp=>(hi (10+p) (by omega)).trans (h.peers p hp),(hi 18 (by omega)).trans h.now,{ h.good with P:=hg },hgB,hth⟩
 ·obtain ⟨v0,hT⟩:=h.T
  exact ⟨v0,reft_again hT h.head hc rfl (fun i h1=>hi i (by omega)) hb⟩
 ·refine ⟨rs,v,{ head:=?_,row:=h1.row,ins:=h1.ins,gB:=hgB,gv:=h1.gv,there:=hth },hl⟩
  exact hc
 ·exact refj_again h.A h.head hc rfl (fun i h1 h2=>hi i (by omega)) hb
 ·exact refw_again h.W h.head hc rfl (fun i h1 h2=>hi i (by omega)) hb
 ·exact refq_again h.Q h.head hc rfl (fun i h1 h2=>hi i (by omega)) hb
theorem RNc.turnA {cs:Array Value} (h:RNc w G B s cs) {A:List DeedD} (h1:Ju.RefJ w' G' ⟨B,ocOf cs⟩ A) (ht:Gain B G G' w w') (hg:Ju.GoodJ A):RN w' G' B { s with A:=A }:=by
 have h0:=h1
 obtain ⟨a,cap,l,hc,hd,hr,⟨hgB,hth⟩,h2,h3⟩:=h1
 have hb:=grow_beside ht hth
 have hi:∀ i,i < 3∨4≤i∧i < 19→(refJC (ocOf cs) (.slice a l.length cap))[i]?=cs[i]?:=fun i hi=>by
  rw [refJC_other _ _ i hi]
  exact ocOf_some19 h.size (by omega)
 have hoc:∀ i,i < 3∨4≤i∧i < 19→ocOf (refJC (ocOf cs) (.slice a l.length cap)) i=ocOf cs i:=fun i hi=>ocOf_at (refJC_other _ _ i hi)
 refine ⟨refJC (ocOf cs) (.slice a l.length cap),hc,rfl,?_,?_,?_,?_,?_,fun p hp=>(hi (10+p) (by omega)).trans (h.peers p hp),(hi 18 (by omega)).trans h.now,{ h.good with A:=hg },hgB,hth⟩
 ·obtain ⟨v0,hT⟩:=h.T
  exact ⟨v0,reft_again hT h.head hc rfl (fun i h1=>hi i (by omega)) hb⟩
 ·exact refh_again h.P h.head hc rfl (fun i h1 h2=>hi i (by omega)) hb
 ·refine ⟨a,cap,l,?_,hd,hr,⟨hgB,hth⟩,h2,h3⟩
  exact hc
 ·exact refw_again h.W h.head hc rfl (fun i h1 h2=>hi i (by omega)) hb
 ·exact refq_again h.Q h.head hc rfl (fun i h1 h2=>hi i (by omega)) hb
theorem RNc.turnW {cs:Array Value} (h:RNc w G B s cs) {r:Ri.RingS} (h1:Ri.RefAt w' G' ⟨B,ocOf cs⟩ r) (ht:Gain B G G' w w') (hg:r.Good):RN w' G' B { s with W:=r }:=by
 have h0:=h1
 obtain ⟨y,o,hc,h2,h3,hgB,hth⟩:=h1
 have hb:=grow_beside ht hth
 have hi:∀ i,i < 4∨7≤i∧i < 19→(refWC (ocOf cs) r.size y o)[i]?=cs[i]?:=fun i hi=>by
  rw [refWC_other _ _ _ _ i hi]
  exact ocOf_some19 h.size (by omega)
 have hoc:∀ i,i < 4∨7≤i∧i < 19→ocOf (refWC (ocOf cs) r.size y o) i=ocOf cs i:=fun i hi=>ocOf_at (refWC_other _ _ _ _ i hi)
 refine ⟨refWC (ocOf cs) r.size y o,hc,rfl,?_,?_,?_,?_,?_,fun p hp=>(hi (10+p) (by omega)).trans (h.peers p hp),(hi 18 (by omega)).trans h.now,{ h.good with W:=hg },hgB,hth⟩
 ·obtain ⟨v0,hT⟩:=h.T
  exact ⟨v0,reft_again hT h.head hc rfl (fun i h1=>hi i (by omega)) hb⟩
 ·exact refh_again h.P h.head hc rfl (fun i h1 h2=>hi i (by omega)) hb
 ·exact refj_again h.A h.head hc rfl (fun i h1 h2=>hi i (by omega)) hb
 ·refine ⟨y,o,?_,h2,h3,hgB,hth⟩
  exact hc
 ·exact refq_again h.Q h.head hc rfl (fun i h1 h2=>hi i (by omega)) hb
theorem RNc.turnQ {cs:Array Value} (h:RNc w G B s cs) {r:Ri.RingS} (h1:Rq.RefAt w' G' ⟨B,ocOf cs⟩ r) (ht:Gain B G G' w w') (hg:r.Good):RN w' G' B { s with Q:=r }:=by
 have h0:=h1
 obtain ⟨y,o,hc,h2,h3,hgB,hth⟩:=h1
 have hb:=grow_beside ht hth
 have hi:∀ i,i < 7∨10≤i∧i < 19→(refQC (ocOf cs) r.size y o)[i]?=cs[i]?:=fun i hi=>by
  rw [refQC_other _ _ _ _ i hi]
  exact ocOf_some19 h.size (by omega)
 have hoc:∀ i,i < 7∨10≤i∧i < 19→ocOf (refQC (ocOf cs) r.size y o) i=ocOf cs i:=fun i hi=>ocOf_at (refQC_other _ _ _ _ i hi)
 refine ⟨refQC (ocOf cs) r.size y o,hc,rfl,?_,?_,?_,?_,?_,fun p hp=>(hi (10+p) (by omega)).trans (h.peers p hp),(hi 18 (by omega)).trans h.now,{ h.good with Q:=hg },hgB,hth⟩
 ·obtain ⟨v0,hT⟩:=h.T
  exact ⟨v0,reft_again hT h.head hc rfl (fun i h1=>hi i (by omega)) hb⟩
 ·exact refh_again h.P h.head hc rfl (fun i h1 h2=>hi i (by omega)) hb
 ·exact refj_again h.A h.head hc rfl (fun i h1 h2=>hi i (by omega)) hb
 ·exact refw_again h.W h.head hc rfl (fun i h1 h2=>hi i (by omega)) hb
 ·refine ⟨y,o,?_,h2,h3,hgB,hth⟩
  exact hc
theorem RNc.cells {cs cs':Array Value} (h:RNc w G B s cs) (hc:RCells w' B cs') (hs:cs'.size=19) (hi:∀ i,i < 10→cs'[i]?=cs[i]?) (ht:Gain B G G w w') {s':NS} (e1:s'.salt=s.salt) (e2:s'.T=s.T) (e3:s'.P=s.P) (e4:s'.A=s.A) (e5:s'.W=s.W) (e6:s'.Q=s.Q)
  (hp:∀ p,p < 8→cs'[10+p]?=some (.int .i64 (stand (s'.peers p)))) (hn:cs'[18]?=some (.int .i64 s'.now)) (hg:NGood s'):RN w' G B s':=by
 have hb:Beside w w' G G B:=⟨ht.size,ht.block,ht.more,h.there.later ht.size⟩
 obtain ⟨v0,hT⟩:=h.T
 refine ⟨cs',hc,hs,⟨v0,?_⟩,?_,?_,?_,?_,hp,hn,hg,h.gB,hb.there⟩
 ·rw [e1,e2];exact reft_again hT h.head hc hs (fun i h1=>hi i (by omega)) hb
 ·rw [e3];exact refh_again h.P h.head hc hs (fun i h1 h2=>hi i (by omega)) hb
 ·rw [e4];exact refj_again h.A h.head hc hs (fun i h1 h2=>hi i (by omega)) hb
 ·rw [e5];exact refw_again h.W h.head hc hs (fun i h1 h2=>hi i (by omega)) hb
 ·rw [e6];exact refq_again h.Q h.head hc hs (fun i h1 h2=>hi i (by omega)) hb
theorem RN.peerc (h:RN w G B s) (p:Nat) (hp:p < 8):w.cell? ⟨B,10+p,none⟩=some (.int .i64 (stand (s.peers p)))∧w.frozen? ⟨B,10+p,none⟩=false:=by
 obtain ⟨cs,h⟩:=h
 exact ⟨(head_cell h.head (10+p)).trans (h.peers p hp),frozen_of_row w B (10+p) _ _ h.head⟩
theorem RN.nowc (h:RN w G B s):w.cell? ⟨B,18,none⟩=some (.int .i64 s.now)∧w.frozen? ⟨B,18,none⟩=false:=by
 obtain ⟨cs,h⟩:=h
 exact ⟨(head_cell h.head 18).trans h.now,frozen_of_row w B 18 _ _ h.head⟩
theorem RN.led (h:RN w G B s):∃ a cap l,w.cell? ⟨B,3,none⟩=some (.slice a l.length cap)∧Ju.dOf l=s.A∧Ju.RowJ w a l:=by
 obtain ⟨cs,h⟩:=h
 exact h.A.row
theorem RN.setPeer (h:RN w G B s) (p:Nat) (hp:p < 8) (b:Bool × Bool):RN (w.setCell ⟨B,10+p,none⟩ (.int .i64 (stand b))) G B { s with peers:=fun q=>if q=p then b else s.peers q }∧Gain B G G w (w.setCell ⟨B,10+p,none⟩ (.int .i64 (stand b))):=by
 obtain ⟨cs,h⟩:=h
 have ht:Gain B G G w (w.setCell ⟨B,10+p,none⟩ (.int .i64 (stand b))):=Gain.set w _ _ rfl
 refine ⟨h.cells (cs':=cs.setIfInBounds (10+p) (.int .i64 (stand b))) (heap_setCell_same w B (10+p) _ _ _ h.head) (by simp [h.size]) (fun i hi=>?_) ht rfl rfl rfl rfl rfl rfl (fun q hq=>?_) ?_ { h.good with },ht⟩
 ·rw [Array.getElem?_setIfInBounds_ne (by omega)]
 ·by_cases hqp:q=p
  ·subst hqp
   rw [Array.getElem?_setIfInBounds_self_of_lt (by have:=h.size;omega)]
   simp
  ·rw [Array.getElem?_setIfInBounds_ne (by omega),h.peers q hq]
   simp [hqp]
 ·rw [Array.getElem?_setIfInBounds_ne (by omega)]
  exact h.now
theorem RN.setNow (h:RN w G B s) (t:Int) (hg:0≤t∧t≤1099511627776):RN (w.setCell ⟨B,18,none⟩ (.int .i64 t)) G B { s with now:=t }∧Gain B G G w (w.setCell ⟨B,18,none⟩ (.int .i64 t)):=by
 obtain ⟨cs,h⟩:=h
 have ht:Gain B G G w (w.setCell ⟨B,18,none⟩ (.int .i64 t)):=Gain.set w _ _ rfl
 refine ⟨h.cells (cs':=cs.setIfInBounds 18 (.int .i64 t)) (heap_setCell_same w B 18 _ _ _ h.head) (by simp [h.size]) (fun i hi=>?_) ht rfl rfl rfl rfl rfl rfl (fun q hq=>?_) ?_ { h.good with now:=hg },ht⟩
 ·rw [Array.getElem?_setIfInBounds_ne (by omega)]
 ·rw [Array.getElem?_setIfInBounds_ne (by omega)]
  exact h.peers q hq
 ·rw [Array.getElem?_setIfInBounds_self_of_lt (by have:=h.size;omega)]
end Go.Proofs.YtlboemhbealnmaaGreat
set_option maxRecDepth 20000
namespace Go.Proofs.YtlboemhbealnmaaGreat
open Go.RowKit Go.Maps
variable {w w':World} {G G':Nat→Prop} {B:Nat} {s:NS}
def TurnsR (w:World) (G:Nat→Prop) (B:Nat) (v:Value) (s':NS) (e:Ending) (w':World):Prop:=e=.returned v∧∃ G',RN w' G' B s'∧Gain B G G' w w'
theorem few160 {T:List Tr.TEnt} (h:Tr.Good T):T.length≤160:=Tr.all_few h.peer h.few
theorem r_answer (p:Int) (x:UInt64) (w:World) (h:RN w G B s):Calls Tryz.prog 67 #[.pointer (some ⟨B,0,none⟩),.int .i64 p,.int .u64 x.toNat] w
  (TurnsR w G B (.int .i64 (Tr.answerC s.T p x).1) { s with T:=(Tr.answerC s.T p x).2 }):=by
 obtain ⟨cs,h⟩:=h
 obtain ⟨v,hT⟩:=h.T
 unfold Tr.answerC
 by_cases hg:Tr.goodP p
 ·rw [if_pos hg]
  obtain ⟨n,rfl,hn,hnn⟩:=Tr.peer_nat hg
  rw [hnn]
  exact (Tr.refAnswer_any (R:=⟨B,ocOf cs⟩) n hn x w hT (few160 h.good.T) h.good.T.nodup).mono fun e w' ⟨he,G',v',h1,ht⟩=>⟨he,G',h.turnT ⟨v',h1⟩ ht (Tr.good_answer h.good.T n x),ht⟩
 ·rw [if_neg hg]
  refine (Tr.refAnswer_bad (R:=⟨B,ocOf cs⟩) p hg x w).mono ?_
  rintro e w' ⟨rfl,rfl⟩
  exact ⟨rfl,G,⟨cs,h⟩,Gain.refl _ _⟩
theorem r_announce (p:Int) (x:UInt64) (t:Int) (f:Bool) (w:World) (h:RN w G B s):Calls Tryz.prog 62 #[.pointer (some ⟨B,0,none⟩),.int .i64 p,.int .u64 x.toNat,.int .i64 t,.bool f] w
  (TurnsR w G B (.int .i64 (Tr.annC s.T p x t f).1) { s with T:=(Tr.annC s.T p x t f).2 }):=by
 obtain ⟨cs,h⟩:=h
 obtain ⟨v,hT⟩:=h.T
 unfold Tr.annC
 by_cases hg:Tr.goodP p∧Tr.goodT t
 ·rw [if_pos hg]
  obtain ⟨n,rfl,hn,hnn⟩:=Tr.peer_nat hg.1
  rw [hnn]
  exact (Tr.refAnn_any (R:=⟨B,ocOf cs⟩) n hn x t hg.2 f w hT (few160 h.good.T)).mono fun e w' ⟨he,G',v',h1,ht⟩=>⟨he,G',h.turnT ⟨v',h1⟩ ht (Tr.good_ann h.good.T hn x t f),ht⟩
 ·rw [if_neg hg]
  refine (Tr.refAnn_bad (R:=⟨B,ocOf cs⟩) p t (by by_cases hp:Tr.goodP p;exact .inr (fun ht=>hg ⟨hp,ht⟩);exact .inl hp) x f w).mono ?_
  rintro e w' ⟨rfl,rfl⟩
  exact ⟨rfl,G,⟨cs,h⟩,Gain.refl _ _⟩
theorem r_ask (p:Int) (x:UInt64) (t:Int) (w:World) (h:RN w G B s):Calls Tryz.prog 71 #[.pointer (some ⟨B,0,none⟩),.int .i64 p,.int .u64 x.toNat,.int .i64 t] w
  (TurnsR w G B (.int .i64 (Tr.askC s.T p x t).1) { s with T:=(Tr.askC s.T p x t).2 }):=by
 obtain ⟨cs,h⟩:=h
 obtain ⟨v,hT⟩:=h.T
 unfold Tr.askC
 by_cases hg:Tr.goodP p∧Tr.goodT t
 ·rw [if_pos hg]
  obtain ⟨n,rfl,hn,hnn⟩:=Tr.peer_nat hg.1
  rw [hnn]
  exact (Tr.refAsk_any (R:=⟨B,ocOf cs⟩) n hn x t hg.2 w hT (few160 h.good.T) h.good.T.nodup).mono fun e w' ⟨he,G',v',h1,ht⟩=>⟨he,G',h.turnT ⟨v',h1⟩ ht (Tr.good_ask h.good.T n x t),ht⟩
 ·rw [if_neg hg]
  refine (Tr.refAsk_bad (R:=⟨B,ocOf cs⟩) p t (by by_cases hp:Tr.goodP p;exact .inr (fun ht=>hg ⟨hp,ht⟩);exact .inl hp) x w).mono ?_
  rintro e w' ⟨rfl,rfl⟩
  exact ⟨rfl,G,⟨cs,h⟩,Gain.refl _ _⟩
theorem r_forget (x:UInt64) (w:World) (h:RN w G B s):Calls Tryz.prog 128 #[.pointer (some ⟨B,0,none⟩),.int .u64 x.toNat] w
  (TurnsR w G B (.tuple #[]) { s with T:=Tr.forgetL s.T x }):=by
 obtain ⟨cs,h⟩:=h
 obtain ⟨v,hT⟩:=h.T
 exact (Tr.refForget_any (R:=⟨B,ocOf cs⟩) x w hT (few160 h.good.T)).mono fun e w' ⟨he,G',v',h1,ht⟩=>⟨he,G',h.turnT ⟨v',h1⟩ ht (Tr.good_forget h.good.T x),ht⟩
theorem r_due (now:Int) (w:World) (h:RN w G B s):Calls Tryz.prog 69 #[.pointer (some ⟨B,0,none⟩),.int .i64 now] w
  (TurnsR w G B (.tuple #[]) { s with T:=Tr.dueL now s.T }):=by
 obtain ⟨cs,h⟩:=h
 obtain ⟨v,hT⟩:=h.T
 exact (Tr.refDue_any (R:=⟨B,ocOf cs⟩) now w hT (few160 h.good.T) h.good.T.st).mono fun e w' ⟨he,G',v',h1,ht⟩=>⟨he,G',h.turnT ⟨v',h1⟩ ht (Tr.good_due h.good.T now),ht⟩
theorem r_dropT (p:Nat) (hp:p < 8) (w:World) (h:RN w G B s):Calls Tryz.prog 56 #[.pointer (some ⟨B,0,none⟩),.int .i64 p] w
  (TurnsR w G B (.int .i64 0) { s with T:=Tr.dropL s.T p }):=by
 obtain ⟨cs,h⟩:=h
 obtain ⟨v,hT⟩:=h.T
 exact (Tr.refDrop_any (R:=⟨B,ocOf cs⟩) p hp w hT (few160 h.good.T)).mono fun e w' ⟨he,G',v',h1,ht⟩=>⟨he,G',h.turnT ⟨v',h1⟩ ht (Tr.good_drop h.good.T p),ht⟩
theorem r_counts (p n m k:Int) (hk:(if Tr.goodP p then (((s.T.filter fun e=>e.peer == p.toNat).length:Int),((s.T.filter fun e=>e.peer == p.toNat && e.st == 2).length:Int),(0:Int)) else (0,0,1))=(n,m,k)) (w:World) (h:RN w G B s) :
  Calls Tryz.prog 19 #[.pointer (some ⟨B,0,none⟩),.int .i64 p] w fun e w'=>e=.returned (.tuple #[.int .i64 n,.int .i64 m,.int .i64 k])∧Below w.heap.size w w':=by
 obtain ⟨cs,h⟩:=h
 obtain ⟨v,hT⟩:=h.T
 by_cases hg:Tr.goodP p
 ·rw [if_pos hg] at hk
  obtain ⟨q,rfl,hn,hnn⟩:=Tr.peer_nat hg
  rw [hnn] at hk
  simp only [Prod.mk.injEq] at hk
  obtain ⟨rfl,rfl,rfl⟩:=hk
  exact Tr.refCounts_any (R:=⟨B,ocOf cs⟩) q hn w hT (few160 h.good.T)
 ·rw [if_neg hg] at hk
  simp only [Prod.mk.injEq] at hk
  obtain ⟨rfl,rfl,rfl⟩:=hk
  refine (Tr.refCounts_bad (R:=⟨B,ocOf cs⟩) p hg w).mono ?_
  rintro e w' ⟨rfl,rfl⟩
  exact ⟨rfl,Below.refl _ _⟩
theorem r_next (p:Nat) (hp:p < 8) (w:World) (h:RN w G B s):Calls Tryz.prog 70 #[.pointer (some ⟨B,0,none⟩),.int .i64 p] w fun e w'=>Tr.GaveIds w ((Tr.idsOf s.T p).filter ((Tr.ofL s.salt s.T).isNext p)) e w'∧Below w.heap.size w w':=by
 obtain ⟨cs,h⟩:=h
 obtain ⟨v,hT⟩:=h.T
 rw [← Tr.next_is (salt:=s.salt) h.good.T p]
 exact Tr.refNext_any (R:=⟨B,ocOf cs⟩) p hp w hT h.good.T
theorem pool_few {rs:List Ho.LR} (h:Ho.GoodL 24 (Ho.lOf rs)):rs.length≤24:=by have:=h.len;rw [Ho.lOf_len] at this;exact this
theorem r_add (p:Int) (x:UInt64) (d:DeedD) (a:Option Addr) (cap:Nat) (hc:d.ins.length≤cap) (w:World) (h:RN w G B s) (hi:InsAt w a d.ins) :
  Calls Tryz.prog 131 #[.pointer (some ⟨B,2,none⟩),.int .i64 p,.int .u64 x.toNat,.agg #[.slice a d.ins.length cap,.int .i64 d.outs,.int .i64 d.weight,.int .i64 d.fee]] w
   (TurnsR w G B (.tuple #[.bool (Ho.addC s.P p x d).1.1,.int .i64 (Ho.addC s.P p x d).1.2]) { s with P:=(Ho.addC s.P p x d).2 }):=by
 obtain ⟨cs,h⟩:=h
 obtain ⟨rs,v,hP,hl⟩:=h.P
 have hg:Ho.GoodL 24 (Ho.lOf rs):=hl▸h.good.P
 have hgd:=Ho.addC_good h.good.P p x d
 have hlen:=pool_few hg
 have hstill:∀ (u:Value) (w':World),Below w.heap.size w w'→(Ho.addC s.P p x d).2=s.P→.tuple #[.bool (Ho.addC s.P p x d).1.1,.int .i64 (Ho.addC s.P p x d).1.2]=u→TurnsR w G B (.tuple #[.bool (Ho.addC s.P p x d).1.1,.int .i64 (Ho.addC s.P p x d).1.2]) { s with P:=(Ho.addC s.P p x d).2 } (.returned u) w':=fun u w' hb e1 e2=>⟨by rw [e2],G,by rw [e1];exact RN.kept ⟨cs,h⟩ hb,Gain.of_below hb⟩
 by_cases hp:Ho.goodP p
 ·obtain ⟨n,rfl,hn,hnn⟩:=Ho.peer_nat hp
  by_cases hd:checkD d=0
  ·by_cases ht:∃ l ∈ Ho.lOf rs,l.peer=n∧l.id=x
   ·have e:Ho.addC s.P n x d=((false,6),s.P):=by
     unfold Ho.addC
     rw [if_neg (not_not_intro hp),if_neg (not_not_intro hd),hnn,if_pos (by rw [← hl];exact Ho.any_twice.2 ht)]
    refine (Ho.refAdd_twice (R:=⟨B,ocOf cs⟩) n hn x d hd ht a cap hc w hi hP (by omega)).mono ?_
    rintro e w' ⟨rfl,hb⟩
    exact hstill _ _ hb (by rw [e]) (by rw [e])
   ·have e:Ho.addC s.P n x d=(((Ho.deedOf (Ho.room (Ho.newL s.P n x d)) x).isSome,0),Ho.room (Ho.newL s.P n x d)):=by
     unfold Ho.addC
     rw [if_neg (not_not_intro hp),if_neg (not_not_intro hd),hnn,if_neg (by rw [← hl];exact fun hh=>ht (Ho.any_twice.1 hh))]
    rw [e] at hgd
    rw [e]
    refine (Ho.refAdd_new (R:=⟨B,ocOf cs⟩) n hn x d hd ht a cap hc w hi hP hg).mono ?_
    rw [hl]
    rintro e w' ⟨rfl,G',h1,ht⟩
    exact ⟨rfl,G',h.turnP h1 ht hgd,ht⟩
  ·have e:Ho.addC s.P n x d=((false,checkD d),s.P):=by
    unfold Ho.addC
    rw [if_neg (not_not_intro hp),if_pos hd]
   refine (Ho.refAdd_check (R:=⟨B,ocOf cs⟩) n hn x d _ rfl hd a cap hc w hi).mono ?_
   rintro e w' ⟨rfl,hb⟩
   exact hstill _ _ hb (by rw [e]) (by rw [e])
 ·have e:Ho.addC s.P p x d=((false,1),s.P):=by
   unfold Ho.addC
   rw [if_pos hp]
  refine (Ho.refAdd_arg (R:=⟨B,ocOf cs⟩) p hp x d a cap w).mono ?_
  rintro e w' ⟨rfl,hb⟩
  exact hstill _ _ hb (by rw [e]) (by rw [e])
theorem r_remove (x:UInt64) (r:Bool) (hr:(Ho.deedOf s.P x).isSome=r) (w:World) (h:RN w G B s):Calls Tryz.prog 129 #[.pointer (some ⟨B,2,none⟩),.int .u64 x.toNat] w
  (TurnsR w G B (.bool r) { s with P:=Ho.removeL s.P x }):=by
 obtain ⟨cs,h⟩:=h
 obtain ⟨rs,v,hP,hl⟩:=h.P
 have hlen:=pool_few (hl▸h.good.P)
 have hgd:Ho.GoodL 24 (Ho.removeL s.P x):=h.good.P.sub List.filter_sublist
 refine (Ho.refRemove_is (R:=⟨B,ocOf cs⟩) x r w hP (by omega) (by rw [hl];exact hr)).mono ?_
 rw [hl]
 rintro e w' ⟨rfl,G',h1,ht⟩
 exact ⟨rfl,G',h.turnP h1 ht hgd,ht⟩
theorem r_dropP (p:Nat) (hp:p < 8) (w:World) (h:RN w G B s):Calls Tryz.prog 57 #[.pointer (some ⟨B,2,none⟩),.int .i64 p] w
  (TurnsR w G B (.int .i64 0) { s with P:=Ho.dropL s.P p }):=by
 obtain ⟨cs,h⟩:=h
 obtain ⟨rs,v,hP,hl⟩:=h.P
 have hlen:=pool_few (hl▸h.good.P)
 have hgd:Ho.GoodL 24 (Ho.dropL s.P p):=h.good.P.sub List.filter_sublist
 refine (Ho.refDrop_yes (R:=⟨B,ocOf cs⟩) p hp w hP (by omega)).mono ?_
 rw [hl]
 rintro e w' ⟨rfl,G',h1,ht⟩
 exact ⟨rfl,G',h.turnP h1 ht hgd,ht⟩
theorem r_hasP (x:UInt64) (r:Bool) (hr:(Ho.deedOf s.P x).isSome=r) (w:World) (h:RN w G B s):Calls Tryz.prog 60 #[.pointer (some ⟨B,2,none⟩),.int .u64 x.toNat] w fun e w'=>e=.returned (.bool r)∧Below w.heap.size w w':=by
 obtain ⟨cs,h⟩:=h
 obtain ⟨rs,v,hP,hl⟩:=h.P
 have hlen:=pool_few (hl▸h.good.P)
 exact Ho.refHas_is (R:=⟨B,ocOf cs⟩) x r w hP (by omega) (by rw [hl];exact hr)
theorem r_deedP (x:UInt64) (w:World) (h:RN w G B s):Calls Tryz.prog 123 #[.pointer (some ⟨B,2,none⟩),.int .u64 x.toNat] w (Ho.DeedAns2 w G B (Ho.deedOf s.P x)):=by
 obtain ⟨cs,h⟩:=h
 obtain ⟨rs,v,hP,hl⟩:=h.P
 have hlen:=pool_few (hl▸h.good.P)
 rw [← hl]
 exact Ho.refDeed_any (R:=⟨B,ocOf cs⟩) x w hP (by omega)
theorem r_childP (x:UInt64) (w:World) (h:RN w G B s):Calls Tryz.prog 126 #[.pointer (some ⟨B,2,none⟩),.int .u64 x.toNat] w (GaveIds w (Ho.childL s.P x)):=by
 obtain ⟨cs,h⟩:=h
 obtain ⟨rs,v,hP,hl⟩:=h.P
 have hg:Ho.GoodL 24 (Ho.lOf rs):=hl▸h.good.P
 have hlen:=pool_few hg
 rw [← hl]
 exact Ho.refChildren_any (R:=⟨B,ocOf cs⟩) x w hP (by omega) hg
theorem r_accept (d:DeedD) (a:Option Addr) (cap:Nat) (hl:s.A.length≤2932031007401) (hdc:d.ins.length≤cap) (w:World) (h:RN w G B s) (hi:InsAt w a d.ins) :
  Calls Tryz.prog 174 #[.pointer (some ⟨B,3,none⟩),.agg #[.slice a d.ins.length cap,.int .i64 d.outs,.int .i64 d.weight,.int .i64 d.fee]] w
   (TurnsR w G B (.int .i64 (Ju.acceptL s.A d).1) { s with A:=(Ju.acceptL s.A d).2 }):=by
 obtain ⟨cs,h⟩:=h
 exact (Ju.refAccept_any (R:=⟨B,ocOf cs⟩) d a cap w h.A hl hdc hi _ _ rfl).mono fun e w' ⟨he,G',h1,ht⟩=>⟨he,G',h.turnA h1 ht (Ju.acceptL_good h.good.A d),ht⟩
theorem r_hasW (x:UInt64) (r:Bool) (hr:s.W.has x=r) (w:World) (h:RN w G B s):Calls Tryz.prog 61 #[.pointer (some ⟨B,4,none⟩),.int .u64 x.toNat] w fun e w'=>e=.returned (.bool r)∧w=w':=by
 obtain ⟨cs,h⟩:=h
 exact Ri.ref_has G ⟨B,ocOf cs⟩ s.W x r hr w h.W h.good.W
theorem r_hasQ (x:UInt64) (r:Bool) (hr:s.Q.has x=r) (w:World) (h:RN w G B s):Calls Tryz.prog 61 #[.pointer (some ⟨B,7,none⟩),.int .u64 x.toNat] w fun e w'=>e=.returned (.bool r)∧w=w':=by
 obtain ⟨cs,h⟩:=h
 exact Rq.ref_has G ⟨B,ocOf cs⟩ s.Q x r hr w h.Q h.good.Q
theorem r_putW (x:UInt64) (w:World) (h:RN w G B s):Calls Tryz.prog 127 #[.pointer (some ⟨B,4,none⟩),.int .u64 x.toNat] w (TurnsR w G B (.tuple #[]) { s with W:=s.W.put x }):=by
 obtain ⟨cs,h⟩:=h
 exact (Ri.ref_put G ⟨B,ocOf cs⟩ s.W _ x rfl w h.W h.good.W).mono fun e w' ⟨he,G',h1,ht⟩=>⟨he,G',h.turnW h1 ht (Ri.put_good h.good.W x),ht⟩
theorem r_putQ (x:UInt64) (w:World) (h:RN w G B s):Calls Tryz.prog 127 #[.pointer (some ⟨B,7,none⟩),.int .u64 x.toNat] w (TurnsR w G B (.tuple #[]) { s with Q:=s.Q.put x }):=by
 obtain ⟨cs,h⟩:=h
 exact (Rq.ref_put G ⟨B,ocOf cs⟩ s.Q _ x rfl w h.Q h.good.Q).mono fun e w' ⟨he,G',h1,ht⟩=>⟨he,G',h.turnQ h1 ht (Ri.put_good h.good.Q x),ht⟩
theorem ns_new_good (salt:UInt64):NGood (NS.new salt):=⟨⟨(by decide:(0:Int)≤0),(by decide:(0:Int)≤1099511627776)⟩,Tr.good_nil,Ho.good_none,⟨fun d hd=>by simp [NS.new] at hd,by simp [NS.new]⟩,Ri.none_good (by decide) (by decide),Ri.none_good (by decide) (by decide)⟩
theorem refNode_made (w:World) (salt:UInt64):RN (w.alloc (.cells #[.int .u64 salt.toNat,.slice none 0 0,.slice none 0 0,.slice none 0 0,.int .i64 50,.slice none 0 0,.slice none 0 0,.int .i64 20,.slice none 0 0,.slice none 0 0,.int .i64 0,.int .i64 0,.int .i64 0,.int .i64 0,.int .i64 0,.int .i64 0,.int .i64 0,.int .i64 0,.int .i64 0] 54)) (fun k=>k=w.heap.size) w.heap.size (NS.new salt):=by
 have hb:(w.alloc (.cells #[.int .u64 salt.toNat,.slice none 0 0,.slice none 0 0,.slice none 0 0,.int .i64 50,.slice none 0 0,.slice none 0 0,.int .i64 20,.slice none 0 0,.slice none 0 0,.int .i64 0,.int .i64 0,.int .i64 0,.int .i64 0,.int .i64 0,.int .i64 0,.int .i64 0,.int .i64 0,.int .i64 0] 54)).heap[w.heap.size]?=_:=heap_alloc_new w _
 have ht:There (w.alloc (.cells #[.int .u64 salt.toNat,.slice none 0 0,.slice none 0 0,.slice none 0 0,.int .i64 50,.slice none 0 0,.slice none 0 0,.int .i64 20,.slice none 0 0,.slice none 0 0,.int .i64 0,.int .i64 0,.int .i64 0,.int .i64 0,.int .i64 0,.int .i64 0,.int .i64 0,.int .i64 0,.int .i64 0] 54)) (fun k=>k=w.heap.size):=fun k hk=>by rw [hk];simp
 refine ⟨_,hb,rfl,⟨.slice none 0 0,{ head:=hb,row:=World.ownsRow_nil _ _ _ _,none:=fun _=>rfl,gB:=rfl,gv:=fun k hk=>by simp [Value.ownBlock] at hk,there:=ht }⟩,⟨[],.slice none 0 0,{ head:=hb,row:=World.ownsRow_nil _ _ _ _,ins:=fun e he=>(List.not_mem_nil he).elim,gB:=rfl,gv:=fun k hk=>by simp [Value.ownBlock] at hk,there:=ht },rfl⟩,⟨none,0,[],hb,rfl,⟨fun i hi=>absurd hi (by simp),fun q hq=>(List.not_mem_nil hq).elim,fun q hq=>(List.not_mem_nil hq).elim⟩,⟨rfl,ht⟩,fun bb o hne=>absurd rfl hne,fun q hq=>(List.not_mem_nil hq).elim⟩,⟨_,_,hb,.inl ⟨rfl,rfl⟩,.inl ⟨rfl,rfl⟩,rfl,ht⟩,⟨_,_,hb,.inl ⟨rfl,rfl⟩,.inl ⟨rfl,rfl⟩,rfl,ht⟩,fun p hp=>?_,rfl,ns_new_good salt,rfl,ht⟩
 match p,hp with
 | 0,_=>rfl
 | 1,_=>rfl
 | 2,_=>rfl
 | 3,_=>rfl
 | 4,_=>rfl
 | 5,_=>rfl
 | 6,_=>rfl
 | 7,_=>rfl
end Go.Proofs.YtlboemhbealnmaaGreat
set_option maxRecDepth 20000
namespace Go.Proofs.YtlboemhbealnmaaGreat
open Go.RowKit Go.Maps
variable {w w':World} {G G':Nat→Prop} {B:Nat} {s:NS}
set_option maxRecDepth 20000 in
theorem rnew_any (salt:UInt64) (w:World):Calls Tryz.prog 7 #[.int .u64 salt.toNat] w fun e w'=>∃ B,e=.returned (.pointer (some ⟨B,0,none⟩))∧RN w' (fun k=>k=B) B (NS.new salt)∧B=w.heap.size∧Below w.heap.size w w':=by
 have HM:=Lib.hid (refNode_made w salt)
 have HK:=Lib.hid (kept_new w (.cells #[.int .u64 salt.toNat,.slice none 0 0,.slice none 0 0,.slice none 0 0,.int .i64 50,.slice none 0 0,.slice none 0 0,.int .i64 20,.slice none 0 0,.slice none 0 0,.int .i64 0,.int .i64 0,.int .i64 0,.int .i64 0,.int .i64 0,.int .i64 0,.int .i64 0,.int .i64 0,.int .i64 0] 54))
 go_enter Tryz.func7,Tryz.ntmps7
 go_wp2_with fail
 go_ret
 exact ⟨_,rfl,HM.out,rfl,HK.out⟩
theorem stand_zero (b:Bool × Bool):(stand b == 0)=!b.1:=by
 obtain ⟨x,y⟩:=b
 cases x <;> cases y <;> rfl
theorem stand_pos (b:Bool × Bool):decide (stand b > 0)=b.1:=by
 obtain ⟨x,y⟩:=b
 cases x <;> cases y <;> rfl
theorem stand_two {b:Bool × Bool} (h:b.1=true):(stand b == 2)=b.2:=by
 obtain ⟨x,y⟩:=b
 cases x
 ·cases h
 ·cases y <;> rfl
set_option maxRecDepth 20000 in
theorem rthere_any (p r:Int) (hr:s.thereE p=r) (w:World) (h:RN w G B s):Calls Tryz.prog 55 #[.pointer (some ⟨B,0,none⟩),.int .i64 p] w fun e w'=>e=.returned (.int .i64 r)∧w=w':=by
 unfold NS.thereE at hr
 by_cases hp:0≤p∧p < 8
 ·rw [if_pos hp] at hr
  obtain ⟨n,rfl⟩:∃ n:Nat,p=n:=⟨p.toNat,by omega⟩
  have hn:n < 8:=by omega
  have hn8:(n:Int) < 8:=by omega
  rw [show (n:Int).toNat=n from rfl] at hr
  obtain ⟨p0,_⟩:=h.peerc n hn
  have l0:=h.lt
  obtain ⟨t,ht⟩:∃ t,stand (s.peers n)=t:=⟨_,rfl⟩
  have hz:=stand_zero (s.peers n)
  rw [ht] at p0 hz
  clear h hp ht
  cases hb:(s.peers n).1 with
  | true=>
   rw [hb] at hr hz
   simp only [if_true] at hr
   subst hr
   clear hb
   have hz':(t == 0)=false:=hz
   clear hz
   go_enter Tryz.func55,Tryz.ntmps55
   go_wp2_with fail
   with_reducible refine (Tr.badPeer_no n hn _).mono ?_
   rintro e w1 ⟨rfl,rfl⟩
   go_wp2_with fail
   go_ret
   exact ⟨rfl,rfl⟩
  | false=>
   rw [hb] at hr hz
   simp only [Bool.false_eq_true,if_false] at hr
   subst hr
   clear hb
   have hz':(t == 0)=true:=hz
   clear hz
   go_enter Tryz.func55,Tryz.ntmps55
   go_wp2_with fail
   with_reducible refine (Tr.badPeer_no n hn _).mono ?_
   rintro e w1 ⟨rfl,rfl⟩
   go_wp2_with fail
   go_ret
   exact ⟨rfl,rfl⟩
 ·rw [if_neg hp] at hr
  subst hr
  have HP:Hid (¬ Tr.goodP p):=Lib.hid hp
  clear h hp
  go_enter Tryz.func55,Tryz.ntmps55
  go_wp2_with fail
  with_reducible refine (Tr.badPeer_yes p HP.out _).mono ?_
  rintro e w1 ⟨rfl,rfl⟩
  go_wp2_with fail
  go_ret
  exact ⟨rfl,rfl⟩
theorem setPeer_twice (s:NS) (p:Nat) (a b:Bool × Bool):(s.setPeer p a).setPeer p b=s.setPeer p b:=by
 unfold NS.setPeer
 congr 1
 funext q
 by_cases h:q=p
 ·rw [if_pos h,if_pos h]
 ·rw [if_neg h,if_neg h]
  exact if_neg h
set_option maxRecDepth 20000 in
theorem rjoin_any (p:Int) (f:Bool) (q:NS × Int) (hq:s.join p f=q) (w:World) (h:RN w G B s):Calls Tryz.prog 30 #[.pointer (some ⟨B,0,none⟩),.int .i64 p,.bool f] w (TurnsR w G B (.int .i64 q.2) q.1):=by
 subst hq
 unfold NS.join
 have H:=Lib.hid h
 by_cases hp:0≤p∧p < 8
 ·rw [if_neg (not_not_intro hp)]
  obtain ⟨n,rfl⟩:∃ n:Nat,p=n:=⟨p.toNat,by omega⟩
  have hn:n < 8:=by omega
  have hn8:(n:Int) < 8:=by omega
  rw [Int.toNat_natCast]
  obtain ⟨p0,f0⟩:=h.peerc n hn
  have l0:=h.lt
  obtain ⟨t,ht⟩:∃ t,stand (s.peers n)=t:=⟨_,rfl⟩
  have hz:=stand_pos (s.peers n)
  rw [ht] at p0 hz
  clear ht
  cases hb:(s.peers n).1 with
  | true=>
   rw [if_pos rfl]
   rw [hb] at hz
   have hz':t > 0:=of_decide_eq_true hz
   clear h hb hp hz
   go_enter Tryz.func30,Tryz.ntmps30
   go_wp2_with fail
   with_reducible refine (Tr.badPeer_no n hn _).mono ?_
   rintro e w1 ⟨rfl,rfl⟩
   go_wp2_with fail
   go_ret
   exact ⟨rfl,G,H.out,Gain.refl _ _⟩
  | false=>
   rw [if_neg (by decide)]
   rw [hb] at hz
   have hz':¬ t > 0:=of_decide_eq_false hz
   obtain ⟨h1,t1⟩:=h.setPeer n hn (true,false)
   obtain ⟨h2,t2⟩:=h1.setPeer n hn (true,true)
   obtain ⟨_,f1⟩:=h1.peerc n hn
   have l1:=h1.lt
   have HS1:=Lib.hid (And.intro h1 t1)
   have HS2:=Lib.hid (And.intro h2 (t1.trans t2))
   clear h hb hp hz h1 t1 h2 t2
   cases f with
   | true=>
    go_enter Tryz.func30,Tryz.ntmps30
    go_wp2_with fail
    with_reducible refine (Tr.badPeer_no n hn _).mono ?_
    rintro e w1 ⟨rfl,rfl⟩
    go_wp2_with fail
    go_ret
    refine ⟨rfl,G,?_,HS2.out.2⟩
    have h2:RN _ G B ((s.setPeer n (true,false)).setPeer n (true,true)):=HS2.out.1
    rw [setPeer_twice] at h2
    exact h2
   | false=>
    go_enter Tryz.func30,Tryz.ntmps30
    go_wp2_with fail
    with_reducible refine (Tr.badPeer_no n hn _).mono ?_
    rintro e w1 ⟨rfl,rfl⟩
    go_wp2_with fail
    go_ret
    exact ⟨rfl,G,HS1.out.1,HS1.out.2⟩
 ·rw [if_pos hp]
  have HP:Hid (¬ Tr.goodP p):=Lib.hid hp
  clear h hp
  go_enter Tryz.func30,Tryz.ntmps30
  go_wp2_with fail
  with_reducible refine (Tr.badPeer_yes p HP.out _).mono ?_
  rintro e w1 ⟨rfl,rfl⟩
  go_wp2_with fail
  go_ret
  exact ⟨rfl,G,H.out,Gain.refl _ _⟩
set_option maxRecDepth 20000 in
theorem rleave_any (p:Int) (q:NS × Int) (hq:s.leave p=q) (w:World) (h:RN w G B s):Calls Tryz.prog 31 #[.pointer (some ⟨B,0,none⟩),.int .i64 p] w (TurnsR w G B (.int .i64 q.2) q.1):=by
 subst hq
 unfold NS.leave
 have H:=Lib.hid h
 by_cases ht:s.thereE p=0
 ·rw [if_neg (not_not_intro ht)]
  have HT:=Lib.hid ht
  obtain ⟨n,rfl,hn,_⟩:=there_zero ht
  have hn8:(n:Int) < 8:=by omega
  rw [Int.toNat_natCast]
  obtain ⟨p0,f0⟩:=h.peerc n hn
  obtain ⟨hs,ts⟩:=h.setPeer n hn (false,false)
  have l1:=hs.lt
  have HS:Hid (RN (w.setCell ⟨B,10+n,none⟩ (.int .i64 0)) G B (s.setPeer n (false,false))):=Lib.hid hs
  have TS:Hid (Gain B G G w (w.setCell ⟨B,10+n,none⟩ (.int .i64 0))):=Lib.hid ts
  have l0:=h.lt
  clear h hs ts ht
  go_enter Tryz.func31,Tryz.ntmps31
  go_wp2_with fail
  with_reducible refine (rthere_any n 0 HT.out _ H.out).mono ?_
  rintro e w1 ⟨rfl,rfl⟩
  go_wp2_with fail
  generalize w.setCell ⟨B,10+n,none⟩ (.int .i64 0)=w2 at HS TS l1 ⊢
  with_reducible refine (r_dropT n hn _ HS.out).mono ?_
  rintro e w3 ⟨rfl,G3,h3,t3⟩
  have H3:=Lib.hid h3
  have T3:=Lib.hid (TS.out.trans t3)
  have l3:=h3.lt
  clear h3 t3
  go_wp2_with fail
  with_reducible refine (r_dropP n hn _ H3.out).mono ?_
  rintro e w4 ⟨rfl,G4,h4,t4⟩
  have H4:=Lib.hid h4
  have T4:=Lib.hid (T3.out.trans t4)
  clear h4 t4
  go_wp2_with fail
  go_ret
  exact ⟨rfl,G4,H4.out,T4.out⟩
 ·rw [if_pos ht]
  obtain ⟨r,hr⟩:∃ r,s.thereE p=r:=⟨_,rfl⟩
  rw [hr] at ht ⊢
  have HR:=Lib.hid hr
  have hrb:(r != 0)=true:=by simpa using ht
  clear h ht hr
  go_enter Tryz.func31,Tryz.ntmps31
  go_wp2_with fail
  with_reducible refine (rthere_any p r HR.out _ H.out).mono ?_
  rintro e w1 ⟨rfl,rfl⟩
  go_wp2_with fail
  go_ret
  exact ⟨rfl,G,H.out,Gain.refl _ _⟩
set_option maxRecDepth 20000 in
theorem raccept_any (x:UInt64) (d:DeedD) (a:Option Addr) (cap:Nat) (hl:s.A.length≤2932031007401) (hdc:d.ins.length≤cap) (w:World) (h:RN w G B s) (hi:InsAt w a d.ins) :
  Calls Tryz.prog 125 #[.pointer (some ⟨B,0,none⟩),.int .u64 x.toNat,.agg #[.slice a d.ins.length cap,.int .i64 d.outs,.int .i64 d.weight,.int .i64 d.fee]] w (TurnsR w G B (.tuple #[]) (s.accept x d)):=by
 obtain ⟨wd,hwd⟩:∃ wd,(w.alloc (.cells #[.slice a d.ins.length cap,.int .i64 d.outs,.int .i64 d.weight,.int .i64 d.fee] 94)).drew=wd:=⟨_,rfl⟩
 have hbd:Below w.heap.size w wd:=hwd▸(kept_new _ _).drew
 have h1:=h.kept hbd
 have l0:=h1.lt
 have b0:wd.cell? ⟨w.heap.size,0,none⟩=some (.slice a d.ins.length cap):=by rw [← hwd];show (w.alloc _).cell? _=_;simp [go_sem]
 have b1:wd.cell? ⟨w.heap.size,1,none⟩=some (.int .i64 d.outs):=by rw [← hwd];show (w.alloc _).cell? _=_;simp [go_sem]
 have b2:wd.cell? ⟨w.heap.size,2,none⟩=some (.int .i64 d.weight):=by rw [← hwd];show (w.alloc _).cell? _=_;simp [go_sem]
 have b3:wd.cell? ⟨w.heap.size,3,none⟩=some (.int .i64 d.fee):=by rw [← hwd];show (w.alloc _).cell? _=_;simp [go_sem]
 have hs1:=(cell_spot b0).2
 have H1:=Lib.hid h1
 have HT:Hid (Gain B G G w wd):=Lib.hid (Gain.of_below hbd)
 have HI:=Lib.hid (insAt_kept hbd hi)
 have HWD:=Lib.hid hwd
 clear h h1 hi hwd hbd
 go_enter Tryz.func125,Tryz.ntmps125
 go_wp2_with fail
 refine region_tail 4 (by kernel_rfl) (by kernel_rfl) HWD.out ?_
 simp only [List.take_succ_cons,List.take_zero,List.drop_succ_cons,List.drop_zero]
 repeat still_step
 refine wpStill_nil ?_
 go_wp2_with fail
 with_reducible refine (r_accept d a cap hl hdc _ H1.out HI.out).mono ?_
 rintro e w2 ⟨rfl,G2,h2,t2⟩
 have H2:=Lib.hid h2
 have T2:=Lib.hid (HT.out.trans t2)
 have l2:=h2.lt
 clear h2 t2
 go_wp2_with fail
 with_reducible refine (r_forget x _ H2.out).mono ?_
 rintro e w3 ⟨rfl,G3,h3,t3⟩
 have H3:=Lib.hid h3
 have T3:=Lib.hid (T2.out.trans t3)
 have l3:=h3.lt
 clear h3 t3
 go_wp2_with fail
 with_reducible refine (r_remove x _ rfl _ H3.out).mono ?_
 rintro e w4 ⟨rfl,G4,h4,t4⟩
 go_wp2_with fail
 go_end0
 exact ⟨rfl,G4,h4,T3.out.trans t4⟩
end Go.Proofs.YtlboemhbealnmaaGreat
