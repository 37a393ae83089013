import Derived.Test.YtlboemhbealnmaaGreatP24
import Derived.Test.YtlboemhbealnmaaGreatP4
import Derived.Test.YtlboemhbealnmaaGreatP1
import Derived.ArgAppend
import Derived.StillTailTactics
import Derived.Deep.RegionLaw
import Derived.BigQuiet
set_option maxRecDepth 20000
namespace Go.Proofs.YtlboemhbealnmaaGreat
open Go.RowKit Go.Maps
variable {w w':World} {F F':Nat→Prop} {R:Nat} {s:NS}
def TurnsN (w:World) (F:Nat→Prop) (R:Nat) (v:Value) (s':NS) (e:Ending) (w':World):Prop:=e=.returned v∧∃ F',NodeAt w' F' R s'∧Turn F F' w w'
theorem cells_at {cs:Array Value} (h:Cells w R cs) {i:Nat} {u:Value} (hi:cs[i]?=some u):w.cell? ⟨R,i,none⟩=some u∧w.frozen? ⟨R,i,none⟩=false:=
 ⟨(head_cell h i).trans hi,frozen_of_row w R i _ _ h⟩
theorem NodeAt.nowc (h:NodeAt w F R s):w.cell? ⟨R,16,none⟩=some (.int .i64 s.now)∧w.frozen? ⟨R,16,none⟩=false:=by
 obtain ⟨_,_,_,_,_,_,_,_,h⟩:=h
 exact cells_at h.head h.now
theorem NodeAt.peerc (h:NodeAt w F R s) (p:Nat) (hp:p < 8):(w.cell? ⟨R,2 * p,none⟩=some (.bool (s.peers p).1)∧w.frozen? ⟨R,2 * p,none⟩=false)∧(w.cell? ⟨R,2 * p+1,none⟩=some (.bool (s.peers p).2)∧w.frozen? ⟨R,2 * p+1,none⟩=false):=by
 obtain ⟨_,_,_,_,_,_,_,_,h⟩:=h
 exact ⟨cells_at h.head (h.peers p hp).1,cells_at h.head (h.peers p hp).2⟩
theorem NodeAt.rings (h:NodeAt w F R s):∃ a z,w.cell? ⟨R,32,none⟩=some (.pointer (some ⟨a,0,none⟩))∧w.cell? ⟨R,33,none⟩=some (.pointer (some ⟨z,0,none⟩)):=by
 obtain ⟨_,_,_,_,_,_,a,z,h⟩:=h
 exact ⟨a,z,(cells_at h.head h.cW).1,(cells_at h.head h.cQ).1⟩
theorem NodeAt.lt (h:NodeAt w F R s):R < w.heap.size:=h.there R h.block
theorem n_answer (p:Int) (x:UInt64) (w:World) (h:NodeAt w F R s):Calls Tryz.prog 48 #[.pointer (some ⟨R,17,none⟩),.int .i64 p,.int .u64 x.toNat] w
  (TurnsN w F R (.int .i64 (Tr.answerC s.T p x).1) { s with T:=(Tr.answerC s.T p x).2 }):=by
 obtain ⟨cs,FT,FH,FJ,FW,FQ,a,z,h⟩:=h
 exact (Tr.tl_answer FT ⟨R,ocOf cs⟩ s.salt s.T w h.T p x).mono fun e w' ⟨he,FT',h1,h2⟩=>⟨he,h.turnT h1 h2⟩
theorem n_forget (x:UInt64) (w:World) (h:NodeAt w F R s):Calls Tryz.prog 139 #[.pointer (some ⟨R,17,none⟩),.int .u64 x.toNat] w
  (TurnsN w F R (.tuple #[]) { s with T:=Tr.forgetL s.T x }):=by
 obtain ⟨cs,FT,FH,FJ,FW,FQ,a,z,h⟩:=h
 exact (Tr.tl_forget FT ⟨R,ocOf cs⟩ s.salt s.T w h.T x).mono fun e w' ⟨he,FT',h1,h2⟩=>⟨he,h.turnT h1 h2⟩
theorem n_announce (p:Int) (x:UInt64) (t:Int) (f:Bool) (w:World) (h:NodeAt w F R s):Calls Tryz.prog 92 #[.pointer (some ⟨R,17,none⟩),.int .i64 p,.int .u64 x.toNat,.int .i64 t,.bool f] w
  (TurnsN w F R (.int .i64 (Tr.annC s.T p x t f).1) { s with T:=(Tr.annC s.T p x t f).2 }):=by
 obtain ⟨cs,FT,FH,FJ,FW,FQ,a,z,h⟩:=h
 exact (Tr.tl_announce FT ⟨R,ocOf cs⟩ s.salt s.T w h.T p x t f).mono fun e w' ⟨he,FT',h1,h2⟩=>⟨he,h.turnT h1 h2⟩
theorem n_ask (p:Int) (x:UInt64) (t:Int) (w:World) (h:NodeAt w F R s):Calls Tryz.prog 108 #[.pointer (some ⟨R,17,none⟩),.int .i64 p,.int .u64 x.toNat,.int .i64 t] w
  (TurnsN w F R (.int .i64 (Tr.askC s.T p x t).1) { s with T:=(Tr.askC s.T p x t).2 }):=by
 obtain ⟨cs,FT,FH,FJ,FW,FQ,a,z,h⟩:=h
 exact (Tr.tl_ask FT ⟨R,ocOf cs⟩ s.salt s.T w h.T p x t).mono fun e w' ⟨he,FT',h1,h2⟩=>⟨he,h.turnT h1 h2⟩
theorem n_due (now:Int) (w:World) (h:NodeAt w F R s):Calls Tryz.prog 52 #[.pointer (some ⟨R,17,none⟩),.int .i64 now] w
  (TurnsN w F R (.tuple #[]) { s with T:=Tr.dueL now s.T }):=by
 obtain ⟨cs,FT,FH,FJ,FW,FQ,a,z,h⟩:=h
 exact (Tr.tl_due FT ⟨R,ocOf cs⟩ s.salt s.T w h.T now).mono fun e w' ⟨he,FT',h1,h2⟩=>⟨he,h.turnT h1 h2⟩
theorem n_dropT (p:Int) (w:World) (h:NodeAt w F R s):Calls Tryz.prog 44 #[.pointer (some ⟨R,17,none⟩),.int .i64 p] w
  (TurnsN w F R (.int .i64 (Tr.dropC s.T p).1) { s with T:=(Tr.dropC s.T p).2 }):=by
 obtain ⟨cs,FT,FH,FJ,FW,FQ,a,z,h⟩:=h
 exact (Tr.tl_drop FT ⟨R,ocOf cs⟩ s.salt s.T w h.T p).mono fun e w' ⟨he,FT',h1,h2⟩=>⟨he,h.turnT h1 h2⟩
theorem n_counts (p n m k:Int) (hk:(if Tr.goodP p then (((s.T.filter fun e=>e.peer == p.toNat).length:Int),((s.T.filter fun e=>e.peer == p.toNat && e.st == 2).length:Int),(0:Int)) else (0,0,1))=(n,m,k)) (w:World) (h:NodeAt w F R s) :
  Calls Tryz.prog 39 #[.pointer (some ⟨R,17,none⟩),.int .i64 p] w fun e w'=>e=.returned (.tuple #[.int .i64 n,.int .i64 m,.int .i64 k])∧Below w.heap.size w w':=by
 obtain ⟨cs,FT,FH,FJ,FW,FQ,a,z,h⟩:=h
 exact Tr.tl_counts FT ⟨R,ocOf cs⟩ s.salt s.T w h.T p n m k hk
theorem n_next (p:Nat) (hp:p < 8) (w:World) (h:NodeAt w F R s):Calls Tryz.prog 107 #[.pointer (some ⟨R,17,none⟩),.int .i64 p] w fun e w'=>Tr.GaveIds w ((Tr.idsOf s.T p).filter ((Tr.ofL s.salt s.T).isNext p)) e w'∧Below w.heap.size w w':=by
 obtain ⟨cs,FT,FH,FJ,FW,FQ,a,z,h⟩:=h
 exact Tr.tl_next FT ⟨R,ocOf cs⟩ s.salt s.T w h.T p hp
theorem n_add (p:Int) (x:UInt64) (d:DeedD) (a:Option Addr) (cap:Nat) (w:World) (h:NodeAt w F R s) (hi:InsAt w a d.ins) (hout:∀ bb o,d.ins≠[]→a=some ⟨bb,o,none⟩→¬ F bb) :
  Calls Tryz.prog 168 #[.pointer (some ⟨R,27,none⟩),.int .i64 p,.int .u64 x.toNat,.agg #[.slice a d.ins.length cap,.int .i64 d.outs,.int .i64 d.weight,.int .i64 d.fee]] w
   (TurnsN w F R (.tuple #[.bool (Ho.addC s.P p x d).1.1,.int .i64 (Ho.addC s.P p x d).1.2]) { s with P:=(Ho.addC s.P p x d).2 }):=by
 obtain ⟨cs,FT,FH,FJ,FW,FQ,_,_,h⟩:=h
 exact (Ho.hl_add (R:=⟨R,ocOf cs⟩) p x d a cap w h.P hi (fun bb o hne e hf=>hout bb o hne e ((h.all bb).2 (.inr (.inl hf))))).mono fun e w' ⟨he,FT',h1,h2⟩=>⟨he,h.turnP h1 h2⟩
theorem n_remove (x:UInt64) (w:World) (h:NodeAt w F R s):Calls Tryz.prog 193 #[.pointer (some ⟨R,27,none⟩),.int .u64 x.toNat] w
  (TurnsN w F R (.bool (Ho.deedOf s.P x).isSome) { s with P:=Ho.removeL s.P x }):=by
 obtain ⟨cs,FT,FH,FJ,FW,FQ,a,z,h⟩:=h
 exact (Ho.hl_remove (R:=⟨R,ocOf cs⟩) x w h.P).mono fun e w' ⟨he,FT',h1,h2⟩=>⟨he,h.turnP h1 h2⟩
theorem n_dropP (p:Nat) (hp:p < 8) (w:World) (h:NodeAt w F R s):Calls Tryz.prog 45 #[.pointer (some ⟨R,27,none⟩),.int .i64 p] w
  (TurnsN w F R (.int .i64 0) { s with P:=Ho.dropL s.P p }):=by
 obtain ⟨cs,FT,FH,FJ,FW,FQ,a,z,h⟩:=h
 exact (Ho.hl_drop (R:=⟨R,ocOf cs⟩) p hp w h.P).mono fun e w' ⟨he,FT',h1,h2⟩=>⟨he,h.turnP h1 h2⟩
theorem n_hasP (x:UInt64) (r:Bool) (hr:(Ho.deedOf s.P x).isSome=r) (w:World) (h:NodeAt w F R s):Calls Tryz.prog 149 #[.pointer (some ⟨R,27,none⟩),.int .u64 x.toNat] w fun e w'=>e=.returned (.bool r)∧Below w.heap.size w w':=by
 obtain ⟨cs,FT,FH,FJ,FW,FQ,a,z,h⟩:=h
 exact Ho.hl_has (R:=⟨R,ocOf cs⟩) x w h.P r hr
theorem n_deedP (x:UInt64) (w:World) (h:NodeAt w F R s):Calls Tryz.prog 169 #[.pointer (some ⟨R,27,none⟩),.int .u64 x.toNat] w (Ho.DeedAnsF w (Ho.deedOf s.P x)):=by
 obtain ⟨cs,FT,FH,FJ,FW,FQ,a,z,h⟩:=h
 exact Ho.hl_deed (R:=⟨R,ocOf cs⟩) x w h.P
theorem n_childP (x:UInt64) (w:World) (h:NodeAt w F R s):Calls Tryz.prog 191 #[.pointer (some ⟨R,27,none⟩),.int .u64 x.toNat] w (GaveIds w (Ho.childL s.P x)):=by
 obtain ⟨cs,FT,FH,FJ,FW,FQ,a,z,h⟩:=h
 exact Ho.hl_children (R:=⟨R,ocOf cs⟩) x w h.P
theorem n_accept (d:DeedD) (a:Option Addr) (cap:Nat) (hl:s.A.length≤5000000000000) (w:World) (h:NodeAt w F R s) (hi:InsAt w a d.ins) (hout:∀ bb o,d.ins≠[]→a=some ⟨bb,o,none⟩→¬ F bb) :
  Calls Tryz.prog 190 #[.pointer (some ⟨R,29,none⟩),.agg #[.slice a d.ins.length cap,.int .i64 d.outs,.int .i64 d.weight,.int .i64 d.fee]] w
   (TurnsN w F R (.int .i64 (Ju.acceptL s.A d).1) { s with A:=(Ju.acceptL s.A d).2 }):=by
 obtain ⟨cs,FT,FH,FJ,FW,FQ,_,_,h⟩:=h
 exact (Ju.acceptL_any (R:=⟨R,ocOf cs⟩) d a cap hl w h.A hi (fun bb o hne e hf=>hout bb o hne e ((h.all bb).2 (.inr (.inr (.inl hf))))) _ _ rfl).mono fun e w' ⟨he,FT',h1,h2⟩=>⟨he,h.turnA h1 (Ju.acceptL_good h.good.A d) h2⟩
theorem n_judge (d:DeedD) (a:Option Addr) (cap:Nat) (w:World) (h:NodeAt w F R s) (hi:InsAt w a d.ins) (q:Int × List UInt64 × Int) (hq:Ju.judgeL s.A d=q) :
  Calls Tryz.prog 162 #[.pointer (some ⟨R,29,none⟩),.agg #[.slice a d.ins.length cap,.int .i64 d.outs,.int .i64 d.weight,.int .i64 d.fee]] w (Ju.GaveJ w q):=by
 obtain ⟨cs,FT,FH,FJ,FW,FQ,_,_,h⟩:=h
 exact hq▸Ju.judgeL_any (R:=⟨R,ocOf cs⟩) d a cap w h.A hi
theorem n_pair (p c:DeedD) (pa ca:Option Addr) (pc cc:Nat) (w:World) (h:NodeAt w F R s) (hpi:InsAt w pa p.ins) (hci:InsAt w ca c.ins) (k r:Int) (hr:Ju.pairL s.A p c=(k,r)) :
  Calls Tryz.prog 194 #[.pointer (some ⟨R,29,none⟩),.agg #[.slice pa p.ins.length pc,.int .i64 p.outs,.int .i64 p.weight,.int .i64 p.fee],.agg #[.slice ca c.ins.length cc,.int .i64 c.outs,.int .i64 c.weight,.int .i64 c.fee]] w fun e w'=>e=.returned (.tuple #[.int .i64 k,.int .i64 r])∧Below w.heap.size w w':=by
 obtain ⟨cs,FT,FH,FJ,FW,FQ,_,_,h⟩:=h
 exact Ju.pairL_any (R:=⟨R,ocOf cs⟩) p c pa ca pc cc w h.A hpi hci k r hr
theorem n_hasA (x:UInt64) (r:Bool) (hr:(Ju.findL s.A x).isSome=r) (w:World) (h:NodeAt w F R s):Calls Tryz.prog 100 #[.pointer (some ⟨R,29,none⟩),.int .u64 x.toNat] w fun e w'=>e=.returned (.bool r)∧Below w.heap.size w w':=by
 obtain ⟨cs,FT,FH,FJ,FW,FQ,a,z,h⟩:=h
 exact Ju.hasL_any (R:=⟨R,ocOf cs⟩) x w h.A r hr
theorem n_deedA (x:UInt64) (w:World) (h:NodeAt w F R s):Calls Tryz.prog 94 #[.pointer (some ⟨R,29,none⟩),.int .u64 x.toNat] w (DeedAns w (Ju.findL s.A x)):=by
 obtain ⟨cs,FT,FH,FJ,FW,FQ,a,z,h⟩:=h
 exact Ju.deedL_any (R:=⟨R,ocOf cs⟩) x w h.A
theorem n_allA (hl:s.A.length≤10000000000000) (w:World) (h:NodeAt w F R s):Calls Tryz.prog 34 #[.pointer (some ⟨R,29,none⟩)] w (GaveIds w (s.A.map Ju.idD)):=by
 obtain ⟨cs,FT,FH,FJ,FW,FQ,a,z,h⟩:=h
 exact Ju.allL_any (R:=⟨R,ocOf cs⟩) w h.A hl
theorem n_hasW {a:Nat} (x:UInt64) (r:Bool) (hr:s.W.has x=r) (w:World) (h:NodeAt w F R s) (ha:w.cell? ⟨R,32,none⟩=some (.pointer (some ⟨a,0,none⟩))):Calls Tryz.prog 101 #[.pointer (some ⟨a,0,none⟩),.int .u64 x.toNat] w fun e w'=>e=.returned (.bool r)∧w=w':=by
 obtain ⟨cs,FT,FH,FJ,FW,FQ,a',z,h⟩:=h
 have e:=(cells_at h.head h.cW).1.symm.trans ha
 simp only [Option.some.injEq,Value.pointer.injEq,Addr.mk.injEq,and_true] at e
 subst e
 exact Ri.ring_has FW a' s.W x r hr w h.W
theorem n_hasQ {a:Nat} (x:UInt64) (r:Bool) (hr:s.Q.has x=r) (w:World) (h:NodeAt w F R s) (ha:w.cell? ⟨R,33,none⟩=some (.pointer (some ⟨a,0,none⟩))):Calls Tryz.prog 101 #[.pointer (some ⟨a,0,none⟩),.int .u64 x.toNat] w fun e w'=>e=.returned (.bool r)∧w=w':=by
 obtain ⟨cs,FT,FH,FJ,FW,FQ,a',z,h⟩:=h
 have e:=(cells_at h.head h.cQ).1.symm.trans ha
 simp only [Option.some.injEq,Value.pointer.injEq,Addr.mk.injEq,and_true] at e
 subst e
 exact Ri.ring_has FQ z s.Q x r hr w h.Q
theorem n_putW {a:Nat} (x:UInt64) (w:World) (h:NodeAt w F R s) (ha:w.cell? ⟨R,32,none⟩=some (.pointer (some ⟨a,0,none⟩))):Calls Tryz.prog 165 #[.pointer (some ⟨a,0,none⟩),.int .u64 x.toNat] w (TurnsN w F R (.tuple #[]) { s with W:=s.W.put x }):=by
 obtain ⟨cs,FT,FH,FJ,FW,FQ,a',z,h⟩:=h
 have e:=(cells_at h.head h.cW).1.symm.trans ha
 simp only [Option.some.injEq,Value.pointer.injEq,Addr.mk.injEq,and_true] at e
 subst e
 exact (Ri.ring_put FW a' s.W x w h.W h.good.W).mono fun e w' ⟨he,FT',h1,h2⟩=>⟨he,h.turnW h1 (Ri.put_good h.good.W x) h2⟩
theorem n_putQ {a:Nat} (x:UInt64) (w:World) (h:NodeAt w F R s) (ha:w.cell? ⟨R,33,none⟩=some (.pointer (some ⟨a,0,none⟩))):Calls Tryz.prog 165 #[.pointer (some ⟨a,0,none⟩),.int .u64 x.toNat] w (TurnsN w F R (.tuple #[]) { s with Q:=s.Q.put x }):=by
 obtain ⟨cs,FT,FH,FJ,FW,FQ,a',z,h⟩:=h
 have e:=(cells_at h.head h.cQ).1.symm.trans ha
 simp only [Option.some.injEq,Value.pointer.injEq,Addr.mk.injEq,and_true] at e
 subst e
 exact (Ri.ring_put FQ z s.Q x w h.Q h.good.Q).mono fun e w' ⟨he,FT',h1,h2⟩=>⟨he,h.turnQ h1 (Ri.put_good h.good.Q x) h2⟩
end Go.Proofs.YtlboemhbealnmaaGreat
namespace Go.Proofs.YtlboemhbealnmaaGreat
open Go.RowKit
def QueueAt (w:World) (v:Value) (q:List UInt64):Prop:=(v=.slice none 0 0∧q=[])∨∃ g o cap,v=.slice (some ⟨g,o,none⟩) q.length cap∧q.length≤cap∧g < w.heap.size ∧
 (∀ j,j < cap→(w.cell? ⟨g,o+j,none⟩).isSome=true∧w.frozen? ⟨g,o+j,none⟩=false)∧∀ j (h:j < q.length),w.cell? ⟨g,o+j,none⟩=some (.int .u64 q[j].toNat)
variable {w w':World} {v:Value} {q:List UInt64}
theorem QueueAt.lt (h:QueueAt w v q):∀ g,v.ownBlock=some g→g < w.heap.size:=fun g hg=>by
 rcases h with ⟨rfl,_⟩ | ⟨b,o,cap,rfl,_,hb,_⟩
 ·cases hg
 ·cases hg
  exact hb
theorem QueueAt.same (h:QueueAt w v q) (e:∀ g,v.ownBlock=some g→w'.heap[g]?=w.heap[g]?) (hs:w.heap.size≤w'.heap.size):QueueAt w' v q:=by
 rcases h with h | ⟨g,o,cap,rfl,h1,h2,h3,h4⟩
 ·exact .inl h
 ·have eg:=e g rfl
  refine .inr ⟨g,o,cap,rfl,h1,Nat.lt_of_lt_of_le h2 hs,fun j hj=>⟨?_,?_⟩,fun j hj=>?_⟩
  ·rw [World.cell?_of_block (w:=w) (a:=⟨g,o+j,none⟩) eg]
   exact (h3 j hj).1
  ·rw [World.frozen?_of_block (w:=w) (a:=⟨g,o+j,none⟩) eg]
   exact (h3 j hj).2
  ·exact (World.cell?_of_block (w:=w) (a:=⟨g,o+j,none⟩) eg).trans (h4 j hj)
theorem queue_nil (w:World):QueueAt w (.slice none 0 0) []:=.inl ⟨rfl,rfl⟩
theorem QueueAt.form (h:QueueAt w v q):∃ a cap,v=.slice a q.length cap∧q.length≤cap∧IdsAt w a q:=by
 rcases h with ⟨rfl,rfl⟩ | ⟨g,o,cap,rfl,h1,h2,_,h4⟩
 ·exact ⟨none,0,rfl,Nat.le_refl _,fun i hi=>absurd hi (by simp)⟩
 ·exact ⟨_,cap,rfl,h1,fun i hi=>⟨g,o,rfl,h2,h4 i hi⟩⟩
theorem QueueAt.cut {x:UInt64} {r:List UInt64} (h:QueueAt w v (x :: r)):∃ a cap,v=.slice a (r.length+1) cap∧r.length+1≤cap∧w.cell? (a.getD ⟨0,0,none⟩)=some (.int .u64 x.toNat)∧(∃ g o,a=some ⟨g,o,none⟩∧g < w.heap.size) ∧
  QueueAt w (.slice (if cap=1 then a else a.map (·.add 1)) r.length (cap - 1)) r∧(Value.slice (if cap=1 then a else a.map (·.add 1)) r.length (cap - 1)).ownBlock=v.ownBlock:=by
 rcases h with ⟨_,h⟩ | ⟨g,o,cap,rfl,h1,h2,h3,h4⟩
 ·cases h
 ·simp only [List.length_cons] at h1 h4
  have hadd:(⟨g,o,none⟩:Addr).add 1=⟨g,o+1,none⟩:=by unfold Addr.add;split <;> simp_all
  refine ⟨some ⟨g,o,none⟩,cap,rfl,h1,h4 0 (by omega),⟨g,o,rfl,h2⟩,?_,?_⟩
  ·by_cases hc:cap=1
   ·have hr:r=[]:=List.eq_nil_of_length_eq_zero (by omega)
    subst hr hc
    exact .inr ⟨g,o,0,rfl,Nat.le_refl _,h2,fun j hj=>absurd hj (by omega),fun j hj=>absurd hj (by simp)⟩
   ·rw [if_neg hc]
    refine .inr ⟨g,o+1,cap - 1,by rw [Option.map_some,hadd],by omega,h2,fun j hj=>?_,fun j hj=>?_⟩
    ·have:=h3 (j+1) (by omega)
     rwa [show o+(j+1)=o+1+j by omega] at this
    ·have:=h4 (j+1) (by omega)
     rwa [show o+(j+1)=o+1+j by omega,List.getElem_cons_succ] at this
  ·by_cases hc:cap=1
   ·rw [if_pos hc];rfl
   ·rw [if_neg hc,Option.map_some,hadd];rfl
theorem owns_queue {B:Nat} (h:OwnIds w B v q):QueueAt w v q:=by
 rcases h.2 with ⟨hv,hn⟩ | ⟨g,cap,cur,hv,hB,hg,hc,_,hsz,_⟩
 ·exact .inl ⟨hv,List.eq_nil_of_length_eq_zero hn⟩
 ·refine .inr ⟨g,0,cap,hv,hc,(Array.getElem?_eq_some_iff.1 hg).1,fun j hj=>⟨?_,frozen_of_row w g _ _ _ hg⟩,fun j hj=>?_⟩
  ·rw [cell_of_row w g _ cur _ _ hg,Array.getElem?_eq_getElem (by omega)]
   rfl
  ·have a0:=h.cells (g:=g) (by rw [hv];rfl) j (idV q[j]) (by rw [List.getElem?_map,List.getElem?_eq_getElem hj];rfl)
   have f0:(⟨g,0,none⟩:Addr).add j=⟨g,0+j,none⟩:=by unfold Addr.add;split <;> simp_all
   rw [f0] at a0
   exact a0
theorem size_setCells (b:Nat):∀ (vs:List Value) (o:Nat) (w:World),(w.setCells b o vs).heap.size=w.heap.size
 | [],_,_=>rfl
 | v :: r,o,w=>by rw [World.setCells,size_setCells b r,World.size_setCell]
theorem turn_setCells (b:Nat):∀ (vs:List Value) (o:Nat) (w:World),Turn (fun k=>k=b) (fun k=>k=b) w (w.setCells b o vs)
 | [],_,w=>Turn.refl _ w
 | v :: r,o,w=>by
  rw [World.setCells]
  exact (Turn.set (F:=fun k=>k=b) w ⟨b,o,none⟩ v rfl).trans (turn_setCells b r (o+1) _)
theorem run_append_queue (ty:TypeId) {l:List UInt64} {a:Option Addr} {c B:Nat} (h:QueueAt w v q) (ho:OwnIds w B (.slice a l.length c) l) (hl:q.length+l.length≤1000000) :
  ∃ v' w',(Builtin.append_ #[39,39] ty #[v,.slice a l.length c]).run Tryz.prog w=.ok v' w'∧QueueAt w' v' (q ++ l)∧Turn (fun k=>v.ownBlock=some k) (fun k=>v'.ownBlock=some k) w w':=by
 obtain ⟨i0,hi0,hz0,hz1,hz2⟩:=info_parts info_u64
 obtain ⟨a',c',e,_,hi,_⟩:=owns_idsAt ho
 simp only [Value.slice.injEq,true_and] at e
 obtain ⟨rfl,rfl⟩:=e
 have hml:maxLen=9223372036854775807:=rfl
 by_cases hn:l=[]
 ·subst hn
  rw [List.append_nil]
  have hfc:(Builtin.firstCells 1 0 (.slice a 0 c)).run Tryz.prog w=.ok #[] w:=by
   cases a with
   | none=>exact run_firstCells_none (P:=Tryz.prog) w 1 0 0 c
   | some b=>exact run_firstCells_some (P:=Tryz.prog) w 1 0 b 0 c [] rfl (fun j u hj=>by simp at hj)
  rcases h with ⟨rfl,rfl⟩ | ⟨g,o,cap,rfl,h1,h2,h3,h4⟩
  ·refine ⟨.slice none 0 0,w,?_,.inl ⟨rfl,rfl⟩,Turn.refl _ _⟩
   simp [Builtin.append_,run_underlying Tryz.underlying39,sizeOf,typeInfo,hi0,Builtin.lenOf,hz1,hfc]
  ·refine ⟨_,w,?_,.inr ⟨g,o,cap,rfl,h1,h2,h3,h4⟩,Turn.refl _ _⟩
   simp [Builtin.append_,run_underlying Tryz.underlying39,sizeOf,typeInfo,hi0,Builtin.lenOf,hz1,hfc,h1,storeCells]
 ·have hpos:0 < l.length:=List.length_pos_iff.2 hn
  obtain ⟨b0,o0,rfl,hb0,_⟩:=hi 0 hpos
  have hnl:(l.map idV).length=l.length * 1:=by simp
  have hnews:∀ j u,(l.map idV)[j]?=some u→w.cell? ((⟨b0,o0,none⟩:Addr).add j)=some u:=fun j u hu=>by
   rw [List.getElem?_map] at hu
   obtain ⟨x,hx,rfl⟩:=Option.map_eq_some_iff.1 hu
   obtain ⟨hj,rfl⟩:=List.getElem?_eq_some_iff.1 hx
   obtain ⟨b1,o1,e1,_,hc1⟩:=hi j hj
   cases e1
   have f0:(⟨b0,o0,none⟩:Addr).add j=⟨b0,o0+j,none⟩:=by unfold Addr.add;split <;> simp_all
   rw [f0]
   exact hc1
  have hone:∀ u ∈ l.map idV,u.oneCell'=true:=fun u hu=>by
   obtain ⟨x,_,rfl⟩:=List.mem_map.1 hu
   rfl
  rcases h with ⟨rfl,rfl⟩ | ⟨g,o,cap,rfl,h1,h2,h3,h4⟩
  ·obtain ⟨v',w',hr,r1,r2,_⟩:=run_append_own (P:=Tryz.prog) w w.heap.size 39 ty 22 i0 (.int .u64 0) 1 8 Tryz.underlying39 hi0 hz0 hz1 hz2 rfl (by decide) (.slice none 0 0) 0 [] (World.ownsRow_nil w _ _ 1) ⟨b0,o0,none⟩ l.length c _ hnl hnews hone (by omega) (by simp at hl;omega) (Nat.le_refl _)
   rw [Nat.zero_add,List.nil_append] at r1
   refine ⟨v',w',hr,owns_queue r1,⟨r2.os,r2.tape,r2.output,r2.size,fun k hk _=>r2.block k hk (by simp [Value.ownBlock]),fun k hk=>.inr (r1.lt k hk).1⟩⟩
  ·by_cases hroom:q.length+l.length≤cap
   ·have hr:=run_append_room_cells (P:=Tryz.prog) w 39 ty 22 i0 Tryz.underlying39 hi0 g o q.length cap ⟨b0,o0,none⟩ l.length c (l.map idV) (by rw [hz1];exact hnl) hnews hone hroom
     (fun j hj=>by rw [hz1];have:=(h3 (q.length+j) (by simp at hj;omega)).1;rwa [show o+(q.length+j)=o+q.length * 1+j by omega] at this)
     (fun j hj=>by rw [hz1];have:=(h3 (q.length+j) (by simp at hj;omega)).2;rwa [show o+(q.length+j)=o+q.length * 1+j by omega] at this)
    rw [hz1,Nat.mul_one] at hr
    have hin:=World.cell?_setCells_in g (l.map idV) (o+q.length) w (fun j hj=>by have:=(h3 (q.length+j) (by simp at hj;omega)).1;rwa [show o+(q.length+j)=o+q.length+j by omega] at this)
    refine ⟨_,_,hr,.inr ⟨g,o,cap,by rw [List.length_append],by rw [List.length_append];exact hroom,by rw [size_setCells];exact h2,fun j hj=>⟨?_,?_⟩,fun j hj=>?_⟩,?_⟩
    ·by_cases hjj:q.length≤j∧j < q.length+l.length
     ·have:=hin (j - q.length) (by simp;omega)
      rw [show o+q.length+(j - q.length)=o+j by omega] at this
      rw [this]
      rfl
     ·rw [World.cell?_setCells_out g _ _ _ _ (fun _ _=>by simp;omega)]
      exact (h3 j hj).1
    ·rw [World.frozen?_setCells]
     exact (h3 j hj).2
    ·by_cases hjj:j < q.length
     ·rw [World.cell?_setCells_out g _ _ _ _ (fun _ _=>by simp;omega),List.getElem_append_left hjj]
      exact h4 j hjj
     ·rw [List.length_append] at hj
      have:=hin (j - q.length) (by simp;omega)
      rw [show o+q.length+(j - q.length)=o+j by omega] at this
      rw [this,List.getElem_append_right (by omega),List.getElem_map]
      rfl
    ·have:=turn_setCells g (l.map idV) (o+q.length) w
     exact ⟨this.os,this.tape,this.output,this.size,fun k hk hn=>this.block k hk (fun e=>hn (by rw [e];rfl)),fun k hk=>.inl hk⟩
   ·obtain ⟨v',w',hr,r1,r2⟩:=run_append_arg_grows (P:=Tryz.prog) w 39 ty 22 i0 (.int .u64 0) 1 8 Tryz.underlying39 hi0 hz0 hz1 hz2 rfl (by decide) ⟨g,o,none⟩ q.length cap (q.map idV) (by simp) (fun j u hu=>by
     rw [List.getElem?_map] at hu
     obtain ⟨x,hx,rfl⟩:=Option.map_eq_some_iff.1 hu
     obtain ⟨hj,rfl⟩:=List.getElem?_eq_some_iff.1 hx
     rw [Addr.add_lit]
     exact h4 j hj) ⟨b0,o0,none⟩ l.length c _ hnl hnews (by omega) (by omega) (by omega)
    rw [← List.map_append,← List.length_append] at r1
    refine ⟨v',w',hr,owns_queue r1,⟨r2.os,r2.tape,r2.output,r2.size,fun k hk _=>r2.block k hk (by simp),fun k hk=>.inr (r1.lt k hk).1⟩⟩
theorem step_append_queue {ops:Array Oper} {o:Oper} {a:Act} {K:Act→World→Prop} {Q:Exit→Act→World→Prop} {E:Prop} (hgd:o.guard=none) (s x:Operand)
  (ho:o.op=.call { callee:=.builtin .append,args:=#[s,x],argTypes:=#[39,39] }) {l:List UInt64} {ad:Option Addr} {c B:Nat} (hs:a.eval s=v) (hx:a.eval x=.slice ad l.length c)
  (h:QueueAt w v q) (hw:OwnIds w B (.slice ad l.length c) l) (hl:q.length+l.length≤1000000)
  (hK:∀ v' w',QueueAt w' v' (q ++ l)→Turn (fun k=>v.ownBlock=some k) (fun k=>v'.ownBlock=some k) w w'→K (a.put o.dst v') w'):if Region.wanted o (yielded ops a.tmps)=true then Oper.wp Tryz.prog o a w K Q else E:=by
 have hwt:Region.wanted o (yielded ops a.tmps)=true:=by simp [Region.wanted,hgd]
 rw [if_pos hwt]
 obtain ⟨v',w',hr,h1,h2⟩:=run_append_queue (w:=w) o.type h hw hl
 unfold Oper.wp execOp
 simp only [ho,resolve,invoke,builtin,Sem.run_bind,Sem.run_pure,Result.andThen_ok,List.map_toArray,List.map_cons,List.map_nil,hs,hx,hr]
 exact hK v' w' h1 h2
end Go.Proofs.YtlboemhbealnmaaGreat
namespace Go.Proofs.YtlboemhbealnmaaGreat
open Go.RowKit Go.Maps
structure ExIs (w:World) (G:Nat→Prop) (X R:Nat) (s:NS) (q:List UInt64) (F:Nat→Prop) (v:Value):Prop where
 node:NodeAt w F R s
 head:w.heap[X]?=some (.cells #[.pointer (some ⟨R,0,none⟩),v] 167 (0,0))
 queue:QueueAt w v q
 nx:¬ F X
 nq:∀ g,v.ownBlock=some g→¬ F g∧g≠X
 all:∀ k,G k ↔ F k∨k=X∨v.ownBlock=some k
def ExAt (w:World) (G:Nat→Prop) (X R:Nat) (s:NS) (q:List UInt64):Prop:=∃ F v,ExIs w G X R s q F v
def TurnsX (w:World) (G:Nat→Prop) (X R:Nat) (v:Value) (s':NS) (q':List UInt64) (e:Ending) (w':World):Prop:=e=.returned v∧∃ G',ExAt w' G' X R s' q'∧Turn G G' w w'
variable {w w':World} {G:Nat→Prop} {X R:Nat} {s:NS} {q:List UInt64}
theorem ExIs.lt {F:Nat→Prop} {v:Value} (h:ExIs w G X R s q F v):X < w.heap.size:=(cell_spot (head_cell h.head 0)).2
theorem ExAt.good (h:ExAt w G X R s q):NGood s:=by
 obtain ⟨F,v,h⟩:=h
 exact h.node.good
theorem ExAt.lt (h:ExAt w G X R s q):X < w.heap.size:=by
 obtain ⟨F,v,h⟩:=h
 exact h.lt
theorem ExAt.ltR (h:ExAt w G X R s q):R < w.heap.size:=by
 obtain ⟨F,v,h⟩:=h
 exact h.node.lt
theorem ExAt.there (h:ExAt w G X R s q):There w G:=by
 obtain ⟨F,v,h⟩:=h
 intro k hk
 rcases (h.all k).1 hk with hk | hk | hk
 ·exact h.node.there k hk
 ·rw [hk];exact h.lt
 ·exact h.queue.lt k hk
theorem ExAt.c0 (h:ExAt w G X R s q):w.cell? ⟨X,0,none⟩=some (.pointer (some ⟨R,0,none⟩)):=by
 obtain ⟨F,v,h⟩:=h
 exact head_cell h.head 0
theorem ExAt.rings (h:ExAt w G X R s q):∃ a z,w.cell? ⟨R,32,none⟩=some (.pointer (some ⟨a,0,none⟩))∧w.cell? ⟨R,33,none⟩=some (.pointer (some ⟨z,0,none⟩)):=by
 obtain ⟨F,v,h⟩:=h
 exact h.node.rings
theorem ExAt.node (h:ExAt w G X R s q):∃ F,NodeAt w F R s∧∀ k,F k→G k:=by
 obtain ⟨F,v,h⟩:=h
 exact ⟨F,h.node,fun k hk=>(h.all k).2 (.inl hk)⟩
theorem ExAt.kept (h:ExAt w G X R s q) (hb:Below w.heap.size w w'):ExAt w' G X R s q:=by
 obtain ⟨F,v,h⟩:=h
 exact ⟨F,v,h.node.kept hb,(hb.block X h.lt).trans h.head,h.queue.same (fun g hg=>hb.block g (h.queue.lt g hg)) hb.size,h.nx,h.nq,h.all⟩
theorem ExAt.calls {f:FuncId} {args:Array Value} {u:Value} {s':NS} (h:ExAt w G X R s q) (hc:∀ F,NodeAt w F R s→(∀ k,F k→G k)→Calls Tryz.prog f args w (TurnsN w F R u s')):Calls Tryz.prog f args w (TurnsX w G X R u s' q):=by
 obtain ⟨F,v,h⟩:=h
 refine (hc F h.node (fun k hk=>(h.all k).2 (.inl hk))).mono ?_
 rintro e w' ⟨he,F',h1,h2⟩
 have out:∀ k,k < w.heap.size→¬ F k→¬ F' k:=fun k hk hn hf=>(h2.own k hf).elim hn (fun hle=>by omega)
 refine ⟨he,fun k=>F' k∨k=X∨v.ownBlock=some k,⟨F',v,h1,(h2.block X h.lt h.nx).trans h.head,h.queue.same (fun g hg=>h2.block g (h.queue.lt g hg) (h.nq g hg).1) h2.size,out X h.lt h.nx,fun g hg=>⟨out g (h.queue.lt g hg) (h.nq g hg).1,(h.nq g hg).2⟩,fun k=>Iff.rfl⟩,?_⟩
 refine ⟨h2.os,h2.tape,h2.output,h2.size,fun k hk hn=>h2.block k hk (fun hf=>hn ((h.all k).2 (.inl hf))),fun k hk=>?_⟩
 rcases hk with hk | hk
 ·exact (h2.own k hk).imp (fun hf=>(h.all k).2 (.inl hf)) id
 ·exact .inl ((h.all k).2 (.inr hk))
set_option maxRecDepth 20000 in
theorem settle_any (x:UInt64) (w:World) (h:ExAt w G X R s q):Calls Tryz.prog 166 #[.pointer (some ⟨X,0,none⟩),.int .u64 x.toNat] w (TurnsX w G X R (.tuple #[]) (s.settle x) q):=by
 have c0:=h.c0
 have l0:=h.lt
 have l1:=h.ltR
 have H:=Lib.hid h
 clear h
 go_enter Tryz.func166,Tryz.ntmps166
 go_wp2_with fail
 with_reducible refine (H.out.calls fun F hn _=>n_forget x _ hn).mono ?_
 rintro e w1 ⟨rfl,G1,h1,t1⟩
 have H1:=Lib.hid h1
 have T1:=Lib.hid t1
 have d0:=h1.c0
 have d1:=h1.lt
 have d2:=h1.ltR
 clear h1 t1
 go_wp2_with fail
 with_reducible refine (H1.out.calls fun F hn _=>n_remove x _ hn).mono ?_
 rintro e w2 ⟨rfl,G2,h2,t2⟩
 go_wp2_with fail
 go_end0
 exact ⟨rfl,G2,h2,T1.out.trans t2⟩
set_option maxRecDepth 20000 in
theorem accept_any (x:UInt64) (d:DeedD) (a:Option Addr) (cap:Nat) (hl:s.A.length≤5000000000000) (w:World) (h:ExAt w G X R s q) (hi:InsAt w a d.ins) (hout:∀ bb o,d.ins≠[]→a=some ⟨bb,o,none⟩→¬ G bb) :
  Calls Tryz.prog 163 #[.pointer (some ⟨X,0,none⟩),.int .u64 x.toNat,.agg #[.slice a d.ins.length cap,.int .i64 d.outs,.int .i64 d.weight,.int .i64 d.fee]] w (TurnsX w G X R (.tuple #[]) (s.accept x d) q):=by
 obtain ⟨wd,hwd⟩:∃ wd,(w.alloc (.cells #[.slice a d.ins.length cap,.int .i64 d.outs,.int .i64 d.weight,.int .i64 d.fee] 94)).drew=wd:=⟨_,rfl⟩
 have hbd:Below w.heap.size w wd:=hwd▸(kept_new _ _).drew
 have h1:=h.kept hbd
 have c0:=h1.c0
 have l0:=h1.lt
 have l1:=h1.ltR
 have b0:wd.cell? ⟨w.heap.size,0,none⟩=some (.slice a d.ins.length cap):=by rw [← hwd];show (w.alloc _).cell? _=_;simp [go_sem]
 have b1:wd.cell? ⟨w.heap.size,1,none⟩=some (.int .i64 d.outs):=by rw [← hwd];show (w.alloc _).cell? _=_;simp [go_sem]
 have b2:wd.cell? ⟨w.heap.size,2,none⟩=some (.int .i64 d.weight):=by rw [← hwd];show (w.alloc _).cell? _=_;simp [go_sem]
 have b3:wd.cell? ⟨w.heap.size,3,none⟩=some (.int .i64 d.fee):=by rw [← hwd];show (w.alloc _).cell? _=_;simp [go_sem]
 have hs1:=(cell_spot b0).2
 have H1:=Lib.hid h1
 have HT:Hid (Turn G G w wd):=Lib.hid (Turn.of_below hbd)
 have HI:=Lib.hid (insAt_kept hbd hi)
 have HO:=Lib.hid hout
 have HWD:=Lib.hid hwd
 clear h h1 hi hout hwd hbd
 go_enter Tryz.func163,Tryz.ntmps163
 go_wp2_with fail
 refine region_tail 7 (by kernel_rfl) (by kernel_rfl) HWD.out ?_
 simp only [List.take_succ_cons,List.take_zero,List.drop_succ_cons,List.drop_zero]
 repeat still_step
 refine wpStill_nil ?_
 go_wp2_with fail
 with_reducible refine (H1.out.calls fun F hn hF=>n_accept d a cap hl _ hn HI.out (fun bb o hne e hf=>absurd (hF bb hf) (HO.out bb o hne e))).mono ?_
 rintro e w2 ⟨rfl,G2,h2,t2⟩
 have H2:=Lib.hid h2
 have T2:=Lib.hid (HT.out.trans t2)
 clear h2 t2
 go_wp2_with fail
 with_reducible refine (settle_any x _ H2.out).mono ?_
 rintro e w3 ⟨rfl,G3,h3,t3⟩
 go_wp2_with fail
 go_end0
 exact ⟨rfl,G3,h3,T2.out.trans t3⟩
end Go.Proofs.YtlboemhbealnmaaGreat
namespace Go.Proofs.YtlboemhbealnmaaGreat
open Go.RowKit Go.Maps
variable {w w':World} {G:Nat→Prop} {X R:Nat} {s:NS} {q:List UInt64}
theorem childL_len {L:List Ho.LinkD} (x:UInt64):(Ho.childL L x).length≤L.length:=by
 unfold Ho.childL
 refine Nat.le_trans (List.length_filter_le _ _) ?_
 unfold Ho.allL
 have:=Ho.allI_len (Ho.lsOf L) (Ho.lsOf L).length
 rw [List.take_of_length_le (Nat.le_refl _),Ho.lsOf_len] at this
 exact this
theorem ExIs.stored {F:Nat→Prop} {v v':Value} {q':List UInt64} (h:ExIs w G X R s q F v) (hq:QueueAt w' v' q') (ht:Turn (fun k=>v.ownBlock=some k) (fun k=>v'.ownBlock=some k) w w') :
  (w'.cell? ⟨X,1,none⟩=some v∧w'.frozen? ⟨X,1,none⟩=false∧X < w'.heap.size)∧∃ G',ExAt (w'.setCell ⟨X,1,none⟩ v') G' X R s q'∧Turn G G' w (w'.setCell ⟨X,1,none⟩ v'):=by
 have hX:w'.heap[X]?=some (.cells #[.pointer (some ⟨R,0,none⟩),v] 167 (0,0)):=(ht.block X h.lt (fun e=>(h.nq X e).2 rfl)).trans h.head
 have hn:∀ k,v'.ownBlock=some k→¬ F k∧k≠X:=fun k hk=>by
  rcases ht.own k hk with hk | hk
  ·exact h.nq k hk
  ·exact ⟨fun hf=>by have:=h.node.there k hf;omega,fun e=>by have:=h.lt;omega⟩
 have hset:∀ k,k≠X→(w'.setCell ⟨X,1,none⟩ v').heap[k]?=w'.heap[k]?:=fun k hk=>Below.heap_setCell w' ⟨X,1,none⟩ v' k hk
 have hsz:(w'.setCell ⟨X,1,none⟩ v').heap.size=w'.heap.size:=World.size_setCell ..
 refine ⟨⟨head_cell hX 1,frozen_of_row w' X 1 _ _ hX,Nat.lt_of_lt_of_le h.lt ht.size⟩,fun k=>F k∨k=X∨v'.ownBlock=some k,⟨F,v',?_,?_,?_,h.nx,hn,fun k=>Iff.rfl⟩,?_⟩
 ·exact h.node.same (fun k hk hf=>(hset k (fun e=>h.nx (e▸hf))).trans (ht.block k hk (fun e=>(h.nq k e).1 hf))) (by rw [hsz];exact ht.size)
 ·exact heap_setCell_same w' X 1 _ _ v' hX
 ·exact hq.same (fun g hg=>hset g (hn g hg).2) (by rw [hsz];exact Nat.le_refl _)
 ·refine ⟨ht.os,ht.tape,ht.output,by rw [hsz];exact ht.size,fun k hk hg=>?_,fun k hk=>?_⟩
  ·have h1:¬ (F k∨k=X∨v.ownBlock=some k):=fun hh=>hg ((h.all k).2 hh)
   exact (hset k (fun e=>h1 (.inr (.inl e)))).trans (ht.block k hk (fun e=>h1 (.inr (.inr e))))
  ·rcases hk with hk | hk | hk
   ·exact .inl ((h.all k).2 (.inl hk))
   ·exact .inl ((h.all k).2 (.inr (.inl hk)))
   ·exact (ht.own k hk).imp (fun e=>(h.all k).2 (.inr (.inr e))) id
theorem ExIs.kept {F:Nat→Prop} {v:Value} (h:ExIs w G X R s q F v) (hb:Below w.heap.size w w'):ExIs w' G X R s q F v:=
 ⟨h.node.kept hb,(hb.block X h.lt).trans h.head,h.queue.same (fun g hg=>hb.block g (h.queue.lt g hg)) hb.size,h.nx,h.nq,h.all⟩
set_option maxRecDepth 20000 in
theorem enqueue_any (x:UInt64) (hq:q.length≤100000) (w:World) (h:ExAt w G X R s q):Calls Tryz.prog 164 #[.pointer (some ⟨X,0,none⟩),.int .u64 x.toNat] w (TurnsX w G X R (.tuple #[]) s (q ++ Ho.childL s.P x)):=by
 obtain ⟨F,v,h⟩:=h
 have hd:ExIs w.drew G X R s q F v:=h.kept ((Below.refl _ _).drew)
 have HTD:Hid (Turn G G w w.drew):=Lib.hid (Turn.of_below ((Below.refl _ _).drew))
 have c0:w.drew.cell? ⟨X,0,none⟩=some (.pointer (some ⟨R,0,none⟩)):=head_cell hd.head 0
 have c1:w.drew.cell? ⟨X,1,none⟩=some v:=head_cell hd.head 1
 have l0:X < w.drew.heap.size:=hd.lt
 have l1:R < w.drew.heap.size:=hd.node.lt
 have HL:Hid (q.length+(Ho.childL s.P x).length≤1000000):=Lib.hid (by
  have:=childL_len (L:=s.P) x
  have:=hd.node.good.P.len
  omega)
 have HD:=Lib.hid hd
 clear h hd
 go_enter Tryz.func164,Tryz.ntmps164
 go_wp2_with fail
 go_region_law (first
  | (go_simp;go_at_call 191;(with_reducible refine (n_childP x _ HD.out.node).mono ?_);rintro e w1 ⟨a1,cp1,rfl,ho1,hb1⟩;have H1:=Lib.hid (HD.out.kept hb1);have HO1:=Lib.hid ho1;have T1:=Lib.hid (HTD.out.trans (Turn.of_below hb1));have e0:=head_cell H1.out.head 0;have e1:=head_cell H1.out.head 1;have m0:=H1.out.lt;have m1:=H1.out.node.lt;clear ho1 hb1)
  | (refine step_append_queue (by rfl) _ _ (by rfl) (by rfl) (by rfl) H1.out.queue HO1.out HL.out ?_;intro v2 w2 hq2 ht2;obtain ⟨a2,cp2,rfl,_,_⟩:=QueueAt.form hq2;obtain ⟨⟨f0,f1,f2⟩,G3,h3,t3⟩:=H1.out.stored hq2 ht2;have H3:=Lib.hid h3;have T3:=Lib.hid (T1.out.trans t3);clear hq2 ht2 h3 t3))
 all_goals
  go_wp2_with fail
  go_end0
  have h3:=H3.out
  have t3:=T3.out
  rw [List.length_append] at h3 t3
  exact ⟨rfl,G3,h3,t3⟩
end Go.Proofs.YtlboemhbealnmaaGreat
