/-
  PlayRuns: for every salt and every slice of acts the law's call returns true and leaves its arguments as they were. No other condition.
-/
import Derived.Test.YtlboemhbealnmaaGreatRows
import Derived.Test.YtlboemhbealnmaaGreatP43
import Derived.KernelRfl
set_option maxRecDepth 20000
set_option maxRecDepth 20000
namespace Go.Proofs.YtlboemhbealnmaaGreat
open Go.ChangeShapes Go.WideShapes Go.ChangeAt Go.RowKit
theorem trodAll_stays {H:Type} {enc:TypeId × Value→H} {P:Program} (hl:laidOutB P=true) {W W':World} (hb:Below W.heap.size W W') :
  ∀ (ts:List TypeId) (vs:List Value) (ds:List (DataW H)) (ps:List MemPlace),(ts.all fun t=>P.readableRec t && decide (t < P.types.size))=true →
   DataW.TrodAll enc P W 0 (fun _=>true) true ts vs ds ps→DataW.TrodAll enc P W' 0 (fun b=>decide (b < W.heap.size)) true ts vs ds ps
 | [],vs,ds,ps,_,h=>by
  obtain ⟨rfl,rfl,rfl⟩:=trodAll_nil h
  exact trodAll_mk0
 | t :: ts,vs,ds,ps,hr,h=>by
  obtain ⟨v,vs',d,ds',p,q,rfl,rfl,rfl,h0,r0⟩:=trodAll_cons h
  simp only [List.all_cons,Bool.and_eq_true,decide_eq_true_eq] at hr
  have lt0:∀ x ∈ p,x.block < W.heap.size:=by obtain ⟨m,hm⟩:=h0;exact DataW.trod_lt m _ _ _ hm
  exact trodAll_cons_mk (Below.trod hl hr.1.1 hr.1.2 h0 hb lt0) (trodAll_stays hl hb ts vs' ds' q (by simpa using hr.2) r0)
theorem trodAll_length {H:Type} {enc:TypeId × Value→H} {P:Program} {W:World} {base:Nat} {spare:Nat→Bool} {held:Bool} :
  ∀ {ts:List TypeId} {vs:List Value} {ds:List (DataW H)} {ps:List MemPlace},DataW.TrodAll enc P W base spare held ts vs ds ps→ds.length=ts.length
 | [],vs,ds,ps,h=>by obtain ⟨rfl,rfl,rfl⟩:=trodAll_nil h;rfl
 | t :: ts,vs,ds,ps,h=>by
  obtain ⟨v,vs',d,ds',p,q,rfl,rfl,rfl,h0,r0⟩:=trodAll_cons h
  simp [trodAll_length r0]
theorem law_lifted {C:Checked} {os:Os} {f:FuncId} {fn:Func} {s:ChangeSpec} {tb:TypeId} {H:Type} {enc:TypeId × Value→H}
  (own:ownKnob C.prog.godebug=none) (started:os.Started) (noInit:C.prog.inits.idxOf? f=none) (hfn:C.prog.funcs[f]?=some fn)
  (laid:laidOutB C.prog=true) (hread:(fn.params.toList.all fun t=>C.prog.readableRec t && decide (t < C.prog.types.size))=true)
  (hvars:s.vars=[]) (hres:fn.resultTypes=#[tb]) (htb:C.prog.underlying tb=some .bool)
  (hspec:∀ ds:List (DataW H),ds.length=fn.params.size→s.fn H ds={ results:=[.lit (.bool true)],args:=ds })
  (witness:∃ (w:World) (tape:Tape) (i:Input),w.os=os∧(w.forCall tape i).Shaped C.prog∧i.vars=[]∧Input.okWide C.prog (w.forCall tape i) .any w.heap.size f i ∧
   s.pre6 enc C.prog fn [] false (w.forCall tape i).memory i.args∧({}:Assume).holds C.prog (lone (Frame.enter C.prog f i.args .normal) [] (w.forCall tape i)))
  (walk:∀ (W:World) (base:Nat) (args:Array Value) (ds:List (DataW H)) (p:List MemPlace),
   (∀ (j:Nat) t v,fn.params[j]?=some t→args[j]?=some v→Value.okWide C.prog W .any base t v) →
   DataW.TrodAll enc C.prog W 0 (fun _=>true) true fn.params.toList args.toList ds p →
   (DataW.weightsEach C.prog fn.params.toList ds).all (·≤reachBytes)=true →
   Calls C.prog f args W fun e W'=>e=.returned (.bool true)∧Below W.heap.size W W') :
  ReturnsInHanded {} C os f .any (s.pre6 enc C.prog fn [] false) (s.post enc C.prog fn false true false false):=by
 refine returnsInHanded_of_change_sized (C:=C) own started noInit hfn witness ?_
 intro W base args ds gs before hval hW _ hsz _
 have hW':=hW
 obtain ⟨p,q,hA,hV,rfl,hfz,hnd⟩:=hW
 rw [hvars] at hV
 obtain ⟨rfl,rfl⟩:=trodVars_none hV
 have hlen:ds.length=fn.params.size:=by rw [trodAll_length hA];simp
 have hsz':(DataW.weightsEach C.prog fn.params.toList ds).all (·≤reachBytes)=true:=by
  have e:s.plain.varTypes C.prog=[]:=by
   simp [DataSpec.varTypes,ChangeSpec.plain,hvars]
  rw [e,List.append_nil,List.append_nil] at hsz
  exact hsz
 refine (walk W base args ds p hval hA hsz').mono fun e W' ⟨he,bel⟩=>?_
 subst he
 have hs:s.fn H (ds ++ [])={ results:=[.lit (.bool true)],args:=ds }:=by rw [List.append_nil];exact hspec ds hlen
 refine ⟨_,rfl,ds,[],p ++ [],[],p,[],hW',?_,?_,?_,bel.frame _,fun h=>by cases h⟩
 ·rw [hs,hres]
  exact trodAll_mk1 (shut_bool htb _)
 ·rw [hs]
  exact trodAll_stays laid bel _ _ _ _ hread hA
 ·rw [hvars,hs]
  exact rfl
end Go.Proofs.YtlboemhbealnmaaGreat
set_option maxRecDepth 20000
namespace Go.Proofs.YtlboemhbealnmaaGreat
open Go.ChangeShapes Go.WideShapes Go.ChangeAt Go.RowKit Go.Joins Go.Deep Go.Maps
variable {w w':World} {B b o:Nat} {v:Value} {l m:List ActD}
set_option maxRecDepth 100000 in
theorem open_acts_kinds {H:Type} {enc:TypeId × Value→H} {w:World} {r:Reach} {b0:Nat} {v:Value} {d:DataW H} {p:List MemPlace} (hv:Value.okWide Tryz.prog w r b0 23 v) (h:DataW.Trod enc Tryz.prog w 0 (fun _=>true) true 23 v d p) :
  ∃ (a:Option Addr) (cap:Nat) (l:List ActD),v=.slice a l.length cap∧l.length≤cap∧(l=[]∨∃ elems spare,d=.slice elems spare∧elems.length=l.length)∧ActsAt w a l∧∀ i (h:i < l.length),(Lit.int .i64 l[i].kind).wf=true:=by
 obtain ⟨xa,xl,xc,rfl⟩:=okWide_slice Tryz.underlying23 hv
 obtain ⟨n,hf⟩:=h
 rcases open_slice Tryz.underlying23 hf with ⟨hc,_⟩ | ⟨a,len,cap,m,k,D,Pl,hcs,hb,hl,hm,hmm,hy,hx⟩
 ·simp only [Value.cells,List.cons.injEq,and_true] at hc
  exact ⟨none,0,[],hc,Nat.le_refl _,.inl rfl,fun i hi=>absurd hi (by simp),fun i hi=>absurd hi (by simp)⟩
 ·simp only [Value.cells,List.cons.injEq,and_true] at hcs
  simp only [if_true] at hmm
  subst hmm
  have ce:Tryz.prog.cellsOf 29=5:=by kernel_rfl
  have each:∀ i,i < m→∃ q:ActD,(w.cell? (a.add (i * 5))=some (.int .i64 q.kind)∧w.cell? (a.add (i * 5+1))=some (.int .i64 q.peer)∧w.cell? (a.add (i * 5+2))=some (.int .i64 q.n)∧w.cell? (a.add (i * 5+3))=some (.bool q.flag)∧w.cell? (a.add (i * 5+4))=some (.string q.bytes))∧q.bytes.size≤maxLen∧(Lit.int .i64 q.kind).wf=true:=by
   intro i hi
   obtain ⟨cs',h1,h2⟩:=hx i hi
   rw [ce] at h1
   obtain ⟨_,hlen,hcell⟩:=World.cells?_some h1
   obtain ⟨xs,k',hk,hxy,_,hxl,hf⟩:=DataW.trod_struct Tryz.underlying29 h2
   have ci:Tryz.prog.cellsOf 3=1:=by kernel_rfl
   have c4:Tryz.prog.cellsOf 4=1:=by kernel_rfl
   have c5:Tryz.prog.cellsOf 9=1:=by kernel_rfl
   match cs',hlen with
   | [v0,v1,v2,v3,v4],_=>
    have g0:DataW.trod enc Tryz.prog w 0 (fun _=>true) true k' 3 ([v0,v1,v2,v3,v4].take (Tryz.prog.cellsOf 3))=xs[0]?:=hf 0 _ rfl
    have g1:DataW.trod enc Tryz.prog w 0 (fun _=>true) true k' 3 ([v1,v2,v3,v4].take (Tryz.prog.cellsOf 3))=xs[1]?:=hf 1 _ rfl
    have g2:DataW.trod enc Tryz.prog w 0 (fun _=>true) true k' 3 ([v2,v3,v4].take (Tryz.prog.cellsOf 3))=xs[2]?:=hf 2 _ rfl
    have g3:DataW.trod enc Tryz.prog w 0 (fun _=>true) true k' 4 ([v3,v4].take (Tryz.prog.cellsOf 4))=xs[3]?:=hf 3 _ rfl
    have g4:DataW.trod enc Tryz.prog w 0 (fun _=>true) true k' 9 ([v4].take (Tryz.prog.cellsOf 9))=xs[4]?:=hf 4 _ rfl
    rw [ci,List.take_succ_cons,List.take_zero,List.getElem?_eq_getElem (by rw [hxl];decide)] at g0 g1 g2
    rw [c4,List.take_succ_cons,List.take_zero,List.getElem?_eq_getElem (by rw [hxl];decide)] at g3
    rw [c5,List.take_succ_cons,List.take_zero,List.getElem?_eq_getElem (by rw [hxl];decide)] at g4
    obtain ⟨u0,e0,_,hw0⟩:=DataW.trod_int Tryz.underlying3 g0
    obtain ⟨u1,e1,_,_⟩:=DataW.trod_int Tryz.underlying3 g1
    obtain ⟨u2,e2,_,_⟩:=DataW.trod_int Tryz.underlying3 g2
    obtain ⟨u3,e3,_⟩:=DataW.trod_bool Tryz.underlying4 g3
    obtain ⟨u4,e4,_,hs4⟩:=DataW.trod_string Tryz.underlying9 g4
    simp only [List.cons.injEq,and_true] at e0 e1 e2 e3 e4
    subst e0 e1 e2 e3 e4
    have hc:∀ j,j < 5→w.cell? (a.add (i * 5+j))=[Value.int .i64 u0,Value.int .i64 u1,Value.int .i64 u2,Value.bool u3,Value.string u4][j]?:=fun j hj=>by
     have:=hcell j hj
     rw [add_add] at this
     exact this
    exact ⟨⟨u0,u1,u2,u3,u4⟩,⟨hc 0 (by omega),hc 1 (by omega),hc 2 (by omega),hc 3 (by omega),hc 4 (by omega)⟩,hs4,hw0⟩
  obtain ⟨f,hf⟩:=choose_lt each
  refine ⟨some a,m,(List.range len).map f,by simp [hcs],by simpa using hl,.inr ⟨_,_,(Prod.mk.inj hy).1,by simp⟩,fun i hi=>?_,fun i hi=>?_⟩
  ·have hi':i < len:=by simpa using hi
   have g:=hf i (by omega)
   obtain ⟨hs,hb⟩:=cell_spot (hf 0 (by omega)).1.1
   have hs:a.spot=none:=by simpa [Addr.add] using hs
   have hb:a.block < w.heap.size:=by simpa [Addr.add] using hb
   obtain ⟨b,o,sp⟩:=a
   simp only at hs hb
   subst hs
   have e:∀ k,(⟨b,o,none⟩:Addr).add k=⟨b,o+k,none⟩:=fun k=>by unfold Addr.add;split <;> simp_all
   simp only [e,← Nat.add_assoc] at g
   refine ⟨⟨b,o,rfl,hb,?_⟩,?_⟩
   ·unfold ActCells
    simp only [List.getElem_map,List.getElem_range]
    exact g.1
   ·simp only [List.getElem_map,List.getElem_range]
    exact g.2.1
  ·have hi':i < len:=by simpa using hi
   simp only [List.getElem_map,List.getElem_range]
   exact (hf i (by omega)).2.2
end Go.Proofs.YtlboemhbealnmaaGreat
namespace Go.Proofs.YtlboemhbealnmaaGreat
open Go.ChangeShapes Go.WideShapes Go.ChangeAt Go.RowKit

set_option maxRecDepth 100000 in
theorem playRuns_lifted (os:Os) (started:os.Started) (H:Type) (enc:TypeId × Value→H) :
  ReturnsInHanded {} Tryz.checked os 5 .any (Rows.playRunsSpec.pre6 enc Tryz.prog Tryz.f5 Rows.playRunsRow.domain false) (Rows.playRunsSpec.post enc Tryz.prog Tryz.f5 false true false false):=by
 refine law_lifted (C:=Tryz.checked) (by kernel_rfl) started (by kernel_rfl) Tryz.func5 (by kernel_rfl) (by kernel_rfl) rfl (by kernel_rfl) Tryz.underlying4
  (fun ds h=>by match ds,h with | [_,_],_=>rfl)
  (ChangeSpec.witness6 (enc:=enc) (C:=Tryz.checked) false ⟨#[],#[.int .u64 0,.slice none 0 0],[]⟩ 8 (by kernel_rfl) (by kernel_rfl) (by kernel_rfl) (by kernel_rfl)) ?_
 intro W base args ds p hval hA hsz
 rw [Tryz.params5] at hval
 replace hA:DataW.TrodAll enc Tryz.prog W 0 (fun _=>true) true Tryz.f5.params.toList args.toList ds p:=hA
 rw [Tryz.params5] at hA
 obtain ⟨v0,vs0,d0,ds0,p0,q0,hargs,rfl,rfl,h0,r0⟩:=trodAll_cons hA
 obtain ⟨v1,vs1,d1,ds1,p1,q1,rfl,rfl,rfl,h1,r1⟩:=trodAll_cons r0
 obtain ⟨rfl,rfl,rfl⟩:=trodAll_nil r1
 obtain rfl:args=#[v0,v1]:=by cases args;simp_all
 obtain ⟨n0,rfl,rfl,rfl,wx0⟩:=open_int Tryz.underlying22 (hval 0 22 v0 rfl rfl) h0
 obtain ⟨x0,rfl⟩:=wf_u64 wx0
 obtain ⟨a1,c1,x1,rfl,hc1,hz1,hi1⟩:=open_acts_kinds (hval 1 23 v1 rfl rfl) h1
 exact playRuns_walk x0 x1 a1 c1   W hi1

theorem playRuns_holds:Rows.PlayRunsSaid:=
 OpenClaim.holds_of_wide 5 Tryz.f5 rfl rfl rfl rfl rfl rfl rfl ⟨rfl,rfl,rfl,rfl,rfl⟩ rfl rfl rfl rfl rfl (by kernel_rfl) Tryz.func5 (by kernel_rfl)
  (of_decide_eq_true (by kernel_rfl)) (by unfold Func.isWrapper;first | (rw [if_pos (by decide +kernel)];kernel_rfl) | (rw [if_neg (by decide +kernel)];exact ⟨rfl,rfl⟩))
  (fun os started H enc _=>playRuns_lifted os started H enc)
#print axioms playRuns_holds
end Go.Proofs.YtlboemhbealnmaaGreat
