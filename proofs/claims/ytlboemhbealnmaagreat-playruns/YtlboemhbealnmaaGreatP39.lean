import Derived.Test.YtlboemhbealnmaaGreatP30
import Derived.Test.YtlboemhbealnmaaGreatP38
set_option maxRecDepth 20000
namespace Go.Proofs.YtlboemhbealnmaaGreat
open Go.RowKit Go.Maps
variable {s t:NS} {x:UInt64} {d c:DeedD}
def PInv (s:NS):Prop:=∀ l ∈ s.P,l.id=Ju.idD l.d∧Ju.findL s.A l.id=none
theorem PInv.sub (h:PInv s) (hA:t.A=s.A) (hs:∀ l ∈ t.P,l ∈ s.P):PInv t:=fun l hl=>by rw [hA];exact h l (hs l hl)
theorem PInv.deed (h:PInv s) (hd:Ho.deedOf s.P x=some d):Ju.idD d=x∧Ju.findL s.A x=none:=by
 obtain ⟨l,hl,e1,e2⟩:=Ho.deedOf_some hd
 obtain ⟨h1,h2⟩:=h l hl
 rw [e1] at h1 h2
 rw [e2] at h1
 exact ⟨h1.symm,h2⟩
theorem mem_remove2 {P:List Ho.LinkD} {l:Ho.LinkD}:l ∈ Ho.removeL P x ↔ l ∈ P∧l.id≠x:=by unfold Ho.removeL;rw [List.mem_filter];simp
theorem find_other {A:List DeedD} {y:UInt64} (hx:Ju.idD d=x) (hy:y≠x) (hn:Ju.findL A y=none):Ju.findL (Ju.acceptL A d).2 y=none:=by
 unfold Ju.acceptL
 split
 ·exact hn
 ·split
  ·exact hn
  ·split
   ·exact hn
   ·rw [Ju.findL_snoc,hn,if_neg (by simp),if_neg (by rw [hx];exact fun e=>hy e.symm)]
theorem PInv.settle (h:PInv s) (x:UInt64):PInv (s.settle x):=h.sub rfl fun _ hl=>(mem_remove2.1 hl).1
theorem PInv.accept (h:PInv s) (hx:Ju.idD d=x):PInv (s.accept x d):=fun l hl=>by
 obtain ⟨h1,h2⟩:=mem_remove2.1 (show l ∈ Ho.removeL s.P x from hl)
 exact ⟨(h l h1).1,find_other hx h2 (h l h1).2⟩
theorem child_deed {P:List Ho.LinkD} {y:UInt64} (h:y ∈ Ho.childL P x):∃ c,Ho.deedOf P y=some c:=by
 have h1:=Ho.deedOf_isSome.2 (Ho.allL_mem.1 (List.mem_filter.1 h).1)
 exact Option.isSome_iff_exists.1 h1
theorem PInv.seek (h:PInv s) (hx:Ju.idD d=x):PInv (s.seek x d).1:=by
 unfold NS.seek
 split
 ·exact h
 ·rename_i y hy
  obtain ⟨c,hc⟩:=child_deed (List.mem_of_find?_eq_some hy)
  rw [hc]
  exact (h.accept hx).accept (d:=c) (h.deed hc).1
theorem PInv.examine (h:PInv s) (hx:Ju.idD d=x):PInv (s.examine x d).1:=by
 unfold NS.examine
 split
 ·exact h.accept hx
 ·split
  ·exact PInv.seek (PInv.settle (s:={ s with Q:=s.Q.put x }) h x) hx
  ·split
   ·exact PInv.settle (s:={ s with W:=s.W.put x }) h x
   ·exact h
theorem PInv.follow (h:PInv s) (q:List UInt64):PInv (s.follow q):=by
 induction s,q using NS.follow.induct with
 | case1 s=>rw [follow_nil];exact h
 | case2 s x r hd ih=>rw [follow_none _ _ _ hd];exact ih h
 | case3 s x r d hd ih=>rw [follow_some _ _ _ _ hd];exact ih (h.examine (h.deed hd).1)
theorem PInv.add (h:PInv s) (p:Int) (hx:Ju.idD d=x) (hn:Ju.findL s.A x=none) {t:NS} (hA:t.A=s.A) (hP:t.P=(Ho.addC s.P p x d).2):PInv t:=by
 have hnew:∀ n:Nat,∀ l ∈ Ho.newL s.P n x d,l.id=Ju.idD l.d∧Ju.findL s.A l.id=none:=fun n l hl=>by
  unfold Ho.newL at hl
  rcases List.mem_append.1 hl with hl | hl
  ·exact h l hl
  ·rw [List.mem_singleton.1 hl]
   refine ⟨?_,hn⟩
   cases hd:Ho.deedOf s.P x with
   | none=>exact hx.symm
   | some e=>exact (h.deed hd).1.symm
 intro l hl
 rw [hA]
 rw [hP] at hl
 unfold Ho.addC at hl
 split at hl
 ·exact h l hl
 ·split at hl
  ·exact h l hl
  ·split at hl
   ·exact h l hl
   ·exact hnew _ l ((Ho.room_sub _).subset hl)
theorem wants_AP (p:Nat):∀ (l:List UInt64) (u:NS),(l.foldl (fun s m=>s.want p m) u).A=u.A∧(l.foldl (fun s m=>s.want p m) u).P=u.P
 | [],_=>⟨rfl,rfl⟩
 | m :: r,u=>by
  have h:=wants_AP p r (u.want p m)
  have hw:(u.want p m).A=u.A∧(u.want p m).P=u.P:=by unfold NS.want;split <;> exact ⟨rfl,rfl⟩
  exact ⟨h.1.trans hw.1,h.2.trans hw.2⟩
theorem PInv.adopt (h:PInv s) (p:Nat) (hx:Ju.idD d=x) (hn:Ju.findL s.A x=none) (ms:List UInt64):PInv (s.adopt p x d ms):=by
 unfold NS.adopt
 simp only
 have h0:PInv ({ s with T:=Tr.forgetL s.T x,P:=(Ho.addC s.P p x d).2 }:NS):=h.add p hx hn rfl rfl
 split
 ·obtain ⟨h1,h2⟩:=wants_AP p ms ({ s with T:=Tr.forgetL s.T x,P:=(Ho.addC s.P p x d).2 }:NS)
  exact h0.sub h1 (fun l hl=>by rw [h2] at hl;exact hl)
 ·exact h0
theorem PInv.bring (h:PInv s) (p:Nat) (d:DeedD):PInv (s.bring p d):=by
 have h0:PInv ({ s with T:=(Tr.answerC s.T p (Ju.idD d)).2 }:NS):=h
 by_cases hk:((Ju.findL s.A (Ju.idD d)).isSome || s.W.has (Ju.idD d))=true
 ·rw [bring_known hk]
  exact h0
 ·rw [Bool.not_eq_true,Bool.or_eq_false_iff] at hk
  rw [bring_new rfl hk.1 hk.2]
  have hn:Ju.findL s.A (Ju.idD d)=none:=by simpa using hk.1
  refine PInv.follow ?_ _
  split
  ·rename_i hm
   have hl:=miss_lost hm
   have he:=examine_lost (s:=({ s with T:=(Tr.answerC s.T p (Ju.idD d)).2 }:NS)) (x:=Ju.idD d) (d:=d) (by rw [hl];decide) (by rw [hl];decide) (by rw [hl];decide)
   rw [he]
   exact h0.adopt p rfl hn _
  ·exact h0.examine rfl
theorem announce_AP (p:Nat):∀ (l:List UInt64) (u:NS),(u.announce p l).A=u.A∧(u.announce p l).P=u.P
 | [],_=>⟨rfl,rfl⟩
 | m :: r,u=>by
  have h:=announce_AP p r (u.announce1 p m)
  have hw:(u.announce1 p m).A=u.A∧(u.announce1 p m).P=u.P:=by unfold NS.announce1;split <;> exact ⟨rfl,rfl⟩
  exact ⟨h.1.trans hw.1,h.2.trans hw.2⟩
theorem missing_AP (p:Nat):∀ (l:List UInt64) (u:NS),(u.missing p l).A=u.A∧(u.missing p l).P=u.P
 | [],_=>⟨rfl,rfl⟩
 | m :: r,u=>by
  have h:=missing_AP p r ({ u with T:=(Tr.answerC u.T p m).2 })
  exact ⟨h.1,h.2⟩
theorem PInv.did (h:PInv s) (hf:Fly s) (hg:Tr.Good s.T) (a:ActD):PInv (s.did a).1:=by
 unfold NS.did
 split
 ·unfold NS.join
  split
  ·exact h
  ·split
   ·exact h
   ·exact h
 ·split
  ·unfold NS.leave
   split
   ·exact h
   ·exact h.sub rfl fun _ hl=>(List.mem_filter.1 hl).1
  ·split
   ·unfold NS.send
    simp only
    split
    ·exact h
    ·split
     ·exact h
     ·split
      ·obtain ⟨h1,h2⟩:=announce_AP a.peer.toNat (Ms.ansM a.bytes.data.toList).ids s
       exact h.sub h1 (fun l hl=>by rw [h2] at hl;exact hl)
      ·split
       ·obtain ⟨h1,h2⟩:=missing_AP a.peer.toNat (Ms.ansM a.bytes.data.toList).ids s
        exact h.sub h1 (fun l hl=>by rw [h2] at hl;exact hl)
       ·split
        ·exact h
        ·split
         ·exact h
         ·exact h.bring _ _
   ·split
    ·obtain ⟨_,h2,h3⟩:=pass_keeps hf hg a.n
     exact h.sub h2 (fun l hl=>by rw [h3] at hl;exact hl)
    ·exact h
theorem pinv_new (salt:UInt64):PInv (NS.new salt):=fun _ hl=>(List.not_mem_nil hl).elim
end Go.Proofs.YtlboemhbealnmaaGreat
set_option maxRecDepth 20000
namespace Go.Proofs.YtlboemhbealnmaaGreat
open Go.RowKit Go.Maps
variable {w w':World} {G G':Nat→Prop} {B:Nat} {s:NS}
theorem gain_ids {a:Option Addr} {l:List UInt64} (h:IdsAt w a l) (ht:Gain B G G' w w') (hn:∀ bb o,l≠[]→a=some ⟨bb,o,none⟩→bb≠B):IdsAt w' a l:=fun i hi=>by
 obtain ⟨b,o,e,hb,hc⟩:=h i hi
 refine ⟨b,o,e,Nat.lt_of_lt_of_le hb ht.size,?_⟩
 exact (World.cell?_of_block (w:=w) (a:=⟨b,o+i,none⟩) (ht.block b hb (hn b o (fun e0=>by subst e0;simp at hi) e))).trans hc
theorem gain_ins {a:Option Addr} {l:List InD} (h:InsAt w a l) (ht:Gain B G G' w w') (hn:∀ bb o,l≠[]→a=some ⟨bb,o,none⟩→bb≠B):InsAt w' a l:=
 insAt_same h (fun bb o hne e=>ht.block bb (Ju.ins_lt h bb o hne e) (hn bb o hne e)) ht.size
theorem run_append_ids (ty:TypeId) {C0 C:Nat} {v u:Value} {l m:List UInt64} (h:OwnIds w C0 v l) (hu:OwnIds w C u m) (hl:l.length+m.length≤1000000) (hB:C0≤w.heap.size) :
  ∃ v' w',(Builtin.append_ #[39,39] ty #[v,u]).run Tryz.prog w=.ok v' w'∧OwnIds w' C0 v' (l ++ m)∧w.grownBy w' v.ownBlock∧(∀ k,v'.ownBlock=some k→v.ownBlock=some k∨w.heap.size≤k):=by
 obtain ⟨i0,hi0,hz0,hz1,hz2⟩:=info_parts info_u64
 have hml:maxLen=9223372036854775807:=rfl
 by_cases hm:m=[]
 ·subst hm
  rw [List.append_nil]
  obtain ⟨a,c,rfl,_⟩:=owns_idsAt hu
  have hfc:(Builtin.firstCells 1 0 (.slice a 0 c)).run Tryz.prog w=.ok #[] w:=by
   cases a with
   | none=>exact run_firstCells_none (P:=Tryz.prog) w 1 0 0 c
   | some b=>exact run_firstCells_some (P:=Tryz.prog) w 1 0 b 0 c [] rfl (fun j u hj=>by simp at hj)
  have hg:w.grownBy w v.ownBlock:=⟨rfl,rfl,rfl,Nat.le_refl _,fun _ _ _=>rfl⟩
  refine ⟨v,w,?_,h,hg,fun k hk=>.inl hk⟩
  obtain ⟨b,d,rfl,hd,_⟩:=owns_idsAt h
  cases b with
  | none=>
   rcases h.2 with ⟨hv,hn⟩ | ⟨g,cap,cur,hv,_⟩
   ·simp only [Value.slice.injEq,true_and] at hv
    obtain ⟨h1,rfl⟩:=hv
    simp [Builtin.append_,run_underlying Tryz.underlying39,sizeOf,typeInfo,hi0,Builtin.lenOf,hz1,hfc,h1]
   ·cases hv
  | some b=>simp [Builtin.append_,run_underlying Tryz.underlying39,sizeOf,typeInfo,hi0,Builtin.lenOf,hz1,hfc,hd,storeCells]
 ·have hpos:0 < m.length:=List.length_pos_iff.2 hm
  obtain ⟨g,cap,rfl,hg,hlt⟩:=hu.form hpos
  obtain ⟨v',w',hr,h1,h2,_,h5⟩:=run_append_own_at (P:=Tryz.prog) w C0 39 ty 22 i0 (.int .u64 0) 1 8 Tryz.underlying39 hi0 hz0 hz1 hz2 rfl (by decide) v l.length (l.map idV) h ⟨g,0,none⟩ m.length cap (m.map idV) (by simp) (fun j x hj=>hu.cells (g:=g) rfl j x hj) (fun u hu=>by obtain ⟨y,_,rfl⟩:=List.mem_map.1 hu;rfl) (by omega) (by omega) hB
  rw [← List.map_append,← List.length_append] at h1
  refine ⟨v',w',hr,h1,h2,fun k hk=>?_⟩
  rcases h5 with h5 | h5
  ·exact .inl (by rw [← h5];exact hk)
  ·rw [h5] at hk
   cases hk
   exact .inr (Nat.le_refl _)
theorem append_ids {ops:Array Oper} {rest:List Oper} {o:Oper} {a:Act} {Q:Exit→Act→World→Prop} (hgd:o.guard=none) (s x:Operand) (ho:o.op=.call { callee:=.builtin .append,args:=#[s,x],argTypes:=#[39,39] })
  {C0 C:Nat} {v u:Value} {l m:List UInt64} (hs:a.eval s=v) (hx:a.eval x=u) (h:OwnIds w C0 v l) (hu:OwnIds w C u m) (hl:l.length+m.length≤1000000) (hB:C0≤w.heap.size)
  (hK:∀ v' w',OwnIds w' C0 v' (l ++ m)→w.grownBy w' v.ownBlock→(∀ k,v'.ownBlock=some k→v.ownBlock=some k∨w.heap.size≤k)→wpList Tryz.prog ops Q rest (a.put o.dst v') w'):wpList Tryz.prog ops Q (o :: rest) a w:=by
 refine wpList_plain hgd fun K hK'=>?_
 obtain ⟨v',w',hr,h1,h2,h3⟩:=run_append_ids (w:=w) o.type h hu hl hB
 unfold Oper.wp execOp
 simp only [ho,resolve,invoke,builtin,Sem.run_bind,Sem.run_pure,Result.andThen_ok,List.map_toArray,List.map_cons,List.map_nil,hs,hx,hr]
 exact hK' _ _ (hK v' w' h1 h2 h3)
theorem step_append_ids {ops:Array Oper} {o:Oper} {a:Act} {K:Act→World→Prop} {Q:Exit→Act→World→Prop} {E:Prop} (hgd:o.guard=none) (s x:Operand)
  (ho:o.op=.call { callee:=.builtin .append,args:=#[s,x],argTypes:=#[39,39] }) {C0 C:Nat} {v u:Value} {l m:List UInt64} (hs:a.eval s=v) (hx:a.eval x=u) (h:OwnIds w C0 v l) (hu:OwnIds w C u m) (hl:l.length+m.length≤1000000) (hB:C0≤w.heap.size)
  (hK:∀ v' w',OwnIds w' C0 v' (l ++ m)→w.grownBy w' v.ownBlock→(∀ k,v'.ownBlock=some k→v.ownBlock=some k∨w.heap.size≤k)→K (a.put o.dst v') w'):if Region.wanted o (yielded ops a.tmps)=true then Oper.wp Tryz.prog o a w K Q else E:=by
 have hwt:Region.wanted o (yielded ops a.tmps)=true:=by simp [Region.wanted,hgd]
 rw [if_pos hwt]
 obtain ⟨v',w',hr,h1,h2,h3⟩:=run_append_ids (w:=w) o.type h hu hl hB
 unfold Oper.wp execOp
 simp only [ho,resolve,invoke,builtin,Sem.run_bind,Sem.run_pure,Result.andThen_ok,List.map_toArray,List.map_cons,List.map_nil,hs,hx,hr]
 exact hK v' w' h1 h2 h3
theorem ids_beside {wr wr':World} {C:Nat} {u v v':Value} {m:List UInt64} (h:OwnIds wr C u m) (hn:∀ j,u.ownBlock=some j→v.ownBlock≠some j) (hg:wr.grownBy wr' v.ownBlock) (hk:∀ k,v'.ownBlock=some k→v.ownBlock=some k∨wr.heap.size≤k):OwnIds wr' C u m∧∀ j,u.ownBlock=some j→v'.ownBlock≠some j:=
 ⟨own_same h fun g hu=>hg.block g (h.lt g hu).2 (fun e=>hn g hu e.symm),fun j hu e=>(hk j e).elim (hn j hu) (fun hle=>by have:=(h.lt j hu).2;omega)⟩
theorem fresh_beside {wr wr':World} {C:Nat} {u v:Value} {q m:List UInt64} (h:OwnIds wr C v q) (ho:OwnIds wr' wr.heap.size u m):∀ j,u.ownBlock=some j→v.ownBlock≠some j:=fun j hj e=>by
 have:=(h.lt j e).2
 have:=(ho.lt j hj).1
 omega
def sliceLen:Value→Nat
 | .slice _ n _=>n
 | _=>0
structure LK (w:World) (G:Nat→Prop) (B:Nat) (wr:World) (G1:Nat→Prop) (u:NS) (q:List UInt64) (v:Value) (D:DeedD) (A:Option Addr) (C:Nat):Prop where
 node:RN wr G1 B u
 grow:Gain B G G1 w wr
 hB:B < w.heap.size
 hG:There w G
 own:∀ j,G1 j→G j∨w.heap.size+1≤j
 box:wr.heap[w.heap.size]?=some (.cells #[.slice A D.ins.length C,.int .i64 D.outs,.int .i64 D.weight,.int .i64 D.fee] 94 (0,0))
 ins:InsAt wr A D.ins
 out:∀ bb o,D.ins≠[]→A=some ⟨bb,o,none⟩→bb≠B∧bb≠w.heap.size∧v.ownBlock≠some bb
 cap:D.ins.length≤C
 row:OwnIds wr (w.heap.size+1) v q
 rowG:∀ j,v.ownBlock=some j→¬ G1 j
section
variable {wr wr':World} {G1 G2:Nat→Prop} {u u':NS} {q:List UInt64} {v:Value} {D:DeedD} {A:Option Addr} {C:Nat}
theorem LK.lt (h:LK w G B wr G1 u q v D A C):w.heap.size < wr.heap.size:=(Array.getElem?_eq_some_iff.1 h.box).1
theorem LK.kept (h:LK w G B wr G1 u q v D A C) (hb:Below wr.heap.size wr wr'):LK w G B wr' G1 u q v D A C where
 node:=h.node.kept hb
 grow:=h.grow.trans (Gain.of_below hb)
 hB:=h.hB
 hG:=h.hG
 own:=h.own
 box:=(hb.block _ h.lt).trans h.box
 ins:=insAt_kept hb h.ins
 out:=h.out
 cap:=h.cap
 row:=owns_below h.row hb
 rowG:=h.rowG
theorem LK.gain (h:LK w G B wr G1 u q v D A C) (h2:RN wr' G2 B u') (ht:Gain B G1 G2 wr wr'):LK w G B wr' G2 u' q v D A C where
 node:=h2
 grow:=h.grow.trans ht
 hB:=h.hB
 hG:=h.hG
 own:=fun j hj=>(ht.own j hj).elim (h.own j) (fun hle=>.inr (by have:=h.lt;omega))
 box:=(ht.block _ h.lt (by have:=h.hB;omega)).trans h.box
 ins:=gain_ins h.ins ht (fun bb o hne e=>(h.out bb o hne e).1)
 out:=h.out
 cap:=h.cap
 row:=own_same h.row fun g hg=>ht.block g (h.row.lt g hg).2 (by have:=(h.row.lt g hg).1;have:=h.hB;omega)
 rowG:=fun j hj hg=>(ht.own j hg).elim (h.rowG j hj) (fun hle=>by have:=(h.row.lt j hj).2;omega)
theorem LK.cells (h:LK w G B wr G1 u q v D A C):(wr.cell? ⟨w.heap.size,0,none⟩=some (.slice A D.ins.length C)∧wr.cell? ⟨w.heap.size,1,none⟩=some (.int .i64 D.outs)∧wr.cell? ⟨w.heap.size,2,none⟩=some (.int .i64 D.weight)∧wr.cell? ⟨w.heap.size,3,none⟩=some (.int .i64 D.fee))∧w.heap.size < wr.heap.size∧B < wr.heap.size:=
 ⟨⟨head_cell h.box 0,head_cell h.box 1,head_cell h.box 2,head_cell h.box 3⟩,h.lt,h.node.lt⟩
theorem LK.free (h:LK w G B wr G1 u q v D A C):wr.frozen? ⟨w.heap.size,0,none⟩=false∧wr.frozen? ⟨w.heap.size,1,none⟩=false∧wr.frozen? ⟨w.heap.size,2,none⟩=false∧wr.frozen? ⟨w.heap.size,3,none⟩=false:=
 ⟨frozen_of_row wr _ 0 _ _ h.box,frozen_of_row wr _ 1 _ _ h.box,frozen_of_row wr _ 2 _ _ h.box,frozen_of_row wr _ 3 _ _ h.box⟩
theorem LK.rowed (h:LK w G B wr G1 u q v D A C) {q':List UInt64} {v':Value} (ho:OwnIds wr' (w.heap.size+1) v' q') (hg:wr.grownBy wr' v.ownBlock) (hk:∀ k,v'.ownBlock=some k→v.ownBlock=some k∨wr.heap.size≤k):LK w G B wr' G1 u q' v' D A C:=by
 have hblk:∀ k,k < wr.heap.size→v.ownBlock≠some k→wr'.heap[k]?=wr.heap[k]?:=fun k hk hne=>hg.block k hk (fun e=>hne e.symm)
 have hrB:∀ k,v.ownBlock=some k→w.heap.size+1≤k:=fun k hk=>(h.row.lt k hk).1
 refine ⟨h.node.same (fun k hk hgk=>hblk k hk (fun e=>h.rowG k e hgk)) hg.size,⟨hg.os.trans h.grow.os,hg.tape.trans h.grow.tape,hg.output.trans h.grow.output,Nat.le_trans h.grow.size hg.size,fun k hk hne=>(hblk k (Nat.lt_of_lt_of_le hk h.grow.size) (fun e=>by have:=hrB _ e;omega)).trans (h.grow.block k hk hne),h.grow.own,h.grow.more⟩,h.hB,h.hG,h.own,(hblk _ h.lt (fun e=>by have:=hrB _ e;omega)).trans h.box,insAt_same h.ins (fun bb o hne e=>hblk bb (Ju.ins_lt h.ins bb o hne e) (h.out bb o hne e).2.2) hg.size,fun bb o hne e=>⟨(h.out bb o hne e).1,(h.out bb o hne e).2.1,fun e2=>?_⟩,h.cap,ho,fun j hj hG1=>?_⟩
 ·rcases hk bb e2 with h3 | h3
  ·exact (h.out bb o hne e).2.2 h3
  ·have:=Ju.ins_lt h.ins bb o hne e
   omega
 ·rcases hk j hj with h3 | h3
  ·exact h.rowG j h3 hG1
  ·have:=h.node.there j hG1
   omega
theorem LK.put (h:LK w G B wr G1 u q v D A C) {E:DeedD} {A':Option Addr} {C':Nat} (hi:InsAt wr A' E.ins) (hb:∀ bb o,E.ins≠[]→A'=some ⟨bb,o,none⟩→G1 bb∧bb≠B) (hc:E.ins.length≤C') :
  LK w G B ((((wr.setCell ⟨w.heap.size,0,none⟩ (.slice A' E.ins.length C')).setCell ⟨w.heap.size,1,none⟩ (.int .i64 E.outs)).setCell ⟨w.heap.size,2,none⟩ (.int .i64 E.weight)).setCell ⟨w.heap.size,3,none⟩ (.int .i64 E.fee)) G1 u q v E A' C':=by
 have ht:=turn_set4 wr w.heap.size (.slice A' E.ins.length C') (.int .i64 E.outs) (.int .i64 E.weight) (.int .i64 E.fee)
 have hne:∀ j,G1 j→j≠w.heap.size:=fun j hj e=>by
  rcases h.own j hj with h3 | h3
  ·have:=h.hG j h3
   omega
  ·omega
 refine ⟨h.node.same (fun k hk hg=>ht.block k hk (hne k hg)) ht.size,⟨ht.os.trans h.grow.os,ht.tape.trans h.grow.tape,ht.output.trans h.grow.output,Nat.le_trans h.grow.size ht.size,fun k hk hkB=>(ht.block k (Nat.lt_of_lt_of_le hk h.grow.size) (by omega)).trans (h.grow.block k hk hkB),h.grow.own,h.grow.more⟩,h.hB,h.hG,h.own,
  heap_setCell_same _ w.heap.size 3 _ _ (.int .i64 E.fee) (heap_setCell_same _ w.heap.size 2 _ _ (.int .i64 E.weight) (heap_setCell_same _ w.heap.size 1 _ _ (.int .i64 E.outs) (heap_setCell_same _ w.heap.size 0 _ _ (.slice A' E.ins.length C') h.box))),
  insAt_turn hi ht (fun bb o h1 h2=>hne bb (hb bb o h1 h2).1),fun bb o h1 h2=>⟨(hb bb o h1 h2).2,hne bb (hb bb o h1 h2).1,fun e=>h.rowG bb e (hb bb o h1 h2).1⟩,hc,own_same h.row (fun g hg=>ht.block g (h.row.lt g hg).2 (by have:=(h.row.lt g hg).1;omega)),h.rowG⟩
end
end Go.Proofs.YtlboemhbealnmaaGreat
set_option maxRecDepth 20000
namespace Go.Proofs.YtlboemhbealnmaaGreat
open Go.RowKit Go.Maps
variable {s u:NS} {x c:UInt64} {D:DeedD} {n k p:Nat} {T:NS} {q:List UInt64}
def NS.look (s:NS) (p:Nat) (x:UInt64) (d:DeedD):NS:=
 (if (Ju.judgeL s.A d).2.1≠[] then (s.examine x d).1.adopt p x d (Ju.judgeL s.A d).2.1 else (s.examine x d).1).follow (s.examine x d).2
theorem state_cases (L:List DeedD) (d:DeedD):(Ju.stateL L d=2∧Ju.missL (Ju.findL L) d.ins≠[])∨((Ju.stateL L d=0∨Ju.stateL L d=1∨Ju.stateL L d=3)∧Ju.missL (Ju.findL L) d.ins=[]):=by
 by_cases hm:Ju.missL (Ju.findL L) d.ins=[]
 ·refine .inr ⟨?_,hm⟩
  unfold Ju.stateL Ju.stateM
  rw [if_neg (not_not_intro hm)]
  split
  ·exact .inr (.inr rfl)
  ·unfold Ju.payI
   split
   ·exact .inr (.inl rfl)
   ·exact .inl rfl
 ·refine .inl ⟨?_,hm⟩
  unfold Ju.stateL Ju.stateM
  rw [if_pos hm]
theorem judge_ok {L:List DeedD} {d:DeedD} (h:checkD d=0):Ju.judgeL L d=(Ju.stateL L d,Ju.missL (Ju.findL L) d.ins,0):=by unfold Ju.judgeL;rw [if_neg (not_not_intro h)]
structure LI (n:Nat) (T:NS) (k:Nat) (q:List UInt64) (u:NS):Prop where
 fine:k < q.length→PInv u∧u.A.length+u.P.length≤n
 few:q.length+48 * u.P.length≤2000
 rest:u.follow (q.drop k)=T
structure LE (n:Nat) (u:NS) (q:List UInt64) (x:UInt64) (D:DeedD):Prop where
 inv:PInv u
 id:Ju.idD D=x
 new:Ju.findL u.A x=none
 ok:checkD D=0
 sum:u.A.length+(Ho.removeL u.P x).length+1≤n
 few:q.length+48 * (Ho.removeL u.P x).length+48≤2000
 pool:u.P.length≤24
theorem accept_A (u:NS) (x:UInt64) (d:DeedD):(u.accept x d).A.length≤u.A.length+1:=accept_len u x d
theorem remove_mem {P:List Ho.LinkD} {y:UInt64} {e:DeedD} (h:Ho.deedOf P y=some e):(Ho.removeL P y).length+1≤P.length:=remove_len h
theorem LE.small (h:LE n u q x D) (hs:Ju.stateL u.A D≠2):(u.examine x D).1.P.length≤(Ho.removeL u.P x).length∧(u.examine x D).2.length≤48∧q.length≤2000∧(Ho.removeL u.P x).length≤24:=by
 have h24:(Ho.removeL u.P x).length≤24:=Nat.le_trans (remove_le _ _) h.pool
 refine ⟨?_,?_,by have:=h.few;omega,h24⟩
 ·rcases state_cases u.A D with ⟨h2,_⟩ | ⟨h2 | h2 | h2,_⟩
  ·exact absurd h2 hs
  ·rw [examine_good (by rw [judge_ok h.ok];exact h2)]
   exact Nat.le_refl _
  ·rw [examine_poor (by rw [judge_ok h.ok];exact h2)]
   exact seek_le _ x D
  ·rw [examine_wicked (by rw [judge_ok h.ok];exact h2)]
   exact Nat.le_refl _
 ·rcases state_cases u.A D with ⟨h2,_⟩ | ⟨h2 | h2 | h2,_⟩
  ·exact absurd h2 hs
  ·rw [examine_good (by rw [judge_ok h.ok];exact h2)]
   have h3:=childL_len (L:=Ho.removeL u.P x) x
   show (Ho.childL (Ho.removeL u.P x) x).length≤48
   omega
  ·rw [examine_poor (by rw [judge_ok h.ok];exact h2)]
   unfold NS.seek
   split
   ·show 0≤48
    omega
   ·rename_i y hy
    have h4:=remove_le (Ho.removeL u.P x) x
    have h5:=remove_le (Ho.removeL (Ho.removeL u.P x) x) y
    have h6:=childL_len (L:=Ho.removeL (Ho.removeL (Ho.removeL u.P x) x) y) x
    have h7:=childL_len (L:=Ho.removeL (Ho.removeL (Ho.removeL u.P x) x) y) y
    show (Ho.childL (Ho.removeL (Ho.removeL (Ho.removeL u.P x) x) y) x ++ Ho.childL (Ho.removeL (Ho.removeL (Ho.removeL u.P x) x) y) y).length≤48
    rw [List.length_append]
    omega
  ·rw [examine_wicked (by rw [judge_ok h.ok];exact h2)]
   exact Nat.zero_le _
theorem LE.step (h:LE n u q x D) (hk:k < q.length) (hr:(u.examine x D).1.follow (q.drop (k+1) ++ (u.examine x D).2)=T) (hs:Ju.stateL u.A D≠2):LI n T (k+1) (q ++ (u.examine x D).2) (u.examine x D).1:=by
 refine ⟨fun _=>⟨h.inv.examine h.id,?_⟩,?_,by rw [List.drop_append_of_le_length (by omega)];exact hr⟩
 ·have h1:=h.sum
  rcases state_cases u.A D with ⟨h2,_⟩ | ⟨h2 | h2 | h2,_⟩
  ·exact absurd h2 hs
  ·rw [examine_good (by rw [judge_ok h.ok];exact h2)]
   have:=accept_A u x D
   show (u.accept x D).A.length+(Ho.removeL u.P x).length≤n
   omega
  ·rw [examine_poor (by rw [judge_ok h.ok];exact h2)]
   unfold NS.seek
   split
   ·show u.A.length+(Ho.removeL u.P x).length≤n
    omega
   ·rename_i y hy
    obtain ⟨e,he⟩:=child_deed (List.mem_of_find?_eq_some hy)
    have h3:=accept_A (({ u with Q:=u.Q.put x }:NS).settle x) x D
    have h4:=accept_A ((({ u with Q:=u.Q.put x }:NS).settle x).accept x D) y ((Ho.deedOf (({ u with Q:=u.Q.put x }:NS).settle x).P y).getD nod)
    have h5:=remove_mem he
    have h6:(Ho.removeL (Ho.removeL (Ho.removeL u.P x) x) y).length+1≤(Ho.removeL u.P x).length:=by
     have e1:Ho.removeL (Ho.removeL u.P x) x=Ho.removeL u.P x:=by unfold Ho.removeL;rw [List.filter_filter];congr 1;funext l;simp
     rw [e1]
     exact h5
    have h7:(({ u with Q:=u.Q.put x }:NS).settle x).A.length=u.A.length:=rfl
    show (((({ u with Q:=u.Q.put x }:NS).settle x).accept x D).accept y ((Ho.deedOf (({ u with Q:=u.Q.put x }:NS).settle x).P y).getD nod)).A.length+(Ho.removeL (Ho.removeL (Ho.removeL u.P x) x) y).length≤n
    omega
  ·rw [examine_wicked (by rw [judge_ok h.ok];exact h2)]
   show u.A.length+(Ho.removeL u.P x).length≤n
   omega
 ·have h1:=h.few
  obtain ⟨h2,h3,_⟩:=h.small hs
  rw [List.length_append]
  omega
theorem le_first (hp:PInv s) (hx:Ju.idD D=x) (hf:Ju.findL s.A x=none) (hd:checkD D=0) (hs:s.A.length+s.P.length+1≤n) (h24:s.P.length≤24):LE n s [x] x D:=
 ⟨hp,hx,hf,hd,by have:=remove_le s.P x;omega,by have:=remove_le s.P x;simp only [List.length_cons,List.length_nil];omega,h24⟩
theorem LI.found (h:LI n T k q u) (hk:k < q.length) (hx:q[k]=x) (hd:Ho.deedOf u.P x=some D) (hfine:checkD D=0) (h24:u.P.length≤24):LE n u q x D∧(u.examine x D).1.follow (q.drop (k+1) ++ (u.examine x D).2)=T:=by
 obtain ⟨h1,h2⟩:=h.fine hk
 have h3:=remove_mem hd
 refine ⟨⟨h1,(h1.deed hd).1,(h1.deed hd).2,hfine,by omega,by have:=h.few;omega,h24⟩,?_⟩
 rw [← h.rest,List.drop_eq_getElem_cons hk,hx,follow_some _ _ _ _ hd]
theorem LI.gone (h:LI n T k q u) (hk:k < q.length) (hx:q[k]=x) (hd:Ho.deedOf u.P x=none):LI n T (k+1) q u:=
 ⟨fun _=>h.fine hk,h.few,by rw [← h.rest,List.drop_eq_getElem_cons hk,hx,follow_none _ _ _ hd]⟩
theorem LI.lost (h:LI n T k q u) (hk:k < q.length) (he:u.examine x D=(u,[])) (hr:(u.examine x D).1.follow (q.drop (k+1) ++ (u.examine x D).2)=T):LI n T (k+1) q u:=
 ⟨fun _=>h.fine hk,h.few,by rw [he,List.append_nil] at hr;exact hr⟩
theorem lost_is {A:List DeedD} (hu:u.A=A) (ho:checkD D=0) (h:Ju.stateL A D=2):u.examine x D=(u,[]):=by
 have:(Ju.judgeL u.A D).1=2:=by rw [judge_ok ho,hu];exact h
 exact examine_lost (by rw [this];decide) (by rw [this];decide) (by rw [this];decide)
theorem adopt_few (s:NS) (p:Nat) (x:UInt64) (d:DeedD) (ms:List UInt64) (h24:s.P.length≤24):(s.adopt p x d ms).P.length≤25:=by
 have h1:=add_len s.P p x d
 unfold NS.adopt
 simp only
 split
 ·rw [(wants_AP p ms _).2]
  show (Ho.addC s.P p x d).2.length≤25
  omega
 ·show (Ho.addC s.P p x d).2.length≤25
  omega
theorem li_adopted (h:LE n s [x] x D) (hl:Ju.stateL s.A D=2):LI n (s.look p x D) 1 [x] (s.adopt p x D (Ju.missL (Ju.findL s.A) D.ins)):=by
 have hm:Ju.missL (Ju.findL s.A) D.ins≠[]:=Ju.stateM_lost.1 hl
 refine ⟨fun hk=>absurd hk (by simp),by have:=adopt_few s p x D (Ju.missL (Ju.findL s.A) D.ins) h.pool;simp only [List.length_cons,List.length_nil];omega,?_⟩
 unfold NS.look
 rw [lost_is rfl h.ok hl,judge_ok h.ok,if_pos hm]
 rfl
theorem look_first (h:LE n s [x] x D) (hl:Ju.stateL s.A D≠2):(s.examine x D).1.follow (([x]:List UInt64).drop (0+1) ++ (s.examine x D).2)=s.look p x D:=by
 unfold NS.look
 rcases state_cases s.A D with ⟨h2,_⟩ | ⟨_,hm⟩
 ·exact absurd h2 hl
 ·rw [judge_ok h.ok,if_neg (not_not_intro hm)]
  rfl
end Go.Proofs.YtlboemhbealnmaaGreat
