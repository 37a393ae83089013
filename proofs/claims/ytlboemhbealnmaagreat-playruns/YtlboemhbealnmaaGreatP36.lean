import Derived.Test.YtlboemhbealnmaaGreatP23
import Derived.Test.YtlboemhbealnmaaGreatP4
import Derived.Test.YtlboemhbealnmaaGreatP5
import Derived.Deep.RegionLaw
set_option maxRecDepth 20000
namespace Go.Proofs.YtlboemhbealnmaaGreat.Ju
open Go.RowKit Go.Maps
def dhC (q:DeedH):List Value:=[.slice q.ia q.d.ins.length q.ic,.int .i64 q.d.outs,.int .i64 q.d.weight,.int .i64 q.d.fee]
def dhsC (l:List DeedH):List Value:=l.flatMap dhC
theorem dhC_length (q:DeedH):(dhC q).length=4:=rfl
theorem dhsC_length (l:List DeedH):(dhsC l).length=l.length * 4:=by
 induction l with
 | nil=>rfl
 | cons a r ih=>simp only [dhsC,List.flatMap_cons,List.length_append,dhC_length,List.length_cons] at ih ⊢;omega
theorem dhsC_append (a b:List DeedH):dhsC (a ++ b)=dhsC a ++ dhsC b:=by simp [dhsC]
theorem dhsC_at:∀ (l:List DeedH) (i:Nat) (h:i < l.length) (j:Nat),j < 4→(dhsC l)[i * 4+j]?=(dhC l[i])[j]?
 | [],i,h,_,_=>absurd h (by simp)
 | a :: r,0,_,j,hj=>by
  show (dhC a ++ dhsC r)[0 * 4+j]?=_
  rw [List.getElem?_append_left (by rw [dhC_length];omega)]
  simp
 | a :: r,i+1,h,j,hj=>by
  show (dhC a ++ dhsC r)[(i+1) * 4+j]?=_
  rw [List.getElem?_append_right (by rw [dhC_length];omega),dhC_length,show (i+1) * 4+j - 4=i * 4+j by omega,dhsC_at r i (by simpa using h) j hj]
  rfl
theorem dhsC_one (l:List DeedH):∀ u ∈ dhsC l,u.oneCell'=true:=fun u hu=>by
 unfold dhsC at hu
 obtain ⟨x,_,hx⟩:=List.mem_flatMap.1 hu
 simp only [dhC,List.mem_cons,List.not_mem_nil,or_false] at hx
 rcases hx with rfl | rfl | rfl | rfl <;> rfl
abbrev OwnD (w:World) (C:Nat) (v:Value) (l:List DeedH):Prop:=w.ownsRow C 94 4 v l.length (dhsC l)
theorem ownD_form {w:World} {C:Nat} {v:Value} {l:List DeedH} (h:OwnD w C v l):∃ a cap,v=.slice a l.length cap∧l.length≤cap∧RowOf w a l∧(∀ b o sp,a=some ⟨b,o,sp⟩→C≤b):=by
 rcases h.2 with ⟨hv,hn⟩ | ⟨g,cap,cur,hv,hB,hg,hc,_,_,_⟩
 ·exact ⟨none,0,by rw [hn];exact hv,by omega,fun i hi=>absurd hi (by omega),fun _ _ _ e=>by cases e⟩
 ·refine ⟨some ⟨g,0,none⟩,cap,hv,hc,fun i hi=>⟨g,0,rfl,(Array.getElem?_eq_some_iff.1 hg).1,?_⟩,fun _ _ _ e=>by cases e;exact hB⟩
  have hh:=h
  rw [hv] at hh
  have hat:∀ j,j < 4→w.cell? ⟨g,0+i * 4+j,none⟩=(dhC l[i])[j]?:=fun j hj=>by
   rw [Nat.zero_add,hh.cellAt (i * 4+j) (by omega)]
   exact dhsC_at l i hi j hj
  exact ⟨hat 0 (by omega),hat 1 (by omega),hat 2 (by omega),hat 3 (by omega)⟩
theorem info_deed:(Tryz.prog.info? 94).map (fun i=>(i.zero,i.size,i.bytes))=some (some (.agg #[.slice none 0 0,.int .i64 0,.int .i64 0,.int .i64 0]),4,48):=by kernel_rfl
theorem append_noneD (a:Option Addr) (cap:Nat) (ty:TypeId) (w:World):(Builtin.append_ #[47,47] ty #[.slice none 0 0,.slice a 0 cap]).run Tryz.prog w=.ok (.slice none 0 0) w:=by
 obtain ⟨iE,hiE,_,hz1,_⟩:=info_parts info_deed
 cases a with
 | none=>simp [Builtin.append_,run_underlying Tryz.underlying47,Builtin.lenOf,Builtin.firstCells,sizeOf,typeInfo,hiE]
 | some ad=>simp [Builtin.append_,run_underlying Tryz.underlying47,Builtin.lenOf,Builtin.firstCells,sizeOf,typeInfo,hiE,loadCells,loadCellsFrom]
theorem step_append_noneD {ops:Array Oper} {rest:List Oper} {o:Oper} {a:Act} {Q:Exit→Act→World→Prop} {w:World} (hgd:o.guard=none) (s x:Operand) (ho:o.op=.call { callee:=.builtin .append,args:=#[s,x],argTypes:=#[47,47] })
  (ad:Option Addr) (cap:Nat) (hs:a.eval s=.slice none 0 0) (hx:a.eval x=.slice ad 0 cap) (h:wpList Tryz.prog ops Q rest (a.put o.dst (.slice none 0 0)) w):wpList Tryz.prog ops Q (o :: rest) a w:=by
 refine wpList_plain hgd fun K' hK'=>?_
 unfold Oper.wp
 simp [execOp,ho,resolve,invoke,builtin,hs,hx,append_noneD,Result.andThen]
 exact hK' _ _ h
def CopyD (w:World) (l:List DeedH) (e:Ending) (w':World):Prop:=∃ a cap,e=.returned (.slice a l.length cap)∧OwnD w' w.heap.size (.slice a l.length cap) l∧Below w.heap.size w w'
theorem dhs_cells {w:World} {bb o:Nat} {l:List DeedH} (h:RowOf w (some ⟨bb,o,none⟩) l):∀ j u,(dhsC l)[j]?=some u→w.cell? ((⟨bb,o,none⟩:Addr).add j)=some u:=fun j u hj=>by
 have hl:j < (dhsC l).length:=(List.getElem?_eq_some_iff.1 hj).1
 rw [dhsC_length] at hl
 have hi:j / 4 < l.length:=by omega
 have e2:=dhsC_at l (j / 4) hi (j % 4) (by omega)
 rw [show j / 4 * 4+j % 4=j by omega,hj] at e2
 obtain ⟨b',o',e,_,c0,c1,c2,c3⟩:=h (j / 4) hi
 simp only [Option.some.injEq,Addr.mk.injEq,and_true] at e
 obtain ⟨rfl,rfl⟩:=e
 have e3:(⟨bb,o,none⟩:Addr).add j=⟨bb,o+j,none⟩:=by unfold Addr.add;split <;> simp_all
 rw [e3]
 have hm:j % 4=0∨j % 4=1∨j % 4=2∨j % 4=3:=by omega
 rcases hm with hm | hm | hm | hm
 ·rw [hm] at e2
  rw [show o+j=o+j / 4 * 4 by omega,c0,e2];rfl
 ·rw [hm] at e2
  rw [show o+j=o+j / 4 * 4+1 by omega,c1,e2];rfl
 ·rw [hm] at e2
  rw [show o+j=o+j / 4 * 4+2 by omega,c2,e2];rfl
 ·rw [hm] at e2
  rw [show o+j=o+j / 4 * 4+3 by omega,c3,e2];rfl
theorem copyDeeds_any (l:List DeedH) (a:Option Addr) (cap:Nat) (w:World) (hl:l.length≤2932031007402) (hi:RowOf w a l) :
  Calls Tryz.prog 223 #[.slice a l.length cap] w (CopyD w l):=by
 by_cases hnil:l=[]
 ·subst hnil
  have HE:Hid (CopyD w [] (.returned (.slice none 0 0)) w):=Lib.hid ⟨none,0,rfl,World.ownsRow_nil _ _ _ _,Below.refl _ _⟩
  clear hl hi
  simp only [List.length_nil]
  go_enter Tryz.func223,Tryz.ntmps223
  go_wp2_with (at_builtin;refine step_append_noneD rfl _ _ rfl a cap rfl rfl ?_)
  go_ret
  exact HE.out
 ·have hpos:0 < l.length:=List.length_pos_iff.2 hnil
  obtain ⟨bb,oo,rfl,hbl,_⟩:=hi 0 hpos
  obtain ⟨iE,hiE,hz0,hz1,hz2⟩:=info_parts info_deed
  have HN:=Lib.hid (dhs_cells hi)
  have HL:=Lib.hid hl
  clear hnil hi
  go_enter Tryz.func223,Tryz.ntmps223
  go_wp2_with (at_builtin;refine wpList_append_lies _ rfl _ _ 47 rfl w.heap.size 94 iE _ 4 48 Tryz.underlying47 hiE hz0 hz1 hz2 rfl (by decide) (.slice none 0 0) 0 [] rfl (World.ownsRow_nil _ _ _ _) ⟨bb,oo,none⟩ l.length cap (dhsC l) rfl (dhsC_length l) HN.out (dhsC_one l) hpos (by have:=HL.out;unfold maxLen;omega) (by have:=HL.out;omega) (Nat.le_refl _) _ rfl ?_;intro g2 cap2 w2 hown2 hgrow2 hat2 hlt2)
  have HE:Hid (CopyD w l (.returned (.slice (some ⟨g2,0,none⟩) l.length cap2)) w2):=Lib.hid (by
   rw [Nat.zero_add] at hown2
   exact ⟨_,_,rfl,hown2,(Below.refl _ _).grown hgrow2 (Nat.le_refl _) (fun j hj=>by cases hj)⟩)
  clear hown2 hgrow2 hat2
  go_wp2
  go_ret
  exact HE.out
def dOf (l:List DeedH):List DeedD:=l.map fun q=>q.d
theorem dOf_len (l:List DeedH):(dOf l).length=l.length:=List.length_map _
structure RowJ (w:World) (a:Option Addr) (l:List DeedH):Prop where
 row:RowOf w a l
 ins:∀ q ∈ l,InsAt w q.ia q.d.ins
 fine:∀ q ∈ l,checkD q.d=0
variable {w w':World} {a:Option Addr} {l:List DeedH}
theorem RowJ.kept (h:RowJ w a l) (hb:Below w.heap.size w w'):RowJ w' a l:=⟨rowOf_kept h.row hb,fun q hq=>insAt_kept hb (h.ins q hq),h.fine⟩
theorem find_take {l:List DeedH} {x:UInt64} {k:Nat} (hk:k < l.length) (hn:findL (dOf (l.take k)) x=none) (hx:idD l[k].d=x):findL (dOf l) x=some l[k].d:=by
 have e:dOf l=dOf (l.take k) ++ (l[k].d :: dOf (l.drop (k+1))):=by
  unfold dOf
  conv=>lhs;rw [← List.take_append_drop k l,List.map_append,List.drop_eq_getElem_cons hk]
  rfl
 unfold findL at hn ⊢
 rw [e,List.find?_append,hn]
 simp [hx]
theorem find_take_no {l:List DeedH} {x:UInt64} {k:Nat} (hk:k < l.length) (hn:findL (dOf (l.take k)) x=none) (hx:idD l[k].d≠x):findL (dOf (l.take (k+1))) x=none:=by
 rw [findL_none] at hn ⊢
 intro d hd
 unfold dOf at hd
 rw [List.take_succ_eq_append_getElem hk,List.map_append] at hd
 rcases List.mem_append.1 hd with hd | hd
 ·exact hn d hd
 ·simp only [List.map_cons,List.map_nil,List.mem_singleton] at hd
  rw [hd]
  exact hx
set_option maxRecDepth 20000 in
theorem refFind_any (x:UInt64) (cap:Nat) (w:World) (h:RowJ w a l) (hl:l.length≤2932031007402) :
  Calls Tryz.prog 63 #[.agg #[.slice a l.length cap],.int .u64 x.toNat] w (FindAns w (findL (dOf l) x)):=by
 obtain ⟨w0,hw0⟩:∃ y,y=(w.alloc (.cells #[.slice a l.length cap] 49)).alloc (.cells #[.slice none 0 0,.int .i64 0,.int .i64 0,.int .i64 0] 94):=⟨_,rfl⟩
 have hk0:Below w.heap.size w w0:=hw0▸kept_alloc (kept_new _ _) _
 have hbx:w0.heap[w.heap.size+1]?=some (.cells #[.slice none 0 0,.int .i64 0,.int .i64 0,.int .i64 0] 94 (0,0)):=hw0▸heap_alloc2_new _ _ _
 have H:=Lib.hid (h.kept hk0)
 have HR:=Lib.hid h
 have HK:=Lib.hid hk0
 have HBX:=Lib.hid hbx
 have hsz0:w.heap.size+1 < w0.heap.size:=(cell_spot (head_cell hbx 0)).2
 have HW0:=Lib.hid hw0
 clear h hk0 hbx hw0
 go_enter Tryz.func63,Tryz.ntmps63
 go_wp2_with fail
 rw [← HW0.out]
 go_loopw [11] (fun i wr=>∃ k:Nat,k≤l.length∧i=.int .i64 k∧Hid (findL (dOf (l.take k)) x=none)∧Hid (Below w0.heap.size w0 wr)) (fun i _=>l.length - (intOf i).toNat)
 case atStart=>exact ⟨0,Nat.zero_le _,rfl,Lib.hid rfl,Lib.hid (Below.refl _ _)⟩
 case round=>
  obtain ⟨k,hk,rfl,NO,HB⟩:=hrel
  by_cases hkl:k < l.length
  ·have hr:=H.out.kept HB.out
   obtain ⟨bb,oo,rfl,hbb,c0,c1,c2,c3⟩:=hr.row k hkl
   have hin:=hr.ins _ (List.getElem_mem hkl)
   have hfi:=hr.fine _ (List.getElem_mem hkl)
   have hyes:=fun e=>find_take hkl NO.out e
   have hno:=fun e=>find_take_no hkl NO.out e
   obtain ⟨⟨qa,qc,qd⟩,hq⟩:∃ q,l[k]=q:=⟨_,rfl⟩
   rw [hq] at c0 c1 c2 c3 hin hfi hyes hno
   simp only at c0 c1 c2 c3 hin hfi hyes hno
   obtain ⟨ix,hix⟩:∃ ix,idD qd=ix:=⟨_,rfl⟩
   have hk1:=kept_new wr (.cells #[.slice qa qd.ins.length qc,.int .i64 qd.outs,.int .i64 qd.weight,.int .i64 qd.fee] 94)
   rw [hix] at hyes hno
   have HYES:=Lib.hid hyes
   have HNO:=Lib.hid hno
   have HIX:=Lib.hid hix
   have HFI:=Lib.hid hfi
   have HIN:=Lib.hid (insAt_kept hk1 hin)
   have HIN0:=Lib.hid (HR.out.ins _ (List.getElem_mem hkl))
   have HQ:=Lib.hid hq
   have HK1:=Lib.hid hk1
   clear hr hyes hno hix hfi hin hq hk1
   go_wp2_with fail
   with_reducible refine (idOf_any qd qa qc _ HIN.out HFI.out ix HIX.out).mono ?_
   rintro e w2 ⟨rfl,hb2⟩
   have hbe:((ix.toNat:Int) == (x.toNat:Int))=(ix == x):=u64_beq ix x
   by_cases hx:ix=x
   ·rw [beq_iff_eq.2 hx] at hbe
    obtain ⟨d0,d1,d2,d3,hs2⟩:=box_four hb2
    have hB:=(hb2.block (w.heap.size+1) (by have:=HB.out.size;simp;omega)).trans ((HK1.out.block _ (by have:=HB.out.size;omega)).trans ((HB.out.block _ hsz0).trans HBX.out))
    have e0:=(head_cell hB 0).trans rfl
    have e1:=(head_cell hB 1).trans rfl
    have e2:=(head_cell hB 2).trans rfl
    have e3:=(head_cell hB 3).trans rfl
    have f0:=frozen_of_row w2 _ 0 _ _ hB
    have f1:=frozen_of_row w2 _ 1 _ _ hB
    have f2:=frozen_of_row w2 _ 2 _ _ hB
    have f3:=frozen_of_row w2 _ 3 _ _ hB
    have hs:=(cell_spot e0).2
    have HF:=Lib.hid (HYES.out hx)
    have HB2:=Lib.hid (kept_trans HB.out (kept_trans HK1.out hb2))
    have HL8:=Lib.hid (check_ok HFI.out).1
    have HI0:=HIN0.out
    rw [HQ.out] at HI0
    have HIZ:Hid (InsAt w qa qd.ins):=Lib.hid HI0
    clear hx hB hb2 HI0
    go_wp2_with fail
    refine bodyPost_ret (v:=.tuple #[.agg #[.slice qa qd.ins.length qc,.int .i64 qd.outs,.int .i64 qd.weight,.int .i64 qd.fee],.bool true]) (by simp [results,Tryz.results63,go_sem,e0,e1,e2,e3]) rfl ?_
    rw [HF.out]
    have ht:=turn_set4 w2 (w.heap.size+1) (.slice qa qd.ins.length qc) (.int .i64 qd.outs) (.int .i64 qd.weight) (.int .i64 qd.fee)
    have hbz:=kept_trans HK.out HB2.out
    exact ⟨qa,qc,rfl,HL8.out,insAt_turn (insAt_kept hbz HIZ.out) ht (fun bb' o' hne e hk=>by
     obtain ⟨b3,o3,e3',hb3,_⟩:=HIZ.out 0 (List.length_pos_iff.2 hne)
     rw [e] at e3'
     cases e3'
     omega),hbz.trans (ht.below (fun k hk=>by omega) hbz.size)⟩
   ·rw [beq_eq_false_iff_ne.2 hx] at hbe
    have HX:=Lib.hid hx
    have HB2:=Lib.hid (kept_trans HB.out (kept_trans HK1.out hb2))
    clear hx hb2
    go_wp2_with fail
    go_roundw
    case rel=>exact ⟨k+1,by omega,by go_num,Lib.hid (HNO.out HX.out),HB2⟩
    case measure=>simp [intOf];omega
  ·have he:l.take k=l:=List.take_of_length_le (by omega)
   have hf:=NO.out
   rw [he] at hf
   have HF:=Lib.hid hf
   have hB:=(HB.out.block _ (cell_spot (head_cell HBX.out 0)).2).trans HBX.out
   have e0:=(head_cell hB 0).trans rfl
   have e1:=(head_cell hB 1).trans rfl
   have e2:=(head_cell hB 2).trans rfl
   have e3:=(head_cell hB 3).trans rfl
   have f0:=frozen_of_row wr _ 0 _ _ hB
   have f1:=frozen_of_row wr _ 1 _ _ hB
   have f2:=frozen_of_row wr _ 2 _ _ hB
   have f3:=frozen_of_row wr _ 3 _ _ hB
   have hs:=(cell_spot e0).2
   clear he hf hB
   go_wp2_with fail
   refine bodyPost_ret (v:=.tuple #[.agg #[.slice none 0 0,.int .i64 0,.int .i64 0,.int .i64 0],.bool false]) (by simp [results,Tryz.results63,go_sem,e0,e1,e2,e3]) rfl ?_
   rw [HF.out]
   have ht:=turn_set4 wr (w.heap.size+1) (.slice none 0 0) (.int .i64 0) (.int .i64 0) (.int .i64 0)
   exact ⟨none,0,rfl,Nat.zero_le _,fun i hi=>absurd hi (by simp [nod]),(kept_trans HK.out HB.out).trans (ht.below (fun k hk=>by omega) (kept_trans HK.out HB.out).size)⟩
set_option maxRecDepth 20000 in
theorem refHasJ_any (x:UInt64) (cap:Nat) (w:World) (h:RowJ w a l) (hl:l.length≤2932031007402) (r:Bool) (hr:(findL (dOf l) x).isSome=r) :
  Calls Tryz.prog 59 #[.agg #[.slice a l.length cap],.int .u64 x.toNat] w fun e w'=>e=.returned (.bool r)∧Below w.heap.size w w':=by
 have hk0:=kept_new w (.cells #[.slice a l.length cap] 49)
 have H:=Lib.hid (h.kept hk0)
 have HR:=Lib.hid hr
 clear h hr
 go_enter Tryz.func59,Tryz.ntmps59
 go_wp2_with fail
 with_reducible refine (refFind_any x cap _ H.out hl).mono ?_
 rintro e w1 ⟨a1,c1,rfl,_,_,hb1⟩
 rw [HR.out]
 obtain ⟨dd,hdd⟩:∃ d,(findL (dOf l) x).getD nod=d:=⟨_,rfl⟩
 rw [hdd]
 clear hdd
 go_wp2_with fail
 go_ret
 exact ⟨rfl,kept_alloc (kept_trans hk0 hb1) _⟩
set_option maxRecDepth 20000 in
theorem refAllJ_any (cap:Nat) (w:World) (h:RowJ w a l) (hl:l.length≤2932031007402) :
  Calls Tryz.prog 13 #[.agg #[.slice a l.length cap]] w (GaveIds w ((dOf l).map idD)):=by
 have hk0:=kept_new w (.cells #[.slice a l.length cap] 49)
 have H:=Lib.hid (h.kept hk0)
 have HK:=Lib.hid hk0
 obtain ⟨w0,hw0⟩:∃ y,y=w.alloc (.cells #[.slice a l.length cap] 49):=⟨_,rfl⟩
 rw [← hw0] at H HK
 have HW0:=Lib.hid hw0
 clear h hw0 hk0
 go_enter Tryz.func13,Tryz.ntmps13
 go_wp2_with fail
 rw [← HW0.out]
 go_loopw [3,9] (fun vi i wr=>∃ k:Nat,k≤l.length∧i=.int .i64 k∧Hid (OwnIds wr w0.heap.size vi ((dOf (l.take k)).map idD))∧Hid (Below w0.heap.size w0 wr)) (fun _ i _=>l.length - (intOf i).toNat)
 case atStart=>exact ⟨0,Nat.zero_le _,rfl,Lib.hid (ownIds_nil _ _),Lib.hid (Below.refl _ _)⟩
 case round=>
  obtain ⟨k,hk,rfl,HO,HB⟩:=hrel
  rename_i u3
  by_cases hkl:k < l.length
  ·have hr:=H.out.kept HB.out
   obtain ⟨bb,oo,rfl,hbb,c0,c1,c2,c3⟩:=hr.row k hkl
   have hin:=hr.ins _ (List.getElem_mem hkl)
   have hfi:=hr.fine _ (List.getElem_mem hkl)
   have hst:(dOf (l.take (k+1))).map idD=(dOf (l.take k)).map idD ++ [idD l[k].d]:=by unfold dOf;rw [List.take_succ_eq_append_getElem hkl];simp only [List.map_append,List.map_cons,List.map_nil]
   obtain ⟨⟨qa,qc,qd⟩,hq⟩:∃ q,l[k]=q:=⟨_,rfl⟩
   rw [hq] at c0 c1 c2 c3 hin hfi hst
   simp only at c0 c1 c2 c3 hin hfi hst
   obtain ⟨ix,hix⟩:∃ ix,idD qd=ix:=⟨_,rfl⟩
   rw [hix] at hst
   have hlen:((dOf (l.take k)).map idD).length≤10000000000000:=by rw [List.length_map,dOf_len,List.length_take];omega
   have hk1:=kept_new wr (.cells #[.slice qa qd.ins.length qc,.int .i64 qd.outs,.int .i64 qd.weight,.int .i64 qd.fee] 94)
   have HIX:=Lib.hid hix
   have HFI:=Lib.hid hfi
   have HIN:=Lib.hid (insAt_kept hk1 hin)
   have HK1:=Lib.hid hk1
   have HST:=Lib.hid hst
   clear hr hix hfi hin hq hk1 hst
   go_wp2_with fail
   with_reducible refine (idOf_any qd qa qc _ HIN.out HFI.out ix HIX.out).mono ?_
   rintro e w2 ⟨rfl,hb2⟩
   have hb12:=kept_trans HK1.out hb2
   have HO2:=Lib.hid (owns_below HO.out hb12)
   have HB2:=Lib.hid (kept_trans HB.out hb12)
   have HLEN:=Lib.hid hlen
   clear hb12 hb2 hlen
   go_wp2_with (at_builtin;refine append_idN rfl _ _ rfl ix rfl rfl HO2.out HLEN.out HB2.out.size ?_;intro g4 cap4 w4 ho4 hg4 _)
   have HO4:=Lib.hid ho4
   have HB4:=Lib.hid (HB2.out.grown hg4 HB2.out.size (fun j hj=>(HO2.out.lt j hj).1))
   clear ho4 hg4
   go_wp2_with fail
   go_roundw
   case rel=>exact ⟨k+1,by omega,by go_num,Lib.hid (by rw [HST.out];simpa using HO4.out),HB4⟩
   case measure=>simp [intOf];omega
  ·have he:l.take k=l:=List.take_of_length_le (by omega)
   have HO':=HO.out
   rw [he] at HO'
   obtain ⟨a6,cap6,e6,_,_,_⟩:=owns_idsAt HO'
   subst e6
   have HE:=Lib.hid HO'
   clear HO' he
   go_wp2_with fail
   go_ret
   exact ⟨a6,cap6,rfl,own_mono HE.out HK.out.size,kept_trans HK.out HB.out⟩
end Go.Proofs.YtlboemhbealnmaaGreat.Ju
set_option maxRecDepth 20000
namespace Go.Proofs.YtlboemhbealnmaaGreat.Ju
open Go.RowKit Go.Maps
theorem ids_nil_neq (w:World) (a:Option Addr) (l c:Nat):(binOp .neq 39 (.slice a l c) (.slice none 0 0)).run Tryz.prog w=.ok (.bool (!a.isNone)) w:=by
 simp [binOp,run_equal_slice_nil w 39 _ a l c Tryz.underlying39]
def GaveR (w:World) (k:Int) (m:List UInt64) (e:Ending) (w':World):Prop:=∃ a cap,e=.returned (.tuple #[.int .i64 k,.slice a m.length cap])∧OwnIds w' w.heap.size (.slice a m.length cap) m∧Below w.heap.size w w'
theorem any_take_bad {q:InD→Bool} {l:List InD} {k:Nat} (h:k < l.length) (hq:q l[k]=true):l.any q=true:=List.any_eq_true.2 ⟨_,List.getElem_mem h,hq⟩
theorem any_take_good {q:InD→Bool} {l:List InD} {k:Nat} (h:k < l.length) (hn:(l.take k).any q=false) (hq:q l[k]=false):(l.take (k+1)).any q=false:=by
 rw [List.take_succ_eq_append_getElem h,List.any_append,hn]
 simp [hq]
theorem contains_appJ {a b:List InD} {x:InD} (h1:a.contains x=false) (h2:b.contains x=false):(a ++ b).contains x=false:=by
 rw [← Bool.not_eq_true,List.contains_iff_mem] at h1 h2 ⊢
 intro h
 exact (List.mem_append.1 h).elim h1 h2
theorem insL_dOf_step {l:List DeedH} {k:Nat} (h:k < l.length):insL (dOf (l.take (k+1)))=insL (dOf (l.take k)) ++ l[k].d.ins:=by
 unfold dOf
 rw [List.take_succ_eq_append_getElem h,List.map_append]
 exact insL_snoc _ _
theorem insL_mem {l:List DeedH} {k:Nat} (h:k < l.length) {e:InD} (he:l[k].d.ins.contains e=true):(insL (dOf l)).contains e=true:=by
 rw [List.contains_iff_mem] at he ⊢
 unfold insL dOf
 exact List.mem_flatMap.2 ⟨l[k].d,List.mem_map.2 ⟨l[k],List.getElem_mem h,rfl⟩,he⟩
variable {w w':World} {a:Option Addr} {l:List DeedH}
set_option maxRecDepth 20000 in
set_option maxHeartbeats 1000000 in
theorem refjudge_any (cap:Nat) (d:DeedD) (da:Option Addr) (dc:Nat) (w:World) (h:RowJ w a l) (hl:l.length≤2932031007402) (hd:checkD d=0) (hi:InsAt w da d.ins) (st:Int) (m:List UInt64) (hst:stateL (dOf l) d=st) (hm:missL (findL (dOf l)) d.ins=m) :
  Calls Tryz.prog 124 #[.agg #[.slice a l.length cap],.agg #[.slice da d.ins.length dc,.int .i64 d.outs,.int .i64 d.weight,.int .i64 d.fee]] w (GaveR w st m):=by
 obtain ⟨w0,hw0⟩:∃ y,y=(w.alloc (.cells #[.slice a l.length cap] 49)).alloc (.cells #[.slice da d.ins.length dc,.int .i64 d.outs,.int .i64 d.weight,.int .i64 d.fee] 94):=⟨_,rfl⟩
 have hk0:Below w.heap.size w w0:=hw0▸kept_alloc (kept_new _ _) _
 have hbx:w0.heap[w.heap.size]?=some (.cells #[.slice a l.length cap] 49 (0,0)):=hw0▸heap_alloc2_old _ _ _
 have hby:w0.heap[w.heap.size+1]?=some (.cells #[.slice da d.ins.length dc,.int .i64 d.outs,.int .i64 d.weight,.int .i64 d.fee] 94 (0,0)):=hw0▸heap_alloc2_new _ _ _
 have hcell:∀ wx,Below w0.heap.size w0 wx→wx.cell? ⟨w.heap.size,0,none⟩=some (.slice a l.length cap)∧wx.cell? ⟨w.heap.size+1,0,none⟩=some (.slice da d.ins.length dc)∧wx.cell? ⟨w.heap.size+1,2,none⟩=some (.int .i64 d.weight)∧wx.cell? ⟨w.heap.size+1,3,none⟩=some (.int .i64 d.fee)∧w.heap.size+1 < wx.heap.size:=fun wx hb=>
  ⟨kept_cell hb (head_cell hbx 0),kept_cell hb (head_cell hby 0),kept_cell hb (head_cell hby 2),kept_cell hb (head_cell hby 3),(cell_spot (kept_cell hb (head_cell hby 0))).2⟩
 have HC:=Lib.hid hcell
 have H:=Lib.hid (h.kept hk0)
 have HI:=Lib.hid (insAt_kept hk0 hi)
 have HK:=Lib.hid hk0
 have HW0:=Lib.hid hw0
 have HD:=Lib.hid hd
 have hl8:=(check_ok hd).1
 have hpay:=(check_ok hd).2.2.2.2
 have hnn:=ids_nil_neq
 obtain ⟨M,hM⟩:∃ M,findL (dOf l)=M:=⟨_,rfl⟩
 have hstu:stateM M (spentL (dOf l)) d=st:=by rw [← hM];exact hst
 unfold stateM at hstu
 rw [hM] at hm
 rw [hm] at hstu
 have HM:=Lib.hid hM
 have HMM:=Lib.hid hm
 have hml:=missL_length M d.ins
 rw [hm] at hml
 clear h hi hk0 hbx hby hcell hw0 hd hst hM hm
 obtain ⟨dl,dO,dg,df⟩:=d
 simp only at HC HI HMM hl8 hpay hstu hml HW0 HD ⊢
 go_enter Tryz.func124,Tryz.ntmps124
 go_wp2_with fail
 rw [← HW0.out]
 go_loopw [6,18] (fun vi i wr=>∃ k:Nat,k≤dl.length∧i=.int .i64 k∧Hid (OwnIds wr w0.heap.size vi (missL M (dl.take k))∧(missL M (dl.take k)=[]→vi=.slice none 0 0))∧Hid (Below w0.heap.size w0 wr)) (fun _ i _=>dl.length - (intOf i).toNat)
 case atStart=>exact ⟨0,Nat.zero_le _,rfl,Lib.hid ⟨ownIds_nil _ _,fun _=>rfl⟩,Lib.hid (Below.refl _ _)⟩
 case round=>
  obtain ⟨k,hk,rfl,HO,HB⟩:=hrel
  rename_i u6
  by_cases hkl:k < dl.length
  ·obtain ⟨bb,oo,rfl,hbb,c0,c1,_⟩:=insAt_kept HB.out HI.out k hkl
   have hst:=missL_step (M:=M) hkl
   have hlen:=missL_length M (dl.take k)
   rw [List.length_take] at hlen
   obtain ⟨⟨ix,ia⟩,hix⟩:∃ q,dl[k]=q:=⟨_,rfl⟩
   rw [hix] at c0 c1 hst
   simp only at c0 c1 hst
   have hk1:=kept_new wr (.cells #[.int .u64 ix.toNat,.int .i64 ia] 180)
   obtain ⟨z0,_,_,_,z4⟩:=HC.out _ (kept_trans HB.out hk1)
   have HR1:=Lib.hid (H.out.kept (kept_trans HB.out hk1))
   have HK1:=Lib.hid hk1
   have hmf:∀ r,(M ix).isSome=r→(findL (dOf l) ix).isSome=r:=fun r e=>by rw [HM.out];exact e
   have HMF:=Lib.hid hmf
   obtain ⟨zz,hzz⟩:∃ z,z=wr.alloc (.cells #[.int .u64 ix.toNat,.int .i64 ia] 180):=⟨_,rfl⟩
   clear hix hk1 hmf
   cases hq:(M ix).isSome with
   | true=>
    rw [if_pos hq] at hst
    have HST:=Lib.hid hst
    have HQ:=Lib.hid (HMF.out true hq)
    clear hst hq hzz
    go_wp2_with fail
    with_reducible refine (refHasJ_any ix cap _ HR1.out hl true HQ.out).mono ?_
    rintro e w2 ⟨rfl,hb2⟩
    have hb12:=kept_trans HK1.out hb2
    have HO2:=Lib.hid (owns_below HO.out.1 hb12)
    have HB2:=Lib.hid (kept_trans HB.out hb12)
    clear hb12 hb2
    go_wp2_with fail
    go_roundw
    case rel=>exact ⟨k+1,by omega,by go_num,Lib.hid (by rw [HST.out];exact ⟨HO2.out,HO.out.2⟩),HB2⟩
    case measure=>simp [intOf];omega
   | false=>
    rw [if_neg (by rw [hq];simp)] at hst
    have HQ:=Lib.hid (HMF.out false hq)
    clear hq hzz
    cases hc:(missL M (dl.take k)).contains ix with
    | true=>
     rw [if_pos hc] at hst
     have HST:=Lib.hid hst
     have HCC:=Lib.hid hc
     clear hst hc
     go_wp2_with fail
     with_reducible refine (refHasJ_any ix cap _ HR1.out hl false HQ.out).mono ?_
     rintro e w2 ⟨rfl,hb2⟩
     have hb12:=kept_trans HK1.out hb2
     obtain ⟨d0,d1,hs1⟩:=box_pair hb2
     have HO2:=Lib.hid (owns_below HO.out.1 hb12)
     have HB2:=Lib.hid (kept_trans HB.out hb12)
     have HN2:=Lib.hid HO.out.2
     clear HO
     obtain ⟨ja,jc,rfl,_,hids,_⟩:=owns_idsAt HO2.out
     have HIDS:=Lib.hid hids
     clear hb12 hb2 hids
     go_wp2_with fail
     with_reducible refine (hasID_any _ ix true HCC _ _ _ (by unfold maxLen;omega) HIDS.out).mono ?_
     rintro e w3 ⟨rfl,rfl⟩
     go_wp2_with fail
     go_roundw
     case rel=>exact ⟨k+1,by omega,by go_num,Lib.hid (by rw [HST.out];exact ⟨HO2.out,HN2.out⟩),HB2⟩
     case measure=>simp [intOf];omega
    | false=>
     rw [if_neg (by rw [hc];simp)] at hst
     have HST:=Lib.hid hst
     have HCC:=Lib.hid hc
     clear hst hc
     go_wp2_with fail
     with_reducible refine (refHasJ_any ix cap _ HR1.out hl false HQ.out).mono ?_
     rintro e w2 ⟨rfl,hb2⟩
     have hb12:=kept_trans HK1.out hb2
     obtain ⟨d0,d1,hs1⟩:=box_pair hb2
     have HO2:=Lib.hid (owns_below HO.out.1 hb12)
     have HB2:=Lib.hid (kept_trans HB.out hb12)
     clear HO
     obtain ⟨ja,jc,rfl,_,hids,_⟩:=owns_idsAt HO2.out
     have HIDS:=Lib.hid hids
     clear hb12 hb2 hids
     go_wp2_with fail
     with_reducible refine (hasID_any _ ix false HCC _ _ _ (by unfold maxLen;omega) HIDS.out).mono ?_
     rintro e w3 ⟨rfl,rfl⟩
     go_wp2_with (at_builtin;refine append_id rfl _ _ rfl ix rfl rfl HO2.out (by omega) HB2.out.size ?_;intro g4 cap4 w4 ho4 hg4 hg5)
     have HO5:=Lib.hid ho4
     have HB5:=Lib.hid (HB2.out.grown hg5 HB2.out.size (fun j hj=>(HO2.out.lt j hj).1))
     clear ho4 hg4 hg5
     go_wp2_with fail
     go_roundw
     case rel=>exact ⟨k+1,by omega,by go_num,Lib.hid (by rw [HST.out];exact ⟨by simpa using HO5.out,fun e=>by simp at e⟩),HB5⟩
     case measure=>simp [intOf];omega
  ·have he:dl.take k=dl:=List.take_of_length_le (by omega)
   have HO':=HO.out
   rw [he,HMM.out] at HO'
   obtain ⟨ho,hnil⟩:=HO'
   obtain ⟨w1,hw1⟩:∃ x,x=wr:=⟨_,rfl⟩
   subst hw1
   clear he HO
   by_cases hne:m≠[]
   ·rw [if_pos hne] at hstu
    subst hstu
    have hpos:0 < m.length:=List.length_pos_iff.2 hne
    obtain ⟨ja,jc,rfl,_,hids,_⟩:=owns_idsAt ho
    obtain ⟨gb,go,rfl,_,_⟩:=hids 0 hpos
    have HO:=Lib.hid ho
    clear hids ho hnil hne
    go_wp2_with fail
    go_ret2
    exact ⟨_,_,rfl,own_mono HO.out HK.out.size,kept_trans HK.out HB.out⟩
   ·obtain rfl:m=[]:=Classical.not_not.1 hne
    obtain rfl:=hnil rfl
    rw [if_neg hne] at hstu
    obtain ⟨_,z1,_,_,z4⟩:=HC.out _ HB.out
    clear ho hnil hne
    have HSTU:=Lib.hid hstu
    clear hstu
    go_wp2_with fail
    go_loopw [46] (fun i wr=>∃ k2:Nat,k2≤dl.length∧i=.int .i64 k2∧Hid ((dl.take k2).any (badIn M (spentL (dOf l)))=false)∧Hid (Below w1.heap.size w1 wr)) (fun i _=>dl.length - (intOf i).toNat)
    case atStart=>exact ⟨0,Nat.zero_le _,rfl,Lib.hid (by simp),Lib.hid (Below.refl _ _)⟩
    case round=>
     obtain ⟨k2,hk2,rfl,NO,HB2⟩:=hrel
     have HBW:=Lib.hid (kept_trans HB.out HB2.out)
     by_cases hk2l:k2 < dl.length
     ·obtain ⟨bb,oo,rfl,hbb,c0,c1,_⟩:=insAt_kept HBW.out HI.out k2 hk2l
      have hyes:=any_take_bad (q:=badIn M (spentL (dOf l))) hk2l
      have hno:=any_take_good (q:=badIn M (spentL (dOf l))) hk2l NO.out
      obtain ⟨⟨ix,ia⟩,hix⟩:∃ q,dl[k2]=q:=⟨_,rfl⟩
      rw [hix] at c0 c1 hyes hno
      simp only at c0 c1
      have HYES:Hid (badIn M (spentL (dOf l)) (ix,ia)=true→st=3):=Lib.hid (fun e=>by rw [← HSTU.out];unfold wickedL;rw [if_pos (hyes e)])
      have HNO:=Lib.hid hno
      have hk1:=kept_new wr (.cells #[.int .u64 ix.toNat,.int .i64 ia] 180)
      obtain ⟨z0,_,_,_,z4'⟩:=HC.out _ (kept_trans HBW.out hk1)
      have HR1:=Lib.hid (H.out.kept (kept_trans HBW.out hk1))
      have HK1:=Lib.hid hk1
      obtain ⟨wB,hwB⟩:∃ x,x=wr:=⟨_,rfl⟩
      subst hwB
      clear hix hk1 hyes hno
      go_wp2_with fail
      with_reducible refine (refFind_any ix cap _ HR1.out hl).mono ?_
      rw [HM.out]
      rintro e w3 ⟨a3,cc3,rfl,_,_,hb3⟩
      obtain ⟨d0,d1,hs3⟩:=box_pair hb3
      obtain ⟨dd,hdd⟩:∃ x,(M ix).getD nod=x:=⟨_,rfl⟩
      have hbad:badIn M (spentL (dOf l)) (ix,ia)=(decide (ia ≥ dd.outs) || spentL (dOf l) (ix,ia)):=by unfold badIn;rw [hdd]
      rw [hdd]
      obtain ⟨el,eo,eg,ef⟩:=dd
      simp only at hbad ⊢
      obtain ⟨rr,hrr⟩:∃ r,(M ix).isSome=r:=⟨_,rfl⟩
      rw [hrr]
      have hk4:=kept_new w3 (.cells #[.slice a3 el.length cc3,.int .i64 eo,.int .i64 eg,.int .i64 ef] 94)
      have HB4:=Lib.hid (kept_trans (kept_trans HK1.out hb3) hk4)
      have g0:=kept_cell hk4 d0
      have g1:=kept_cell hk4 d1
      obtain ⟨hzz,_,_,_,_⟩:=HC.out _ (kept_trans HBW.out (kept_trans HK1.out hb3))
      obtain ⟨w4,hw4⟩:∃ x,x=w3.alloc (.cells #[.slice a3 el.length cc3,.int .i64 eo,.int .i64 eg,.int .i64 ef] 94):=⟨_,rfl⟩
      rw [← hw4] at HB4 g0 g1
      have HW4:=Lib.hid hw4
      have HBAD:=Lib.hid hbad
      clear hdd hrr hb3 hk4 hw4 hbad
      by_cases hge:ia ≥ eo
      ·have hd3:st=3:=HYES.out (by rw [HBAD.out,decide_eq_true hge];rfl)
       subst hd3
       have hdec:decide (ia ≥ eo)=true:=decide_eq_true hge
       clear HYES HNO HSTU HBAD
       go_wp2_with fail
       rw [← HW4.out]
       go_ret2
       exact ⟨none,0,rfl,ownIds_nil _ _,kept_trans (kept_trans HK.out HBW.out) HB4.out⟩
      ·have hdec:decide (ia ≥ eo)=false:=decide_eq_false hge
       obtain ⟨y0,_,_,_,y4⟩:=HC.out _ (kept_trans HBW.out HB4.out)
       have Y0:=Lib.hid y0
       have G0:=Lib.hid g0
       have G1:=Lib.hid g1
       have hzs:w.heap.size < w3.heap.size:=(cell_spot hzz).2
       clear y0 g0 g1
       go_wp2_with fail
       rw [← HW4.out]
       go_loopw [65] (fun i wr=>∃ j:Nat,j≤l.length∧i=.int .i64 j∧Hid ((insL (dOf (l.take j))).contains (ix,ia)=false)∧Hid (Below w4.heap.size w4 wr)) (fun i _=>l.length - (intOf i).toNat)
       case atStart=>exact ⟨0,Nat.zero_le _,rfl,Lib.hid (by simp [insL,dOf]),Lib.hid (Below.refl _ _)⟩
       case round=>
        obtain ⟨j,hj,rfl,NJ,HB5⟩:=hrel
        by_cases hjl:j < l.length
        ·have hr:=H.out.kept (kept_trans HBW.out (kept_trans HB4.out HB5.out))
         obtain ⟨rb,ro,rfl,hrb,q0,q1,q2,q3⟩:=hr.row j hjl
         have hin:=hr.ins _ (List.getElem_mem hjl)
         have hfi:=hr.fine _ (List.getElem_mem hjl)
         have hstp:=insL_dOf_step hjl
         have hmem:=insL_mem (e:=(ix,ia)) hjl
         obtain ⟨⟨qa,qc,qd⟩,hq⟩:∃ q,l[j]=q:=⟨_,rfl⟩
         rw [hq] at q0 q1 q2 q3 hin hfi hstp hmem
         simp only at q0 q1 q2 q3 hin hfi hstp hmem
         have hk6:=kept_new wr (.cells #[.slice qa qd.ins.length qc,.int .i64 qd.outs,.int .i64 qd.weight,.int .i64 qd.fee] 94)
         have m0:=kept_cell HB5.out G0.out
         have m1:=kept_cell HB5.out G1.out
         have m2:=(cell_spot m0).2
         have HIN:=Lib.hid (insAt_kept hk6 hin)
         have HK6:=Lib.hid hk6
         have HSTP:=Lib.hid hstp
         have HMEM:=Lib.hid hmem
         have hql:=(check_ok hfi).1
         clear hr hq hin hfi hk6 hstp hmem
         cases hcc:qd.ins.contains (ix,ia) with
         | true=>
          have hd3:st=3:=HYES.out (by rw [HBAD.out,hdec];exact HMEM.out hcc)
          subst hd3
          have HCC:=Lib.hid hcc
          clear HYES HNO HSTU HBAD hcc
          go_wp2_with fail
          refine (show Calls Tryz.prog 173 #[.slice qa qd.ins.length qc,inV (ix,ia)] _ fun e w'=>e=.returned (.bool true)∧Below _ _ w' from HCC.out▸has_any qd.ins (ix,ia) qa qc _ (by unfold maxLen;omega) HIN.out).mono ?_
          rintro e w7 ⟨rfl,hb7⟩
          go_wp2_with fail
          go_ret2
          exact ⟨none,0,rfl,ownIds_nil _ _,kept_trans (kept_trans HK.out HBW.out) (kept_trans (kept_trans HB4.out HB5.out) (kept_trans HK6.out hb7))⟩
         | false=>
          have HCC:=Lib.hid hcc
          clear hcc
          go_wp2_with fail
          refine (show Calls Tryz.prog 173 #[.slice qa qd.ins.length qc,inV (ix,ia)] _ fun e w'=>e=.returned (.bool false)∧Below _ _ w' from HCC.out▸has_any qd.ins (ix,ia) qa qc _ (by unfold maxLen;omega) HIN.out).mono ?_
          rintro e w7 ⟨rfl,hb7⟩
          have HB7:=Lib.hid (kept_trans HB5.out (kept_trans HK6.out hb7))
          clear hb7
          go_wp2_with fail
          go_roundw
          case rel=>exact ⟨j+1,by omega,by go_num,Lib.hid (by rw [HSTP.out];exact contains_appJ NJ.out HCC.out),HB7⟩
          case measure=>simp [intOf];omega
        ·have he:l.take j=l:=List.take_of_length_le (by omega)
         have hnj:=NJ.out
         rw [he] at hnj
         have HNB:Hid (badIn M (spentL (dOf l)) (ix,ia)=false):=Lib.hid (by rw [HBAD.out,hdec];exact hnj)
         have HB8:=Lib.hid (kept_trans HB2.out (kept_trans HB4.out HB5.out))
         clear he hnj
         go_wp2_with fail
         go_roundw
         case rel=>exact ⟨k2+1,by omega,by go_num,Lib.hid (HNO.out HNB.out),HB8⟩
         case measure=>simp [intOf];omega
     ·have he:dl.take k2=dl:=List.take_of_length_le (by omega)
      have hnw:=NO.out
      rw [he] at hnw
      have hst:=HSTU.out
      rw [if_neg (by unfold wickedL;rw [hnw];simp)] at hst
      obtain ⟨_,_,z2,z3,z5⟩:=HC.out _ HBW.out
      unfold payI at hst
      clear he hnw HSTU
      by_cases hlt:10 * df < dg
      ·rw [if_pos hlt] at hst
       subst hst
       go_wp2_with fail
       go_ret2
       exact ⟨none,0,rfl,ownIds_nil _ _,kept_trans HK.out HBW.out⟩
      ·rw [if_neg hlt] at hst
       subst hst
       go_wp2_with fail
       go_ret2
       exact ⟨none,0,rfl,ownIds_nil _ _,kept_trans HK.out HBW.out⟩
end Go.Proofs.YtlboemhbealnmaaGreat.Ju
set_option maxRecDepth 20000
namespace Go.Proofs.YtlboemhbealnmaaGreat.Ju
open Go.RowKit Go.Maps
variable {w w':World} {a:Option Addr} {l:List DeedH}
def WithJ (w:World) (l:List DeedH) (q:DeedH) (e:Ending) (w':World):Prop:=∃ a cap,e=.returned (.agg #[.slice a (l.length+1) cap])∧OwnD w' w.heap.size (.slice a (l.length+1) cap) (l ++ [q])∧Below w.heap.size w w'
theorem with_end {w w0 w3:World} {l:List DeedH} {q:DeedH} {g3 cap3:Nat} (hk:Below w.heap.size w w0) (hz:w0.heap.size=w.heap.size+3) (ho:w3.ownsRow w0.heap.size 94 4 (.slice (some ⟨g3,0,none⟩) (l.length+1) cap3) (l.length+1) (dhsC l ++ dhC q)) (hb:Below w0.heap.size w0 w3) :
  WithJ w l q (.returned (.agg #[.slice (some ⟨g3,0,none⟩) (l.length+1) cap3])) (w3.setCell ⟨w.heap.size+1+1,0,none⟩ (.slice (some ⟨g3,0,none⟩) (l.length+1) cap3)):=by
 have ht:=Turn.set (F:=fun k=>k=w.heap.size+1+1) w3 ⟨w.heap.size+1+1,0,none⟩ (.slice (some ⟨g3,0,none⟩) (l.length+1) cap3) rfl
 have ho2:=own_turn ho ht (fun k hk e=>by have:=(ho.lt k hk).1;omega)
 refine ⟨_,_,rfl,?_,(kept_trans hk hb).trans (ht.below (fun k hk=>by omega) (kept_trans hk hb).size)⟩
 have ho3:=own_mono ho2 hk.size
 unfold OwnD
 rw [List.length_append,dhsC_append]
 have:dhsC [q]=dhC q:=by simp [dhsC]
 rw [this]
 exact ho3
set_option maxRecDepth 20000 in
set_option maxHeartbeats 2000000 in
theorem with_any (cap:Nat) (d:DeedD) (da:Option Addr) (dc:Nat) (w:World) (h:RowOf w a l) (hl:l.length≤2932031007401) :
  Calls Tryz.prog 204 #[.agg #[.slice a l.length cap],.agg #[.slice da d.ins.length dc,.int .i64 d.outs,.int .i64 d.weight,.int .i64 d.fee]] w (WithJ w l ⟨da,dc,d⟩):=by
 obtain ⟨w0,hw0⟩:∃ y,y=((w.alloc (.cells #[.slice a l.length cap] 49)).alloc (.cells #[.slice da d.ins.length dc,.int .i64 d.outs,.int .i64 d.weight,.int .i64 d.fee] 94)).alloc (.cells #[.slice none 0 0] 49):=⟨_,rfl⟩
 have hk0:Below w.heap.size w w0:=hw0▸kept_alloc (kept_alloc (kept_new _ _) _) _
 have hz0:w0.heap.size=w.heap.size+3:=by rw [hw0];simp
 have hbx:w0.heap[w.heap.size]?=some (.cells #[.slice a l.length cap] 49 (0,0)):=by rw [hw0];exact (heap_alloc_old _ _ (by simp;omega)).trans (heap_alloc2_old _ _ _)
 have hby:w0.heap[w.heap.size+1]?=some (.cells #[.slice da d.ins.length dc,.int .i64 d.outs,.int .i64 d.weight,.int .i64 d.fee] 94 (0,0)):=by rw [hw0];exact (heap_alloc_old _ _ (by simp)).trans (heap_alloc2_new _ _ _)
 have hbz:w0.heap[w.heap.size+2]?=some (.cells #[.slice none 0 0] 49 (0,0)):=by
  rw [hw0]
  have:=heap_alloc_new ((w.alloc (.cells #[.slice a l.length cap] 49)).alloc (.cells #[.slice da d.ins.length dc,.int .i64 d.outs,.int .i64 d.weight,.int .i64 d.fee] 94)) (.cells #[.slice none 0 0] 49)
  simpa using this
 have c0:w0.cell? ⟨w.heap.size,0,none⟩=some (.slice a l.length cap):=head_cell hbx 0
 have d0:w0.cell? ⟨w.heap.size+1,0,none⟩=some (.slice da d.ins.length dc):=head_cell hby 0
 have d1:w0.cell? ⟨w.heap.size+1,1,none⟩=some (.int .i64 d.outs):=head_cell hby 1
 have d2:w0.cell? ⟨w.heap.size+1,2,none⟩=some (.int .i64 d.weight):=head_cell hby 2
 have d3:w0.cell? ⟨w.heap.size+1,3,none⟩=some (.int .i64 d.fee):=head_cell hby 3
 have HZ:=Lib.hid hbz
 have HR:=Lib.hid (rowOf_kept h hk0)
 have HK:=Lib.hid hk0
 have HW0:=Lib.hid hw0
 have HZ0:=Lib.hid hz0
 have hs0:w.heap.size < w0.heap.size:=by omega
 have hs1:w.heap.size+1 < w0.heap.size:=by omega
 clear h hk0 hbx hby hbz hw0 hz0
 go_enter Tryz.func204,Tryz.ntmps204
 go_wp2_with fail
 rw [← HW0.out]
 obtain ⟨iE,hiE,hy0,hy1,hy2⟩:=info_parts info_deed
 have hone:∀ u ∈ dhC ⟨da,dc,d⟩,u.oneCell'=true:=by simp [dhC,Value.oneCell']
 have HRA:Hid (∀ wx,Below w0.heap.size w0 wx→RowOf wx a l):=Lib.hid (fun wx hb=>rowOf_kept HR.out hb)
 have HZA:Hid (∀ wx,Below w0.heap.size w0 wx→wx.heap[w.heap.size+1+1]?=some (.cells #[.slice none 0 0] 49 (0,0))):=Lib.hid (fun wx hb=>(hb.block _ (by have:=HZ0.out;omega)).trans HZ.out)
 go_region_law (first
  | (go_simp;go_at_call 223;(with_reducible refine (copyDeeds_any l a cap w0.drew (by omega) (HRA.out _ ((Below.refl _ _).drew))).mono ?_);rintro e w1 ⟨a1,k1,rfl,ho1,hb1⟩;have hbb:=kept_trans ((Below.refl w0.heap.size w0).drew) hb1;have j0:=kept_cell hbb d0;have j1:=kept_cell hbb d1;have j2:=kept_cell hbb d2;have j3:=kept_cell hbb d3;have j4:=(cell_spot j0).2)
  | (go_simp;go_at_call 223;(with_reducible refine (copyDeeds_any l a cap (w0.alloc (.cells #[.slice da d.ins.length dc,.int .i64 d.outs,.int .i64 d.weight,.int .i64 d.fee] 94)).drew (by omega) (HRA.out _ ((kept_new _ _).drew))).mono ?_);rintro e w1 ⟨a1,k1,rfl,ho1,hb1⟩;have hbb:=kept_trans ((kept_new w0 (.cells #[.slice da d.ins.length dc,.int .i64 d.outs,.int .i64 d.weight,.int .i64 d.fee] 94)).drew) hb1;have hrow:∀ j u,(dhC ⟨da,dc,d⟩)[j]?=some u→w1.cell? ((⟨w0.heap.size,0,none⟩:Addr).add j)=some u:=(fun j u hj=>kept_cell hb1 (cells_new w0 _ _ j u hj));have j0:=kept_cell hbb d0;have j1:=kept_cell hbb d1;have j2:=kept_cell hbb d2;have j3:=kept_cell hbb d3;have j4:=(cell_spot j0).2)
  | (refine step_append_lies _ (by rfl) _ _ _ (by rfl) w0.heap.size 94 iE _ 4 48 Tryz.underlying47 hiE hy0 hy1 hy2 rfl (by omega) (.slice a1 l.length k1) l.length _ (by rfl) (ho1.alloc _) ⟨w1.heap.size,0,none⟩ 1 1 (dhC ⟨da,dc,d⟩) (by rfl) (by rfl) (cells_new w1 _ _) hone (by omega) (by unfold maxLen;omega) (by omega) (by have:=hbb.size;simp;omega) _ rfl ?_;intro g3 cap3 w3 hown3 hgrow3 hat3 hlt3;have hbel3:=(kept_alloc hbb (.cells #[.slice da d.ins.length dc,.int .i64 d.outs,.int .i64 d.weight,.int .i64 d.fee] 94)).grown hgrow3 (by have:=hbb.size;simp;omega) (fun j hj=>(ho1.lt j hj).1);have hz3:=HZA.out _ hbel3;have y0:w3.cell? ⟨w.heap.size+1+1,0,none⟩=some (.slice none 0 0):=head_cell hz3 0;have y1:=frozen_of_row w3 _ 0 _ _ hz3;have y2:=(cell_spot y0).2;have HO3:=Lib.hid hown3;have HB3:=Lib.hid hbel3;clear hown3 hgrow3 hat3 hbel3 hz3)
  | (refine step_append_lies _ (by rfl) _ _ _ (by rfl) w0.heap.size 94 iE _ 4 48 Tryz.underlying47 hiE hy0 hy1 hy2 rfl (by omega) (.slice a1 l.length k1) l.length _ (by rfl) (own_mono ho1 (by simp)) ⟨w0.heap.size,0,none⟩ 1 1 (dhC ⟨da,dc,d⟩) (by rfl) (by rfl) hrow hone (by omega) (by unfold maxLen;omega) (by omega) (by have:=hbb.size;omega) _ rfl ?_;intro g3 cap3 w3 hown3 hgrow3 hat3 hlt3;have hbel3:=hbb.grown hgrow3 hbb.size (fun j hj=>by have:=(ho1.lt j hj).1;simp at this;omega);have hz3:=HZA.out _ hbel3;have y0:w3.cell? ⟨w.heap.size+1+1,0,none⟩=some (.slice none 0 0):=head_cell hz3 0;have y1:=frozen_of_row w3 _ 0 _ _ hz3;have y2:=(cell_spot y0).2;have HO3:=Lib.hid hown3;have HB3:=Lib.hid hbel3;clear hown3 hgrow3 hat3 hbel3 hz3))
 all_goals
  go_wp2_with fail
  refine bodyPost_ret (v:=.agg #[.slice (some ⟨g3,0,none⟩) (l.length+1) cap3]) (by simp [results,Tryz.results204,go_sem,y0]) rfl ?_
  exact with_end HK.out HZ0.out HO3.out HB3.out
end Go.Proofs.YtlboemhbealnmaaGreat.Ju
