import Derived.Test.YtlboemhbealnmaaGreatP36
import Derived.Test.YtlboemhbealnmaaGreatP30
import Derived.Deep.RegionHeld3
import Derived.Test.YtlboemhbealnmaaGreatP23
set_option maxRecDepth 20000
namespace Go.Proofs.YtlboemhbealnmaaGreat.Ju
open Go.RowKit Go.Maps
def RefJ (w:World) (G:Nat→Prop) (R:Loc) (L:List DeedD):Prop:=
 ∃ a cap l,w.heap[R.b]?=some (.cells (refJC R.oc (.slice a l.length cap)) 54 (0,0))∧dOf l=L∧RowJ w a l∧(G R.b∧There w G)∧(∀ bb o,l≠[]→a=some ⟨bb,o,none⟩→G bb∧bb≠R.b)∧∀ q ∈ l,∀ bb o,q.d.ins≠[]→q.ia=some ⟨bb,o,none⟩→G bb∧bb≠R.b
variable {w w':World} {G F F':Nat→Prop} {R:Loc} {L:List DeedD}
theorem rowJ_same {a:Option Addr} {l:List DeedH} (h:RowJ w a l) (e1:∀ bb o,l≠[]→a=some ⟨bb,o,none⟩→w'.heap[bb]?=w.heap[bb]?) (e2:∀ q ∈ l,∀ bb o,q.d.ins≠[]→q.ia=some ⟨bb,o,none⟩→w'.heap[bb]?=w.heap[bb]?) (hs:w.heap.size≤w'.heap.size):RowJ w' a l:=
 ⟨fun i hi=>by
  obtain ⟨b,o,e,hlt,c0,c1,c2,c3⟩:=h.row i hi
  have hb:=e1 b o (fun e=>by rw [e] at hi;simp at hi) e
  exact ⟨b,o,e,Nat.lt_of_lt_of_le hlt hs,(World.cell?_of_block (a:=⟨b,o+i * 4,none⟩) hb).trans c0,(World.cell?_of_block (a:=⟨b,o+i * 4+1,none⟩) hb).trans c1,(World.cell?_of_block (a:=⟨b,o+i * 4+2,none⟩) hb).trans c2,(World.cell?_of_block (a:=⟨b,o+i * 4+3,none⟩) hb).trans c3⟩,
  fun q hq=>insAt_same (h.ins q hq) (e2 q hq) hs,h.fine⟩
theorem RefJ.lt (h:RefJ w G R L):R.b < w.heap.size:=by
 obtain ⟨a,cap,l,hh,_⟩:=h
 exact (Array.getElem?_eq_some_iff.1 hh).1
theorem row_lt {a:Option Addr} {l:List DeedH} (h:RowJ w a l):∀ bb o,l≠[]→a=some ⟨bb,o,none⟩→bb < w.heap.size:=fun bb o hne e=>by
 obtain ⟨b,o',e',hlt,_⟩:=h.row 0 (List.length_pos_iff.2 hne)
 rw [e] at e'
 cases e'
 exact hlt
theorem ins_lt {a:Option Addr} {l:List InD} (h:InsAt w a l):∀ bb o,l≠[]→a=some ⟨bb,o,none⟩→bb < w.heap.size:=fun bb o hne e=>by
 obtain ⟨b,o',e',hlt,_⟩:=h 0 (List.length_pos_iff.2 hne)
 rw [e] at e'
 cases e'
 exact hlt
theorem RefJ.same (h:RefJ w G R L) (e:∀ k,k < w.heap.size→G k→w'.heap[k]?=w.heap[k]?) (hs:w.heap.size≤w'.heap.size):RefJ w' G R L:=by
 obtain ⟨a,cap,l,hh,hd,hr,hn,h1,h2⟩:=h
 exact ⟨a,cap,l,(e _ (hn.2 _ hn.1) hn.1).trans hh,hd,rowJ_same hr (fun bb o hne ea=>e bb (hn.2 bb (h1 bb o hne ea).1) (h1 bb o hne ea).1) (fun q hq bb o hne ea=>e bb (hn.2 bb (h2 q hq bb o hne ea).1) (h2 q hq bb o hne ea).1) hs,⟨hn.1,hn.2.later hs⟩,h1,h2⟩
theorem RefJ.kept (h:RefJ w G R L) (hb:Below w.heap.size w w'):RefJ w' G R L:=h.same (fun k hk _=>hb.block k hk) hb.size
theorem RefJ.row (h:RefJ w G R L):∃ a cap l,w.cell? ⟨R.b,3,none⟩=some (.slice a l.length cap)∧dOf l=L∧RowJ w a l:=by
 obtain ⟨a,cap,l,hh,hd,hr,_⟩:=h
 exact ⟨a,cap,l,head_cell hh 3,hd,hr⟩
theorem refJ_stored {a:Option Addr} {cap:Nat} {l:List DeedH} (hlt:R.b < w.heap.size) (hh:w'.heap[R.b]?=some (.cells (refJC R.oc (.slice a l.length cap)) 54 (0,0))) (hr:RowJ w a l) (hn:G R.b∧There w G) (h2:∀ q ∈ l,∀ bb o,q.d.ins≠[]→q.ia=some ⟨bb,o,none⟩→G bb∧bb≠R.b)
  {w3:World} {q:DeedH} {a3:Option Addr} {cap3:Nat} (hb:Below w.heap.size w w') (hq:InsAt w' q.ia q.d.ins) (hqd:checkD q.d=0) (hqo:∀ bb o,q.d.ins≠[]→q.ia=some ⟨bb,o,none⟩→w.heap.size≤bb) (hb3:Below w'.heap.size w' w3) (ho:OwnD w3 w'.heap.size (.slice a3 (l.length+1) cap3) (l ++ [q])) :
  ∃ G',RefJ (w3.setCell ⟨R.b,3,none⟩ (.slice a3 (l.length+1) cap3)) G' R (dOf l ++ [q.d])∧Gain R.b G G' w (w3.setCell ⟨R.b,3,none⟩ (.slice a3 (l.length+1) cap3)):=by
 have hbb:=kept_trans hb hb3
 have hset:∀ k,k≠R.b→(w3.setCell ⟨R.b,3,none⟩ (.slice a3 (l.length+1) cap3)).heap[k]?=w3.heap[k]?:=fun k hk=>Below.heap_setCell w3 ⟨R.b,3,none⟩ _ k hk
 have hBw':R.b < w'.heap.size:=Nat.lt_of_lt_of_le hlt hb.size
 obtain ⟨a4,c4,e4,_,hrow,hup⟩:=ownD_form ho
 simp only [List.length_append,List.length_cons,List.length_nil,Value.slice.injEq] at e4
 obtain ⟨rfl,_,rfl⟩:=e4
 obtain ⟨G',hG'⟩:∃ G':Nat→Prop,G'=fun k=>G k∨w.heap.size≤k∧k < w3.heap.size:=⟨_,rfl⟩
 have hq3:∀ y ∈ l ++ [q],InsAt w3 y.ia y.d.ins∧(∀ bb o,y.d.ins≠[]→y.ia=some ⟨bb,o,none⟩→G' bb∧bb≠R.b)∧checkD y.d=0:=fun y hy=>by
  rcases List.mem_append.1 hy with hy | hy
  ·exact ⟨insAt_kept hbb (hr.ins y hy),fun bb o hne e=>⟨by rw [hG'];exact .inl (h2 y hy bb o hne e).1,(h2 y hy bb o hne e).2⟩,hr.fine y hy⟩
  ·rw [List.mem_singleton.1 hy]
   exact ⟨insAt_kept hb3 hq,fun bb o hne e=>⟨by rw [hG'];exact .inr ⟨hqo bb o hne e,ins_lt (insAt_kept hb3 hq) bb o hne e⟩,by have:=hqo bb o hne e;omega⟩,hqd⟩
 have hR:RowJ w3 a3 (l ++ [q]):=⟨hrow,fun y hy=>(hq3 y hy).1,fun y hy=>(hq3 y hy).2.2⟩
 have ha:∀ bb o,(l ++ [q])≠[]→a3=some ⟨bb,o,none⟩→G' bb∧bb≠R.b:=fun bb o hne e=>by
  have h5:=hup bb o none e
  have:=hb.size
  have:=row_lt hR bb o hne e
  exact ⟨by rw [hG'];exact .inr ⟨by omega,this⟩,by omega⟩
 refine ⟨G',⟨a3,cap3,l ++ [q],?_,by simp [dOf],rowJ_same hR (fun bb o hne e=>hset bb (ha bb o hne e).2) (fun y hy bb o hne e=>hset bb ((hq3 y hy).2.1 bb o hne e).2) (by rw [World.size_setCell];exact Nat.le_refl _),⟨by rw [hG'];exact .inl hn.1,fun k hk=>?_⟩,ha,fun y hy=>(hq3 y hy).2.1⟩,?_⟩
 ·have:=heap_setCell_same w3 R.b 3 _ _ (.slice a3 (l.length+1) cap3) ((hb3.block R.b hBw').trans hh)
  rw [List.length_append]
  exact this
 ·rw [hG'] at hk
  rw [World.size_setCell]
  exact hk.elim (fun h=>Nat.lt_of_lt_of_le (hn.2 k h) hbb.size) And.right
 ·exact ⟨hbb.os,hbb.tape,hbb.output,by rw [World.size_setCell];exact hbb.size,fun k hk hne=>(hset k hne).trans (hbb.block k hk),fun k hk=>by rw [hG'] at hk;exact hk.imp id And.left,fun k hk=>by rw [hG'];exact .inl hk⟩
set_option maxRecDepth 20000 in
set_option maxHeartbeats 2000000 in
theorem refAccept_any (d:DeedD) (da:Option Addr) (dc:Nat) (w:World) (h:RefJ w G R L) (hl:L.length≤2932031007401) (hdc:d.ins.length≤dc) (hi:InsAt w da d.ins) (r:Int) (L':List DeedD) (hr:acceptL L d=(r,L')) :
  Calls Tryz.prog 174 #[.pointer (some ⟨R.b,3,none⟩),.agg #[.slice da d.ins.length dc,.int .i64 d.outs,.int .i64 d.weight,.int .i64 d.fee]] w fun e w'=>e=.returned (.int .i64 r)∧∃ G',RefJ w' G' R L'∧Gain R.b G G' w w':=by
 have hBlt:=h.lt
 have HJ:=Lib.hid h
 obtain ⟨a,cap,l,hh,rfl,hrow,hn,h1,h2⟩:=h
 rw [dOf_len] at hl
 have hk0:=kept_new w (.cells #[.slice da d.ins.length dc,.int .i64 d.outs,.int .i64 d.weight,.int .i64 d.fee] 94)
 have HH:=Lib.hid hh
 have HROW:=Lib.hid hrow
 have HN:=Lib.hid hn
 have HQ2:=Lib.hid h2
 have HI:=Lib.hid (insAt_kept hk0 hi)
 have HK:=Lib.hid hk0
 have HBB:Hid (∀ wx,Below w.heap.size w wx→wx.cell? ⟨R.b,3,none⟩=some (.slice a l.length cap)):=Lib.hid (fun wx hb=>kept_cell hb (head_cell hh 3))
 have hacc:=hr
 unfold acceptL at hr
 clear h1 h2 hi hk0 hrow hn hh
 by_cases hc:checkD d=0
 ·rw [if_neg (not_not_intro hc)] at hr
  have HC:=Lib.hid hc
  obtain ⟨ix,hix⟩:∃ ix,idD d=ix:=⟨_,rfl⟩
  rw [hix] at hr
  have HIX:=Lib.hid hix
  clear hc hix
  cases hf:(findL (dOf l) ix).isSome with
  | true=>
   rw [if_pos hf] at hr
   simp only [Prod.mk.injEq] at hr
   obtain ⟨rfl,rfl⟩:=hr
   have HF:=Lib.hid hf
   clear hf hacc
   go_enter Tryz.func174,Tryz.ntmps174
   go_wp2_with fail
   with_reducible refine (refCheck_is d _ _ _ 0 hdc HI.out HC.out).mono ?_
   rintro e w1 ⟨rfl,hb1⟩
   obtain ⟨c0,c1,c2,c3,hs1⟩:=box_four hb1
   have HB1:=Lib.hid (kept_trans HK.out hb1)
   have HI1:=Lib.hid (insAt_kept hb1 HI.out)
   have b0:=HBB.out _ HB1.out
   have b1:=(cell_spot b0).2
   clear hb1
   go_wp2_with fail
   go_region_held3 (fun w'=>w'.cell? ⟨R.b,3,none⟩=some (.slice a l.length cap)∧w'.cell? ⟨w.heap.size,0,none⟩=some (.slice da d.ins.length dc)∧w'.cell? ⟨w.heap.size,1,none⟩=some (.int .i64 d.outs)∧w'.cell? ⟨w.heap.size,2,none⟩=some (.int .i64 d.weight)∧w'.cell? ⟨w.heap.size,3,none⟩=some (.int .i64 d.fee)∧Below w1.heap.size w1 w')
    (first | exact ⟨b0,c0,c1,c2,c3,(Below.refl _ _).drew⟩ | (go_split_ands;exact ⟨kept_cell hb2 (by assumption),kept_cell hb2 (by assumption),kept_cell hb2 (by assumption),kept_cell hb2 (by assumption),kept_cell hb2 (by assumption),kept_trans (by assumption) hb2⟩))
    (first | (go_split_ands;go_at_call 35;((with_reducible refine (idOf_any d da dc _ (insAt_kept (by assumption) HI1.out) HC.out ix HIX.out).mono ?_);rintro e w2 ⟨rfl,hb2⟩)) | (go_split_ands;go_at_call 59;((with_reducible refine (refHasJ_any ix cap _ (HROW.out.kept (kept_trans HB1.out (by assumption))) (by omega) true HF.out).mono ?_);rintro e w2 ⟨rfl,hb2⟩)))
   go_wp2_with fail
   go_split_ands
   have hbe:Below w1.heap.size w1 w2:=by assumption
   go_ret
   exact ⟨rfl,_,HJ.out.kept (kept_trans HB1.out hbe),Gain.of_below (kept_trans HB1.out hbe)⟩
  | false=>
   rw [if_neg (by rw [hf];simp)] at hr
   have HF:=Lib.hid hf
   obtain ⟨st,hst⟩:∃ st,stateL (dOf l) d=st:=⟨_,rfl⟩
   obtain ⟨mm,hmm⟩:∃ mm,missL (findL (dOf l)) d.ins=mm:=⟨_,rfl⟩
   rw [hst] at hr
   have HST:=Lib.hid hst
   have HMM:=Lib.hid hmm
   clear hf hacc hst hmm
   go_enter Tryz.func174,Tryz.ntmps174
   go_wp2_with fail
   with_reducible refine (refCheck_is d _ _ _ 0 hdc HI.out HC.out).mono ?_
   rintro e w1 ⟨rfl,hb1⟩
   obtain ⟨c0,c1,c2,c3,hs1⟩:=box_four hb1
   have HB1:=Lib.hid (kept_trans HK.out hb1)
   have HI1:=Lib.hid (insAt_kept hb1 HI.out)
   have b0:=HBB.out _ HB1.out
   have b1:=(cell_spot b0).2
   have HBX1:Hid (w1.heap[w.heap.size]?=some (.cells #[.slice da d.ins.length dc,.int .i64 d.outs,.int .i64 d.weight,.int .i64 d.fee] 94 (0,0))):=Lib.hid ((hb1.block _ (by simp)).trans (heap_alloc_new _ _))
   clear hb1
   go_wp2_with fail
   go_region_held3 (fun w'=>w'.cell? ⟨R.b,3,none⟩=some (.slice a l.length cap)∧w'.cell? ⟨w.heap.size,0,none⟩=some (.slice da d.ins.length dc)∧w'.cell? ⟨w.heap.size,1,none⟩=some (.int .i64 d.outs)∧w'.cell? ⟨w.heap.size,2,none⟩=some (.int .i64 d.weight)∧w'.cell? ⟨w.heap.size,3,none⟩=some (.int .i64 d.fee)∧Below w1.heap.size w1 w')
    (first | exact ⟨b0,c0,c1,c2,c3,(Below.refl _ _).drew⟩ | (go_split_ands;exact ⟨kept_cell hb2 (by assumption),kept_cell hb2 (by assumption),kept_cell hb2 (by assumption),kept_cell hb2 (by assumption),kept_cell hb2 (by assumption),kept_trans (by assumption) hb2⟩))
    (first | (go_split_ands;go_at_call 35;((with_reducible refine (idOf_any d da dc _ (insAt_kept (by assumption) HI1.out) HC.out ix HIX.out).mono ?_);rintro e w2 ⟨rfl,hb2⟩)) | (go_split_ands;go_at_call 59;((with_reducible refine (refHasJ_any ix cap _ (HROW.out.kept (kept_trans HB1.out (by assumption))) (by omega) false HF.out).mono ?_);rintro e w2 ⟨rfl,hb2⟩)))
   have hbe:Below w1.heap.size w1 w2:=by go_split_ands;assumption
   obtain ⟨w3,hw3⟩:∃ x,x=w2:=⟨_,rfl⟩
   subst hw3
   have HB3:=Lib.hid (kept_trans HB1.out hbe)
   have q0:w3.cell? ⟨R.b,3,none⟩=some (.slice a l.length cap):=by go_split_ands;assumption
   have q1:w3.cell? ⟨w.heap.size,0,none⟩=some (.slice da d.ins.length dc):=by go_split_ands;assumption
   have q2:w3.cell? ⟨w.heap.size,1,none⟩=some (.int .i64 d.outs):=by go_split_ands;assumption
   have q3:w3.cell? ⟨w.heap.size,2,none⟩=some (.int .i64 d.weight):=by go_split_ands;assumption
   have q4:w3.cell? ⟨w.heap.size,3,none⟩=some (.int .i64 d.fee):=by go_split_ands;assumption
   have q5:R.b < w3.heap.size:=(cell_spot q0).2
   have q6:w.heap.size < w3.heap.size:=(cell_spot q1).2
   have HI3:=Lib.hid (insAt_kept hbe HI1.out)
   have HBX3:Hid (w3.heap[w.heap.size]?=some (.cells #[.slice da d.ins.length dc,.int .i64 d.outs,.int .i64 d.weight,.int .i64 d.fee] 94 (0,0))):=Lib.hid ((hbe.block _ hs1).trans HBX1.out)
   clear hbe
   go_wp2_with fail
   go_region_held3 (fun w'=>w'.cell? ⟨R.b,3,none⟩=some (.slice a l.length cap)∧w'.cell? ⟨w.heap.size,0,none⟩=some (.slice da d.ins.length dc)∧w'.cell? ⟨w.heap.size,1,none⟩=some (.int .i64 d.outs)∧w'.cell? ⟨w.heap.size,2,none⟩=some (.int .i64 d.weight)∧w'.cell? ⟨w.heap.size,3,none⟩=some (.int .i64 d.fee)∧Below w3.heap.size w3 w')
    (first | exact ⟨q0,q1,q2,q3,q4,(Below.refl _ _).drew⟩ | (go_split_ands;exact ⟨kept_cell hb2 (by assumption),kept_cell hb2 (by assumption),kept_cell hb2 (by assumption),kept_cell hb2 (by assumption),kept_cell hb2 (by assumption),kept_trans (by assumption) hb2⟩))
    (first | (go_split_ands;go_at_call 124;((with_reducible refine (refjudge_any cap d da dc _ (HROW.out.kept (kept_trans HB3.out (by assumption))) (by omega) HC.out (insAt_kept (by assumption) HI3.out) st mm HST.out HMM.out).mono ?_);rintro e w2 ⟨a9,k9,rfl,_,hb2⟩)))
   go_split_ands
   have hbf:Below w3.heap.size w3 w2:=by assumption
   have HB4:=Lib.hid (kept_trans HB3.out hbf)
   have HI4:=Lib.hid (insAt_kept hbf HI3.out)
   have p0:w2.cell? ⟨R.b,3,none⟩=some (.slice a l.length cap):=by assumption
   have p1:w2.cell? ⟨w.heap.size,0,none⟩=some (.slice da d.ins.length dc):=by assumption
   have p5:R.b < w2.heap.size:=(cell_spot p0).2
   have p6:w.heap.size < w2.heap.size:=(cell_spot p1).2
   have HBX:Hid (w2.heap[w.heap.size]?=some (.cells #[.slice da d.ins.length dc,.int .i64 d.outs,.int .i64 d.weight,.int .i64 d.fee] 94 (0,0))):=Lib.hid ((hbf.block _ q6).trans HBX3.out)
   clear hbf
   by_cases hge:st ≥ 2
   ·rw [if_pos hge] at hr
    simp only [Prod.mk.injEq] at hr
    obtain ⟨rfl,rfl⟩:=hr
    have hgt:st > 1:=by omega
    clear hge
    go_wp2_with fail
    go_ret
    exact ⟨rfl,_,HJ.out.kept HB4.out,Gain.of_below HB4.out⟩
   ·rw [if_neg hge] at hr
    simp only [Prod.mk.injEq] at hr
    obtain ⟨rfl,rfl⟩:=hr
    have hgt:¬ st > 1:=by omega
    have hl8:=(check_ok HC.out).1
    clear hge
    go_wp2_with fail
    with_reducible refine (copyIns_any d.ins da dc w2 (by omega) HI4.out).mono ?_
    rintro e w5 ⟨a5,k5,rfl,ho5,hb5⟩
    have hbx5:=(hb5.block _ p6).trans HBX.out
    have s0:w5.cell? ⟨w.heap.size,0,none⟩=some (.slice da d.ins.length dc):=head_cell hbx5 0
    have f0:=frozen_of_row w5 _ 0 _ _ hbx5
    have s1:w.heap.size < w5.heap.size:=(cell_spot s0).2
    obtain ⟨w6,hw6⟩:∃ x,x=w5.setCell ⟨w.heap.size,0,none⟩ (.slice a5 d.ins.length k5):=⟨_,rfl⟩
    have ht6:Turn (fun k=>k=w.heap.size) (fun k=>k=w.heap.size) w5 w6:=hw6▸Turn.set w5 ⟨w.heap.size,0,none⟩ (.slice a5 d.ins.length k5) rfl
    have hB5:=kept_trans HB4.out hb5
    have hB6:Below w.heap.size w w6:=hB5.trans (ht6.below (fun k hk=>by omega) hB5.size)
    have hbx6:w6.heap[w.heap.size]?=some (.cells #[.slice a5 d.ins.length k5,.int .i64 d.outs,.int .i64 d.weight,.int .i64 d.fee] 94 (0,0)):=by
     rw [hw6]
     have:=heap_setCell_same w5 w.heap.size 0 _ _ (.slice a5 d.ins.length k5) hbx5
     simpa using this
    have ho6:=own_turn ho5 ht6 (fun k hk e=>by have:=(ho5.lt k hk).1;omega)
    have hin6:InsAt w6 a5 d.ins:=(ownIns_slice (show OwnIns w6 (.slice a5 d.ins.length k5) d.ins from own_mono ho6 (Nat.zero_le _)) (ins_ok HC.out)).2.2
    have HQO:Hid (∀ bb o,d.ins≠[]→a5=some ⟨bb,o,none⟩→w.heap.size≤bb):=Lib.hid (fun bb o _ e=>by
     have h5:=(ho5.lt bb (by rw [e];rfl)).1
     omega)
    have HIN6:=Lib.hid hin6
    have HB6:=Lib.hid hB6
    have t0:w6.cell? ⟨w.heap.size,0,none⟩=some (.slice a5 d.ins.length k5):=head_cell hbx6 0
    have t1:w6.cell? ⟨w.heap.size,1,none⟩=some (.int .i64 d.outs):=head_cell hbx6 1
    have t2:w6.cell? ⟨w.heap.size,2,none⟩=some (.int .i64 d.weight):=head_cell hbx6 2
    have t3:w6.cell? ⟨w.heap.size,3,none⟩=some (.int .i64 d.fee):=head_cell hbx6 3
    have t4:w.heap.size < w6.heap.size:=(cell_spot t0).2
    have t5:=HBB.out _ hB6
    have t6:R.b < w6.heap.size:=(cell_spot t5).2
    have HHB:Hid (w6.drew.heap[R.b]?=some (.cells (refJC R.oc (.slice a l.length cap)) 54 (0,0))):=Lib.hid ((hB6.block R.b hBlt).trans HH.out)
    have HW6:=Lib.hid hw6
    have HROW6:Hid (RowOf w6.drew a l):=Lib.hid (rowOf_kept HROW.out.row hB6.drew)
    clear hbx5 ht6 hB5 hB6 hbx6 ho6 hin6 ho5 hb5 hw6
    go_wp2_with fail
    rw [← HW6.out]
    go_region_law (first
     | (go_simp;go_at_call 204;(with_reducible refine (with_any cap d a5 k5 w6.drew HROW6.out hl).mono ?_);rintro e w7 ⟨a7,c7,rfl,ho7,hb7⟩;have hB7:=(hb7.block R.b t6).trans HHB.out;have u0:w7.cell? ⟨R.b,3,none⟩=some (.slice a l.length cap):=head_cell hB7 3;have u1:=frozen_of_row w7 _ 3 _ _ hB7;have u2:R.b < w7.heap.size:=(cell_spot u0).2;have HO7:=Lib.hid ho7;have HB7:=Lib.hid hb7;clear ho7 hb7 hB7))
    all_goals
     go_wp2_with fail
     go_ret
     exact ⟨rfl,refJ_stored (q:=⟨a5,k5,d⟩) hBlt HHB.out HROW.out HN.out HQ2.out (HB6.out.drew) (show InsAt w6.drew a5 d.ins from HIN6.out) HC.out HQO.out HB7.out HO7.out⟩
 ·rw [if_pos hc] at hr
  simp only [Prod.mk.injEq] at hr
  obtain ⟨hr,rfl⟩:=hr
  rw [hr] at hc
  have HR:=Lib.hid hr
  have hrb:(r != 0)=true:=by simpa using hc
  clear hr hc hacc
  go_enter Tryz.func174,Tryz.ntmps174
  go_wp2_with fail
  with_reducible refine (refCheck_is d _ _ _ r hdc HI.out HR.out).mono ?_
  rintro e w1 ⟨rfl,hb1⟩
  go_wp2_with fail
  go_ret
  exact ⟨rfl,_,HJ.out.kept (kept_trans HK.out hb1),Gain.of_below (kept_trans HK.out hb1)⟩
end Go.Proofs.YtlboemhbealnmaaGreat.Ju
set_option maxRecDepth 20000
namespace Go.Proofs.YtlboemhbealnmaaGreat.Ju
open Go.RowKit Go.Maps
variable {w w':World} {a:Option Addr} {l:List DeedH}
def withR (L:List DeedD) (p c:DeedD):Int:=if stateL (p :: L) c=2∨stateL (p :: L) c=3 then stateL (p :: L) c else payI (p.fee+c.fee) (p.weight+c.weight)
def pairR (L:List DeedD) (p c:DeedD):Int × Int:=if checkD p≠0 then (0,checkD p) else if checkD c≠0 then (0,checkD c) else if spendsD c (idD p)=false then (0,4) else if stateL L p≠1 then (stateL L p,0) else (withR L p c,0)
theorem findL_swap {L:List DeedD} {p:DeedD} (h:findL L (idD p)=none):findL (p :: L)=findL (L ++ [p]):=by
 funext x
 unfold findL at h ⊢
 rw [List.find?_cons,List.find?_append]
 cases hx:(idD p == x) with
 | true=>
  have e:idD p=x:=by simpa using hx
  rw [← e,h]
  simp
 | false=>
  simp [hx]
theorem spentL_swap (L:List DeedD) (p:DeedD):spentL (p :: L)=spentL (L ++ [p]):=by
 funext e
 have:(insL (p :: L)).contains e=(insL (L ++ [p])).contains e:=by
  rw [Bool.eq_iff_iff]
  simp only [insL,List.contains_iff_mem,List.flatMap_cons,List.flatMap_append,List.flatMap_nil,List.append_nil,List.mem_append]
  exact Or.comm
 exact this
theorem payI_small (x y:Int):payI x y≠2∧payI x y≠3:=by
 unfold payI
 split <;> decide
theorem withR_eq {L:List DeedD} {p c:DeedD} (h:findL L (idD p)=none):withR L p c=withL L p c:=by
 unfold withR withL stateL stateM
 rw [findL_swap h,spentL_swap]
 by_cases h1:missL (findL (L ++ [p])) c.ins≠[]
 ·rw [if_pos h1,if_pos h1,if_pos (Or.inl rfl)]
 ·rw [if_neg h1,if_neg h1]
  cases h2:wickedL (findL (L ++ [p])) (spentL (L ++ [p])) c.ins with
  | true=>simp
  | false=>
   simp only [Bool.false_eq_true,if_false]
   have:=payI_small c.fee c.weight
   rw [if_neg (by rintro (e | e);exact this.1 e;exact this.2 e)]
theorem pairR_eq {L:List DeedD} {p c:DeedD} (h:findL L (idD p)=none):pairR L p c=pairL L p c:=by
 unfold pairR pairL
 rw [withR_eq h]
theorem append_zeroD (g:Nat) (a:Option Addr) (cap:Nat) (ty:TypeId) (w:World):(Builtin.append_ #[47,47] ty #[.slice (some ⟨g,0,none⟩) 1 1,.slice a 0 cap]).run Tryz.prog w=.ok (.slice (some ⟨g,0,none⟩) 1 1) w:=by
 obtain ⟨iE,hiE,_,hz1,_⟩:=info_parts info_deed
 cases a with
 | none=>simp [Builtin.append_,run_underlying Tryz.underlying47,Builtin.lenOf,Builtin.firstCells,sizeOf,typeInfo,hiE,storeCells]
 | some ad=>simp [Builtin.append_,run_underlying Tryz.underlying47,Builtin.lenOf,Builtin.firstCells,sizeOf,typeInfo,hiE,loadCells,loadCellsFrom,storeCells]
theorem step_append_zeroD {ops:Array Oper} {rest:List Oper} {o:Oper} {a:Act} {Q:Exit→Act→World→Prop} {w:World} (hgd:o.guard=none) (s x:Operand) (ho:o.op=.call { callee:=.builtin .append,args:=#[s,x],argTypes:=#[47,47] })
  (g:Nat) (ad:Option Addr) (cap:Nat) (hs:a.eval s=.slice (some ⟨g,0,none⟩) 1 1) (hx:a.eval x=.slice ad 0 cap) (h:wpList Tryz.prog ops Q rest (a.put o.dst (.slice (some ⟨g,0,none⟩) 1 1)) w):wpList Tryz.prog ops Q (o :: rest) a w:=by
 refine wpList_plain hgd fun K' hK'=>?_
 unfold Oper.wp
 simp [execOp,ho,resolve,invoke,builtin,hs,hx,append_zeroD,Result.andThen]
 exact hK' _ _ h
theorem any_take_one {q:InD→Bool} {l:List InD} {k:Nat} (h:k < l.length):(l.take (k+1)).any q=((l.take k).any q || q l[k]):=by
 rw [List.take_succ_eq_append_getElem h,List.any_append]
 simp
theorem rowJ_cons {w w':World} {B:Nat} {a3:Option Addr} {cap3:Nat} {a:Option Addr} {l:List DeedH} {q:DeedH} (h:RowJ w a l) (hb:Below w.heap.size w w') (ho:OwnD w' B (.slice a3 (l.length+1) cap3) (q :: l)) (hq:InsAt w' q.ia q.d.ins) (hqd:checkD q.d=0):RowJ w' a3 (q :: l):=by
 obtain ⟨a4,cap4,e,_,hr,_⟩:=ownD_form ho
 cases e
 refine ⟨hr,fun y hy=>?_,fun y hy=>?_⟩
 ·rcases List.mem_cons.1 hy with rfl | hy
  ·exact hq
  ·exact insAt_kept hb (h.ins y hy)
 ·rcases List.mem_cons.1 hy with rfl | hy
  ·exact hqd
  ·exact h.fine y hy
theorem step_append_consD {ops:Array Oper} {rest:List Oper} {o:Oper} {b:Act} {Q:Exit→Act→World→Prop} {w:World} (hgd:o.guard=none) (s x:Operand) (ho:o.op=.call { callee:=.builtin .append,args:=#[s,x],argTypes:=#[47,47] })
  (B g:Nat) (q:DeedH) (a:Option Addr) (l:List DeedH) (cap:Nat) (hs:b.eval s=.slice (some ⟨g,0,none⟩) 1 1) (hx:b.eval x=.slice a l.length cap) (hown:w.ownsRow B 94 4 (.slice (some ⟨g,0,none⟩) 1 1) 1 (dhC q)) (hrow:RowOf w a l) (hl:l.length≤2932031007401) (hB:B≤w.heap.size)
  (h:∀ g2 cap2 w2,OwnD w2 B (.slice (some ⟨g2,0,none⟩) (l.length+1) cap2) (q :: l)→Below B w w2→wpList Tryz.prog ops Q rest (b.put o.dst (.slice (some ⟨g2,0,none⟩) (l.length+1) cap2)) w2):wpList Tryz.prog ops Q (o :: rest) b w:=by
 have e1:dhsC (q :: l)=dhC q ++ dhsC l:=rfl
 by_cases hnil:l=[]
 ·subst hnil
  refine step_append_zeroD hgd s x ho g a cap hs hx (h g 1 w ?_ (Below.refl _ _))
  unfold OwnD
  rw [e1]
  simpa [dhsC] using hown
 ·have hpos:0 < l.length:=List.length_pos_iff.2 hnil
  obtain ⟨bb,oo,rfl,hbl,_⟩:=hrow 0 hpos
  obtain ⟨iE,hiE,hz0,hz1,hz2⟩:=info_parts info_deed
  refine wpList_append_lies _ hgd s x 47 ho B 94 iE _ 4 48 Tryz.underlying47 hiE hz0 hz1 hz2 rfl (by decide) (.slice (some ⟨g,0,none⟩) 1 1) 1 (dhC q) hs hown ⟨bb,oo,none⟩ l.length cap (dhsC l) hx (dhsC_length l) (dhs_cells hrow) (dhsC_one l) hpos (by unfold maxLen;omega) (by omega) hB _ rfl ?_
  intro g2 cap2 w2 hown2 hgrow2 hat2 hlt2
  have e:=h g2 cap2 w2 (by unfold OwnD;rw [e1,List.length_cons,Nat.add_comm];rw [Nat.add_comm] at hown2;simpa [Nat.add_comm] using hown2) ((Below.refl _ _).grown hgrow2 hB (fun j hj=>(hown.lt j hj).1))
  rw [Nat.add_comm 1 l.length]
  exact e
set_option maxRecDepth 20000 in
set_option maxHeartbeats 2000000 in
theorem refPair_any (cap:Nat) (p c:DeedD) (pa ca:Option Addr) (pc cc:Nat) (w:World) (h:RowJ w a l) (hl:l.length≤2932031007401) (hpc:p.ins.length≤pc) (hcc:c.ins.length≤cc) (hpi:InsAt w pa p.ins) (hci:InsAt w ca c.ins) (k r:Int) (hr:pairR (dOf l) p c=(k,r)) :
  Calls Tryz.prog 130 #[.agg #[.slice a l.length cap],.agg #[.slice pa p.ins.length pc,.int .i64 p.outs,.int .i64 p.weight,.int .i64 p.fee],.agg #[.slice ca c.ins.length cc,.int .i64 c.outs,.int .i64 c.weight,.int .i64 c.fee]] w fun e w'=>e=.returned (.tuple #[.int .i64 k,.int .i64 r])∧Below w.heap.size w w':=by
 obtain ⟨w0,hw0⟩:∃ y,y=((w.alloc (.cells #[.slice a l.length cap] 49)).alloc (.cells #[.slice pa p.ins.length pc,.int .i64 p.outs,.int .i64 p.weight,.int .i64 p.fee] 94)).alloc (.cells #[.slice ca c.ins.length cc,.int .i64 c.outs,.int .i64 c.weight,.int .i64 c.fee] 94):=⟨_,rfl⟩
 have hk0:Below w.heap.size w w0:=hw0▸kept_alloc (kept_alloc (kept_new _ _) _) _
 have x0:w0.cell? ⟨w.heap.size,0,none⟩=some (.slice a l.length cap):=by rw [hw0];simp [go_sem]
 have y0:w0.cell? ⟨w.heap.size+1,0,none⟩=some (.slice pa p.ins.length pc):=by rw [hw0];simp [go_sem]
 have y1:w0.cell? ⟨w.heap.size+1,1,none⟩=some (.int .i64 p.outs):=by rw [hw0];simp [go_sem]
 have y2:w0.cell? ⟨w.heap.size+1,2,none⟩=some (.int .i64 p.weight):=by rw [hw0];simp [go_sem]
 have y3:w0.cell? ⟨w.heap.size+1,3,none⟩=some (.int .i64 p.fee):=by rw [hw0];simp [go_sem]
 have z0:w0.cell? ⟨w.heap.size+1+1,0,none⟩=some (.slice ca c.ins.length cc):=by rw [hw0];simp [go_sem]
 have z1:w0.cell? ⟨w.heap.size+1+1,1,none⟩=some (.int .i64 c.outs):=by rw [hw0];simp [go_sem]
 have z2:w0.cell? ⟨w.heap.size+1+1,2,none⟩=some (.int .i64 c.weight):=by rw [hw0];simp [go_sem]
 have z3:w0.cell? ⟨w.heap.size+1+1,3,none⟩=some (.int .i64 c.fee):=by rw [hw0];simp [go_sem]
 have HC:Hid (∀ wx,Below w0.heap.size w0 wx→wx.cell? ⟨w.heap.size,0,none⟩=some (.slice a l.length cap)∧(wx.cell? ⟨w.heap.size+1,0,none⟩=some (.slice pa p.ins.length pc)∧wx.cell? ⟨w.heap.size+1,1,none⟩=some (.int .i64 p.outs)∧wx.cell? ⟨w.heap.size+1,2,none⟩=some (.int .i64 p.weight)∧wx.cell? ⟨w.heap.size+1,3,none⟩=some (.int .i64 p.fee)) ∧
   (wx.cell? ⟨w.heap.size+1+1,0,none⟩=some (.slice ca c.ins.length cc)∧wx.cell? ⟨w.heap.size+1+1,1,none⟩=some (.int .i64 c.outs)∧wx.cell? ⟨w.heap.size+1+1,2,none⟩=some (.int .i64 c.weight)∧wx.cell? ⟨w.heap.size+1+1,3,none⟩=some (.int .i64 c.fee))∧w.heap.size < wx.heap.size∧w.heap.size+1 < wx.heap.size∧w.heap.size+1+1 < wx.heap.size):=Lib.hid (fun wx hb=>
  ⟨kept_cell hb x0,⟨kept_cell hb y0,kept_cell hb y1,kept_cell hb y2,kept_cell hb y3⟩,⟨kept_cell hb z0,kept_cell hb z1,kept_cell hb z2,kept_cell hb z3⟩,(cell_spot (kept_cell hb x0)).2,(cell_spot (kept_cell hb y0)).2,(cell_spot (kept_cell hb z0)).2⟩)
 have H:=Lib.hid (h.kept hk0)
 have HP:=Lib.hid (insAt_kept hk0 hpi)
 have HI:=Lib.hid (insAt_kept hk0 hci)
 have HK:=Lib.hid hk0
 have HW0:=Lib.hid hw0
 unfold pairR at hr
 clear h hpi hci hk0 hw0 x0 y0 y1 y2 y3 z0 z1 z2 z3
 by_cases hp:checkD p=0
 ·rw [if_neg (not_not_intro hp)] at hr
  have HPC:=Lib.hid hp
  obtain ⟨ix,hix⟩:∃ ix,idD p=ix:=⟨_,rfl⟩
  rw [hix] at hr
  have HIX:=Lib.hid hix
  clear hp hix
  by_cases hc:checkD c=0
  ·rw [if_neg (not_not_intro hc)] at hr
   have HCC:=Lib.hid hc
   have hc8:=(check_ok hc).1
   have HR:=Lib.hid hr
   clear hc hr
   go_enter Tryz.func130,Tryz.ntmps130
   go_wp2_with fail
   rw [← HW0.out]
   with_reducible refine (refCheck_is p _ _ _ 0 hpc HP.out HPC.out).mono ?_
   rintro e w1 ⟨rfl,hb1⟩
   obtain ⟨_,_,⟨c0,c1,c2,c3⟩,_,_,hs1⟩:=HC.out _ hb1
   have HB1:=Lib.hid hb1
   clear hb1
   go_wp2_with fail
   with_reducible refine (refCheck_is c _ _ _ 0 hcc (insAt_kept HB1.out HI.out) HCC.out).mono ?_
   rintro e w2 ⟨rfl,hb2⟩
   have HB2:=Lib.hid (kept_trans HB1.out hb2)
   obtain ⟨_,_,⟨d0,d1,d2,d3⟩,_,_,hs2⟩:=HC.out _ HB2.out
   clear hb2 c0 c1 c2 c3 hs1
   go_wp2_with fail
   go_loopw [10,31] (fun v i wr=>∃ k:Nat,k≤c.ins.length∧i=.int .i64 k∧(∃ b,v=.bool b∧Hid ((c.ins.take k).any (fun e=>e.1 == ix)=b))∧Hid (Below w2.heap.size w2 wr)) (fun _ i _=>c.ins.length - (intOf i).toNat)
   case atStart=>exact ⟨0,Nat.zero_le _,rfl,⟨false,rfl,Lib.hid (by simp)⟩,Lib.hid (Below.refl _ _)⟩
   case round=>
    obtain ⟨k,hk,rfl,⟨b,rfl,HBB⟩,HB⟩:=hrel
    have HBW:=Lib.hid (kept_trans HB2.out HB.out)
    by_cases hkl:k < c.ins.length
    ·obtain ⟨bb,oo,hca,hbb,c0,c1,_⟩:=insAt_kept HBW.out HI.out k hkl
     have hst:=any_take_one (q:=fun e=>e.1 == ix) hkl
     rw [HBB.out] at hst
     obtain ⟨⟨jx,ja⟩,hjx⟩:∃ q,c.ins[k]=q:=⟨_,rfl⟩
     rw [hjx] at c0 c1 hst
     simp only at c0 c1 hst
     subst hca
     have hk1:=kept_new wr (.cells #[.int .u64 jx.toNat,.int .i64 ja] 180)
     have HK1:=Lib.hid hk1
     clear hjx
     cases b with
     | true=>
      have HST:Hid ((c.ins.take (k+1)).any (fun e=>e.1 == ix)=true):=Lib.hid (by rw [hst];rfl)
      clear hst hk1
      have HB4:=Lib.hid (kept_trans HB.out HK1.out)
      obtain ⟨w4,hw4⟩:∃ x,x=wr.alloc (.cells #[.int .u64 jx.toNat,.int .i64 ja] 180):=⟨_,rfl⟩
      rw [← hw4] at HB4
      have HW4:=Lib.hid hw4
      clear hw4
      go_wp2_with fail
      rw [← HW4.out]
      go_quiet (fail)
      go_wp2_with fail
      go_roundw
      case rel=>exact ⟨k+1,by omega,by go_num,⟨true,rfl,HST⟩,Lib.hid (below_drewN HB4.out _)⟩
      case measure=>simp [intOf];omega
     | false=>
      have HST:Hid ((c.ins.take (k+1)).any (fun e=>e.1 == ix)=(jx == ix)):=Lib.hid (by rw [hst];rfl)
      obtain ⟨_,⟨p0,p1,p2,p3⟩,_,_,ps,_⟩:=HC.out _ (kept_trans HBW.out hk1)
      clear hst
      have hcb:((jx.toNat:Int) == (ix.toNat:Int))=(jx == ix):=u64_beq jx ix
      obtain ⟨bq,hbq⟩:∃ x,(jx == ix)=x:=⟨_,rfl⟩
      rw [hbq] at hcb HST
      have HP1:=Lib.hid (insAt_kept (kept_trans HBW.out hk1) HP.out)
      obtain ⟨w4,hw4⟩:∃ x,x=wr.alloc (.cells #[.int .u64 jx.toNat,.int .i64 ja] 180):=⟨_,rfl⟩
      have i0:w4.cell? ⟨wr.heap.size,0,none⟩=some (.int .u64 jx.toNat):=by rw [hw4];simp [go_sem]
      have i1:w4.cell? ⟨wr.heap.size,1,none⟩=some (.int .i64 ja):=by rw [hw4];simp [go_sem]
      rw [← hw4] at HP1 p0 p1 p2 p3 HK1 ps
      have HW4:=Lib.hid hw4
      clear hw4 hbq hk1
      go_wp2_with fail
      rw [← HW4.out]
      go_region_held3 (fun w'=>w'.cell? ⟨wr.heap.size,0,none⟩=some (.int .u64 jx.toNat)∧w'.cell? ⟨w.heap.size+1,0,none⟩=some (.slice pa p.ins.length pc)∧w'.cell? ⟨w.heap.size+1,1,none⟩=some (.int .i64 p.outs)∧w'.cell? ⟨w.heap.size+1,2,none⟩=some (.int .i64 p.weight)∧w'.cell? ⟨w.heap.size+1,3,none⟩=some (.int .i64 p.fee)∧Below w4.heap.size w4 w')
       (first | exact ⟨i0,p0,p1,p2,p3,(Below.refl _ _).drew⟩ | (go_split_ands;exact ⟨kept_cell hb2 (by assumption),kept_cell hb2 (by assumption),kept_cell hb2 (by assumption),kept_cell hb2 (by assumption),kept_cell hb2 (by assumption),kept_trans (by assumption) hb2⟩))
       (first | (go_split_ands;go_at_call 35;((with_reducible refine (idOf_any p pa pc _ (insAt_kept (by assumption) HP1.out) HPC.out ix HIX.out).mono ?_);rintro e w2 ⟨rfl,hb2⟩)))
      have hbe:Below w4.heap.size w4 w2:=by go_split_ands;assumption
      have HB5:=Lib.hid (kept_trans HB.out (kept_trans HK1.out hbe))
      clear hbe
      go_split_ands
      go_wp2_with fail
      go_roundw
      case rel=>exact ⟨k+1,by omega,by go_num,⟨bq,rfl,HST⟩,HB5⟩
      case measure=>simp [intOf];omega
    ·have he:c.ins.take k=c.ins:=List.take_of_length_le (by omega)
     have hsp:=HBB.out
     rw [he] at hsp
     replace hsp:spendsD c ix=b:=hsp
     have hr:=HR.out
     rw [hsp] at hr
     obtain ⟨w3,hw3⟩:∃ x,x=wr:=⟨_,rfl⟩
     subst hw3
     clear he hsp HBB HR
     cases b with
     | false=>
      rw [if_pos rfl] at hr
      simp only [Prod.mk.injEq] at hr
      obtain ⟨rfl,rfl⟩:=hr
      go_wp2_with fail
      go_ret2
      exact ⟨rfl,kept_trans HK.out HBW.out⟩
     | true=>
      rw [if_neg (by simp)] at hr
      obtain ⟨st,hst⟩:∃ st,stateL (dOf l) p=st:=⟨_,rfl⟩
      rw [hst] at hr
      have HST:=Lib.hid hst
      have HR:=Lib.hid hr
      have HROW:=Lib.hid (H.out.kept HBW.out)
      obtain ⟨x0,⟨p0,p1,p2,p3⟩,_,xs,ps,_⟩:=HC.out _ HBW.out
      clear hr hst
      go_wp2_with fail
      with_reducible refine (refjudge_any cap p pa pc _ HROW.out (by omega) HPC.out (insAt_kept HBW.out HP.out) st _ HST.out rfl).mono ?_
      rintro e w4 ⟨a4,k4,rfl,_,hb4⟩
      have HB4:=Lib.hid (kept_trans HBW.out hb4)
      clear hb4 x0 p0 p1 p2 p3 xs ps
      by_cases h1:st=1
      ·subst h1
       have hr:=HR.out
       rw [if_neg (by simp)] at hr
       simp only [Prod.mk.injEq] at hr
       obtain ⟨hr,rfl⟩:=hr
       unfold withR at hr
       obtain ⟨s2,hs2⟩:∃ s2,stateL (p :: dOf l) c=s2:=⟨_,rfl⟩
       rw [hs2] at hr
       have HQ:=Lib.hid hr
       have HS2:Hid (stateL (dOf (⟨pa,pc,p⟩ :: l)) c=s2):=Lib.hid hs2
       obtain ⟨x0,⟨p0,p1,p2,p3⟩,_,xs,ps,_⟩:=HC.out _ HB4.out
       have hk5:=kept_new w4 (.cells #[.slice pa p.ins.length pc,.int .i64 p.outs,.int .i64 p.weight,.int .i64 p.fee] 94)
       have HK5:=Lib.hid hk5
       have HO5:Hid ((w4.alloc (.cells #[.slice pa p.ins.length pc,.int .i64 p.outs,.int .i64 p.weight,.int .i64 p.fee] 94)).ownsRow w4.heap.size 94 4 (.slice (some ⟨w4.heap.size,0,none⟩) 1 1) 1 (dhC ⟨pa,pc,p⟩)):=Lib.hid (World.ownsRow_lit w4 _ 1 (Nat.le_refl _) (by unfold maxLen;omega) rfl)
       have HROW5:=Lib.hid (H.out.kept (kept_trans HB4.out hk5))
       have HP5:=Lib.hid (insAt_kept (kept_trans HB4.out hk5) HP.out)
       obtain ⟨x5,_,_,xs5,_,_⟩:=HC.out _ (kept_trans HB4.out hk5)
       clear hr hs2 hk5 HR
       go_wp2_with (at_builtin;refine step_append_consD rfl _ _ rfl w4.heap.size w4.heap.size ⟨pa,pc,p⟩ a l cap rfl rfl HO5.out HROW5.out.row hl (by simp) ?_;intro g6 cap6 w6 ho6 hb6;obtain ⟨_,_,⟨v0,v1,v2,v3⟩,_,_,v4⟩:=HC.out _ (kept_trans HB4.out (HK5.out.trans hb6)))
       have hb6':Below w4.heap.size w4 w6:=HK5.out.trans hb6
       obtain ⟨w7,hw7⟩:∃ x,x=w6.alloc (.cells #[.slice (some ⟨g6,0,none⟩) (l.length+1) cap6] 49):=⟨_,rfl⟩
       have hb7:Below w4.heap.size w4 w7:=hw7▸kept_alloc hb6' _
       have ho7:OwnD w7 w4.heap.size (.slice (some ⟨g6,0,none⟩) (l.length+1) cap6) (⟨pa,pc,p⟩ :: l):=hw7▸World.ownsRow.alloc ho6 _
       have u0:w7.cell? ⟨w6.heap.size,0,none⟩=some (.slice (some ⟨g6,0,none⟩) (l.length+1) cap6):=by rw [hw7];simp [go_sem]
       have u1:=(cell_spot u0).2
       have HB7:=Lib.hid (kept_trans HB4.out hb7)
       have HROW7:=Lib.hid (rowJ_cons (H.out.kept HB4.out) hb7 ho7 (insAt_kept HB7.out HP.out) HPC.out)
       have HW7:=Lib.hid hw7
       clear hb6 hb6' hb7 ho6 ho7 hw7 x0 p0 p1 p2 p3 xs ps x5 xs5
       rw [← HW7.out]
       have hj:=refjudge_any (l:=⟨pa,pc,p⟩ :: l) cap6 c ca cc w7 HROW7.out (by simp;omega) HCC.out (insAt_kept HB7.out HI.out) s2 _ HS2.out rfl
       rw [List.length_cons] at hj
       with_reducible refine hj.mono ?_
       clear hj
       rintro e w8 ⟨a8,k8,rfl,_,hb8⟩
       have HB8:=Lib.hid (kept_trans HB7.out hb8)
       clear hb8 u0 u1 v0 v1 v2 v3 v4
       obtain ⟨_,⟨_,_,q2,q3⟩,⟨_,_,r2,r3⟩,_,qs,rs⟩:=HC.out _ HB8.out
       have hr:=HQ.out
       have HE:=Lib.hid (kept_trans HK.out HB8.out)
       by_cases h2:s2=2
       ·subst h2
        rw [if_pos (Or.inl rfl)] at hr
        subst hr
        go_wp2_with fail
        go_ret2
        exact ⟨rfl,HE.out⟩
       ·by_cases h3:s2=3
        ·subst h3
         rw [if_pos (Or.inr rfl)] at hr
         subst hr
         go_wp2_with fail
         go_ret2
         exact ⟨rfl,HE.out⟩
        ·rw [if_neg (by rintro (e | e);exact h2 e;exact h3 e)] at hr
         have n2:(s2 == 2)=false:=by simpa using h2
         have n3:(s2 == 3)=false:=by simpa using h3
         unfold payI at hr
         clear h2 h3
         obtain ⟨⟨b1,b2⟩,b3,b4⟩:=(check_ok HPC.out).2.2.2.2
         obtain ⟨⟨b5,b6⟩,b7,b8⟩:=(check_ok HCC.out).2.2.2.2
         by_cases hlt:10 * (p.fee+c.fee) < p.weight+c.weight
         ·rw [if_pos hlt] at hr
          subst hr
          go_wp2_with fail
          go_ret2
          exact ⟨rfl,HE.out⟩
         ·rw [if_neg hlt] at hr
          subst hr
          go_wp2_with fail
          go_ret2
          exact ⟨rfl,HE.out⟩
      ·have hr:=HR.out
       rw [if_pos h1] at hr
       simp only [Prod.mk.injEq] at hr
       obtain ⟨rfl,rfl⟩:=hr
       have hnb:(st != 1)=true:=by simpa using h1
       clear h1
       go_wp2_with fail
       go_ret2
       exact ⟨rfl,kept_trans HK.out HB4.out⟩
  ·rw [if_pos hc] at hr
   simp only [Prod.mk.injEq] at hr
   obtain ⟨rfl,hr⟩:=hr
   rw [hr] at hc
   have HR:=Lib.hid hr
   have hrb:(r != 0)=true:=by simpa using hc
   clear hr hc
   go_enter Tryz.func130,Tryz.ntmps130
   go_wp2_with fail
   rw [← HW0.out]
   with_reducible refine (refCheck_is p _ _ _ 0 hpc HP.out HPC.out).mono ?_
   rintro e w1 ⟨rfl,hb1⟩
   obtain ⟨_,_,⟨c0,c1,c2,c3⟩,_,_,hs1⟩:=HC.out _ hb1
   have HB1:=Lib.hid hb1
   clear hb1
   go_wp2_with fail
   with_reducible refine (refCheck_is c _ _ _ r hcc (insAt_kept HB1.out HI.out) HR.out).mono ?_
   rintro e w2 ⟨rfl,hb2⟩
   go_wp2_with fail
   go_ret2
   exact ⟨rfl,kept_trans HK.out (kept_trans HB1.out hb2)⟩
 ·rw [if_pos hp] at hr
  simp only [Prod.mk.injEq] at hr
  obtain ⟨rfl,hr⟩:=hr
  rw [hr] at hp
  have HR:=Lib.hid hr
  have hrb:(r != 0)=true:=by simpa using hp
  clear hr hp
  go_enter Tryz.func130,Tryz.ntmps130
  go_wp2_with fail
  rw [← HW0.out]
  with_reducible refine (refCheck_is p _ _ _ r hpc HP.out HR.out).mono ?_
  rintro e w1 ⟨rfl,hb1⟩
  go_wp2_with fail
  go_ret2
  exact ⟨rfl,kept_trans HK.out hb1⟩
end Go.Proofs.YtlboemhbealnmaaGreat.Ju
