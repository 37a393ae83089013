import Derived.Test.YtlboemhbealnmaaGreatP34
import Derived.BigRegion
set_option maxRecDepth 20000
namespace Go.Proofs.YtlboemhbealnmaaGreat.Ho
open Go.RowKit Go.Maps
variable {w w':World} {G:Nat→Prop} {R:Loc} {rs:List LR} {v:Value} {n:Nat}
theorem lrsAt_one {w:World} {g:Nat} {y:LR} (h:LRAt w g 0 y):LRsAt w (some ⟨g,0,none⟩) [y]:=fun i hi=>by
 have hi:i < 1:=hi
 obtain rfl:i=0:=by omega
 exact ⟨g,0,rfl,(cell_spot h.1).2,h⟩
theorem lrAt_new (w:World) (y:LR):LRAt (w.alloc (.cells #[.int .i64 y.l.peer,.int .u64 y.l.id.toNat,.slice y.ia y.l.d.ins.length y.ic,.int .i64 y.l.d.outs,.int .i64 y.l.d.weight,.int .i64 y.l.d.fee] 100)) w.heap.size 0 y:=⟨by simp [go_sem],by simp [go_sem],by simp [go_sem],by simp [go_sem],by simp [go_sem],by simp [go_sem]⟩
theorem at_copyR {ops:Array Oper} {o:Oper} {a:Act} {K:Act→World→Prop} {Q:Exit→Act→World→Prop} {E:Prop} {w:World} (x:Operand) (_:o.op=.call { callee:=.value (.func 179),args:=#[x],argTypes:=#[44] }) (h:if Region.wanted o (yielded ops a.tmps)=true then Oper.wp Tryz.prog o a w K Q else E):if Region.wanted o (yielded ops a.tmps)=true then Oper.wp Tryz.prog o a w K Q else E:=h
theorem build_link (p x:Int) (a:Option Addr) (n c:Nat) (o g f:Int) (w:World):(Instr.build 100 #[(0,.int .i64 p),(1,.int .u64 x),(2,.agg #[.slice a n c,.int .i64 o,.int .i64 g,.int .i64 f])]).run Tryz.prog w=.ok (.agg #[.int .i64 p,.int .u64 x,.slice a n c,.int .i64 o,.int .i64 g,.int .i64 f]) w:=by kernel_rfl
theorem buildSlice_link (p x:Int) (a:Option Addr) (n c:Nat) (o g f:Int) (w:World):(Instr.buildSlice 44 1 #[(0,.agg #[.int .i64 p,.int .u64 x,.slice a n c,.int .i64 o,.int .i64 g,.int .i64 f])]).run Tryz.prog w=.ok (.slice (some ⟨w.heap.size,0,none⟩) 1 1) (w.alloc (.cells #[.int .i64 p,.int .u64 x,.slice a n c,.int .i64 o,.int .i64 g,.int .i64 f] 100)):=by kernel_rfl
theorem copyTake_any (l:List LR) (k:Nat) (a:Option Addr) (cap:Nat) (w:World) (hk:k≤l.length) (hl:l.length≤1000) (hi:LRsAt w a l) :
  Calls Tryz.prog 179 #[.slice a k cap] w (CopyR w (l.take k)):=by
 have:=copyLinks_any (l.take k) a cap w (by rw [List.length_take];omega) (lrsAt_take k hi)
 rw [List.length_take,Nat.min_eq_left hk] at this
 exact this
theorem copyT_form {w w':World} {l:List LR} {k:Nat} {e:Ending} (hk:k≤l.length) (h:CopyR w (l.take k) e w'):∃ a cap,e=.returned (.slice a k cap)∧OwnR w' w.heap.size (.slice a k cap) (l.take k)∧Below w.heap.size w w':=by
 obtain ⟨a,cap,e1,h1,h2⟩:=h
 have hl:(l.take k).length=k:=by rw [List.length_take];omega
 rw [hl] at e1
 have e2:(Value.slice a (l.take k).length cap)=.slice a k cap:=by rw [hl]
 rw [e2] at h1
 exact ⟨a,cap,e1,h1,h2⟩
theorem step_appendT {ops:Array Oper} {o:Oper} {a:Act} {K:Act→World→Prop} {Q:Exit→Act→World→Prop} {E:Prop} {w:World} (hgd:o.guard=none) (s x:Operand)
  (ho:o.op=.call { callee:=.builtin .append,args:=#[s,x],argTypes:=#[44,44] })
  (C:Nat) (v:Value) (d:List LR) (hs:a.eval s=v) (hown:OwnR w C v d) (ad:Option Addr) (m c:Nat) (l:List LR) (hm:l.length=m) (hx:a.eval x=.slice ad m c) (hl:LRsAt w ad l) (hlen:d.length+l.length≤1000) (hC:C≤w.heap.size) (t:Nat) (ht:d.length+l.length=t)
  (h:∀ a' cap' w',OwnR w' C (.slice a' t cap') (d ++ l)→Below C w w'→K (a.put o.dst (.slice a' t cap')) w') :
  if Region.wanted o (yielded ops a.tmps)=true then Oper.wp Tryz.prog o a w K Q else E:=by
 subst ht
 exact step_appendR hgd s x ho C v d hs hown ad m c l hm hx hl hlen hC h
theorem lrAt_drew {w:World} {g o:Nat} {y:LR} (h:LRAt w g o y):LRAt w.drew g o y:=h
theorem ownR_mono {w:World} {C C':Nat} {v:Value} {l:List LR} (h:OwnR w C v l) (hc:C'≤C):OwnR w C' v l:=⟨h.1,h.2.imp id fun ⟨g,cap,cur,q1,q2,q3⟩=>⟨g,cap,cur,q1,Nat.le_trans hc q2,q3⟩⟩
theorem insAt_low {w:World} {C:Nat} {a:Option Addr} {k c:Nat} {l:List InD} (h:w.ownsRow C 180 2 (.slice a k c) l.length (insC l)) (hok:∀ z ∈ l,inOk z):InsAt w a l∧∀ bb o,l≠[]→a=some ⟨bb,o,none⟩→C≤bb∧bb < w.heap.size:=by
 have h0:OwnIns w (.slice a k c) l:=⟨h.1,h.2.imp id fun ⟨g,cap,cur,q1,_,q3⟩=>⟨g,cap,cur,q1,Nat.zero_le _,q3⟩⟩
 refine ⟨(ownIns_slice h0 hok).2.2,fun bb o hne e=>?_⟩
 subst e
 rcases h.2 with ⟨hv,_⟩ | ⟨g,cap,cur,hv,_⟩
 ·simp only [Value.slice.injEq] at hv
  cases hv.1
 ·simp only [Value.slice.injEq,Option.some.injEq,Addr.mk.injEq] at hv
  obtain ⟨⟨rfl,rfl,_⟩,_,_⟩:=hv
  exact h.lt bb rfl
theorem ownsRow_low {w:World} {C C':Nat} {e:TypeId} {size n:Nat} {v:Value} {xs:List Value} (h:w.ownsRow C e size v n xs) (hc:C'≤C):w.ownsRow C' e size v n xs:=⟨h.1,h.2.imp id fun ⟨g,cap,cur,q1,q2,q3⟩=>⟨g,cap,cur,q1,Nat.le_trans hc q2,q3⟩⟩
theorem LRP {a:Option Addr} {k c:Nat} (h:RefAt w G R rs (.slice a k c)):LRsAt w a rs:=by
 obtain ⟨a',c',e,_,hat,-⟩:=ownR_form h.row
 simp only [Value.slice.injEq] at e
 rw [e.1]
 exact hat
def StartR (w wx:World) (L:List LinkD) (p:Nat) (x:UInt64) (d:DeedD):Prop:=∃ (D:DeedD) (A:Option Addr) (C:Nat),InsAt wx A D.ins∧Below w.heap.size w wx∧BoxIs w.heap.size A C D wx∧D.ins.length≤8∧(∀ z ∈ D.ins,inOk z)∧newL L p x d=L ++ [⟨p,x,D⟩]
def RoomR (w wr:World) (G:Nat→Prop) (R:Loc) (L1:List LinkD):Prop:=∃ G' L',RefL wr G' R L'∧Gain R.b G G' w wr∧GoodL 25 L'∧room L'=room L1
set_option maxRecDepth 20000 in
set_option maxHeartbeats 4000000 in
theorem refAdd_new (p:Nat) (hp:p < 8) (x:UInt64) (d:DeedD) (hd:checkD d=0) (ht:¬ ∃ l ∈ lOf rs,l.peer=p∧l.id=x) (a:Option Addr) (cap:Nat) (hc:d.ins.length≤cap) (w:World) (hi:InsAt w a d.ins) (h:RefAt w G R rs v) (hg:GoodL 24 (lOf rs)) :
  Calls Tryz.prog 131 #[.pointer (some ⟨R.b,2,none⟩),.int .i64 p,.int .u64 x.toNat,.agg #[.slice a d.ins.length cap,.int .i64 d.outs,.int .i64 d.weight,.int .i64 d.fee]] w fun e w'=>e=.returned (.tuple #[.bool (deedOf (room (newL (lOf rs) p x d)) x).isSome,.int .i64 0])∧∃ G',RefL w' G' R (room (newL (lOf rs) p x d))∧Gain R.b G G' w w':=by
 have hl24:rs.length≤24:=by have:=hg.len;rw [lOf_len] at this;exact this
 have hk:=kept_new w (.cells #[.slice a d.ins.length cap,.int .i64 d.outs,.int .i64 d.weight,.int .i64 d.fee] 94)
 have HI:=Lib.hid (insAt_kept hk hi)
 have HI0:=Lib.hid hi
 have HD:=Lib.hid hd
 have HK:=Lib.hid hk
 have H0:=Lib.hid h
 have H:=Lib.hid (h.kept hk)
 have HG1:=Lib.hid (newL_good hg hp hd ht)
 have HG:=Lib.hid hg
 have HBX:Hid (BoxIs w.heap.size a cap d (w.alloc (.cells #[.slice a d.ins.length cap,.int .i64 d.outs,.int .i64 d.weight,.int .i64 d.fee] 94))):=Lib.hid (heap_alloc_new _ _)
 have HNG:Hid (∀ g,G g→g < w.heap.size):=Lib.hid h.there
 have HT:Hid (∀ k (h:k < rs.length),(rs[k].l.peer == p && rs[k].l.id == x)=false):=Lib.hid (fun k hk=>by
  rw [← Bool.not_eq_true]
  intro e
  simp only [Bool.and_eq_true,beq_iff_eq] at e
  exact ht ⟨_,mem_lOf hk,e⟩)
 clear hi hd hk h ht hg
 go_enter Tryz.func131,Tryz.ntmps131
 go_wp2_with fail
 with_reducible refine (badPeer_no p hp _).mono ?_
 rintro e w1 ⟨rfl,rfl⟩
 go_wp2_with fail
 with_reducible refine (refCheck_is d a cap _ 0 hc HI.out HD.out).mono ?_
 rintro e w1 ⟨rfl,hb1⟩
 have H1:=H.out.kept hb1
 obtain ⟨la,lcap,rfl,hlcap,hat,-⟩:=ownR_form H1.row
 have hlc:=H1.cell.1
 have hlt:=H1.lt
 have HAT:=Lib.hid hat
 have HB1:=Lib.hid (kept_trans HK.out hb1)
 have HX1:=Lib.hid (boxIs_kept HBX.out hb1)
 clear hb1 H1 hat
 go_wp2_with fail
 go_loopw [35] (fun i wr=>∃ k:Nat,k≤rs.length∧i=.int .i64 k∧Hid (Below w1.heap.size w1 wr)) (fun i _=>rs.length - (intOf i).toNat)
 case atStart=>exact ⟨0,Nat.zero_le _,rfl,Lib.hid (Below.refl _ _)⟩
 case round=>
  obtain ⟨k,hk,rfl,HB⟩:=hrel
  by_cases hkl:k < rs.length
  ·obtain ⟨g,o,rfl,hg,c0,c1,c2,c3,c4,c5⟩:=lrsAt_kept HB.out HAT.out k hkl
   have hno:=HT.out k hkl
   obtain ⟨e0,he0⟩:∃ e0,rs[k]=e0:=⟨_,rfl⟩
   rw [he0] at c0 c1 c2 c3 c4 c5 hno
   have hq1:=beq_nat e0.l.peer p
   have hq2:((e0.l.id.toNat:Int) == (x.toNat:Int))=(e0.l.id == x):=u64_beq _ _
   clear he0
   cases h1:e0.l.peer == p with
   | true=>
    rw [h1] at hq1 hno
    rw [Bool.true_and] at hno
    rw [hno] at hq2
    clear h1 hno
    go_wp2_with fail
    go_roundw
    case rel=>exact ⟨k+1,by omega,by go_num,Lib.hid (kept_alloc HB.out _)⟩
    case measure=>simp [intOf];omega
   | false=>
    rw [h1] at hq1
    clear h1 hno
    go_wp2_with fail
    go_roundw
    case rel=>exact ⟨k+1,by omega,by go_num,Lib.hid (kept_alloc HB.out _)⟩
    case measure=>simp [intOf];omega
  ·have HBW:=Lib.hid (kept_trans HB1.out HB.out)
   have HR:=Lib.hid (H0.out.kept HBW.out)
   have HXR:=Lib.hid (boxIs_kept HX1.out HB.out)
   obtain ⟨wB,hwB⟩:∃ x,x=wr:=⟨_,rfl⟩
   subst hwB
   clear HB HAT hlc hlt
   go_wp2_with fail
   with_reducible refine (refAt_any x _ HR.out (by omega)).mono ?_
   rintro e w2 ⟨rfl,hb2⟩
   have HB2:=Lib.hid (kept_trans HBW.out hb2)
   have R2:=Lib.hid (HR.out.kept hb2)
   have hX2:=boxIs_kept HXR.out hb2
   obtain ⟨c0,c1,c2,c3,c4⟩:=boxIs_cells hX2
   have f0:=frozen_of_row w2 _ 0 _ _ hX2
   have f1:=frozen_of_row w2 _ 1 _ _ hX2
   have f2:=frozen_of_row w2 _ 2 _ _ hX2
   have f3:=frozen_of_row w2 _ 3 _ _ hX2
   have HX2:=Lib.hid hX2
   clear hb2 hX2
   obtain ⟨r,hr⟩:∃ r,firstAt (fun e=>e.l.id == x) rs=r:=⟨_,rfl⟩
   rw [hr]
   go_upto_if 54 with fail
   go_cut [] from 53 to 66 (fun wx=>Hid (StartR w wx (lOf rs) p x d))
   case first=>
    rcases firstAt_deed rs x with ⟨e1,e2⟩ | ⟨i,hi,e1,e2⟩
    ·obtain rfl:r=-1:=hr.symm.trans e1
     clear hr e1
     have HE:=Lib.hid e2
     clear e2
     go_wp2_with fail
     go_meet
     case rel=>exact Lib.hid ⟨d,a,cap,insAt_kept HB2.out HI0.out,HB2.out,HX2.out,(check_ok HD.out).1,ins_ok HD.out,by unfold newL;rw [HE.out];rfl⟩
    ·obtain rfl:r=(i:Int):=hr.symm.trans e1
     clear hr e1
     obtain ⟨a7,cap7,hv7,hcap7,hat7,-⟩:=ownR_form R2.out.row
     have b0:=R2.out.cell.1
     have b1:=R2.out.lt
     rw [hv7] at b0
     obtain ⟨g,o,rfl,hgs,k0,k1,k2,k3,k4,k5⟩:=hat7 i hi
     have hin:=R2.out.ins _ (List.getElem_mem hi)
     have hfn:=HG.out.fine _ (mem_lOf hi)
     obtain ⟨e0,he0⟩:∃ e0,rs[i]=e0:=⟨_,rfl⟩
     rw [he0] at k0 k1 k2 k3 k4 k5 e2 hin hfn
     have HE:=Lib.hid e2
     have hii:(i:Int) < rs.length:=by omega
     have HIN:=Lib.hid hin
     have HFN:=Lib.hid hfn
     clear e2 he0 hat7 hin hfn hv7
     go_wp2_with fail
     go_meet
     case rel=>
      have ht4:=turn_set4 w2 w.heap.size (.slice e0.ia e0.l.d.ins.length e0.ic) (.int .i64 e0.l.d.outs) (.int .i64 e0.l.d.weight) (.int .i64 e0.l.d.fee)
      exact Lib.hid ⟨e0.l.d,e0.ia,e0.ic,insAt_turn HIN.out.1 ht4 (fun bb oo hne ea e=>by have:=HNG.out _ (HIN.out.2.1 bb oo hne ea).1;omega),HB2.out.trans (ht4.below (fun j hj=>by omega) HB2.out.size),heap_setCell_same _ w.heap.size 3 _ _ (.int .i64 e0.l.d.fee) (heap_setCell_same _ w.heap.size 2 _ _ (.int .i64 e0.l.d.weight) (heap_setCell_same _ w.heap.size 1 _ _ (.int .i64 e0.l.d.outs) (heap_setCell_same w2 w.heap.size 0 _ _ (.slice e0.ia e0.l.d.ins.length e0.ic) HX2.out))),(check_ok HFN.out).1,ins_ok HFN.out,by unfold newL;rw [HE.out];rfl⟩
   case rest=>
    obtain ⟨D,A,C,iw,bw,xw,hl8,okd,eq⟩:=hcut.out
    clear hcut hr c0 c1 c2 c3 c4 f0 f1 f2 f3
    obtain ⟨c0,c1,c2,c3,c4⟩:=boxIs_cells xw
    have f0:=frozen_of_row wc _ 0 _ _ xw
    have f1:=frozen_of_row wc _ 1 _ _ xw
    have f2:=frozen_of_row wc _ 2 _ _ xw
    have f3:=frozen_of_row wc _ 3 _ _ xw
    have IW:=Lib.hid iw
    have BW:=Lib.hid bw
    have XW:=Lib.hid xw
    have OKD:=Lib.hid okd
    have SW:Hid (w.heap.size+1≤wc.heap.size):=Lib.hid c4
    have EQ:=Lib.hid eq
    clear iw bw xw okd eq
    go_wp2_with fail
    with_reducible refine (copyIns_any D.ins A C _ (by omega) IW.out).mono ?_
    rintro e w3 ⟨a3,k3,rfl,ho3,hb3⟩
    have hX3:=boxIs_kept XW.out hb3
    obtain ⟨d0,d1,d2,d3,d4⟩:=boxIs_cells hX3
    have g0:=frozen_of_row w3 _ 0 _ _ hX3
    have HX3:=Lib.hid hX3
    have HO3:=Lib.hid ho3
    have HC3:Hid (D.ins.length≤k3):=Lib.hid (own_cap ho3)
    have HB3:=Lib.hid (kept_trans BW.out hb3)
    clear hb3 ho3 hX3
    go_upto_region 16 with fail
    obtain ⟨wP,hwP⟩:∃ x,w3.setCell ⟨w.heap.size,0,none⟩ (.slice a3 D.ins.length k3)=x:=⟨_,rfl⟩
    have hXP:BoxIs w.heap.size a3 k3 D wP:=by
     rw [← hwP]
     exact heap_setCell_same w3 w.heap.size 0 _ _ _ HX3.out
    have hBP:Below w.heap.size w wP:=by rw [← hwP];exact below_set HB3.out (Nat.le_refl _)
    have htP:Turn (fun j=>j=w.heap.size) (fun j=>j=w.heap.size) w3 wP:=by rw [← hwP];exact Turn.set (F:=fun j=>j=w.heap.size) w3 ⟨w.heap.size,0,none⟩ _ rfl
    have hRP:=H0.out.kept hBP
    obtain ⟨hIP,hNP⟩:=insAt_low (C:=w.heap.size+1) (ownsRow_low (own_turn HO3.out htP (fun j hj e=>by have:=(HO3.out.lt j hj).1;have:=SW.out;omega)) SW.out) OKD.out
    have HXP:=Lib.hid hXP
    have HBP:=Lib.hid hBP
    have HRP:=Lib.hid hRP
    have HIP:=Lib.hid hIP
    have HNP:=Lib.hid hNP
    have hlcP:=hRP.cell.1
    have hltP:=hRP.lt
    obtain ⟨p0,p1,p2,p3,p4⟩:=boxIs_cells hXP
    rw [hwP]
    clear hwP hXP hBP htP hRP hIP hNP HX3 HO3 HB3 d0 d1 d2 d3 d4 g0
    go_cut [] from 67 to 80 (fun wx=>Hid (RoomR w wx G R (newL (lOf rs) p x d)))
    case first=>
     clear HXR HX2 XW HX1 HBX HI IW HI0 HK H BW HB1 HBW HB2 HR R2 c0 c1 c2 c3 c4 f0 f1 f2 f3 OKD SW
     have hbl:=build_link
     have hbs:=buildSlice_link
     go_region_law (first
      | (refine step_appendR (by rfl) _ _ (by rfl) wP.heap.size (.slice a5 rs.length k5) rs (by rfl) (HO5.out.alloc _) (some ⟨w5.heap.size,0,none⟩) 1 1 [⟨⟨p,x,D⟩,a3,k3⟩] rfl (by rfl) (lrsAt_one (lrAt_new w5 ⟨⟨p,x,D⟩,a3,k3⟩)) (by simp;omega) (by have:=HB5.out.size;simp;omega) ?_;intro a6 k6 w6 ho6 hb6;have HB6:=Lib.hid ((kept_alloc HB5.out _).trans hb6);have HO6:=Lib.hid ho6;have s0:=(HRP.out.kept HB6.out).cell.1;have s1:=(HRP.out.kept HB6.out).cell.2;have s2:=(HRP.out.kept HB6.out).lt;clear ho6 hb6)
      | (refine step_appendR (by rfl) _ _ (by rfl) wP.heap.size (.slice a5 rs.length k5) rs (by rfl) HO5.out (some ⟨wP.heap.size,0,none⟩) 1 1 [⟨⟨p,x,D⟩,a3,k3⟩] rfl (by rfl) (lrsAt_one SRC.out) (by simp;omega) HB5.out.size ?_;intro a6 k6 w6 ho6 hb6;have HB6:=Lib.hid (HB5.out.trans hb6);have HO6:=Lib.hid ho6;have s0:=(HRP.out.kept HB6.out).cell.1;have s1:=(HRP.out.kept HB6.out).cell.2;have s2:=(HRP.out.kept HB6.out).lt;clear ho6 hb6)
      | (refine at_copyR _ (by rfl) ?_;go_simp;go_at_call 179;(refine (copyLinks_any rs la lcap (wP.drew) (by omega) (lrsAt_kept ((Below.refl _ _).drew) (LRP HRP.out))).mono ?_);rintro e w5 ⟨a5,k5,rfl,ho5,hb5⟩;have HB5:Hid (Below wP.heap.size wP w5):=Lib.hid (kept_trans ((Below.refl wP.heap.size wP).drew) hb5);have HO5:Hid (OwnR w5 wP.heap.size (.slice a5 rs.length k5) rs):=Lib.hid ho5;obtain ⟨q0,q1,q2,q3,q4⟩:=boxIs_cells (boxIs_kept HXP.out HB5.out);have r0:=(HRP.out.kept HB5.out).cell.1;have r1:=(HRP.out.kept HB5.out).cell.2;have r2:=(HRP.out.kept HB5.out).lt;clear ho5 hb5)
      | (refine at_copyR _ (by rfl) ?_;go_simp;go_at_call 179;(refine (copyLinks_any rs la lcap ((wP.alloc (.cells #[.int .i64 p,.int .u64 x.toNat,.slice a3 D.ins.length k3,.int .i64 D.outs,.int .i64 D.weight,.int .i64 D.fee] 100)).drew) (by omega) (lrsAt_kept ((kept_new _ _).drew) (LRP HRP.out))).mono ?_);rintro e w5 ⟨a5,k5,rfl,ho5,hb5⟩;have HB5:Hid (Below wP.heap.size wP w5):=Lib.hid (kept_trans ((kept_new wP _).drew) hb5);have HO5:Hid (OwnR w5 wP.heap.size (.slice a5 rs.length k5) rs):=Lib.hid (ownR_mono ho5 (by show _≤(wP.alloc _).heap.size;simp));have SRC:Hid (LRAt w5 wP.heap.size 0 ⟨⟨p,x,D⟩,a3,k3⟩):=Lib.hid (lrAt_kept hb5 (lrAt_drew (lrAt_new wP ⟨⟨p,x,D⟩,a3,k3⟩)));have r0:=(HRP.out.kept HB5.out).cell.1;have r1:=(HRP.out.kept HB5.out).cell.2;have r2:=(HRP.out.kept HB5.out).lt;clear ho5 hb5))
     all_goals
      go_wp2_with fail
      go_meet
      case rel=>
       obtain ⟨G7,h7,t7⟩:=ref_added H0.out (kept_trans HBP.out HB6.out) (ownR_mono HO6.out HBP.out.size) (insAt_kept HB6.out HIP.out) (fun bb o hne e=>by
        obtain ⟨u1,u2⟩:=HNP.out bb o hne e
        have:=HB6.out.size
        exact ⟨by omega,by omega⟩) HC3.out
       exact Lib.hid ⟨G7,_,h7,t7,EQ.out▸HG1.out,by rw [EQ.out]⟩
    case rest=>
     have RO:=Lib.hid hcut.out
     clear hcut HXR HX2 XW HX1 HBX HI IW HI0 HK H BW HB1 HBW HB2 HR R2 c0 c1 c2 c3 c4 f0 f1 f2 f3 OKD SW EQ HXP HBP HRP HIP HNP hlcP hltP p0 p1 p2 p3 p4 HT HNG H0
     go_wp2_with fail
     go_loopw [81] (fun _ wr=>Hid (RoomR w wr G R (newL (lOf rs) p x d))) (fun _ wr=>lenAtR wr R.b)
     case atStart=>exact RO
     case round=>
      clear RO
      obtain ⟨G',L',⟨rs',v',h',rfl⟩,t',hg',hr'⟩:=hrel.out
      have hl':rs'.length≤25:=by have:=hg'.len;rw [lOf_len] at this;exact this
      have H':=Lib.hid h'
      have T':=Lib.hid t'
      have G1':=Lib.hid hg'
      have R':=Lib.hid hr'
      clear hrel h' t' hg' hr'
      obtain ⟨wB,hwB⟩:∃ x,x=wr:=⟨_,rfl⟩
      subst hwB
      cases hf:fullL (lOf rs') with
      | true=>
       have HF:=Lib.hid hf
       clear hf
       go_wp2_with fail
       with_reducible refine (refFull_is true _ H'.out (by omega) G1'.out HF.out).mono ?_
       rintro e w6 ⟨rfl,hb6⟩
       have H6:=Lib.hid (H'.out.kept hb6)
       have HB6:=Lib.hid hb6
       clear hb6
       go_wp2_with fail
       go_loopw [14,15,83] (fun vm vz vi wr=>∃ k:Nat,k≤8∧vi=.int .i64 k∧vm=.int .i64 (wst (fun p=>burd (usageL (lOf rs') p)) k)∧vz=.int .i64 (mostR (lOf rs') k)∧Hid (Below w6.heap.size w6 wr)) (fun _ _ i _=>8 - (intOf i).toNat)
       case atStart=>exact ⟨0,by omega,rfl,rfl,rfl,Lib.hid (Below.refl _ _)⟩
       case round=>
        obtain ⟨k,hk,rfl,rfl,rfl,HQ⟩:=hrel
        by_cases hk8:k < 8
        ·have hki:(k:Int) < 8:=by omega
         have H7:=Lib.hid (H6.out.kept HQ.out)
         obtain ⟨m1,m2⟩:=mostR_step (lOf rs') k (burd_nonneg (lOf rs'))
         have M1:=Lib.hid m1
         have M2:=Lib.hid m2
         have hub:=usageR_bound G1'.out k
         obtain ⟨z,hz⟩:∃ z,mostR (lOf rs') k=z:=⟨_,rfl⟩
         obtain ⟨m,hm⟩:∃ m,wst (fun p=>burd (usageL (lOf rs') p)) k=m:=⟨_,rfl⟩
         rw [hz,hm] at M2 ⊢
         rw [hz] at M1
         clear m1 m2 hz hm
         go_wp2_with fail
         with_reducible refine (refUsage_yes k hk8 _ H7.out (by omega) G1'.out).mono ?_
         rintro e w7 ⟨rfl,hb7⟩
         have HB7:=Lib.hid (kept_trans HQ.out hb7)
         have hbd:burd (usageL (lOf rs') k)=max ((usageL (lOf rs') k).1 * 24) ((usageL (lOf rs') k).2 * 3000):=rfl
         obtain ⟨x1,hx1⟩:∃ z,(usageL (lOf rs') k).1=z:=⟨_,rfl⟩
         obtain ⟨y1,hy1⟩:∃ z,(usageL (lOf rs') k).2=z:=⟨_,rfl⟩
         obtain ⟨bd,hbd2⟩:∃ z,burd (usageL (lOf rs') k)=z:=⟨_,rfl⟩
         rw [hx1,hy1] at hub hbd ⊢
         rw [hbd2] at hbd M1 M2
         obtain ⟨hu0,hu1,hu2,hu3⟩:=hub
         have hu4:x1≤25000:=by omega
         have hu5:y1≤25:=by omega
         clear hb7 hx1 hy1 hbd2 hu1 hu3
         by_cases hmx:24 * x1 < 3000 * y1
         ·have hbe:bd=3000 * y1:=by omega
          subst hbe
          clear hbd
          by_cases hgt:3000 * y1 > z
          ·have HS:=Lib.hid (M1.out hgt)
           go_wp2_with fail
           go_roundw
           case rel=>exact ⟨k+1,by omega,by go_num,by rw [HS.out.1],by rw [HS.out.2],HB7⟩
           case measure=>simp [intOf];omega
          ·have HS:=Lib.hid (M2.out (by omega))
           go_wp2_with fail
           go_roundw
           case rel=>exact ⟨k+1,by omega,by go_num,by rw [HS.out.1],by rw [HS.out.2],HB7⟩
           case measure=>simp [intOf];omega
         ·have hbe:bd=24 * x1:=by omega
          subst hbe
          clear hbd
          by_cases hgt:24 * x1 > z
          ·have HS:=Lib.hid (M1.out hgt)
           go_wp2_with fail
           go_roundw
           case rel=>exact ⟨k+1,by omega,by go_num,by rw [HS.out.1],by rw [HS.out.2],HB7⟩
           case measure=>simp [intOf];omega
          ·have HS:=Lib.hid (M2.out (by omega))
           go_wp2_with fail
           go_roundw
           case rel=>exact ⟨k+1,by omega,by go_num,by rw [HS.out.1],by rw [HS.out.2],HB7⟩
           case measure=>simp [intOf];omega
        ·obtain rfl:k=8:=by omega
         have hki:¬ ((8:Nat):Int) < 8:=by omega
         obtain ⟨m,hm⟩:∃ m,worstL (lOf rs')=m:=⟨_,rfl⟩
         have hm':wst (fun p=>burd (usageL (lOf rs') p)) 8=m:=hm
         rw [hm']
         have HM:=Lib.hid hm
         have h7:=H6.out.kept HQ.out
         obtain ⟨la7,lc7,rfl,hlc7,hat7,-⟩:=ownR_form h7.row
         have b0:=h7.cell.1
         have b1:=h7.lt
         have H7:=Lib.hid h7
         have HAT7:=Lib.hid hat7
         have HBC:=Lib.hid (kept_trans HB6.out HQ.out)
         obtain ⟨z,hz⟩:∃ z,mostR (lOf rs') 8=z:=⟨_,rfl⟩
         rw [hz]
         obtain ⟨wC,hwC⟩:∃ x,x=wr:=⟨_,rfl⟩
         subst hwC
         clear hm hm' h7 hat7 hz
         go_wp2_with fail
         go_loopw [109] (fun vi wr=>∃ j:Nat,j≤rs'.length∧vi=.int .i64 j∧Hid ((rs'.take j).findIdx? (fun e=>e.l.peer == m)=none)∧Hid (Below wC.heap.size wC wr)) (fun i _=>rs'.length - (intOf i).toNat)
         case atStart=>exact ⟨0,Nat.zero_le _,rfl,Lib.hid rfl,Lib.hid (Below.refl _ _)⟩
         case round=>
          obtain ⟨j,hj,rfl,NO,HB⟩:=hrel
          by_cases hjl:j < rs'.length
          ·obtain ⟨g,o,rfl,hg,c0,c1,c2,c3,c4,c5⟩:=lrsAt_kept HB.out HAT7.out j hjl
           have HJ:Hid ((rs'[j].l.peer == m)=true→rs'.findIdx? (fun e=>e.l.peer == m)=some j):=Lib.hid (fun hq=>by
            rw [List.findIdx?_eq_some_iff_getElem]
            refine ⟨hjl,hq,fun i hi=>?_⟩
            have:=List.findIdx?_eq_none_iff.1 NO.out rs'[i] (List.mem_take_iff_getElem.2 ⟨i,by omega,rfl⟩)
            simpa using this)
           have HMS:Hid ((rs'[j].l.peer == m)=false→(rs'.take (j+1)).findIdx? (fun e=>e.l.peer == m)=none):=Lib.hid (fun hq=>firstAt_miss hjl NO.out hq)
           obtain ⟨e0,he0⟩:∃ e0,rs'[j]=e0:=⟨_,rfl⟩
           rw [he0] at c0 c1 c2 c3 c4 c5 HJ HMS
           have hq1:=beq_nat e0.l.peer m
           have hbX:=kept_new wr (.cells #[.int .i64 e0.l.peer,.int .u64 e0.l.id.toNat,.slice e0.ia e0.l.d.ins.length e0.ic,.int .i64 e0.l.d.outs,.int .i64 e0.l.d.weight,.int .i64 e0.l.d.fee] 100)
           have HBX2:=Lib.hid (kept_trans HB.out hbX)
           have hX:=H7.out.kept (kept_trans HB.out hbX)
           have x0:=hX.cell.1
           have x1:=hX.lt
           have HX:=Lib.hid hX
           clear he0 hX hbX
           cases hq:e0.l.peer == m with
           | true=>
            rw [hq] at hq1
            have HFI:=Lib.hid (HJ.out hq)
            clear hq HJ HMS
            go_wp2_with fail
            obtain ⟨wX,hwX⟩:∃ x,wr.alloc (.cells #[.int .i64 e0.l.peer,.int .u64 e0.l.id.toNat,.slice e0.ia e0.l.d.ins.length e0.ic,.int .i64 e0.l.d.outs,.int .i64 e0.l.d.weight,.int .i64 e0.l.d.fee] 100)=x:=⟨_,rfl⟩
            rw [hwX] at HX HBX2 x0 x1 ⊢
            clear hwX c0 c1 c2 c3 c4 c5
            have hjc:j≤lc7:=by omega
            have hjs:j+1≤rs'.length:=by omega
            have hjsc:j+1≤lc7:=by omega
            have hwj:IntKind.i64.wrap ((j:Int)+1)=(j:Int)+1:=IntWalk.i64_in _ (by omega)
            have hj0:(0:Int)≤(j:Int)+1:=by omega
            have hj1:(j:Int)+1≤(rs'.length:Int):=by omega
            have hj2:(j:Int)≤(j:Int)+1:=by omega
            have hj3:((j:Int)+1).toNat=j+1:=by omega
            by_cases hce:lc7=j+1
            ·subst hce
             go_region_law (first
              | (refine step_appendT (by rfl) _ _ (by rfl) wX.heap.size (.slice a9 j k9) (rs'.take j) (by rfl) HO9.out (some ⟨g,o,none⟩) 0 0 (rs'.drop (j+1)) (by rw [List.length_drop];omega) (by rfl) (fun i hi=>absurd hi (by rw [List.length_drop];omega)) (by rw [List.length_take,List.length_drop];omega) HB9.out.size (rs'.length - 1) (by rw [List.length_take,List.length_drop];omega) ?_;intro a10 k10 w10 ho10 hb10;have HB10:=Lib.hid (HB9.out.trans hb10);have HO10:=Lib.hid ho10;have s0:=(HX.out.kept HB10.out).cell.1;have s1:=(HX.out.kept HB10.out).cell.2;have s2:=(HX.out.kept HB10.out).lt;clear ho10 hb10)
              | (refine at_copyR _ (by rfl) ?_;go_simp;go_at_call 179;(refine (copyTake_any rs' j (some ⟨g,o,none⟩) (j+1) (wX.drew) (by omega) (by omega) (lrsAt_kept ((Below.refl _ _).drew) (LRP HX.out))).mono ?_);intro e w9 hc9;obtain ⟨a9,k9,rfl,ho9,hb9⟩:=copyT_form (by omega) hc9;have HB9:Hid (Below wX.heap.size wX w9):=Lib.hid (kept_trans ((Below.refl wX.heap.size wX).drew) hb9);have HO9:Hid (OwnR w9 wX.heap.size (.slice a9 j k9) (rs'.take j)):=Lib.hid ho9;have r0:=(HX.out.kept HB9.out).cell.1;have r1:=(HX.out.kept HB9.out).cell.2;have r2:=(HX.out.kept HB9.out).lt;clear ho9 hb9))
             all_goals
              go_wp2_with fail
              go_roundw
              case rel=>
               obtain ⟨G9,h9,t9⟩:=ref_evicted H'.out (HM.out▸HFI.out) (kept_trans HBC.out (kept_trans HBX2.out HB10.out)) (ownR_mono HO10.out (Nat.le_trans HBC.out.size HBX2.out.size))
               exact Lib.hid ⟨G9,_,h9,T'.out.trans t9,G1'.out.sub (evict_sub _),(room_full G1'.out HF.out).symm.trans R'.out⟩
              case measure=>
               obtain ⟨G9,h9,t9⟩:=ref_evicted H'.out (HM.out▸HFI.out) (kept_trans HBC.out (kept_trans HBX2.out HB10.out)) (ownR_mono HO10.out (Nat.le_trans HBC.out.size HBX2.out.size))
               rw [h9.lenAt,RefL.lenAt ⟨rs',_,H'.out,rfl⟩]
               have:=evict_len G1'.out HF.out
               omega
            ·have hce':¬ lc7=j+1:=hce
             go_region_law (first
              | (refine step_appendT (by rfl) _ _ (by rfl) wX.heap.size (.slice a9 j k9) (rs'.take j) (by rfl) HO9.out (some ⟨g,o+(j+1) * 6,none⟩) (rs'.length - (j+1)) (lc7 - (j+1)) (rs'.drop (j+1)) (List.length_drop ..) (by rfl) (lrsAt_drop (j+1) (LRP (HX.out.kept HB9.out))) (by rw [List.length_take,List.length_drop];omega) HB9.out.size (rs'.length - 1) (by rw [List.length_take,List.length_drop];omega) ?_;intro a10 k10 w10 ho10 hb10;have HB10:=Lib.hid (HB9.out.trans hb10);have HO10:=Lib.hid ho10;have s0:=(HX.out.kept HB10.out).cell.1;have s1:=(HX.out.kept HB10.out).cell.2;have s2:=(HX.out.kept HB10.out).lt;clear ho10 hb10)
              | (refine at_copyR _ (by rfl) ?_;go_simp;go_at_call 179;(refine (copyTake_any rs' j (some ⟨g,o,none⟩) lc7 (wX.drew) (by omega) (by omega) (lrsAt_kept ((Below.refl _ _).drew) (LRP HX.out))).mono ?_);intro e w9 hc9;obtain ⟨a9,k9,rfl,ho9,hb9⟩:=copyT_form (by omega) hc9;have HB9:Hid (Below wX.heap.size wX w9):=Lib.hid (kept_trans ((Below.refl wX.heap.size wX).drew) hb9);have HO9:Hid (OwnR w9 wX.heap.size (.slice a9 j k9) (rs'.take j)):=Lib.hid ho9;have r0:=(HX.out.kept HB9.out).cell.1;have r1:=(HX.out.kept HB9.out).cell.2;have r2:=(HX.out.kept HB9.out).lt;clear ho9 hb9))
             all_goals
              go_wp2_with fail
              go_roundw
              case rel=>
               obtain ⟨G9,h9,t9⟩:=ref_evicted H'.out (HM.out▸HFI.out) (kept_trans HBC.out (kept_trans HBX2.out HB10.out)) (ownR_mono HO10.out (Nat.le_trans HBC.out.size HBX2.out.size))
               exact Lib.hid ⟨G9,_,h9,T'.out.trans t9,G1'.out.sub (evict_sub _),(room_full G1'.out HF.out).symm.trans R'.out⟩
              case measure=>
               obtain ⟨G9,h9,t9⟩:=ref_evicted H'.out (HM.out▸HFI.out) (kept_trans HBC.out (kept_trans HBX2.out HB10.out)) (ownR_mono HO10.out (Nat.le_trans HBC.out.size HBX2.out.size))
               rw [h9.lenAt,RefL.lenAt ⟨rs',_,H'.out,rfl⟩]
               have:=evict_len G1'.out HF.out
               omega
           | false=>
            rw [hq] at hq1
            have HN2:=Lib.hid (HMS.out hq)
            clear hq HJ HMS
            go_wp2_with fail
            go_roundw
            case rel=>exact ⟨j+1,by omega,by go_num,HN2,HBX2⟩
            case measure=>simp [intOf];omega
          ·exfalso
           have h1:=NO.out
           rw [List.take_of_length_le (by omega)] at h1
           obtain ⟨l,hl,e⟩:=worst_has G1'.out HF.out
           obtain ⟨r,hr,rfl⟩:=List.mem_map.1 hl
           have:=List.findIdx?_eq_none_iff.1 h1 r hr
           rw [e,HM.out] at this
           simp at this
      | false=>
       have HF:=Lib.hid hf
       have HE:Hid (lOf rs'=room (newL (lOf rs) p x d)):=Lib.hid ((room_not hf).symm.trans R'.out)
       clear hf
       go_wp2_with fail
       with_reducible refine (refFull_is false _ H'.out (by omega) G1'.out HF.out).mono ?_
       rintro e w6 ⟨rfl,hb6⟩
       have H6:=Lib.hid (H'.out.kept hb6)
       have HB6:=Lib.hid hb6
       clear hb6
       go_wp2_with fail
       with_reducible refine (refHas_is x _ _ H6.out (by omega) rfl).mono ?_
       rintro e w7 ⟨rfl,hb7⟩
       have HB7:=Lib.hid hb7
       clear hb7
       go_wp2_with fail
       go_ret2
       rw [← HE.out]
       exact ⟨rfl,G',⟨rs',v',H6.out.kept HB7.out,rfl⟩,(T'.out.trans (Gain.of_below HB6.out)).trans (Gain.of_below HB7.out)⟩
end Go.Proofs.YtlboemhbealnmaaGreat.Ho
set_option maxRecDepth 20000
namespace Go.Proofs.YtlboemhbealnmaaGreat.Ho
open Go.RowKit Go.Maps
variable {w w':World} {G:Nat→Prop} {R:Loc} {rs:List LR} {v:Value} {n:Nat}
def chR (rs:List LR) (x:UInt64) (k:Nat):List UInt64:=(allL (lOf (rs.take k))).filter fun y=>spendsD ((deedOf (lOf rs) y).getD nod) x
theorem chR_step (hg:GoodL n (lOf rs)) (x:UInt64) {k:Nat} (h:k < rs.length):chR rs x (k+1)=if (allL (lOf (rs.take k))).contains rs[k].l.id then chR rs x k else chR rs x k ++ if spendsD rs[k].l.d x then [rs[k].l.id] else []:=by
 unfold chR
 rw [allR_step h]
 split
 ·rfl
 ·rw [List.filter_append]
  congr 1
  have e:(deedOf (lOf rs) rs[k].l.id).getD nod=rs[k].l.d:=by rw [deedOf_mem hg (mem_lOf h)];rfl
  rw [List.filter_cons,List.filter_nil,e]
theorem chR_len (rs:List LR) (x:UInt64) (k:Nat):(chR rs x k).length≤k:=Nat.le_trans (List.length_filter_le _ _) (allR_len rs k)
theorem chR_all (rs:List LR) (x:UInt64) {k:Nat} (h:rs.length≤k):chR rs x k=childL (lOf rs) x:=by
 unfold chR
 rw [List.take_of_length_le h]
 rfl
theorem any_take_step {l:List InD} {x:UInt64} {m:Nat} (h:m < l.length) (h0:(l.take m).any (fun e=>e.1 == x)=false) (h1:(l[m].1 == x)=false):(l.take (m+1)).any (fun e=>e.1 == x)=false:=by
 rw [List.take_succ_eq_append_getElem h,List.any_append,h0]
 simp [h1]
theorem any_here {l:List InD} {x:UInt64} {m:Nat} (h:m < l.length) (h1:(l[m].1 == x)=true):l.any (fun e=>e.1 == x)=true:=List.any_eq_true.2 ⟨l[m],List.getElem_mem h,h1⟩
set_option maxRecDepth 20000 in
set_option maxHeartbeats 1000000 in
theorem refChildren_any (x:UInt64) (w:World) (h:RefAt w G R rs v) (hl:rs.length≤1000) (hg:GoodL n (lOf rs)) :
  Calls Tryz.prog 126 #[.pointer (some ⟨R.b,2,none⟩),.int .u64 x.toNat] w (GaveIds w (childL (lOf rs) x)):=by
 have H:=Lib.hid h
 have HG:=Lib.hid hg
 obtain ⟨a,cap,rfl,hcap,hat,-⟩:=ownR_form h.row
 have HAT:=Lib.hid hat
 have hlc:=h.cell.1
 have hlt:=h.lt
 clear h hat hg
 go_enter Tryz.func126,Tryz.ntmps126
 go_wp2_with fail
 go_loopw [5,15] (fun vi i wr=>∃ k:Nat,k≤rs.length∧i=.int .i64 k∧Hid (OwnIds wr w.heap.size vi (chR rs x k))∧Hid (Below w.heap.size w wr)) (fun _ i _=>rs.length - (intOf i).toNat)
 case atStart=>exact ⟨0,Nat.zero_le _,rfl,Lib.hid (ownIds_nil _ _),Lib.hid (Below.refl _ _)⟩
 case round=>
  obtain ⟨k,hk,rfl,HO,HB⟩:=hrel
  rename_i u5
  by_cases hkl:k < rs.length
  ·obtain ⟨g,o,rfl,hgl,c0,c1,c2,c3,c4,c5⟩:=lrsAt_kept HB.out HAT.out k hkl
   have hst:=chR_step HG.out x hkl
   have hfh:=first_here hkl
   have hlen:=chR_len rs x k
   have hin:=(H.out.kept HB.out).ins _ (List.getElem_mem hkl)
   have hi8:=(check_ok (HG.out.fine _ (mem_lOf hkl))).1
   obtain ⟨e0,he0⟩:∃ e0,rs[k]=e0:=⟨_,rfl⟩
   rw [he0] at c0 c1 c2 c3 c4 c5 hst hfh hin hi8
   have hb1:=kept_new wr (.cells #[.int .i64 e0.l.peer,.int .u64 e0.l.id.toNat,.slice e0.ia e0.l.d.ins.length e0.ic,.int .i64 e0.l.d.outs,.int .i64 e0.l.d.weight,.int .i64 e0.l.d.fee] 100)
   have HB1:=Lib.hid hb1
   have HIN:=Lib.hid hin.1
   have H1:=Lib.hid (H.out.kept (kept_trans HB.out hb1))
   clear he0 hb1 hin
   cases hq:(allL (lOf (rs.take k))).contains e0.l.id with
   | true=>
    rw [hq] at hst hfh
    simp only [Bool.not_true,if_true] at hst hfh
    have HST:=Lib.hid hst
    clear hst hq
    go_wp2_with fail
    with_reducible refine (refAt_any e0.l.id _ H1.out hl).mono ?_
    rintro e w2 ⟨rfl,hb2⟩
    have hb12:=kept_trans HB1.out hb2
    have HO2:=Lib.hid (owns_below HO.out hb12)
    have HB2:=Lib.hid (kept_trans HB.out hb12)
    obtain ⟨i,hi⟩:∃ i,firstAt (fun e:LR=>e.l.id == e0.l.id) rs=i:=⟨_,rfl⟩
    rw [hi] at hfh ⊢
    have hfn:(i != (k:Int))=true:=by rw [bne,hfh];rfl
    clear hb2 hb12 hi
    go_wp2_with fail
    go_roundw
    case rel=>exact ⟨k+1,by omega,by go_num,Lib.hid (by rw [HST.out];exact HO2.out),HB2⟩
    case measure=>simp [intOf];omega
   | false=>
    rw [hq] at hst hfh
    simp only [Bool.not_false,Bool.false_eq_true,if_false] at hst hfh
    have HST:=Lib.hid hst
    clear hst hq
    go_wp2_with fail
    with_reducible refine (refAt_any e0.l.id _ H1.out hl).mono ?_
    rintro e w2 ⟨rfl,hb2⟩
    have hb12:=kept_trans HB1.out hb2
    have HO2:=Lib.hid (owns_below HO.out hb12)
    have HB2:=Lib.hid (kept_trans HB.out hb12)
    have HI2:=Lib.hid (insAt_kept hb12 HIN.out)
    have HD2:Hid (LRAt w2 wr.heap.size 0 e0):=Lib.hid (lrAt_kept hb2 ⟨by simp [go_sem],by simp [go_sem],by simp [go_sem],by simp [go_sem],by simp [go_sem],by simp [go_sem]⟩)
    obtain ⟨d0,d1,d2,d3,d4,d5⟩:=HD2.out
    have hs2:=(cell_spot d0).2
    obtain ⟨i,hi⟩:∃ i,firstAt (fun e:LR=>e.l.id == e0.l.id) rs=i:=⟨_,rfl⟩
    rw [hi] at hfh ⊢
    have hfn:(i != (k:Int))=false:=by rw [bne,hfh];rfl
    obtain ⟨n0,hn0⟩:∃ n0,n0=wr.heap.size:=⟨_,rfl⟩
    rw [← hn0] at HD2 d0 d1 d2 d3 d4 d5 hs2 ⊢
    clear hb2 hb12 hi HIN HB1 H1 hn0 HO HB
    go_wp2_with fail
    go_loopw [5,30] (fun v5 j wr=>∃ m:Nat,m≤e0.l.d.ins.length∧j=.int .i64 m∧v5=u5∧Hid ((e0.l.d.ins.take m).any (fun e=>e.1 == x)=false)∧Hid (Below w2.heap.size w2 wr)) (fun _ j _=>e0.l.d.ins.length - (intOf j).toNat)
    case atStart=>exact ⟨0,Nat.zero_le _,rfl,rfl,Lib.hid rfl,Lib.hid (Below.refl _ _)⟩
    case round=>
     obtain ⟨m,hm,rfl,rfl,NO,HQ⟩:=hrel
     by_cases hml:m < e0.l.d.ins.length
     ·obtain ⟨b3,o3,ea3,hb3,q0,q1,q2⟩:=insAt_kept HQ.out HI2.out m hml
      have hqx:((e0.l.d.ins[m].1.toNat:Int) == (x.toNat:Int))=(e0.l.d.ins[m].1 == x):=u64_beq _ _
      have HST2:Hid ((e0.l.d.ins[m].1 == x)=false→(e0.l.d.ins.take (m+1)).any (fun e=>e.1 == x)=false):=Lib.hid (fun h1=>any_take_step hml NO.out h1)
      have HYE:Hid ((e0.l.d.ins[m].1 == x)=true→spendsD e0.l.d x=true):=Lib.hid (fun h1=>any_here hml h1)
      obtain ⟨y,hy⟩:∃ y,e0.l.d.ins[m]=y:=⟨_,rfl⟩
      rw [hy] at q0 q1 hqx HST2 HYE
      have hbX:=kept_new wr (.cells #[.int .u64 y.1.toNat,.int .i64 y.2] 180)
      have HBX:=Lib.hid (kept_trans HQ.out hbX)
      have HOX:=Lib.hid (owns_below HO2.out (kept_trans HQ.out hbX))
      obtain ⟨r0,r1,r2,r3,r4,r5⟩:=lrAt_kept (kept_trans HQ.out hbX) HD2.out
      have hsX:=(cell_spot r0).2
      rw [ea3]
      clear hy hbX ea3 q2
      cases hyx:y.1 == x with
      | true=>
       rw [hyx] at hqx HYE
       have HY:=Lib.hid (HYE.out rfl)
       clear hyx HST2 HYE
       go_wp2_with (at_builtin;refine append_id rfl _ _ rfl e0.l.id rfl (Eq.trans (b:=.slice (some ⟨wr.heap.size+1,0,none⟩) 1 1) rfl (by simp)) HOX.out (by omega) (Nat.le_trans HB2.out.size HBX.out.size) ?_;intro g4 cap4 w4 ho4 hg4 hg5)
       have HO4:=Lib.hid ho4
       have HB4:=Lib.hid ((kept_trans HB2.out HBX.out).grown hg5 (Nat.le_trans HB2.out.size HBX.out.size) (fun j hj=>(HOX.out.lt j hj).1))
       clear ho4 hg4 hg5
       go_wp2_with fail
       go_roundw
       case rel=>exact ⟨k+1,by omega,by go_num,Lib.hid (by rw [HST.out,HY.out];simpa using HO4.out),HB4⟩
       case measure=>simp [intOf];omega
      | false=>
       rw [hyx] at hqx HST2
       have HN:=Lib.hid (HST2.out rfl)
       clear hyx HST2 HYE
       go_wp2_with fail
       go_roundw
       case rel=>exact ⟨m+1,by omega,by go_num,rfl,HN,HBX⟩
       case measure=>simp [intOf];omega
     ·have hno:spendsD e0.l.d x=false:=by
       have:=NO.out
       rw [List.take_of_length_le (by omega)] at this
       exact this
      have HN:=Lib.hid hno
      have HO3:=Lib.hid (owns_below HO2.out HQ.out)
      have HB3:=Lib.hid (kept_trans HB2.out HQ.out)
      clear hno
      go_wp2_with fail
      go_roundw
      case rel=>exact ⟨k+1,by omega,by go_num,Lib.hid (by rw [HST.out,HN.out];simpa using HO3.out),HB3⟩
      case measure=>simp [intOf];omega
  ·have he:=chR_all rs x (k:=k) (by omega)
   have HO':=HO.out
   rw [he] at HO'
   obtain ⟨a6,cap6,e6,_,_,_⟩:=owns_idsAt HO'
   subst e6
   have HE:=Lib.hid HO'
   clear HO' he
   go_wp2_with fail
   go_ret
   exact ⟨a6,cap6,rfl,HE.out,HB.out⟩
end Go.Proofs.YtlboemhbealnmaaGreat.Ho
