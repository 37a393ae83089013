import Derived.Test.YtlboemhbealnmaaGreatP41
import Derived.Test.YtlboemhbealnmaaGreatP40
import Derived.Deep.RegionHeld3
set_option maxRecDepth 20000
namespace Go.Proofs.YtlboemhbealnmaaGreat
section
open Go.RowKit Go.Maps
variable {w w':World} {G G':Nat→Prop} {B:Nat} {s:NS}
theorem gain_grown {wr:World} {row:Option Nat} (ht:Gain B G G' w wr) (hg:wr.grownBy w' row) (hr:∀ k,row=some k→w.heap.size≤k):Gain B G G' w w':=
 ⟨hg.os.trans ht.os,hg.tape.trans ht.tape,hg.output.trans ht.output,Nat.le_trans ht.size hg.size,fun k hk hne=>(hg.block k (Nat.lt_of_lt_of_le hk ht.size) (fun e=>by have:=hr k e.symm;omega)).trans (ht.block k hk hne),ht.own,ht.more⟩
theorem RN.grown {row:Option Nat} (h:RN w G B s) (hg:w.grownBy w' row) (hr:∀ k,row=some k→¬ G k):RN w' G B s:=h.same (fun k hk hk2=>hg.block k hk (fun e=>hr k e.symm hk2)) hg.size
theorem own_gain {wr wr':World} {G1 G2:Nat→Prop} {C:Nat} {e:TypeId} {size n:Nat} {v:Value} {xs:List Value} (h:wr.ownsRow C e size v n xs) (ht:Gain B G1 G2 wr wr') (hB:B < C) (hn:∀ g,v.ownBlock=some g→¬ G1 g):wr'.ownsRow C e size v n xs∧∀ g,v.ownBlock=some g→¬ G2 g:=
 ⟨own_same h fun g hg=>ht.block g (h.lt g hg).2 (by have:=(h.lt g hg).1;omega),fun g hg h2=>(ht.own g h2).elim (hn g hg) (fun hle=>by have:=(h.lt g hg).2;omega)⟩
theorem own_one (w:World) (y:UInt64):OwnIds (w.alloc (.cells #[.int .u64 y.toNat] 22)) w.heap.size (.slice (some ⟨w.heap.size,0,none⟩) 1 1) [y]:=
 ⟨rfl,.inr ⟨w.heap.size,1,#[.int .u64 y.toNat],rfl,Nat.le_refl _,heap_alloc_new w _,Nat.le_refl _,by decide,rfl,rfl⟩⟩
theorem idsAt_grown {a:Option Addr} {l:List UInt64} {row:Option Nat} (h:IdsAt w a l) (hg:w.grownBy w' row) (hn:∀ bb o,l≠[]→a=some ⟨bb,o,none⟩→row≠some bb):IdsAt w' a l:=fun i hi=>by
 obtain ⟨b,o,e,hb,hc⟩:=h i hi
 exact ⟨b,o,e,Nat.lt_of_lt_of_le hb hg.size,(World.cell?_of_block (w:=w) (a:=⟨b,o+i,none⟩) (hg.block b hb (fun e2=>hn b o (fun e0=>by subst e0;simp at hi) e e2.symm))).trans hc⟩
theorem asked_take {m:List UInt64} {f j:Nat} (hj:j < m.length):(j < 4 - f→m.take (min (j+1) (4 - f))=m.take (min j (4 - f)) ++ [m[j]])∧(¬ j < 4 - f→m.take (min (j+1) (4 - f))=m.take (min j (4 - f))):=by
 refine ⟨fun h=>?_,fun h=>?_⟩
 ·rw [Nat.min_eq_left (by omega),Nat.min_eq_left (by omega),List.take_succ_eq_append_getElem hj]
 ·rw [Nat.min_eq_right (by omega),Nat.min_eq_right (by omega)]
abbrev askF (p:Nat) (s:NS) (x:UInt64):NS:={ s with T:=(Tr.askC s.T p x (s.later 10)).2 }
theorem rwait_arg (k:Int) (hk:k < 0∨k > 1099511627776 - s.now) (w:World) (h:RN w G B s):Calls Tryz.prog 33 #[.pointer (some ⟨B,0,none⟩),.int .i64 k] w (SentR w G B (s,[],1)):=by
 have H:=Lib.hid h
 have n0:=h.nowc.1
 have l0:=h.lt
 have hn:=h.good.now
 obtain ⟨n,hnn⟩:∃ n,s.now=n:=⟨_,rfl⟩
 rw [hnn] at n0 hn hk
 have h1:=hn.1
 have h2:=hn.2
 clear h hn hnn
 by_cases hk0:k < 0
 ·clear hk
  go_enter Tryz.func33,Tryz.ntmps33
  go_wp2_with fail
  go_ret2
  exact rsent_none H.out (Gain.refl _ _)
 ·have hk1:k > 1099511627776 - n:=hk.resolve_left hk0
  clear hk
  go_enter Tryz.func33,Tryz.ntmps33
  go_wp2_with fail
  go_ret2
  exact rsent_none H.out (Gain.refl _ _)
set_option maxHeartbeats 4000000 in
theorem rwait_ok (k:Int) (hk:¬ (k < 0∨k > 1099511627776 - s.now)) (hf:Fly s) (u:NS) (hu:({ s with now:=s.now+k,T:=Tr.dueL (s.now+k) s.T }:NS)=u) (w:World) (h:RN w G B s):Calls Tryz.prog 33 #[.pointer (some ⟨B,0,none⟩),.int .i64 k] w (SentR w G B ((u.wait 8).1,(u.wait 8).2,0)):=by
 obtain ⟨n0,f0⟩:=h.nowc
 have l0:=h.lt
 have hn:=h.good.now
 obtain ⟨n,hnn⟩:∃ n,s.now=n:=⟨_,rfl⟩
 rw [hnn] at n0 hn hk hu
 have h1:=hn.1
 have h2:=hn.2
 have hk0:¬ k < 0:=fun e=>hk (.inl e)
 have hk1:¬ k > 1099511627776 - n:=fun e=>hk (.inr e)
 obtain ⟨hs1,ts1⟩:=h.setNow (n+k) ⟨by omega,by omega⟩
 obtain ⟨wd,hwd⟩:∃ wd,(w.setCell ⟨B,18,none⟩ (.int .i64 (n+k))).drew=wd:=⟨_,rfl⟩
 have hbd:Below (w.setCell ⟨B,18,none⟩ (.int .i64 (n+k))).heap.size (w.setCell ⟨B,18,none⟩ (.int .i64 (n+k))) wd:=hwd▸(Below.refl _ _).drew
 have H1:=Lib.hid (hs1.kept hbd)
 have T1:Hid (Gain B G G w wd):=Lib.hid (ts1.trans (Gain.of_below hbd))
 have n1:=H1.out.nowc.1
 have l1:=H1.out.lt
 simp only at n1
 have HU:=Lib.hid hu
 have HFU:Hid (Fly u):=Lib.hid (hu▸fun p hp=>Nat.le_trans (flies_due _ _ p) (hf p hp))
 have HBW:Hid (B < w.heap.size):=Lib.hid l0
 have HWD:=Lib.hid hwd
 clear h hn hk hs1 ts1 hbd hwd hu hf hnn
 go_enter Tryz.func33,Tryz.ntmps33
 go_wp2_with fail
 refine region_tail 7 (by kernel_rfl) (by kernel_rfl) HWD.out ?_
 simp only [List.take_succ_cons,List.take_zero,List.drop_succ_cons,List.drop_zero]
 repeat still_step
 refine wpStill_nil ?_
 go_wp2_with fail
 with_reducible refine (r_due (n+k) _ H1.out).mono ?_
 rintro e w2 ⟨rfl,G2,h2,t2⟩
 have H2:Hid (RN w2 G2 B u):=Lib.hid (HU.out▸h2)
 have T2:=Lib.hid (T1.out.trans t2)
 clear h2 t2
 go_wp2_with fail
 go_loopw [6,43] (fun v6 i wr=>∃ (p:Nat) (G1:Nat→Prop) (x:NS) (ou:List OutD),p≤8∧i=.int .i64 p∧Hid (RN wr G1 B x)∧Hid (Gain B G G1 w wr)∧Hid (u.wait p=(x,ou))∧Hid (Fly x)∧Hid (OwnOuts wr w.heap.size v6 ou)∧ou.length≤8∧Hid (∀ g,v6.ownBlock=some g→¬ G1 g)) (fun _ i _=>8 - (intOf i).toNat)
 case atStart=>exact ⟨0,G2,u,[],Nat.zero_le _,rfl,H2,T2,Lib.hid rfl,HFU,Lib.hid (outs_nil _ _),Nat.zero_le _,Lib.hid (fun g hg=>by cases hg)⟩
 case round=>
  obtain ⟨p,G4,x,ou,hp,rfl,H4,T4,HW,HF,HO,hol,HN⟩:=hrel
  obtain ⟨ao,co,rfl,_⟩:=outs_form HO.out
  by_cases hp8:p < 8
  ·obtain ⟨l,hl⟩:∃ l,x.asks p=l:=⟨_,rfl⟩
   obtain ⟨m,hm⟩:∃ m,(Tr.idsOf x.T p).filter ((Tr.ofL x.salt x.T).isNext p)=m:=⟨_,rfl⟩
   obtain ⟨c,hc⟩:∃ c:Nat,(x.T.filter fun e=>e.peer == p).length=c:=⟨_,rfl⟩
   obtain ⟨f,hff⟩:∃ f,flies x.T p=f:=⟨_,rfl⟩
   have hf4:f≤4:=hff▸HF.out p hp8
   have hml:m.length≤20:=hm▸next_len x.T H4.out.good.T x.salt p hp8
   have HL:Hid (m.take (4 - f)=l):=Lib.hid (by rw [← hl,← hm,← hff];rfl)
   have HRQ:Hid (x.request p=l.foldl (askF p) x):=Lib.hid (by rw [← hl];rfl)
   have HM:=Lib.hid hm
   have HC:Hid ((if Tr.goodP (p:Int) then (((x.T.filter fun e=>e.peer == (p:Int).toNat).length:Int),((x.T.filter fun e=>e.peer == (p:Int).toNat && e.st == 2).length:Int),(0:Int)) else (0,0,1))=((c:Int),(f:Int),(0:Int))):=Lib.hid (by
    rw [if_pos ⟨by omega,by omega⟩,Int.toNat_natCast,hc]
    have:(x.T.filter fun e=>e.peer == p && e.st == 2).length=f:=hff
    rw [this])
   have hp8':(p:Int) < 8:=by omega
   have HWN:Hid (u.wait (p+1)=(x.request p,ou ++ message p ⟨2,l,⟨#[]⟩⟩)):=Lib.hid (by simp only [NS.wait];rw [HW.out,hl])
   have HFN:Hid (Fly (x.request p)):=Lib.hid (fly_request HF.out H4.out.good.T p)
   have l4:=H4.out.lt
   clear hl hm hc hff
   go_wp2_with fail
   with_reducible refine (r_next p hp8 _ H4.out).mono ?_
   rintro e w5 ⟨⟨a1,c1,rfl,hc1,hi1,hf1⟩,hb1⟩
   rw [HM.out] at hc1 hi1 ⊢
   have H5:=Lib.hid (H4.out.kept hb1)
   have HI5:=Lib.hid hi1
   have HF5:Hid (∀ bb o,m≠[]→a1=some ⟨bb,o,none⟩→bb≠B):=Lib.hid fun bb o _ h2=>by have h3:=hf1 bb o none h2;have:=T4.out.size;omega
   have HB5:=Lib.hid hb1
   have l5:=H5.out.lt
   clear hi1 hf1 hb1
   go_wp2_with fail
   with_reducible refine (r_counts p c f 0 HC.out _ H5.out).mono ?_
   rintro e w6 ⟨rfl,hb6⟩
   have HB6:=Lib.hid (kept_trans HB5.out hb6)
   have H6:=Lib.hid (H4.out.kept HB6.out)
   have HI6:=Lib.hid (idsAt_kept hb6 HI5.out)
   have T6:=Lib.hid (T4.out.trans (Gain.of_below HB6.out))
   have HO6:Hid (OwnOuts w6 w.heap.size (.slice ao ou.length co) ou):=Lib.hid (own_same HO.out fun g hgg=>HB6.out.block g (HO.out.lt g hgg).2)
   have l6:=H6.out.lt
   clear hb6
   go_wp2_with fail
   obtain ⟨wA,hwA⟩:∃ z,z=wr:=⟨_,rfl⟩
   subst hwA
   go_loopw [13,65] (fun v13 i wq=>∃ (j:Nat) (G5:Nat→Prop) (t:NS),j≤m.length∧i=.int .i64 j∧Hid (RN wq G5 B t)∧Hid (Gain B G G5 w wq)∧Hid ((m.take (min j (4 - f))).foldl (askF p) x=t)∧Hid (OwnIds wq w.heap.size v13 (m.take (min j (4 - f))))∧Hid (∀ g,v13.ownBlock=some g→¬ G5 g)∧Hid (OwnOuts wq w.heap.size (.slice ao ou.length co) ou)∧Hid (∀ g,(Value.slice ao ou.length co).ownBlock=some g→¬ G5 g)∧Hid (IdsAt wq a1 m)∧Hid (∀ g,v13.ownBlock=some g→∀ bb o,m≠[]→a1=some ⟨bb,o,none⟩→bb≠g)) (fun _ i _=>m.length - (intOf i).toNat)
   case atStart=>exact ⟨0,G4,x,Nat.zero_le _,rfl,H6,T6,Lib.hid (by rw [Nat.zero_min];rfl),Lib.hid (by rw [Nat.zero_min];exact ownIds_nil _ _),Lib.hid (fun g hg=>by cases hg),HO6,HN,HI6,Lib.hid (fun g hg=>by cases hg)⟩
   case round=>
    obtain ⟨j,G5,t,hj,rfl,H7,T7,HT7,HA7,HNA7,HO7,HN7,HI7,HX7⟩:=hrel
    obtain ⟨aa,ca,ea,hca,hids7,_⟩:=owns_idsAt HA7.out
    subst ea
    have hal:(m.take (min j (4 - f))).length=min j (4 - f):=by rw [List.length_take];omega
    by_cases hjl:j < m.length
    ·obtain ⟨gj,oj,rfl,hgj,hcj⟩:=HI7.out j hjl
     obtain ⟨y,hy⟩:∃ y,m[j]=y:=⟨_,rfl⟩
     rw [hy] at hcj
     have hat:=asked_take (f:=f) hjl
     rw [hy] at hat
     have HAT:=Lib.hid hat
     have HIDS7:=Lib.hid hids7
     have lj:gj < wr.heap.size:=hgj
     obtain ⟨al,hale⟩:∃ al,m.take (min j (4 - f))=al:=⟨_,rfl⟩
     rw [hale] at hal HA7 HT7 HAT HIDS7 HNA7 HX7 ⊢
     clear hy hat hids7 hale
     by_cases hjf:j < 4 - f
     ·have hadd:¬ ((f:Int)+(al.length:Int) ≥ 4):=by omega
      have hadd':(f:Int)+(al.length:Int) < 4:=by omega
      have hal9:al.length≤20:=by omega
      clear hal
      obtain ⟨wd,hwd⟩:∃ wd,wr.drew=wd:=⟨_,rfl⟩
      have hbd:Below wr.heap.size wr wd:=hwd▸(Below.refl _ _).drew
      have H8:=Lib.hid (H7.out.kept hbd)
      have n8:=H8.out.nowc.1
      have l8:=H8.out.lt
      have hng:=H8.out.good.now
      obtain ⟨nw,hnw⟩:∃ nw,t.now=nw:=⟨_,rfl⟩
      rw [hnw] at n8 hng
      obtain ⟨hng0,hng1⟩:=hng
      have HNW:=Lib.hid hnw
      have HWD:=Lib.hid hwd
      have HBD:=Lib.hid hbd
      clear hbd hwd hnw
      obtain ⟨tt,htt⟩:∃ tt,t.later 10=tt:=⟨_,rfl⟩
      have HTN:=Lib.hid htt
      have htv:tt=min (nw+10) 1099511627776:=by rw [← htt];unfold NS.later;rw [HNW.out]
      clear htt
      by_cases hlt:(1099511627776:Int) < nw+10
      case' pos=>
       obtain rfl:tt=1099511627776:=by omega
      case' neg=>
       obtain rfl:tt=nw+10:=by omega
      all_goals
       clear htv
       have hwr:IntKind.i64.wrap (nw+10)=nw+10:=IntWalk.i64_in _ (by omega)
       go_wp2_with fail
       refine region_tail 11 (by kernel_rfl) (by kernel_rfl) HWD.out ?_
       simp only [List.take_succ_cons,List.take_zero,List.drop_succ_cons,List.drop_zero]
       repeat still_step
       refine wpStill_nil ?_
       go_wp2_with fail
       with_reducible refine (r_ask p y _ _ H8.out).mono ?_
       rintro e w8 ⟨rfl,G8,h8,t8⟩
       have H9:=Lib.hid h8
       have HGT:Hid (Gain B G5 G8 wr w8):=Lib.hid ((Gain.of_below HBD.out).trans t8)
       have T9:=Lib.hid (T7.out.trans HGT.out)
       obtain ⟨ha9,hna9⟩:=own_gain HA7.out HGT.out HBW.out HNA7.out
       obtain ⟨ho9,hn9⟩:=own_gain HO7.out HGT.out HBW.out HN7.out
       have HA9:Hid (OwnIds w8 w.heap.size (.slice aa al.length ca) al):=Lib.hid ha9
       have HNA9:=Lib.hid hna9
       have HO9:=Lib.hid ho9
       have HN9:=Lib.hid hn9
       have HI9:=Lib.hid (gain_ids HI7.out HGT.out HF5.out)
       have HSZ:Hid (w.heap.size≤w8.heap.size):=Lib.hid T9.out.size
       clear h8 t8 ha9 hna9 ho9 hn9
       go_wp2_with (at_builtin;refine append_ids (C0:=w.heap.size) (l:=al) (m:=[y]) rfl _ _ rfl rfl rfl (HA9.out.alloc _) (own_one w8 y) (by simp;omega) (by have:=HSZ.out;simp;omega) ?_;intro v7 w7 ho7 hg7 hk7;refine Hid.out ?_)
       refine Lib.hid ?_
       have hgw:w8.grownBy w7 (Value.slice aa al.length ca).ownBlock:=(World.grownBy_alloc w8 _ _).trans hg7
       have HO10:=Lib.hid (own_grown HO9.out hgw (fun g h1 h2=>kinds_apart HO9.out HA9.out g h1 h2))
       have H10:=Lib.hid (H9.out.grown hgw HNA9.out)
       have T10:=Lib.hid (gain_grown T9.out hgw (fun k hk=>(HA9.out.lt k hk).1))
       have HA10:=Lib.hid ho7
       have hth:=H9.out.there
       have HK7:Hid (∀ k,v7.ownBlock=some k→(Value.slice aa al.length ca).ownBlock=some k∨w8.heap.size≤k):=Lib.hid (fun k hk=>(hk7 k hk).imp id (fun hle=>by simp at hle;omega))
       have HNA10:Hid (∀ k,v7.ownBlock=some k→¬ G8 k):=Lib.hid (fun k hk hf=>(HK7.out k hk).elim (fun e=>HNA9.out k e hf) (fun hle=>by have:=hth k hf;omega))
       have HI10:Hid (IdsAt w7 (some ⟨gj,oj,none⟩) m):=Lib.hid (idsAt_grown HI9.out hgw (fun bb o hne e=>fun e2=>HX7.out bb e2 bb o hne e rfl))
       have HX10:Hid (∀ g,v7.ownBlock=some g→∀ bb o,m≠[]→(some ⟨gj,oj,none⟩:Option Addr)=some ⟨bb,o,none⟩→bb≠g):=Lib.hid (fun g hg bb o hne e e2=>(HK7.out g hg).elim (fun e3=>HX7.out g e3 bb o hne e e2) (fun hle=>by
        obtain ⟨b',o',e',hb',_⟩:=HI9.out 0 (List.length_pos_iff.2 hne)
        rw [e] at e'
        cases e'
        omega))
       obtain ⟨av,cv,ev,_⟩:=owns_idsAt ho7
       subst ev
       clear ho7 hg7 hk7 hgw hth
       have HTN':=Lib.hid (show askF p t y=_ from by unfold askF;rw [HTN.out])
       go_wp2_with fail
       go_roundw
       case rel=>exact ⟨j+1,G8,_,by omega,by go_num,H10,T10,Lib.hid (by rw [HAT.out.1 hjf,List.foldl_append,HT7.out];exact HTN'.out),Lib.hid (by rw [HAT.out.1 hjf];exact HA10.out),HNA10,HO10,HN9,HI10,HX10⟩
       case measure=>simp [intOf];omega
     ·have hadd:¬ ((f:Int)+(al.length:Int) < 4):=by omega
      go_wp2_with fail
      go_roundw
      case rel=>exact ⟨j+1,G5,t,by omega,by go_num,H7,T7,Lib.hid (by rw [HAT.out.2 hjf];exact HT7.out),Lib.hid (by rw [HAT.out.2 hjf];exact HA7.out),HNA7,HO7,HN7,HI7,HX7⟩
      case measure=>simp [intOf];omega
    ·have hjm:j=m.length:=by omega
     have hmin:min j (4 - f)=min m.length (4 - f):=by rw [hjm]
     have hlast:m.take (min j (4 - f))=l:=by
      rw [← HL.out,hjm]
      by_cases h45:m.length≤4 - f
      ·rw [Nat.min_eq_left h45,List.take_of_length_le (Nat.le_refl _),List.take_of_length_le h45]
      ·rw [Nat.min_eq_right (by omega)]
     have HIDS7:=Lib.hid hids7
     rw [hlast] at HT7 HA7 HIDS7 ⊢
     rw [hlast] at hca
     clear hids7 hal hmin hlast
     go_wp2_with fail
     with_reducible refine (rout_fetch p l aa ca hca _ HIDS7.out).mono ?_
     rintro e w9 ⟨v9,rfl,ho9,hb9⟩
     obtain ⟨mm,hmm⟩:∃ mm,message p ⟨2,l,⟨#[]⟩⟩=mm:=⟨_,rfl⟩
     have hmml:mm.length≤1:=hmm▸message_len p ⟨2,l,⟨#[]⟩⟩
     rw [hmm] at ho9 HWN
     have H9:Hid (RN w9 G5 B (x.request p)):=Lib.hid (by rw [HRQ.out,HT7.out];exact H7.out.kept hb9)
     have T9:=Lib.hid (T7.out.trans (Gain.of_below (G:=G5) hb9))
     have HO9:Hid (OwnOuts w9 w.heap.size (.slice ao ou.length co) ou):=Lib.hid (own_same HO7.out fun g hgg=>hb9.block g (HO7.out.lt g hgg).2)
     have HM9:=Lib.hid ho9
     have hwl:=wait_len u (p+1)
     rw [HWN.out] at hwl
     simp only [List.length_append] at hwl
     have HSZ:Hid (w.heap.size≤w9.heap.size):=Lib.hid T9.out.size
     clear hb9 ho9 hmm
     go_wp2_with (at_builtin;refine append_outs rfl _ _ rfl rfl rfl HO9.out HM9.out (by omega) HSZ.out ?_;intro v7 w7 ho7 hg7 hk7;refine Hid.out ?_)
     refine Lib.hid ?_
     have T10:=Lib.hid (gain_grown T9.out hg7 (fun k hk=>(HO9.out.lt k hk).1))
     have H10:=Lib.hid (H9.out.grown hg7 HN7.out)
     have HO10:=Lib.hid ho7
     have hth:=H9.out.there
     have HN10:Hid (∀ g,v7.ownBlock=some g→¬ G5 g):=Lib.hid fun g hg hf=>(hk7 g hg).elim (fun e=>HN7.out g e hf) (fun hle=>by have:=hth g hf;omega)
     clear ho7 hg7 hk7 hth
     go_wp2_with fail
     go_roundw
     case rel=>exact ⟨p+1,G5,x.request p,ou ++ mm,by omega,by go_num,H10,T10,HWN,HFN,HO10,by rw [List.length_append];omega,HN10⟩
     case measure=>simp [intOf];omega
  ·obtain rfl:p=8:=by omega
   go_wp2_with fail
   go_ret2
   rw [HW.out]
   exact ⟨_,G4,rfl,HO.out,H4.out,T4.out⟩
theorem rwait_any (k:Int) (hf:Fly s) (q:NS × List OutD × Int) (hq:s.pass k=q) (w:World) (h:RN w G B s):Calls Tryz.prog 33 #[.pointer (some ⟨B,0,none⟩),.int .i64 k] w (SentR w G B q):=by
 subst hq
 unfold NS.pass
 by_cases hk:k < 0∨k > 1099511627776 - s.now
 ·rw [if_pos hk]
  exact rwait_arg k hk w h
 ·rw [if_neg hk]
  exact rwait_ok k hk hf _ rfl w h
end
section
open Go.RowKit Go.Maps
variable {w w':World} {G G':Nat→Prop} {B:Nat} {s:NS}
theorem bring_look {p:Nat} {d:DeedD} {t:NS} (ht:({ s with T:=(Tr.answerC s.T p (Ju.idD d)).2 }:NS)=t) (h1:(Ju.findL s.A (Ju.idD d)).isSome=false) (h2:s.W.has (Ju.idD d)=false):s.bring p d=t.look p (Ju.idD d) d:=by
 rw [bring_new ht h1 h2]
 rfl
set_option maxHeartbeats 2000000 in
theorem rsend_bring (p:Nat) (b:ByteArray) (hs:b.size≤maxLen) (ht:s.thereE p=0) (hr:Ms.errM b.data.toList=0) (ids:List UInt64) (body:ByteArray) (hm:Ms.ansM b.data.toList=⟨3,ids,body⟩) (n:Nat) (hn:n≤2932031007402) (hA:s.A.length+s.P.length+1≤n) (hpi:PInv s) (q:NS × List OutD × Int) (hq:(if errD body.data.toList≠0 then (s,[],errD body.data.toList) else (s.bring p (readD body.data.toList),[],0))=q) (w:World) (h:RN w G B s):Calls Tryz.prog 32 #[.pointer (some ⟨B,0,none⟩),.int .i64 p,.string b] w (SentR w G B q):=by
 obtain ⟨hil,hbl⟩:=msg_small hr hm
 have hml:maxLen=9223372036854775807:=rfl
 have H:=Lib.hid h
 have HR:=Lib.hid hr
 have HT:=Lib.hid ht
 have HM:=Lib.hid hm
 obtain ⟨pn,hpn,hp,hth⟩:=there_zero ht
 obtain rfl:pn=p:=by omega
 have HTH:=Lib.hid hth
 have HPI:=Lib.hid hpi
 have HSUM:=Lib.hid hA
 have HQ:=Lib.hid hq
 have hbs:body.size≤maxLen:=by omega
 clear h hr ht hm hpn hth hpi hA hq
 go_enter Tryz.func32,Tryz.ntmps32
 go_wp2_with fail
 with_reducible refine (rthere_any pn 0 HT.out _ H.out).mono ?_
 rintro e w0 ⟨rfl,rfl⟩
 go_wp2_with fail
 with_reducible refine (Ms.rdecode_all b 0 _ _ hs HR.out HM.out).mono ?_
 rintro e w1 ⟨a1,c1,rfl,_,hi1,hf1,hb1⟩
 simp only at hi1
 obtain ⟨wy,hwy⟩:∃ wy,w1.alloc (.cells #[.int .i64 3,.slice a1 ids.length c1,.string body] 113)=wy:=⟨_,rfl⟩
 have hby:Below w1.heap.size w1 wy:=hwy▸kept_new _ _
 obtain ⟨m0,m1,m2⟩:MsgBox wy w1.heap.size a1 c1 ⟨3,ids,body⟩:=hwy▸box_msg w1 a1 c1 ⟨3,ids,body⟩
 simp only at m0 m1 m2
 have l0:=(cell_spot m0).2
 have HBY:=Lib.hid (kept_trans hb1 hby)
 have HY:=Lib.hid (H.out.kept HBY.out)
 have l1:=HY.out.lt
 obtain ⟨p6,_⟩:=HY.out.peerc pn hp
 have hp8:(pn:Int) < 8:=by omega
 have hp0:(0:Int)≤(pn:Int):=by omega
 obtain ⟨r,hrr⟩:∃ r,errD body.data.toList=r:=⟨_,rfl⟩
 obtain ⟨D,hD⟩:∃ D,De.ansD body.data.toList=D:=⟨_,rfl⟩
 have HRR:=Lib.hid hrr
 have HD:=Lib.hid hD
 rw [hrr] at HQ
 clear hby hi1 hb1 hf1 hrr hD
 by_cases hr0:r=0
 ·subst hr0
  have HDR:Hid (readD body.data.toList=D):=Lib.hid (by rw [← HD.out];unfold De.ansD;rw [if_pos HRR.out])
  have HC:Hid (checkD D=0):=Lib.hid (by rw [← HDR.out];exact (De.err_zero HRR.out).2)
  rw [if_neg (not_not_intro rfl),HDR.out] at HQ
  obtain ⟨x,hx⟩:∃ x,Ju.idD D=x:=⟨_,rfl⟩
  have HX:=Lib.hid hx
  clear hx
  go_wp2_with fail
  with_reducible refine (De.refDecode_all body 0 D _ hbs HRR.out HD.out).mono ?_
  rintro e w2 ⟨a2,c2,rfl,hc2,hi2,hf2,hb2⟩
  obtain ⟨wz,hwz⟩:∃ wz,w2.alloc (.cells #[.slice a2 D.ins.length c2,.int .i64 D.outs,.int .i64 D.weight,.int .i64 D.fee] 94)=wz:=⟨_,rfl⟩
  have hbz:Below w2.heap.size w2 wz:=hwz▸kept_new _ _
  have HZ:Hid (DeedBox wz w2.heap.size a2 c2 D):=Lib.hid (hwz▸box_deed w2 a2 c2 D)
  obtain ⟨z0,z1,z2,z3⟩:=HZ.out
  have lz:=(cell_spot z0).2
  have HIZ:=Lib.hid (insAt_kept hbz hi2)
  have HBZ:=Lib.hid (kept_trans HBY.out (kept_trans hb2 hbz))
  have HOZ:Hid (∀ bb o,D.ins≠[]→a2=some ⟨bb,o,none⟩→bb≠B):=Lib.hid fun bb o _ h2 hf=>by have h3:=HY.out.lt;have h4:=hf2 bb o none h2;omega
  have HLZ:Hid (w2.heap.size≠B):=Lib.hid (by have:=hb2.size;omega)
  clear hbz hi2 hf2 hb2
  go_wp2_with fail
  with_reducible refine (Ju.idOf_any D a2 c2 _ HIZ.out HC.out x HX.out).mono ?_
  rintro e w3 ⟨rfl,hb3⟩
  have HB3:=Lib.hid (kept_trans HBZ.out hb3)
  have H3:=Lib.hid (H.out.kept HB3.out)
  have HZ3:=Lib.hid (HZ.out.kept hb3)
  have HI3:=Lib.hid (insAt_kept hb3 HIZ.out)
  have l3:=H3.out.lt
  clear hb3 z0 z1 z2 z3 lz
  go_wp2_with fail
  with_reducible refine (r_answer pn x _ H3.out).mono ?_
  rintro e w4 ⟨rfl,G4,h4,t4⟩
  obtain ⟨t,ht⟩:∃ t:NS,({ s with T:=(Tr.answerC s.T pn x).2 }:NS)=t:=⟨_,rfl⟩
  have H4:Hid (RN w4 G4 B t):=Lib.hid (ht▸h4)
  have T4:=Lib.hid ((Gain.of_below (G:=G) HB3.out).trans t4)
  have HZ4:Hid (DeedBox w4 w2.heap.size a2 c2 D):=Lib.hid (box_gain HZ3.out t4 HLZ.out)
  have HI4:=Lib.hid (gain_ins HI3.out t4 HOZ.out)
  have HTT:Hid (t.A=s.A∧t.P=s.P∧t.W=s.W∧t.peers=s.peers):=Lib.hid (by rw [← ht];exact ⟨rfl,rfl,rfl,rfl⟩)
  have HTX:=Lib.hid ht
  have l4:=H4.out.lt
  obtain ⟨la,lc,ll,h3,_,_⟩:=H4.out.led
  have HUA:Hid (t.A.length≤2932031007402):=Lib.hid (by rw [HTT.out.1];have:=HSUM.out;omega)
  obtain ⟨z0,z1,z2,z3⟩:=HZ4.out
  have lz:=(cell_spot z0).2
  clear h4 t4 ht
  cases hkA:(Ju.findL t.A x).isSome with
  | true=>
   have HKA:=Lib.hid hkA
   have HBR:Hid (s.bring pn D=t):=Lib.hid (by rw [bring_known (by rw [HX.out,← HTT.out.1,hkA];rfl),HX.out,HTX.out])
   clear hkA
   go_wp2_with fail
   with_reducible refine (hasA_any H4.out HUA.out x true HKA.out h3).mono ?_
   rintro e w5 ⟨rfl,hb5⟩
   have HB5:=Lib.hid hb5
   clear hb5
   go_wp2_with fail
   go_ret2
   rw [← HQ.out,HBR.out]
   exact rsent_none (H4.out.kept HB5.out) (T4.out.trans (Gain.of_below HB5.out))
  | false=>
   have HKA:=Lib.hid hkA
   go_wp2_with fail
   with_reducible refine (hasA_any H4.out HUA.out x false HKA.out h3).mono ?_
   rintro e w5 ⟨rfl,hb5⟩
   have H5:=Lib.hid (H4.out.kept hb5)
   have HZ5:=Lib.hid (HZ4.out.kept hb5)
   have HI5:=Lib.hid (insAt_kept hb5 HI4.out)
   have T5:=Lib.hid (T4.out.trans (Gain.of_below hb5))
   have l5:=H5.out.lt
   clear hb5 z0 z1 z2 z3 lz h3
   obtain ⟨z0,z1,z2,z3⟩:=HZ5.out
   have lz:=(cell_spot z0).2
   cases hkW:t.W.has x with
   | true=>
    have HKW:=Lib.hid hkW
    have HBR:Hid (s.bring pn D=t):=Lib.hid (by rw [bring_known (by rw [HX.out,← HTT.out.2.2.1,hkW,Bool.or_true]),HX.out,HTX.out])
    clear hkA hkW
    go_wp2_with fail
    with_reducible refine (r_hasW x true HKW.out _ H5.out).mono ?_
    rintro e w6 ⟨rfl,rfl⟩
    go_wp2_with fail
    go_ret2
    rw [← HQ.out,HBR.out]
    exact rsent_none H5.out T5.out
   | false=>
    have HKW:=Lib.hid hkW
    have HBR:Hid (s.bring pn D=t.look pn x D):=Lib.hid (by
     have:=bring_look (s:=s) (p:=pn) (d:=D) (t:=t) (by rw [HX.out];exact HTX.out) (by rw [HX.out,← HTT.out.1];exact hkA) (by rw [HX.out,← HTT.out.2.2.1];exact hkW)
     rw [HX.out] at this
     exact this)
    have HLE:Hid (LE n t [x] x D):=Lib.hid (le_first (HPI.out.sub HTT.out.1 (fun l hl=>by rw [← HTT.out.2.1];exact hl)) HX.out (by simpa using hkA) HC.out (by rw [HTT.out.1,HTT.out.2.1];exact HSUM.out) H5.out.good.P.len)
    have HTP:Hid ((t.peers pn).1=true):=Lib.hid (by rw [HTT.out.2.2.2];exact HTH.out)
    clear hkA hkW
    go_wp2_with fail
    with_reducible refine (r_hasW x false HKW.out _ H5.out).mono ?_
    rintro e w6 ⟨rfl,rfl⟩
    go_wp2_with fail
    with_reducible refine (rlook_any pn hp x D a2 c2 n hn _ H5.out HI5.out HOZ.out hc2 HLE.out HTP.out).mono ?_
    rintro e w7 ⟨rfl,G7,h7,t7⟩
    have H7:=Lib.hid h7
    have T7:=Lib.hid (T5.out.trans t7)
    clear h7 t7
    go_wp2_with fail
    go_ret2
    rw [← HQ.out,HBR.out]
    exact rsent_none H7.out T7.out
 ·have hrb:(r != 0)=true:=by simpa using hr0
  rw [if_pos hr0] at HQ
  go_wp2_with fail
  with_reducible refine (De.refDecode_all body r D _ hbs HRR.out HD.out).mono ?_
  rintro e w2 ⟨a2,c2,rfl,hc2,hi2,hf2,hb2⟩
  have HB2:=Lib.hid (kept_trans HBY.out (kept_alloc hb2 (.cells #[.slice a2 D.ins.length c2,.int .i64 D.outs,.int .i64 D.weight,.int .i64 D.fee] 94)))
  clear hb2 hi2 hf2
  go_wp2_with fail
  go_ret2
  rw [← HQ.out]
  exact rsent_none (H.out.kept HB2.out) (Gain.of_below HB2.out)
end
section
open Go.RowKit Go.Maps
variable {w w':World} {G G':Nat→Prop} {B:Nat} {s:NS}
theorem rsend_any (p:Int) (b:ByteArray) (hs:b.size≤maxLen) (n:Nat) (hn:n≤2932031007402) (hA:s.A.length+s.P.length+1≤n) (hpi:PInv s) (q:NS × List OutD × Int) (hq:s.send p b=q) (w:World) (h:RN w G B s):Calls Tryz.prog 32 #[.pointer (some ⟨B,0,none⟩),.int .i64 p,.string b] w (SentR w G B q):=by
 have hA2:s.A.length≤2932031007402:=by omega
 subst hq
 unfold NS.send
 by_cases ht:s.thereE p=0
 ·rw [if_neg (not_not_intro ht)]
  obtain ⟨pn,rfl,hp,_⟩:=there_zero ht
  by_cases hr:Ms.errM b.data.toList=0
  ·rw [if_neg (not_not_intro hr)]
   obtain ⟨kd,ids,body,hm⟩:∃ kd ids body,Ms.ansM b.data.toList=⟨kd,ids,body⟩:=⟨_,_,_,rfl⟩
   have hwk:within kd 1 4=true:=by
    obtain ⟨_,h2⟩:=Ms.errM_zero hr
    have:Ms.readM b.data.toList=⟨kd,ids,body⟩:=by rw [← hm];unfold Ms.ansM;rw [if_pos hr]
    rw [this] at h2
    exact (Ms.checkM_ok h2).1
   simp only [hm,Int.toNat_natCast]
   rcases Ms.within_known hwk with rfl | rfl | rfl | rfl
   ·rw [if_pos rfl]
    exact rsend_announce pn hp b hs ht hr ids body hm hA2 w h
   ·rw [if_neg (by decide),if_neg (by decide),if_pos rfl]
    exact rsend_fetch pn b hs ht hr ids body hm hA2 w h
   ·rw [if_neg (by decide),if_neg (by decide),if_neg (by decide)]
    exact rsend_bring pn b hs ht hr ids body hm n hn hA hpi _ rfl w h
   ·rw [if_neg (by decide),if_pos rfl]
    exact rsend_missing pn b hs ht hr ids body hm w h
  ·rw [if_pos hr]
   exact rsend_form pn b hs _ ht rfl hr w h
 ·rw [if_pos ht]
  exact rsend_there p b _ rfl ht w h
theorem rturns_sent {v:Int} {s':NS} {e:Ending} (h:TurnsR w G B (.int .i64 v) s' e w'):e=.returned (.int .i64 v)∧SentR w G B (s',[],v) (.returned (.tuple #[.slice none 0 0,.int .i64 v])) w':=by
 obtain ⟨he,G',h1,h2⟩:=h
 exact ⟨he,rsent_none h1 h2⟩
set_option maxHeartbeats 1000000 in
theorem rdo_any (a:ActD) (n:Nat) (hn:n+1≤2932031007402) (hi:NInv n s) (hpi:PInv s) (hs:a.bytes.size≤maxLen) (q:NS × List OutD × Int) (hq:s.did a=q) (w:World) (h:RN w G B s) :
  Calls Tryz.prog 9 #[.pointer (some ⟨B,0,none⟩),.agg #[.int .i64 a.kind,.int .i64 a.peer,.int .i64 a.n,.bool a.flag,.string a.bytes]] w (SentR w G B q):=by
 obtain ⟨kd,pe,nn,fl,by'⟩:=a
 simp only at hs
 unfold NS.did at hq
 simp only at hq ⊢
 obtain ⟨wb,hwb⟩:∃ wb,w.alloc (.cells #[.int .i64 kd,.int .i64 pe,.int .i64 nn,.bool fl,.string by'] 29)=wb:=⟨_,rfl⟩
 have hk0:Below w.heap.size w wb:=hwb▸kept_new _ _
 have b0:wb.cell? ⟨w.heap.size,0,none⟩=some (.int .i64 kd):=by rw [← hwb];simp [go_sem]
 have b1:wb.cell? ⟨w.heap.size,1,none⟩=some (.int .i64 pe):=by rw [← hwb];simp [go_sem]
 have b2:wb.cell? ⟨w.heap.size,2,none⟩=some (.int .i64 nn):=by rw [← hwb];simp [go_sem]
 have b3:wb.cell? ⟨w.heap.size,3,none⟩=some (.bool fl):=by rw [← hwb];simp [go_sem]
 have b4:wb.cell? ⟨w.heap.size,4,none⟩=some (.string by'):=by rw [← hwb];simp [go_sem]
 have l0:=(cell_spot b0).2
 have HK:=Lib.hid hk0
 have H:=Lib.hid (h.kept hk0)
 have HB:Hid (∀ (q:NS × List OutD × Int) (v:Value) (w':World),SentR wb G B q (.returned v) w'→SentR w G B q (.returned v) w'):=Lib.hid fun q v w' ⟨u,F',h1,h2,h3,h4⟩=>⟨u,F',h1,outs_low h2 hk0.size,h3,(Gain.of_below hk0).trans h4⟩
 have HFL:=Lib.hid hi.fly
 have HPI:=Lib.hid hpi
 have HSUM:Hid (s.A.length+s.P.length+1≤n+1):=Lib.hid (by have:=hi.sum;omega)
 clear h hk0 hi hpi
 by_cases h1:kd=1
 ·subst h1
  rw [if_pos rfl] at hq
  have HQ:=Lib.hid hq
  clear hq
  go_enter Tryz.func9,Tryz.ntmps9
  go_wp2_with fail
  with_reducible refine (rjoin_any pe fl _ rfl _ H.out).mono ?_
  rintro e w1 h1
  obtain ⟨rfl,h2⟩:=rturns_sent h1
  have H2:=Lib.hid h2
  clear h1 h2
  go_wp2_with fail
  go_ret2
  rw [← HQ.out]
  exact HB.out _ _ _ H2.out
 ·rw [if_neg h1] at hq
  by_cases h2:kd=2
  ·subst h2
   rw [if_pos rfl] at hq
   have HQ:=Lib.hid hq
   clear hq
   go_enter Tryz.func9,Tryz.ntmps9
   go_wp2_with fail
   with_reducible refine (rleave_any pe _ rfl _ H.out).mono ?_
   rintro e w1 h1
   obtain ⟨rfl,h2⟩:=rturns_sent h1
   have H2:=Lib.hid h2
   clear h1 h2
   go_wp2_with fail
   go_ret2
   rw [← HQ.out]
   exact HB.out _ _ _ H2.out
  ·rw [if_neg h2] at hq
   by_cases h3:kd=3
   ·subst h3
    rw [if_pos rfl] at hq
    have HQ:=Lib.hid hq
    clear hq
    go_enter Tryz.func9,Tryz.ntmps9
    go_wp2_with fail
    with_reducible refine (rsend_any pe by' hs (n+1) hn HSUM.out HPI.out _ HQ.out _ H.out).mono ?_
    rintro e w1 h1
    have h1':=h1
    obtain ⟨v,F',rfl,ho,_,_⟩:=h1
    obtain ⟨a5,c5,rfl,_⟩:=outs_form ho
    have H2:=Lib.hid h1'
    clear h1' ho
    obtain ⟨m,hm⟩:∃ m,q.2.1.length=m:=⟨_,rfl⟩
    obtain ⟨r,hr⟩:∃ r,q.2.2=r:=⟨_,rfl⟩
    rw [hm,hr] at H2 ⊢
    clear hm hr
    go_wp2_with fail
    go_ret2
    exact HB.out _ _ _ H2.out
   ·rw [if_neg h3] at hq
    by_cases h4:kd=4
    ·subst h4
     rw [if_pos rfl] at hq
     have HQ:=Lib.hid hq
     clear hq
     go_enter Tryz.func9,Tryz.ntmps9
     go_wp2_with fail
     with_reducible refine (rwait_any nn HFL.out _ HQ.out _ H.out).mono ?_
     rintro e w1 h1
     have h1':=h1
     obtain ⟨v,F',rfl,ho,_,_⟩:=h1
     obtain ⟨a5,c5,rfl,_⟩:=outs_form ho
     have H2:=Lib.hid h1'
     clear h1' ho
     obtain ⟨m,hm⟩:∃ m,q.2.1.length=m:=⟨_,rfl⟩
     obtain ⟨r,hr⟩:∃ r,q.2.2=r:=⟨_,rfl⟩
     rw [hm,hr] at H2 ⊢
     clear hm hr
     go_wp2_with fail
     go_ret2
     exact HB.out _ _ _ H2.out
    ·rw [if_neg h4] at hq
     have HQ:=Lib.hid hq
     clear hq
     go_enter Tryz.func9,Tryz.ntmps9
     go_wp2_with fail
     go_ret2
     rw [← HQ.out]
     exact rsent_none (H.out) (Gain.of_below HK.out)
end
section
open Go.RowKit Go.Maps
variable {w w':World} {F:Nat→Prop} {R:Nat} {s:NS}
theorem box_act (w:World) (a:ActD):(w.alloc (.cells #[.int .i64 a.kind,.int .i64 a.peer,.int .i64 a.n,.bool a.flag,.string a.bytes] 29)).cell? ⟨w.heap.size,0,none⟩=some (.int .i64 a.kind)∧(w.alloc (.cells #[.int .i64 a.kind,.int .i64 a.peer,.int .i64 a.n,.bool a.flag,.string a.bytes] 29)).cell? ⟨w.heap.size,1,none⟩=some (.int .i64 a.peer)∧(w.alloc (.cells #[.int .i64 a.kind,.int .i64 a.peer,.int .i64 a.n,.bool a.flag,.string a.bytes] 29)).cell? ⟨w.heap.size,2,none⟩=some (.int .i64 a.n)∧(w.alloc (.cells #[.int .i64 a.kind,.int .i64 a.peer,.int .i64 a.n,.bool a.flag,.string a.bytes] 29)).cell? ⟨w.heap.size,3,none⟩=some (.bool a.flag)∧(w.alloc (.cells #[.int .i64 a.kind,.int .i64 a.peer,.int .i64 a.n,.bool a.flag,.string a.bytes] 29)).cell? ⟨w.heap.size,4,none⟩=some (.string a.bytes):=
 ⟨by simp [go_sem],by simp [go_sem],by simp [go_sem],by simp [go_sem],by simp [go_sem]⟩
end
section
open Go.RowKit Go.Maps
variable {w w':World} {F F':Nat→Prop} {R R':Nat} {s s':NS}
def OutsAt (w:World) (a:Option Addr) (l:List OutD):Prop:=∀ i (h:i < l.length),∃ b o,a=some ⟨b,o,none⟩∧b < w.heap.size∧w.cell? ⟨b,o+i * 2,none⟩=some (.int .i64 l[i].peer)∧w.cell? ⟨b,o+i * 2+1,none⟩=some (.string l[i].bytes)
theorem outsAt_kept {a:Option Addr} {l:List OutD} (hb:Below w.heap.size w w') (h:OutsAt w a l):OutsAt w' a l:=fun i hi=>by
 obtain ⟨b,o,e,hlt,c0,c1⟩:=h i hi
 exact ⟨b,o,e,Nat.lt_of_lt_of_le hlt hb.size,kept_cell hb c0,kept_cell hb c1⟩
theorem outsC_at:∀ (l:List OutD) (i:Nat) (h:i < l.length),(outsC l)[i * 2]?=some (.int .i64 l[i].peer)∧(outsC l)[i * 2+1]?=some (.string l[i].bytes)
 | o :: r,0,_=>⟨rfl,rfl⟩
 | o :: r,i+1,h=>by
  have:=outsC_at r i (by simpa using h)
  have e1:(i+1) * 2=i * 2+1+1:=by omega
  rw [e1]
  exact this
theorem owns_outsAt {B:Nat} {v:Value} {l:List OutD} (h:OwnOuts w B v l):∃ a cap,v=.slice a l.length cap∧l.length≤cap∧OutsAt w a l:=by
 rcases h.2 with ⟨hv,hn⟩ | ⟨g,cap,cur,hv,hB,hg,hc,_,_,_⟩
 ·exact ⟨none,0,by rw [hn];exact hv,by omega,fun i hi=>absurd hi (by omega)⟩
 ·refine ⟨some ⟨g,0,none⟩,cap,hv,hc,fun i hi=>⟨g,0,rfl,(Array.getElem?_eq_some_iff.1 hg).1,?_,?_⟩⟩
  ·have a0:=h.cells (g:=g) (by rw [hv];rfl) (i * 2) _ (outsC_at l i hi).1
   have f0:(⟨g,0,none⟩:Addr).add (i * 2)=⟨g,0+i * 2,none⟩:=by unfold Addr.add;split <;> simp_all
   rw [f0] at a0
   exact a0
  ·have a0:=h.cells (g:=g) (by rw [hv];rfl) (i * 2+1) _ (outsC_at l i hi).2
   have f0:(⟨g,0,none⟩:Addr).add (i * 2+1)=⟨g,0+i * 2+1,none⟩:=by unfold Addr.add;split <;> simp_all
   rw [f0] at a0
   exact a0
set_option maxHeartbeats 1000000 in
theorem eqOut_same (l:List OutD) (a b:Option Addr) (ca cb:Nat) (w:World) (hl:l.length≤1000000) (ha:OutsAt w a l) (hb:OutsAt w b l):Calls Tryz.prog 10 #[.slice a l.length ca,.slice b l.length cb] w fun e w'=>e=.returned (.bool true)∧Below w.heap.size w w':=by
 have HA:=Lib.hid ha
 have HB:=Lib.hid hb
 clear ha hb
 go_enter Tryz.func10,Tryz.ntmps10
 go_wp2_with fail
 go_loopw [14] (fun i wr=>∃ k:Nat,k≤l.length∧i=.int .i64 k∧Hid (Below w.heap.size w wr)) (fun i _=>l.length - (intOf i).toNat)
 case atStart=>exact ⟨0,Nat.zero_le _,rfl,Lib.hid (Below.refl _ _)⟩
 case round=>
  obtain ⟨k,hk,rfl,HBW⟩:=hrel
  by_cases hkl:k < l.length
  ·obtain ⟨g,o,rfl,hg,c0,c1⟩:=outsAt_kept HBW.out HA.out k hkl
   obtain ⟨g',o',rfl,hg',d0,d1⟩:=outsAt_kept HBW.out HB.out k hkl
   obtain ⟨y,hy⟩:∃ y,l[k]=y:=⟨_,rfl⟩
   rw [hy] at c0 c1 d0 d1
   obtain ⟨wy,hwy⟩:∃ wy,wr.alloc (.cells #[.int .i64 y.peer,.string y.bytes] 37)=wy:=⟨_,rfl⟩
   have hby:Below wr.heap.size wr wy:=hwy▸kept_new _ _
   have y0:wy.cell? ⟨wr.heap.size,0,none⟩=some (.int .i64 y.peer):=by rw [← hwy];simp [go_sem]
   have y1:wy.cell? ⟨wr.heap.size,1,none⟩=some (.string y.bytes):=by rw [← hwy];simp [go_sem]
   have e0:=kept_cell hby d0
   have e1:=kept_cell hby d1
   have l1:=(cell_spot y0).2
   have l2:=(cell_spot e0).2
   have l3:g < wr.heap.size:=hg
   have hki:(k:Int) < l.length:=by omega
   have HBY:=Lib.hid (kept_trans HBW.out hby)
   clear hy hby
   go_wp2_with fail
   go_quiet (fail)
   generalize hw2:World.drewN wy nq=w2
   have HB2:Hid (Below w.heap.size w w2):=Lib.hid (by rw [← hw2];exact below_drewN HBY.out _)
   go_wp2_with fail
   go_roundw
   case rel=>exact ⟨k+1,by omega,by go_num,HB2⟩
   case measure=>simp [intOf];omega
  ·go_wp2_with fail
   go_ret
   exact ⟨rfl,HBW.out⟩
theorem fetch_few (p:Nat) (l:List UInt64):(s.fetch p l).length≤l.length+1:=by
 have h1:=flat_len (s:=s) p l
 have h2:=message_len p ⟨4,l.filter (fun x=>(Ju.findL s.A x).isNone),⟨#[]⟩⟩
 show (l.flatMap (s.fetch1 p) ++ message p ⟨4,l.filter (fun x=>(Ju.findL s.A x).isNone),⟨#[]⟩⟩).length≤_
 rw [List.length_append]
 omega
theorem ans_few {l:List UInt8} (h:Ms.errM l=0):(Ms.ansM l).ids.length≤20:=by
 obtain ⟨_,h2⟩:=Ms.errM_zero h
 have:Ms.ansM l=Ms.readM l:=by unfold Ms.ansM;rw [if_pos h]
 rw [this]
 rcases (Ms.checkM_ok h2).2 with ⟨_,h1,_⟩ | ⟨_,_,_,h1,_⟩
 ·rw [h1];simp
 ·exact h1
variable {w0:World}
end
section
open Go.RowKit Go.Maps
variable {w0 w w':World} {F G:Nat→Prop} {R B:Nat} {s t:NS}
theorem all_any {wr:World} {G1:Nat→Prop} {u:NS} (h:RN wr G1 B u) (hn:u.A.length≤2932031007402) {la:Option Addr} {ll lc:Nat} (hc:wr.cell? ⟨B,3,none⟩=some (.slice la ll lc)) :
  Calls Tryz.prog 13 #[.agg #[.slice la ll lc]] wr (GaveIds wr (u.A.map Ju.idD)):=by
 obtain ⟨a',c',l,hc',hl,hrow⟩:=h.led
 rw [hc] at hc'
 simp only [Option.some.injEq,Value.slice.injEq] at hc'
 obtain ⟨rfl,rfl,rfl⟩:=hc'
 rw [← hl] at hn ⊢
 rw [Ju.dOf_len] at hn
 exact Ju.refAllJ_any _ wr hrow hn
theorem ids_have {w:World} {C:Nat} {a:Option Addr} {cap:Nat} {l:List UInt64} (h:OwnIds w C (.slice a l.length cap) l):IdsAt w a l:=by
 obtain ⟨a',c',e,_,hi,_⟩:=owns_idsAt h
 simp only [Value.slice.injEq] at e
 rw [e.1]
 exact hi
structure BInv (k:Nat) (s:NS):Prop where
 inv:NInv k s
 pool:PInv s
end
section
open Go.RowKit Go.Maps
variable {s t u:NS}
theorem did_out (s:NS) (a:ActD):(s.did a).2.1.length≤100:=by
 unfold NS.did
 split
 ·simp
 ·split
  ·simp
  ·split
   ·unfold NS.send
    simp only
    split
    ·simp
    ·split
     ·simp
     ·rename_i k2
      have hz:=ans_few (Classical.not_not.1 k2)
      split
      ·simp
      ·split
       ·simp
       ·split
        ·have:=fetch_few (s:=s) a.peer.toNat (Ms.ansM a.bytes.data.toList).ids
         simp only
         omega
        ·split
         ·simp
         ·simp
   ·split
    ·by_cases hk:a.n < 0∨a.n > 1099511627776 - s.now
     ·have:s.pass a.n=(s,[],1):=by unfold NS.pass;rw [if_pos hk]
      rw [this]
      simp
     ·obtain ⟨u,hu⟩:∃ u:NS,({ s with now:=s.now+a.n,T:=Tr.dueL (s.now+a.n) s.T }:NS)=u:=⟨_,rfl⟩
      have he:s.pass a.n=((u.wait 8).1,(u.wait 8).2,0):=by unfold NS.pass;rw [if_neg hk,hu]
      have h8:=wait_len u 8
      rw [he]
      simp only
      omega
    ·simp
theorem wait_A (u:NS):∀ k,(u.wait k).1.A=u.A
 | 0=>rfl
 | k+1=>by
  simp only [NS.wait]
  unfold NS.request
  rw [(asks_rest k _ _).1,wait_A u k]
def stK (s:NS) (l:List ActD):Nat→NS
 | 0=>s
 | k+1=>((stK s l k).did (l.getD k default)).1
def outK (s:NS) (l:List ActD):Nat→List OutD
 | 0=>[]
 | k+1=>outK s l k ++ ((stK s l k).did (l.getD k default)).2.1
def errK (s:NS) (l:List ActD) (i:Nat):Int:=((stK s l i).did (l.getD i default)).2.2
theorem out_len (l:List ActD):∀ k,(outK s l k).length≤100 * k
 | 0=>by simp [outK]
 | k+1=>by
  have h1:=out_len l k
  have h2:=did_out (stK s l k) (l.getD k default)
  simp only [outK,List.length_append]
  omega
theorem act_at {l:List ActD} {k:Nat} (h:k < l.length):l.getD k default=l[k]:=by
 rw [List.getD_eq_getElem?_getD,List.getElem?_eq_getElem h];rfl
end
section
open Go.RowKit Go.Maps
variable {w w':World} {b n:Nat} {f:Int→Option Value}
theorem int_keyed':Maps.Keyed Tryz.prog 3:=int_keyed Tryz.underlying3
def FMap (w:World) (b n:Nat) (f:Int→Option Value):Prop:=
 ∃ D:DataW Value,w.ownsMap Tryz.prog 3 exactE b n D∧(∀ (x:Int) (v:Value),(Lit.int .i64 x).wf=true→f x=some v→∀ z,D.atKey (.int .i64 x) z=.held v)∧∀ x:Int,(Lit.int .i64 x).wf=true→Maps.has D (.int .i64 x)=(f x).isSome
theorem FMap.lt (h:FMap w b n f):b < w.heap.size:=by
 obtain ⟨D,hD,_⟩:=h
 exact hD.lt
theorem FMap.same (h:FMap w b n f) (e:w'.heap[b]?=w.heap[b]?):FMap w' b n f:=by
 obtain ⟨D,⟨es,clock,hb,r⟩,r2⟩:=h
 exact ⟨D,⟨es,clock,e.trans hb,r⟩,r2⟩
theorem fmap_new (w:World):FMap (w.alloc (.map #[] 0)) w.heap.size 0 (fun _=>none):=⟨.map [],World.ownsMap_made w _ _ _,fun x v _ h=>(by cases h),fun _ _=>rfl⟩
theorem zero_fn (w:World):(zeroValue 108).run Tryz.prog w=.ok .nilFunc w:=by kernel_rfl
theorem FMap.look_ok (h:FMap w b n f) (x:Int) (hx:(Lit.int .i64 x).wf=true):(Instr.lookup 106 (.map (some b)) (.int .i64 x) true).run Tryz.prog w=.ok (.tuple #[(f x).getD .nilFunc,.bool (f x).isSome]) w:=by
 obtain ⟨D,hD,hat,hhas⟩:=h
 obtain ⟨u,ps,hrun,hu⟩:=hD.look_ok int_keyed' Tryz.underlying106 (zero_fn w) (zd:=.held .nilFunc) (zp:=[]) rfl (keyOf_int_mk Tryz.underlying3 hx)
 have hz:D.atKey (.int .i64 x) (.held Value.nilFunc)=.held ((f x).getD .nilFunc):=by
  cases hf:f x with
  | some v=>exact hat x v hx hf _
  | none=>
   have h0:=hhas x hx
   rw [hf] at h0
   rw [atKey_of_not_has h0]
   rfl
 rw [hz] at hu
 unfold exactE at hu
 simp only [Option.some.injEq,Prod.mk.injEq,DataW.held.injEq] at hu
 rw [hrun,hu.1,hhas x hx]
theorem FMap.put (h:FMap w b n f) (x:Int) (v:Value) (hx:(Lit.int .i64 x).wf=true) (hn:n < maxLen) :
  ∃ w',(Instr.mapUpdate 106 (.map (some b)) (.int .i64 x) v).run Tryz.prog w=.ok () w'∧FMap w' b (n+1) (fun y=>if y=x then some v else f y)∧w.grownBy w' (some b):=by
 obtain ⟨D,hD,hat,hhas⟩:=h
 obtain ⟨w',hrun,hown,hg⟩:=hD.update int_keyed' Tryz.underlying106 hn (keyOf_int_mk Tryz.underlying3 hx) (val:=v) (d:=.held v) (ps:=[]) rfl
 refine ⟨w',hrun,⟨_,hown,fun y u hy hu z=>?_,fun y hy=>?_⟩,hg⟩
 ·replace hu:(if y=x then some v else f y)=some u:=hu
  by_cases hyx:y=x
  ·rw [if_pos hyx] at hu
   cases hu
   rw [hyx,atKey_put_same hD.isMap (int_keyed'.key (keyOf_int_mk Tryz.underlying3 hx))]
  ·rw [if_neg hyx] at hu
   rw [atKey_put_other (fun e=>hyx (by simpa using e)),hat y u hy hu]
 ·show _=(if y=x then some v else f y).isSome
  by_cases hyx:y=x
  ·rw [hyx,if_pos rfl,has_put_same hD.isMap (int_keyed'.key (keyOf_int_mk Tryz.underlying3 hx))]
   rfl
  ·rw [if_neg hyx,has_put_other (fun e=>hyx (by simpa using e)),hhas y hy]
theorem info_err:(Tryz.prog.info? 31).map (fun i=>(i.zero,i.size,i.bytes))=some (some (.int .i64 0),1,8):=by kernel_rfl
theorem make_errs (n:Nat) (hn:n≤1000) (w:World):(Instr.makeSlice 62 (.int .i64 (n:Int)) (.int .i64 (n:Int))).run Tryz.prog w=.ok (.slice (some ⟨w.heap.size,0,none⟩) n n) (w.alloc (.cells (madeCells #[.int .i64 0] n) 31)):=by
 obtain ⟨i,hi,hz,hs,hb⟩:=info_parts info_err
 have:=run_make (P:=Tryz.prog) w 62 31 i _ Tryz.underlying62 hi hz .i64 .i64 n n (by omega) (Int.le_refl _) (by rw [hb];omega) (by omega)
 rw [hs,Nat.mul_one] at this
 exact this
def errCells (f:Nat→Int) (k j:Nat):Value:=if j < k then .int .i64 (f j) else .int .i64 0
theorem made_errs (w:World) (f:Nat→Int) (n:Nat):(w.alloc (.cells (madeCells #[.int .i64 0] n) 31)).rowIs w.heap.size 31 n (errCells f 0):=by
 refine ⟨_,heap_alloc_new _ _,size_madeCells _ _,fun i hi=>?_⟩
 unfold errCells madeCells
 simp [hi,Nat.mod_one]
theorem err_step {w:World} {b n k:Nat} {f:Nat→Int} (h:w.rowIs b 31 n (errCells f k)) :
  (w.setCell ⟨b,k,none⟩ (.int .i64 (f k))).rowIs b 31 n (errCells f (k+1)):=by
 refine (h.set k _).congr fun j hj=>?_
 by_cases e1:j=k
 ·subst e1
  simp [errCells]
 ·rw [if_neg e1]
  unfold errCells
  by_cases h3:j < k
  ·rw [if_pos h3,if_pos (by omega)]
  ·rw [if_neg h3,if_neg (by omega)]
theorem row_errs {w:World} {b n:Nat} {f:Nat→Int} (h:w.rowIs b 31 n (errCells f n)):Tr.IntsAt w (some ⟨b,0,none⟩) ((List.range n).map f):=fun i hi=>by
 have hi':i < n:=by simpa using hi
 refine ⟨b,0,rfl,h.lt,?_⟩
 have:=h.cell (i:=i) (by omega)
 simpa [errCells,hi'] using this
theorem rowIs_same {w w':World} {b n:Nat} {t:TypeId} {f:Nat→Value} (h:w.rowIs b t n f) (e:w'.heap[b]?=w.heap[b]?):w'.rowIs b t n f:=by
 obtain ⟨cs,h1,h2,h3⟩:=h
 exact ⟨cs,e.trans h1,h2,h3⟩
end
end Go.Proofs.YtlboemhbealnmaaGreat
