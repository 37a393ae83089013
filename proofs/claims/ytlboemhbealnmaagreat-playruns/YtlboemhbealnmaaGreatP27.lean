import Derived.Test.YtlboemhbealnmaaGreatP26
import Derived.Test.YtlboemhbealnmaaGreatP17
set_option maxRecDepth 20000
namespace Go.Proofs.YtlboemhbealnmaaGreat
open Go.RowKit Go.Maps
variable {w w':World} {F:Nat→Prop} {R:Nat} {s:NS}
theorem out_own {F':Nat→Prop} {a:Option Addr} {l:List UInt64} (h:IdsAt w a l) (ht:Turn F F' w w') (hn:∀ bb o,l≠[]→a=some ⟨bb,o,none⟩→¬ F bb):IdsAt w' a l∧∀ bb o,l≠[]→a=some ⟨bb,o,none⟩→¬ F' bb:=
 have:=out_turn (n:=0) h ht (fun bb o h1 h2=>⟨hn bb o h1 h2,Nat.zero_le _⟩)
 ⟨this.1,fun bb o h1 h2=>(this.2 bb o h1 h2).1⟩
theorem ins_own {F':Nat→Prop} {a:Option Addr} {l:List InD} (h:InsAt w a l) (ht:Turn F F' w w') (hn:∀ bb o,l≠[]→a=some ⟨bb,o,none⟩→¬ F bb):InsAt w' a l∧∀ bb o,l≠[]→a=some ⟨bb,o,none⟩→¬ F' bb:=by
 refine ⟨insAt_turn h ht hn,fun bb o h1 h2 hg=>?_⟩
 rcases ht.own bb hg with hg | hg
 ·exact hn bb o h1 h2 hg
 ·obtain ⟨b',o',e',hb',_⟩:=h 0 (List.length_pos_iff.2 h1)
  rw [h2] at e'
  cases e'
  omega
theorem NodeAt.peerm (h:NodeAt w F R s) (p:Nat) (hp:p < 8):(w.cell? ⟨R,p * 2,none⟩=some (.bool (s.peers p).1)∧w.frozen? ⟨R,p * 2,none⟩=false)∧(w.cell? ⟨R,p * 2+1,none⟩=some (.bool (s.peers p).2)∧w.frozen? ⟨R,p * 2+1,none⟩=false):=by
 have:=h.peerc p hp
 rwa [Nat.mul_comm 2 p] at this
theorem want_none {p:Nat} {x:UInt64} (h:((Ho.deedOf s.P x).isSome || s.W.has x)=true):s.want p x=s:=by unfold NS.want;rw [if_pos h]
theorem want_some {p:Nat} {x:UInt64} (h1:(Ho.deedOf s.P x).isSome=false) (h2:s.W.has x=false):s.want p x={ s with T:=(Tr.annC s.T p x s.now (s.peers p).2).2 }:=by unfold NS.want;rw [if_neg (by rw [h1,h2];decide)]
set_option maxRecDepth 20000 in
set_option maxHeartbeats 2000000 in
theorem adopt_any (p:Nat) (hp:p < 8) (x:UInt64) (d:DeedD) (a:Option Addr) (cap:Nat) (ms:List UInt64) (am:Option Addr) (cm:Nat) (w:World) (h:NodeAt w F R s) (hi:InsAt w a d.ins) (hout:∀ bb o,d.ins≠[]→a=some ⟨bb,o,none⟩→¬ F bb) (hml:ms.length≤1000) (hm:IdsAt w am ms) (hmo:∀ bb o,ms≠[]→am=some ⟨bb,o,none⟩→¬ F bb) :
  Calls Tryz.prog 103 #[.pointer (some ⟨R,0,none⟩),.int .i64 p,.int .u64 x.toNat,.agg #[.slice a d.ins.length cap,.int .i64 d.outs,.int .i64 d.weight,.int .i64 d.fee],.slice am ms.length cm] w (TurnsN w F R (.tuple #[]) (s.adopt p x d ms)):=by
 obtain ⟨wb,hwb⟩:∃ wb,w.alloc (.cells #[.slice a d.ins.length cap,.int .i64 d.outs,.int .i64 d.weight,.int .i64 d.fee] 94)=wb:=⟨_,rfl⟩
 have hk0:Below w.heap.size w wb:=hwb▸kept_new _ _
 have hbox:DeedBox wb w.heap.size a cap d:=hwb▸box_deed w a cap d
 have HBOX:=Lib.hid hbox
 have HNB:Hid (¬ F w.heap.size):=Lib.hid (fun hf=>by have:=h.there _ hf;omega)
 have HT0:Hid (Turn F F w wb):=Lib.hid (Turn.of_below hk0)
 have H0:=Lib.hid (h.kept hk0)
 have HI0:=Lib.hid (insAt_kept hk0 hi)
 have HO0:=Lib.hid hout
 have HM0:Hid (IdsAt wb am ms):=Lib.hid (idsAt_turn hm HT0.out hmo)
 have HMO:=Lib.hid hmo
 have l0:=H0.out.lt
 clear h hi hout hm hmo hbox hk0
 go_enter Tryz.func103,Tryz.ntmps103
 go_wp2_with fail
 with_reducible refine (n_forget x _ H0.out).mono ?_
 rintro e w1 ⟨rfl,F1,h1,t1⟩
 obtain ⟨hi1,ho1⟩:=ins_own HI0.out t1 HO0.out
 obtain ⟨hm1,hmo1⟩:=out_own HM0.out t1 HMO.out
 obtain ⟨wd,hwd⟩:∃ wd,w1.drew=wd:=⟨_,rfl⟩
 have hbd:Below w1.heap.size w1 wd:=hwd▸(Below.refl _ _).drew
 have H1:=Lib.hid (h1.kept hbd)
 have HI1:=Lib.hid (insAt_kept hbd hi1)
 have HO1:=Lib.hid ho1
 have HM1:Hid (IdsAt wd am ms):=Lib.hid (idsAt_turn hm1 (Turn.of_below (F:=F1) hbd) hmo1)
 have HMO1:=Lib.hid hmo1
 have HT1:Hid (Turn F F1 w wd):=Lib.hid ((HT0.out.trans t1).trans (Turn.of_below hbd))
 obtain ⟨b0,b1,b2,b3⟩:DeedBox wd w.heap.size a cap d:=(HBOX.out.turn t1 HNB.out).kept hbd
 have l1:=(cell_spot b0).2
 have l2:=H1.out.lt
 have HWD:=Lib.hid hwd
 clear h1 t1 hi1 ho1 hm1 hmo1 hbd hwd
 go_wp2_with fail
 refine region_tail 6 (by kernel_rfl) (by kernel_rfl) HWD.out ?_
 simp only [List.take_succ_cons,List.take_zero,List.drop_succ_cons,List.drop_zero]
 repeat still_step
 refine wpStill_nil ?_
 go_wp2_with fail
 with_reducible refine (n_add p x d a cap _ H1.out HI1.out HO1.out).mono ?_
 rintro e w2 ⟨rfl,F2,h2,t2⟩
 obtain ⟨hm2,hmo2⟩:=out_own HM1.out t2 HMO1.out
 obtain ⟨t,ht⟩:∃ t:NS,({ s with T:=Tr.forgetL s.T x,P:=(Ho.addC s.P p x d).2 }:NS)=t:=⟨_,rfl⟩
 have h2:NodeAt w2 F2 R t:=ht▸h2
 have HAD:Hid (s.adopt p x d ms=if (Ho.deedOf t.P x).isSome then ms.foldl (fun s m=>s.want p m) t else t):=Lib.hid (by unfold NS.adopt;rw [← ht])
 have H2:=Lib.hid h2
 have HM2:=Lib.hid hm2
 have HMO2:=Lib.hid hmo2
 have HT2:=Lib.hid (HT1.out.trans t2)
 have l3:=h2.lt
 clear h2 t2 hm2 hmo2 ht
 cases hx:(Ho.deedOf t.P x).isSome with
 | false=>
  have HX:=Lib.hid hx
  clear hx
  go_wp2_with fail
  with_reducible refine (n_hasP x false HX.out _ H2.out).mono ?_
  rintro e w3 ⟨rfl,hb3⟩
  have HB3:=Lib.hid hb3
  clear hb3
  go_wp2_with fail
  first | go_end0 | refine bodyPost_ret (v:=.tuple #[]) rfl rfl ?_
  rw [HAD.out,HX.out]
  exact ⟨rfl,F2,H2.out.kept HB3.out,HT2.out.trans (Turn.of_below HB3.out)⟩
 | true=>
  have HX:=Lib.hid hx
  clear hx
  go_wp2_with fail
  with_reducible refine (n_hasP x true HX.out _ H2.out).mono ?_
  rintro e w3 ⟨rfl,hb3⟩
  have H3:=Lib.hid (H2.out.kept hb3)
  have HM3:Hid (IdsAt w3 am ms):=Lib.hid (idsAt_turn HM2.out (Turn.of_below (F:=F2) hb3) HMO2.out)
  have HT3:=Lib.hid (HT2.out.trans (Turn.of_below hb3))
  have HAE:Hid (s.adopt p x d ms=ms.foldl (fun s m=>s.want p m) t):=Lib.hid (by rw [HAD.out,HX.out];rfl)
  clear hb3
  go_wp2_with fail
  go_loopw [32] (fun i wr=>∃ (k:Nat) (F':Nat→Prop) (u:NS),k≤ms.length∧i=.int .i64 k∧Hid (NodeAt wr F' R u)∧Hid (Turn F F' w wr)∧Hid ((ms.drop k).foldl (fun s m=>s.want p m) u=s.adopt p x d ms)∧Hid (IdsAt wr am ms)∧Hid (∀ bb o,ms≠[]→am=some ⟨bb,o,none⟩→¬ F' bb)) (fun i _=>ms.length - (intOf i).toNat)
  case atStart=>exact ⟨0,F2,t,Nat.zero_le _,rfl,H3,HT3,Lib.hid HAE.out.symm,HM3,HMO2⟩
  case round=>
   obtain ⟨k,F4,u,hk,rfl,H4,HT4,HFO,HM4,HMO4⟩:=hrel
   by_cases hkl:k < ms.length
   ·obtain ⟨g,o,rfl,hg,hc2⟩:=HM4.out k hkl
    obtain ⟨y,hy⟩:∃ y,ms[k]=y:=⟨_,rfl⟩
    rw [hy] at hc2
    have HFN:Hid ((ms.drop (k+1)).foldl (fun s m=>s.want p m) (u.want p y)=s.adopt p x d ms):=Lib.hid (by rw [← HFO.out,List.drop_eq_getElem_cons hkl,List.foldl_cons,hy])
    obtain ⟨ra,rz,hra,_⟩:=H4.out.rings
    have l4:=H4.out.lt
    have l5:g < wr.heap.size:=hg
    clear hy
    cases hhp:(Ho.deedOf u.P y).isSome with
    | true=>
     have HHP:=Lib.hid hhp
     have HW:Hid (u.want p y=u):=Lib.hid (want_none (by rw [hhp];rfl))
     clear hhp
     go_wp2_with fail
     with_reducible refine (n_hasP y true HHP.out _ H4.out).mono ?_
     rintro e w5 ⟨rfl,hb5⟩
     have HB5:=Lib.hid hb5
     clear hb5
     go_wp2_with fail
     go_roundw
     case rel=>
      have tt:=Turn.of_below (F:=F4) HB5.out
      exact ⟨k+1,F4,u,by omega,by go_num,Lib.hid (H4.out.kept HB5.out),Lib.hid (HT4.out.trans tt),Lib.hid (by have:=HFN.out;rw [HW.out] at this;exact this),Lib.hid (idsAt_turn HM4.out tt HMO4.out),HMO4⟩
     case measure=>simp [intOf];omega
    | false=>
     have HHP:=Lib.hid hhp
     go_wp2_with fail
     with_reducible refine (n_hasP y false HHP.out _ H4.out).mono ?_
     rintro e w5 ⟨rfl,hb5⟩
     have H5:=Lib.hid (H4.out.kept hb5)
     have hra5:=kept_cell hb5 hra
     have l6:=H5.out.lt
     have HRA5:=Lib.hid hra5
     have HB5:=Lib.hid hb5
     clear hb5
     cases hhw:u.W.has y with
     | true=>
      have HHW:=Lib.hid hhw
      have HW:Hid (u.want p y=u):=Lib.hid (want_none (by rw [hhp,hhw];rfl))
      clear hhw hhp
      go_wp2_with fail
      with_reducible refine (n_hasW y true HHW.out _ H5.out HRA5.out).mono ?_
      rintro e w6 ⟨rfl,rfl⟩
      go_wp2_with fail
      go_roundw
      case rel=>
       have tt:=Turn.of_below (F:=F4) HB5.out
       exact ⟨k+1,F4,u,by omega,by go_num,H5,Lib.hid (HT4.out.trans tt),Lib.hid (by have:=HFN.out;rw [HW.out] at this;exact this),Lib.hid (idsAt_turn HM4.out tt HMO4.out),HMO4⟩
      case measure=>simp [intOf];omega
     | false=>
      have HHW:=Lib.hid hhw
      have HW:Hid (u.want p y={ u with T:=(Tr.annC u.T p y u.now (u.peers p).2).2 }):=Lib.hid (want_some hhp hhw)
      clear hhw hhp
      go_wp2_with fail
      with_reducible refine (n_hasW y false HHW.out _ H5.out HRA5.out).mono ?_
      rintro e w6 ⟨rfl,rfl⟩
      obtain ⟨wd,hwd⟩:∃ wd,w5.drew=wd:=⟨_,rfl⟩
      have hbd:Below w5.heap.size w5 wd:=hwd▸(Below.refl _ _).drew
      have H6:=Lib.hid (H5.out.kept hbd)
      have n6:=H6.out.nowc.1
      obtain ⟨_,⟨p6,_⟩⟩:=H6.out.peerm p hp
      have l7:=H6.out.lt
      have tt:=(Turn.of_below (F:=F4) HB5.out).trans (Turn.of_below (F:=F4) hbd)
      have HT6:=Lib.hid (HT4.out.trans tt)
      have HM6:=Lib.hid (idsAt_turn HM4.out tt HMO4.out)
      have hp8:(p:Int) < 8:=by omega
      have HWD:=Lib.hid hwd
      clear hbd hwd tt
      go_wp2_with fail
      refine region_tail 16 (by kernel_rfl) (by kernel_rfl) HWD.out ?_
      simp only [List.take_succ_cons,List.take_zero,List.drop_succ_cons,List.drop_zero]
      repeat still_step
      refine wpStill_nil ?_
      go_wp2_with fail
      with_reducible refine (n_announce p y u.now (u.peers p).2 _ H6.out).mono ?_
      rintro e w7 ⟨rfl,F7,h7,t7⟩
      obtain ⟨hm7,hmo7⟩:=out_own HM6.out t7 HMO4.out
      have H7:=Lib.hid h7
      have T7:=Lib.hid (HT6.out.trans t7)
      have HM7:=Lib.hid hm7
      have HMO7:=Lib.hid hmo7
      clear h7 t7 hm7 hmo7
      go_wp2_with fail
      go_roundw
      case rel=>exact ⟨k+1,F7,_,by omega,by go_num,H7,T7,Lib.hid (by have:=HFN.out;rw [HW.out] at this;exact this),HM7,HMO7⟩
      case measure=>simp [intOf];omega
   ·have he:ms.drop k=[]:=List.drop_eq_nil_of_le (by omega)
    have HU:Hid (u=s.adopt p x d ms):=Lib.hid (by have:=HFO.out;rw [he] at this;exact this)
    go_wp2_with fail
    go_end0
    rw [← HU.out]
    exact ⟨rfl,F4,H4.out,HT4.out⟩
end Go.Proofs.YtlboemhbealnmaaGreat
namespace Go.Proofs.YtlboemhbealnmaaGreat
open Go.RowKit Go.Maps
variable {w w':World} {F:Nat→Prop} {R:Nat} {s:NS}
theorem ex_new (h:NodeAt w F R s):ExAt (w.alloc (.cells #[.pointer (some ⟨R,0,none⟩),.slice none 0 0] 167)) (fun k=>F k∨k=w.heap.size∨(Value.slice none 0 0).ownBlock=some k) w.heap.size R s []:=
 ⟨F,.slice none 0 0,h.kept (kept_new _ _),heap_alloc_new w _,queue_nil _,(fun hf=>by have:=h.there _ hf;omega),(fun g hg=>by cases hg),fun k=>Iff.rfl⟩
theorem ex_done {F1 G G':Nat→Prop} {w1:World} {X:Nat} {q:List UInt64} {o:Obj} (t1:Turn F F1 w w1) (hG:∀ k,G k→F1 k∨k=w1.heap.size) (t:Turn G G' (w1.alloc o) w') (h:ExAt w' G' X R s q):∃ F',NodeAt w' F' R s∧Turn F F' w w':=by
 obtain ⟨F',hn,hF⟩:=h.node
 have hsz:(w1.alloc o).heap.size=w1.heap.size+1:=by simp
 refine ⟨F',hn,⟨t.os.trans t1.os,t.tape.trans t1.tape,t.output.trans t1.output,?_,fun k hk hf=>?_,fun k hk=>?_⟩⟩
 ·have:=t1.size
  have:=t.size
  omega
 ·have hk1:=Nat.lt_of_lt_of_le hk t1.size
  rw [t.block k (by omega) (fun hg=>(hG k hg).elim (fun h1=>(t1.own k h1).elim hf (fun hle=>by omega)) (fun e=>by omega)),heap_alloc_old w1 _ hk1]
  exact t1.block k hk hf
 ·rcases t.own k (hF k hk) with hg | hg
  ·rcases hG k hg with h1 | h1
   ·exact t1.own k h1
   ·have:=t1.size
    exact .inr (by omega)
  ·have:=t1.size
   exact .inr (by omega)
theorem bring_known {p:Nat} {d:DeedD} (h:((Ju.findL s.A (Ju.idD d)).isSome || s.W.has (Ju.idD d))=true):s.bring p d={ s with T:=(Tr.answerC s.T p (Ju.idD d)).2 }:=by
 unfold NS.bring
 simp only
 rw [if_pos h]
theorem bring_new {p:Nat} {d:DeedD} {t:NS} (ht:({ s with T:=(Tr.answerC s.T p (Ju.idD d)).2 }:NS)=t) (h1:(Ju.findL s.A (Ju.idD d)).isSome=false) (h2:s.W.has (Ju.idD d)=false):s.bring p d=(if (Ju.judgeL t.A d).2.1≠[] then (t.examine (Ju.idD d) d).1.adopt p (Ju.idD d) d (Ju.judgeL t.A d).2.1 else (t.examine (Ju.idD d) d).1).follow (t.examine (Ju.idD d) d).2:=by
 subst ht
 unfold NS.bring
 simp only
 rw [if_neg (by rw [h1,h2];decide)]
theorem miss_len (L:List DeedD) (d:DeedD):(Ju.judgeL L d).2.1.length≤d.ins.length:=by
 unfold Ju.judgeL
 split
 ·simp
 ·exact Ju.missL_length _ _
theorem adopt_A (s:NS) (p:Nat) (x:UInt64) (d:DeedD) (ms:List UInt64):(s.adopt p x d ms).A=s.A:=by
 have hf:∀ (l:List UInt64) (u:NS),(l.foldl (fun s m=>s.want p m) u).A=u.A:=by
  intro l
  induction l with
  | nil=>intro u;rfl
  | cons y r ih=>
   intro u
   rw [List.foldl_cons,ih]
   unfold NS.want
   split
   ·rfl
   ·rfl
 unfold NS.adopt
 simp only
 split
 ·rw [hf]
 ·rfl
set_option maxRecDepth 20000 in
set_option maxHeartbeats 2000000 in
theorem bring_any (p:Nat) (hp:p < 8) (d:DeedD) (hd:checkD d=0) (a:Option Addr) (cap:Nat) (hl:s.A.length≤2950000000000) (w:World) (h:NodeAt w F R s) (hi:InsAt w a d.ins) (hout:∀ bb o,d.ins≠[]→a=some ⟨bb,o,none⟩→¬ F bb) :
  Calls Tryz.prog 51 #[.pointer (some ⟨R,0,none⟩),.int .i64 p,.agg #[.slice a d.ins.length cap,.int .i64 d.outs,.int .i64 d.weight,.int .i64 d.fee]] w (TurnsN w F R (.tuple #[]) (s.bring p d)):=by
 obtain ⟨wb,hwb⟩:∃ wb,w.alloc (.cells #[.slice a d.ins.length cap,.int .i64 d.outs,.int .i64 d.weight,.int .i64 d.fee] 94)=wb:=⟨_,rfl⟩
 have hk0:Below w.heap.size w wb:=hwb▸kept_new _ _
 obtain ⟨b0,b1,b2,b3⟩:DeedBox wb w.heap.size a cap d:=hwb▸box_deed w a cap d
 have HBOX:Hid (DeedBox wb w.heap.size a cap d):=Lib.hid ⟨b0,b1,b2,b3⟩
 have HNB:Hid (¬ F w.heap.size):=Lib.hid (fun hf=>by have:=h.there _ hf;omega)
 have HK0:=Lib.hid hk0
 have H0:=Lib.hid (h.kept hk0)
 have HI0:=Lib.hid (insAt_kept hk0 hi)
 have HO0:=Lib.hid hout
 have HD:=Lib.hid hd
 have hl8:=(check_ok hd).1
 have l0:=H0.out.lt
 have l1:=(cell_spot b0).2
 clear h hi hout hk0 hd
 go_enter Tryz.func51,Tryz.ntmps51
 go_wp2_with fail
 with_reducible refine (Ju.id_ok d a cap _ HI0.out HD.out).mono ?_
 rintro e w1 ⟨rfl,hb1⟩
 obtain ⟨x,hx⟩:∃ x,Ju.idD d=x:=⟨_,rfl⟩
 rw [hx]
 have HXX:=Lib.hid hx
 have H1:=Lib.hid (H0.out.kept hb1)
 have HB1:=Lib.hid (HBOX.out.kept hb1)
 have HI1:=Lib.hid (insAt_kept hb1 HI0.out)
 have HT1:Hid (Turn F F w w1):=Lib.hid (Turn.of_below (kept_trans HK0.out hb1))
 have l2:=H1.out.lt
 clear hb1 hx b0 b1 b2 b3
 go_wp2_with fail
 with_reducible refine (n_answer p x _ H1.out).mono ?_
 rintro e w2 ⟨rfl,F2,h2,t2⟩
 obtain ⟨hi2,ho2⟩:=ins_own HI1.out t2 HO0.out
 have HB2:=Lib.hid (HB1.out.turn t2 HNB.out)
 obtain ⟨t,ht⟩:∃ t:NS,({ s with T:=(Tr.answerC s.T p x).2 }:NS)=t:=⟨_,rfl⟩
 have htA:t.A=s.A:=by rw [← ht]
 have htW:t.W=s.W:=by rw [← ht]
 have H2:Hid (NodeAt w2 F2 R t):=Lib.hid (ht▸h2)
 have HI2:=Lib.hid hi2
 have HO2:=Lib.hid ho2
 have HT2:=Lib.hid (HT1.out.trans t2)
 have HN2:Hid (¬ F2 w.heap.size):=Lib.hid fun hf=>(t2.own _ hf).elim HNB.out (fun hle=>by have:=(cell_spot HB1.out.1).2;simp only at this;omega)
 have HTT:=Lib.hid ht
 have l3:=h2.lt
 clear h2 t2 hi2 ho2 ht
 cases hhA:(Ju.findL t.A x).isSome with
 | true=>
  have HHA:=Lib.hid hhA
  have HBR:Hid (s.bring p d=t):=Lib.hid (by rw [bring_known (by rw [HXX.out,← htA,hhA];rfl),HXX.out];exact HTT.out)
  clear hhA htA htW
  go_wp2_with fail
  with_reducible refine (n_hasA x true HHA.out _ H2.out).mono ?_
  rintro e w3 ⟨rfl,hb3⟩
  have HB3:=Lib.hid hb3
  clear hb3
  go_wp2_with fail
  first | go_end0 | refine bodyPost_ret (v:=.tuple #[]) rfl rfl ?_
  rw [HBR.out]
  exact ⟨rfl,F2,H2.out.kept HB3.out,HT2.out.trans (Turn.of_below HB3.out)⟩
 | false=>
  have HHA:=Lib.hid hhA
  go_wp2_with fail
  with_reducible refine (n_hasA x false HHA.out _ H2.out).mono ?_
  rintro e w3 ⟨rfl,hb3⟩
  have H3:=Lib.hid (H2.out.kept hb3)
  have HB3:=Lib.hid (HB2.out.kept hb3)
  have HI3:=Lib.hid (insAt_kept hb3 HI2.out)
  have HT3:=Lib.hid (HT2.out.trans (Turn.of_below hb3))
  obtain ⟨ra,rz,hra,_⟩:=H3.out.rings
  have HRA:=Lib.hid hra
  have l4:=H3.out.lt
  clear hb3
  cases hhW:t.W.has x with
  | true=>
   have HHW:=Lib.hid hhW
   have HBR:Hid (s.bring p d=t):=Lib.hid (by rw [bring_known (by rw [HXX.out,← htA,← htW,hhA,hhW];rfl),HXX.out];exact HTT.out)
   clear hhA hhW htA htW
   go_wp2_with fail
   with_reducible refine (n_hasW x true HHW.out _ H3.out HRA.out).mono ?_
   rintro e w4 ⟨rfl,rfl⟩
   go_wp2_with fail
   first | go_end0 | refine bodyPost_ret (v:=.tuple #[]) rfl rfl ?_
   rw [HBR.out]
   exact ⟨rfl,F2,H3.out,HT3.out⟩
  | false=>
   have HHW:=Lib.hid hhW
   have hbr:=bring_new (p:=p) (d:=d) (t:=t) (by rw [HXX.out];exact HTT.out) (by rw [HXX.out,← htA];exact hhA) (by rw [HXX.out,← htW];exact hhW)
   rw [HXX.out] at hbr
   have HBR:=Lib.hid hbr
   have hAl:t.A.length≤2950000000000:=by rw [htA];exact hl
   clear hhA hhW htA htW hbr
   go_wp2_with fail
   with_reducible refine (n_hasW x false HHW.out _ H3.out HRA.out).mono ?_
   rintro e w4 ⟨rfl,rfl⟩
   obtain ⟨wx,hwx⟩:∃ wx,w3.alloc (.cells #[.pointer (some ⟨R,0,none⟩),.slice none 0 0] 167)=wx:=⟨_,rfl⟩
   have hkx:Below w3.heap.size w3 wx:=hwx▸kept_new _ _
   have hx0:ExAt wx (fun k=>F2 k∨k=w3.heap.size∨(Value.slice none 0 0).ownBlock=some k) w3.heap.size R t []:=hwx▸ex_new H3.out
   obtain ⟨G0,hG0⟩:∃ G0:Nat→Prop,(fun k=>F2 k∨k=w3.heap.size∨(Value.slice none 0 0).ownBlock=some k)=G0:=⟨_,rfl⟩
   rw [hG0] at hx0
   have HG0:Hid (∀ k,G0 k→F2 k∨k=w3.heap.size):=Lib.hid (by
    rw [← hG0]
    intro k hk
    rcases hk with hk | hk | hk
    ·exact .inl hk
    ·exact .inr hk
    ·cases hk)
   have HX0:=Lib.hid hx0
   have HIX:=Lib.hid (insAt_kept hkx HI3.out)
   have HOX:Hid (∀ bb o,d.ins≠[]→a=some ⟨bb,o,none⟩→¬ G0 bb):=Lib.hid fun bb o h1 h2 hg=>by
    rcases HG0.out bb hg with hg | hg
    ·exact HO2.out bb o h1 h2 hg
    ·obtain ⟨b',o',e',hb',_⟩:=HI3.out 0 (List.length_pos_iff.2 h1)
     rw [h2] at e'
     cases e'
     omega
   have HBX:=Lib.hid (HB3.out.kept hkx)
   have HNX:Hid (¬ G0 w.heap.size):=Lib.hid fun hg=>by
    have:=(cell_spot HB3.out.1).2
    rcases HG0.out _ hg with hg | hg
    ·exact HN2.out hg
    ·simp only at this
     omega
   have HTX:Hid (∀ (G':Nat→Prop) (X:Nat) (w':World) (s':NS) (q:List UInt64),Turn G0 G' wx w'→ExAt w' G' X R s' q→∃ F',NodeAt w' F' R s'∧Turn F F' w w'):=Lib.hid fun G' X w' s' q h1 h2=>ex_done HT3.out HG0.out (hwx▸h1) h2
   obtain ⟨ms,hms⟩:∃ ms,(Ju.judgeL t.A d).2.1=ms:=⟨_,rfl⟩
   have HMS:=Lib.hid hms
   have hml:ms.length≤8:=by have:=miss_len t.A d;rw [hms] at this;omega
   have hA4:t.A.length≤4000000000000:=by omega
   obtain ⟨b0,b1,b2,b3⟩:=HBX.out
   have l5:=(cell_spot b0).2
   have l6:=HX0.out.lt
   have HSUM:Hid ((t.examine x d).1.A.length+(t.examine x d).1.P.length≤2950000000100):=Lib.hid (by have h1:=examine_sum t x d;have h2:=H3.out.good.P.len;omega)
   clear hkx hx0 hG0 hms
   subst hwx
   go_wp2_with fail
   with_reducible refine (examine_any x d a cap hA4 (by simp) ms HMS.out _ HX0.out HIX.out HOX.out).mono ?_
   rintro e w5 ⟨am,cm,rfl,G5,h5,t5,hi5,ho5⟩
   rw [List.nil_append] at h5
   have H5:=Lib.hid h5
   have T5:=Lib.hid t5
   have HMI:=Lib.hid hi5
   have HMO:Hid (∀ bb o,ms≠[]→am=some ⟨bb,o,none⟩→¬ G5 bb):=Lib.hid fun bb o h1 h2=>(ho5 bb o h1 h2).1
   obtain ⟨hi6,ho6⟩:=ins_own HIX.out t5 HOX.out
   have HI5:=Lib.hid hi6
   have HO5:=Lib.hid ho6
   obtain ⟨b0,b1,b2,b3⟩:=HBX.out.turn t5 HNX.out
   have l5:=(cell_spot b0).2
   have l7:=H5.out.ltR
   have HQ5:Hid ((t.examine x d).2.length≤1000):=Lib.hid (by have h1:=examine_new t x d;have h2:=H5.out.good.P.len;omega)
   clear h5 t5 hi5 ho5 hi6 ho6
   by_cases hm0:ms=[]
   ·subst hm0
    have HBE:Hid (s.bring p d=(t.examine x d).1.follow (t.examine x d).2):=Lib.hid (by rw [HBR.out,HMS.out];rfl)
    have hS3:(t.examine x d).1.A.length+(t.examine x d).1.P.length≤3000000000000:=by have:=HSUM.out;omega
    go_wp2_with fail
    with_reducible refine (follow_any hS3 HQ5.out _ H5.out).mono ?_
    rintro e w6 ⟨rfl,G6,h6,t6⟩
    have H6:=Lib.hid h6
    have T6:=Lib.hid (T5.out.trans t6)
    clear h6 t6
    go_wp2_with fail
    go_end0
    rw [HBE.out]
    obtain ⟨F6,h1,h2⟩:=HTX.out _ _ _ _ _ T6.out H6.out
    exact ⟨rfl,F6,h1,h2⟩
   ·have HBE:Hid (s.bring p d=((t.examine x d).1.adopt p x d ms).follow (t.examine x d).2):=Lib.hid (by rw [HBR.out,HMS.out,if_pos hm0])
    have hmp:0 < ms.length:=List.length_pos_iff.2 hm0
    have hmp':(0:Int) < ms.length:=by omega
    go_wp2_with fail
    with_reducible refine (H5.out.calls fun F' hn hF=>adopt_any p hp x d a cap ms am cm _ hn HI5.out (fun bb o h1 h2 hf=>absurd (hF bb hf) (HO5.out bb o h1 h2)) (Nat.le_trans hml (by decide)) HMI.out (fun bb o h1 h2 hf=>absurd (hF bb hf) (HMO.out bb o h1 h2))).mono ?_
    rintro e w6 ⟨rfl,G6,h6,t6⟩
    have H6:=Lib.hid h6
    have T6:=Lib.hid (T5.out.trans t6)
    have hS3:((t.examine x d).1.adopt p x d ms).A.length+((t.examine x d).1.adopt p x d ms).P.length≤3000000000000:=by
     have h1:=HSUM.out
     have h2:=h6.good.P.len
     rw [adopt_A]
     omega
    clear h6 t6
    go_wp2_with fail
    with_reducible refine (follow_any hS3 HQ5.out _ H6.out).mono ?_
    rintro e w7 ⟨rfl,G7,h7,t7⟩
    have H7:=Lib.hid h7
    have T7:=Lib.hid (T6.out.trans t7)
    clear h7 t7
    go_wp2_with fail
    go_end0
    rw [HBE.out]
    obtain ⟨F7,h1,h2⟩:=HTX.out _ _ _ _ _ T7.out H7.out
    exact ⟨rfl,F7,h1,h2⟩
end Go.Proofs.YtlboemhbealnmaaGreat
namespace Go.Proofs.YtlboemhbealnmaaGreat
open Go.RowKit Go.Maps
variable {w w':World}
def outC (o:OutD):List Value:=[.int .i64 o.peer,.string o.bytes]
def outsC (l:List OutD):List Value:=l.flatMap outC
theorem outsC_length (l:List OutD):(outsC l).length=l.length * 2:=by
 induction l with
 | nil=>rfl
 | cons o r ih=>simp only [outsC,List.flatMap_cons,List.length_append,List.length_cons] at ih ⊢;rw [ih];simp [outC];omega
theorem outsC_append (l m:List OutD):outsC (l ++ m)=outsC l ++ outsC m:=by simp [outsC]
theorem outsC_one (l:List OutD):∀ u ∈ outsC l,u.oneCell'=true:=fun u hu=>by
 obtain ⟨o,_,h⟩:=List.mem_flatMap.1 hu
 simp only [outC,List.mem_cons,List.not_mem_nil,or_false] at h
 rcases h with rfl | rfl
 ·rfl
 ·rfl
abbrev OwnOuts (w:World) (B:Nat) (v:Value) (l:List OutD):Prop:=w.ownsRow B 37 2 v l.length (outsC l)
theorem info_out:(Tryz.prog.info? 37).map (fun i=>(i.zero,i.size,i.bytes))=some (some (.agg #[.int .i64 0,.string ByteArray.empty]),2,24):=by kernel_rfl
theorem outs_nil (w:World) (B:Nat):OwnOuts w B (.slice none 0 0) []:=World.ownsRow_nil w B _ 2
theorem outs_form {B:Nat} {v:Value} {l:List OutD} (h:OwnOuts w B v l):∃ a cap,v=.slice a l.length cap∧l.length≤cap:=by
 rcases h.2 with ⟨hv,hn⟩ | ⟨g,cap,cur,hv,_,_,hc,_⟩
 ·exact ⟨none,0,by rw [hn];exact hv,by omega⟩
 ·exact ⟨_,cap,hv,hc⟩
theorem run_append_outs (ty:TypeId) {B C:Nat} {v u:Value} {l m:List OutD} (h:OwnOuts w B v l) (hu:OwnOuts w C u m) (hl:l.length+m.length≤1000000) (hB:B≤w.heap.size) :
  ∃ v' w',(Builtin.append_ #[30,30] ty #[v,u]).run Tryz.prog w=.ok v' w'∧OwnOuts w' B v' (l ++ m)∧w.grownBy w' v.ownBlock∧(∀ k,v'.ownBlock=some k→v.ownBlock=some k∨w.heap.size≤k):=by
 obtain ⟨i0,hi0,hz0,hz1,hz2⟩:=info_parts info_out
 have hml:maxLen=9223372036854775807:=rfl
 by_cases hm:m=[]
 ·subst hm
  rw [List.append_nil]
  obtain ⟨a,c,rfl,_⟩:=outs_form hu
  have hfc:(Builtin.firstCells 2 0 (.slice a 0 c)).run Tryz.prog w=.ok #[] w:=by
   cases a with
   | none=>exact run_firstCells_none (P:=Tryz.prog) w 2 0 0 c
   | some b=>exact run_firstCells_some (P:=Tryz.prog) w 2 0 b 0 c [] rfl (fun j u hj=>by simp at hj)
  have hg:w.grownBy w v.ownBlock:=⟨rfl,rfl,rfl,Nat.le_refl _,fun _ _ _=>rfl⟩
  refine ⟨v,w,?_,h,hg,fun k hk=>.inl hk⟩
  obtain ⟨b,d,rfl,hd⟩:=outs_form h
  cases b with
  | none=>
   rcases h.2 with ⟨hv,hn⟩ | ⟨g,cap,cur,hv,_⟩
   ·simp only [Value.slice.injEq,true_and] at hv
    obtain ⟨h1,rfl⟩:=hv
    simp [Builtin.append_,run_underlying Tryz.underlying30,sizeOf,typeInfo,hi0,Builtin.lenOf,hz1,hfc,h1]
   ·cases hv
  | some b=>simp [Builtin.append_,run_underlying Tryz.underlying30,sizeOf,typeInfo,hi0,Builtin.lenOf,hz1,hfc,hd,storeCells]
 ·have hpos:0 < m.length:=List.length_pos_iff.2 hm
  obtain ⟨g,cap,rfl,hg,hlt⟩:=hu.form hpos
  obtain ⟨v',w',hr,h1,h2,_,h5⟩:=run_append_own_at (P:=Tryz.prog) w B 30 ty 37 i0 _ 2 24 Tryz.underlying30 hi0 hz0 hz1 hz2 rfl (by decide) v l.length (outsC l) h ⟨g,0,none⟩ m.length cap (outsC m) (outsC_length m) (fun j x hj=>hu.cells (g:=g) rfl j x hj) (outsC_one m) (by omega) (by omega) hB
  rw [← outsC_append,← List.length_append] at h1
  refine ⟨v',w',hr,h1,h2,fun k hk=>?_⟩
  rcases h5 with h5 | h5
  ·exact .inl (by rw [← h5];exact hk)
  ·rw [h5] at hk
   cases hk
   exact .inr (Nat.le_refl _)
theorem append_outs {ops:Array Oper} {rest:List Oper} {o:Oper} {a:Act} {Q:Exit→Act→World→Prop} (hgd:o.guard=none) (s x:Operand) (ho:o.op=.call { callee:=.builtin .append,args:=#[s,x],argTypes:=#[30,30] })
  {B C:Nat} {v u:Value} {l m:List OutD} (hs:a.eval s=v) (hx:a.eval x=u) (h:OwnOuts w B v l) (hu:OwnOuts w C u m) (hl:l.length+m.length≤1000000) (hB:B≤w.heap.size)
  (hK:∀ v' w',OwnOuts w' B v' (l ++ m)→w.grownBy w' v.ownBlock→(∀ k,v'.ownBlock=some k→v.ownBlock=some k∨w.heap.size≤k)→wpList Tryz.prog ops Q rest (a.put o.dst v') w'):wpList Tryz.prog ops Q (o :: rest) a w:=by
 refine wpList_plain hgd fun K hK'=>?_
 obtain ⟨v',w',hr,h1,h2,h3⟩:=run_append_outs (w:=w) o.type h hu hl hB
 unfold Oper.wp execOp
 simp only [ho,resolve,invoke,builtin,Sem.run_bind,Sem.run_pure,Result.andThen_ok,List.map_toArray,List.map_cons,List.map_nil,hs,hx,hr]
 exact hK' _ _ (hK v' w' h1 h2 h3)
theorem mencode_ok (m:Ms.MsgD) (a:Option Addr) (cap:Nat) (w:World) (E:ByteArray) (hi:IdsAt w a m.ids) (h:Ms.checkM m=0) (hE:str (Ms.encM m)=E) :
  Calls Tryz.prog 106 #[.agg #[.int .i64 m.kind,.slice a m.ids.length cap,.string m.body]] w fun e w'=>e=.returned (.tuple #[.string E,.int .i64 0])∧Below w.heap.size w w':=by
 by_cases h3:m.kind=3
 ·exact Ms.mencode_bring m a cap w E hi h h3 hE
 ·exact Ms.mencode_ids m a cap w E hi h h3 hE
set_option maxRecDepth 20000 in
theorem message_any (p:Nat) (m:Ms.MsgD) (a:Option Addr) (cap:Nat) (w:World) (hi:IdsAt w a m.ids) :
  Calls Tryz.prog 53 #[.int .i64 p,.agg #[.int .i64 m.kind,.slice a m.ids.length cap,.string m.body]] w fun e w'=>∃ v,e=.returned v∧OwnOuts w' w.heap.size v (message p m)∧Below w.heap.size w w':=by
 obtain ⟨wb,hwb⟩:∃ wb,w.alloc (.cells #[.int .i64 m.kind,.slice a m.ids.length cap,.string m.body] 113)=wb:=⟨_,rfl⟩
 have hk0:Below w.heap.size w wb:=hwb▸kept_new _ _
 have b0:wb.cell? ⟨w.heap.size,0,none⟩=some (.int .i64 m.kind):=by rw [← hwb];simp [go_sem]
 have b1:wb.cell? ⟨w.heap.size,1,none⟩=some (.slice a m.ids.length cap):=by rw [← hwb];simp [go_sem]
 have b2:wb.cell? ⟨w.heap.size,2,none⟩=some (.string m.body):=by rw [← hwb];simp [go_sem]
 have l0:=(cell_spot b0).2
 have HI:=Lib.hid (idsAt_kept hk0 hi)
 have HK:=Lib.hid hk0
 clear hk0 hi
 by_cases h:Ms.checkM m=0
 ·obtain ⟨E,hE⟩:∃ E,str (Ms.encM m)=E:=⟨_,rfl⟩
  have HE:=Lib.hid hE
  have HC:=Lib.hid h
  clear h hE
  go_enter Tryz.func53,Tryz.ntmps53
  go_wp2_with fail
  with_reducible refine (mencode_ok m a cap _ E HI.out HC.out HE.out).mono ?_
  rintro e w1 ⟨rfl,hb1⟩
  have HB1:=Lib.hid (kept_trans HK.out hb1)
  clear hb1
  go_wp2_with fail
  go_ret
  refine ⟨_,rfl,?_,kept_alloc HB1.out _⟩
  unfold message
  rw [if_pos HC.out,HE.out]
  have hs:=HB1.out.size
  exact ⟨rfl,.inr ⟨w1.heap.size,1,#[.int .i64 p,.string E],rfl,hs,heap_alloc_new w1 _,Nat.le_refl _,by decide,rfl,rfl⟩⟩
 ·obtain ⟨r,hr⟩:∃ r,Ms.checkM m=r:=⟨_,rfl⟩
  have h0:r≠0:=fun e=>h (by rw [hr];exact e)
  have HC:=Lib.hid hr
  have HN:=Lib.hid h
  clear h hr
  go_enter Tryz.func53,Tryz.ntmps53
  go_wp2_with fail
  with_reducible refine (Ms.mencode_err m a cap _ r HI.out HC.out h0).mono ?_
  rintro e w1 ⟨rfl,hb1⟩
  have HB1:=Lib.hid (kept_trans HK.out hb1)
  have hrb:(r != 0)=true:=by simpa using h0
  clear hb1
  go_wp2_with fail
  go_ret
  refine ⟨_,rfl,?_,HB1.out⟩
  unfold message
  rw [if_neg HN.out]
  exact outs_nil _ _
end Go.Proofs.YtlboemhbealnmaaGreat
namespace Go.Proofs.YtlboemhbealnmaaGreat
open Go.RowKit Go.Maps
variable {w w':World} {F:Nat→Prop} {R:Nat} {s:NS}
def NS.thereE (s:NS) (p:Int):Int:=if 0≤p∧p < 8 then (if (s.peers p.toNat).1 then 0 else 5) else 1
set_option maxRecDepth 20000 in
theorem isThere_yes (p:Nat) (hp:p < 8) (b:Bool) (hb:(s.peers p).1=b) (w:World) (h:NodeAt w F R s):Calls Tryz.prog 36 #[.pointer (some ⟨R,0,none⟩),.int .i64 p] w fun e w'=>e=.returned (.tuple #[.bool b,.int .i64 0])∧w=w':=by
 subst hb
 obtain ⟨⟨p0,_⟩,_⟩:=h.peerm p hp
 have l0:=h.lt
 have h1:¬ (p:Int) < 0:=by omega
 have h2:¬ (p:Int) ≥ 8:=by omega
 have h3:(p:Int) < 8:=by omega
 clear h
 go_enter Tryz.func36,Tryz.ntmps36
 go_wp2_with fail
 go_ret2
 exact ⟨rfl,rfl⟩
set_option maxRecDepth 20000 in
theorem isThere_no (p:Int) (hp:¬ (0≤p∧p < 8)) (w:World):Calls Tryz.prog 36 #[.pointer (some ⟨R,0,none⟩),.int .i64 p] w fun e w'=>e=.returned (.tuple #[.bool false,.int .i64 1])∧w=w':=by
 by_cases h1:p < 0
 ·clear hp
  go_enter Tryz.func36,Tryz.ntmps36
  go_wp2_with fail
  go_ret2
  exact ⟨rfl,rfl⟩
 ·have h2:p ≥ 8:=by omega
  clear hp
  go_enter Tryz.func36,Tryz.ntmps36
  go_wp2_with fail
  go_ret2
  exact ⟨rfl,rfl⟩
set_option maxRecDepth 20000 in
theorem checkThere_any (p r:Int) (hr:s.thereE p=r) (w:World) (h:NodeAt w F R s):Calls Tryz.prog 43 #[.pointer (some ⟨R,0,none⟩),.int .i64 p] w fun e w'=>e=.returned (.int .i64 r)∧w=w':=by
 unfold NS.thereE at hr
 by_cases hp:0≤p∧p < 8
 ·rw [if_pos hp] at hr
  obtain ⟨n,rfl⟩:∃ n:Nat,p=n:=⟨p.toNat,by omega⟩
  have hn:n < 8:=by omega
  rw [show (n:Int).toNat=n from rfl] at hr
  have H:=Lib.hid h
  cases hb:(s.peers n).1 with
  | true=>
   rw [hb] at hr
   simp only [if_true] at hr
   subst hr
   have HB:=Lib.hid hb
   clear h hb hp
   go_enter Tryz.func43,Tryz.ntmps43
   go_wp2_with fail
   with_reducible refine (isThere_yes n hn true HB.out _ H.out).mono ?_
   rintro e w1 ⟨rfl,rfl⟩
   go_wp2_with fail
   go_ret
   exact ⟨rfl,rfl⟩
  | false=>
   rw [hb] at hr
   simp only [Bool.false_eq_true,if_false] at hr
   subst hr
   have HB:=Lib.hid hb
   clear h hb hp
   go_enter Tryz.func43,Tryz.ntmps43
   go_wp2_with fail
   with_reducible refine (isThere_yes n hn false HB.out _ H.out).mono ?_
   rintro e w1 ⟨rfl,rfl⟩
   go_wp2_with fail
   go_ret
   exact ⟨rfl,rfl⟩
 ·rw [if_neg hp] at hr
  subst hr
  have HP:=Lib.hid hp
  clear h hp
  go_enter Tryz.func43,Tryz.ntmps43
  go_wp2_with fail
  with_reducible refine (isThere_no p HP.out _).mono ?_
  rintro e w1 ⟨rfl,rfl⟩
  go_wp2_with fail
  go_ret
  exact ⟨rfl,rfl⟩
set_option maxRecDepth 20000 in
theorem later_any (k:Nat) (hk:k≤1000) (t:Int) (ht:s.later k=t) (w:World) (h:NodeAt w F R s):Calls Tryz.prog 90 #[.pointer (some ⟨R,0,none⟩),.int .i64 k] w fun e w'=>e=.returned (.int .i64 t)∧w=w':=by
 subst ht
 have n0:=h.nowc.1
 have l0:=h.lt
 have hn:=h.good.now
 obtain ⟨n,hnn⟩:∃ n,s.now=n:=⟨_,rfl⟩
 have HL:Hid (s.later k=min (n+k) 1099511627776):=Lib.hid (by unfold NS.later;rw [hnn])
 rw [hnn] at n0 hn
 have h1:=hn.1
 have h2:=hn.2
 clear h hn hnn
 by_cases hlt:(1099511627776:Int) < n+k
 ·have HM:Hid (s.later k=1099511627776):=Lib.hid (by rw [HL.out];omega)
  go_enter Tryz.func90,Tryz.ntmps90
  go_wp2_with fail
  go_ret
  rw [HM.out]
  exact ⟨rfl,rfl⟩
 ·have HM:Hid (s.later k=n+k):=Lib.hid (by rw [HL.out];omega)
  go_enter Tryz.func90,Tryz.ntmps90
  go_wp2_with fail
  go_ret
  rw [HM.out]
  exact ⟨rfl,rfl⟩
set_option maxRecDepth 20000 in
set_option maxHeartbeats 1000000 in
theorem knows_any (x:UInt64) (b:Bool) (hb:s.knows x=b) (w:World) (h:NodeAt w F R s):Calls Tryz.prog 91 #[.pointer (some ⟨R,0,none⟩),.int .u64 x.toNat] w fun e w'=>e=.returned (.bool b)∧Below w.heap.size w w':=by
 subst hb
 have H:=Lib.hid h
 have l0:=h.lt
 clear h
 cases hA:(Ju.findL s.A x).isSome with
 | true=>
  have HA:=Lib.hid hA
  have HK:Hid (s.knows x=true):=Lib.hid (by unfold NS.knows;rw [hA];rfl)
  clear hA
  go_enter Tryz.func91,Tryz.ntmps91
  go_wp2_with fail
  with_reducible refine (n_hasA x true HA.out _ H.out).mono ?_
  rintro e w1 ⟨rfl,hb1⟩
  go_wp2_with fail
  go_ret
  rw [HK.out]
  exact ⟨rfl,hb1⟩
 | false=>
  have HA:=Lib.hid hA
  go_enter Tryz.func91,Tryz.ntmps91
  go_wp2_with fail
  with_reducible refine (n_hasA x false HA.out _ H.out).mono ?_
  rintro e w1 ⟨rfl,hb1⟩
  have H1:=Lib.hid (H.out.kept hb1)
  have HB1:=Lib.hid hb1
  have l1:=H1.out.lt
  clear hb1
  cases hP:(Ho.deedOf s.P x).isSome with
  | true=>
   have HP:=Lib.hid hP
   have HK:Hid (s.knows x=true):=Lib.hid (by unfold NS.knows;rw [hA,hP];rfl)
   clear hA hP
   go_wp2_with fail
   with_reducible refine (n_hasP x true HP.out _ H1.out).mono ?_
   rintro e w2 ⟨rfl,hb2⟩
   go_wp2_with fail
   go_ret
   rw [HK.out]
   exact ⟨rfl,kept_trans HB1.out hb2⟩
  | false=>
   have HP:=Lib.hid hP
   go_wp2_with fail
   with_reducible refine (n_hasP x false HP.out _ H1.out).mono ?_
   rintro e w2 ⟨rfl,hb2⟩
   have H2:=Lib.hid (H1.out.kept hb2)
   have HB2:=Lib.hid (kept_trans HB1.out hb2)
   have l2:=H2.out.lt
   obtain ⟨ra,rz,hra,hrz⟩:=H2.out.rings
   have HRA:=Lib.hid hra
   have HRZ:=Lib.hid hrz
   clear hb2
   cases hW:s.W.has x with
   | true=>
    have HW:=Lib.hid hW
    have HK:Hid (s.knows x=true):=Lib.hid (by unfold NS.knows;rw [hA,hP,hW];rfl)
    clear hA hP hW
    go_wp2_with fail
    with_reducible refine (n_hasW x true HW.out _ H2.out HRA.out).mono ?_
    rintro e w3 ⟨rfl,rfl⟩
    go_wp2_with fail
    go_ret
    rw [HK.out]
    exact ⟨rfl,HB2.out⟩
   | false=>
    have HW:=Lib.hid hW
    have HK:Hid (s.knows x=s.Q.has x):=Lib.hid (by unfold NS.knows;rw [hA,hP,hW];rfl)
    clear hA hP hW
    go_wp2_with fail
    with_reducible refine (n_hasW x false HW.out _ H2.out HRA.out).mono ?_
    rintro e w3 ⟨rfl,rfl⟩
    go_wp2_with fail
    with_reducible refine (n_hasQ x _ rfl _ H2.out HRZ.out).mono ?_
    rintro e w4 ⟨rfl,rfl⟩
    go_wp2_with fail
    go_ret
    rw [HK.out]
    exact ⟨rfl,HB2.out⟩
end Go.Proofs.YtlboemhbealnmaaGreat
