import Derived.Test.YtlboemhbealnmaaGreatP27
import Derived.Test.YtlboemhbealnmaaGreatP18
import Derived.Test.YtlboemhbealnmaaGreatP20
set_option maxRecDepth 20000
namespace Go.Proofs.YtlboemhbealnmaaGreat
open Go.RowKit Go.Maps
variable {w w':World} {F:Nat→Prop} {R:Nat} {s:NS}
theorem ann1_known {p:Nat} {x:UInt64} (h:s.knows x=true):s.announce1 p x=s:=by unfold NS.announce1;rw [if_pos h]
theorem ann1_new {p:Nat} {x:UInt64} (h:s.knows x=false):s.announce1 p x={ s with T:=(Tr.annC s.T p x (if (s.peers p).2 then s.now else s.later 3) (s.peers p).2).2 }:=by unfold NS.announce1;rw [if_neg (by rw [h];decide)]
def NS.annAt (s:NS) (p:Nat):Int:=if (s.peers p).2 then s.now else s.later 3
theorem annAt_same {u:NS} {p:Nat} (h1:u.now=s.now) (h2:u.peers=s.peers):u.annAt p=s.annAt p:=by unfold NS.annAt NS.later;rw [h1,h2]
theorem later3 (t:Int) (ht:s.later 3=t) (w:World) (h:NodeAt w F R s):Calls Tryz.prog 90 #[.pointer (some ⟨R,0,none⟩),.int .i64 3] w fun e w'=>e=.returned (.int .i64 t)∧w=w':=later_any 3 (by decide) t ht w h
theorem later10 (t:Int) (ht:s.later 10=t) (w:World) (h:NodeAt w F R s):Calls Tryz.prog 90 #[.pointer (some ⟨R,0,none⟩),.int .i64 10] w fun e w'=>e=.returned (.int .i64 t)∧w=w':=later_any 10 (by decide) t ht w h
set_option maxRecDepth 20000 in
set_option maxHeartbeats 2000000 in
theorem announce_any (p:Nat) (hp:p < 8) (l:List UInt64) (a:Option Addr) (cap:Nat) (w:World) (h:NodeAt w F R s) (hl:l.length≤1000) (hi:IdsAt w a l) (ho:∀ bb o,l≠[]→a=some ⟨bb,o,none⟩→¬ F bb) :
  Calls Tryz.prog 47 #[.pointer (some ⟨R,0,none⟩),.int .i64 p,.slice a l.length cap] w (TurnsN w F R (.tuple #[]) (s.announce p l)):=by
 obtain ⟨_,⟨p1,_⟩⟩:=h.peerm p hp
 have n0:=h.nowc.1
 have l0:=h.lt
 have H:=Lib.hid h
 have HI:=Lib.hid hi
 have HO:=Lib.hid ho
 have hp8:(p:Int) < 8:=by omega
 obtain ⟨t,ht⟩:∃ t,s.annAt p=t:=⟨_,rfl⟩
 have HT:=Lib.hid ht
 have HTN:=Lib.hid ht
 unfold NS.annAt at HTN
 clear h hi ho ht
 go_enter Tryz.func47,Tryz.ntmps47
 cases hpf:(s.peers p).2
 case' true=>
  have hE:s.now=t:=by have:=HTN.out;rw [hpf] at this;exact this
  rw [hpf] at p1
  rw [hE] at n0
  clear hE HTN
  go_wp2_with fail
 case' false=>
  have HE:Hid (s.later 3=t):=Lib.hid (by have:=HTN.out;rw [hpf] at this;exact this)
  rw [hpf] at p1
  go_wp2_with fail
  with_reducible refine (later3 t HE.out _ H.out).mono ?_
  rintro e w1 ⟨rfl,rfl⟩
  clear HE HTN
  go_wp2_with fail
 all_goals
  go_loopw [25] (fun i wr=>∃ (k:Nat) (F':Nat→Prop) (u:NS),k≤l.length∧i=.int .i64 k∧Hid (NodeAt wr F' R u)∧Hid (Turn F F' w wr)∧Hid ((l.drop k).foldl (fun s m=>s.announce1 p m) u=s.announce p l)∧Hid (u.now=s.now∧u.peers=s.peers)∧Hid (IdsAt wr a l)∧Hid (∀ bb o,l≠[]→a=some ⟨bb,o,none⟩→¬ F' bb)) (fun i _=>l.length - (intOf i).toNat)
  case atStart=>exact ⟨0,F,s,Nat.zero_le _,rfl,H,Lib.hid (Turn.refl _ _),Lib.hid rfl,Lib.hid ⟨rfl,rfl⟩,HI,HO⟩
  case round=>
   obtain ⟨k,F4,u,hk,rfl,H4,HT4,HFO,HS,HM4,HMO4⟩:=hrel
   by_cases hkl:k < l.length
   ·obtain ⟨g,o,rfl,hg,hc2⟩:=HM4.out k hkl
    obtain ⟨y,hy⟩:∃ y,l[k]=y:=⟨_,rfl⟩
    rw [hy] at hc2
    have HFN:Hid ((l.drop (k+1)).foldl (fun s m=>s.announce1 p m) (u.announce1 p y)=s.announce p l):=Lib.hid (by rw [← HFO.out,List.drop_eq_getElem_cons hkl,List.foldl_cons,hy])
    have l4:=H4.out.lt
    have l5:g < wr.heap.size:=hg
    clear hy p1 n0 hpf
    cases hkn:u.knows y with
    | true=>
     have HKN:=Lib.hid hkn
     have HW:Hid (u.announce1 p y=u):=Lib.hid (ann1_known hkn)
     clear hkn
     go_wp2_with fail
     with_reducible refine (knows_any y true HKN.out _ H4.out).mono ?_
     rintro e w5 ⟨rfl,hb5⟩
     have HB5:=Lib.hid hb5
     clear hb5
     go_wp2_with fail
     go_roundw
     case rel=>
      have tt:=Turn.of_below (F:=F4) HB5.out
      exact ⟨k+1,F4,u,by omega,by go_num,Lib.hid (H4.out.kept HB5.out),Lib.hid (HT4.out.trans tt),Lib.hid (by have:=HFN.out;rw [HW.out] at this;exact this),HS,Lib.hid (idsAt_turn HM4.out tt HMO4.out),HMO4⟩
     case measure=>simp [intOf];omega
    | false=>
     have HKN:=Lib.hid hkn
     have HW:Hid (u.announce1 p y={ u with T:=(Tr.annC u.T p y t (u.peers p).2).2 }):=Lib.hid (by rw [ann1_new hkn];rw [← HT.out,← annAt_same HS.out.1 HS.out.2];rfl)
     clear hkn
     go_wp2_with fail
     with_reducible refine (knows_any y false HKN.out _ H4.out).mono ?_
     rintro e w5 ⟨rfl,hb5⟩
     have H5:=Lib.hid (H4.out.kept hb5)
     have HB5:=Lib.hid hb5
     obtain ⟨wd,hwd⟩:∃ wd,w5.drew=wd:=⟨_,rfl⟩
     have hbd:Below w5.heap.size w5 wd:=hwd▸(Below.refl _ _).drew
     have H6:=Lib.hid (H5.out.kept hbd)
     obtain ⟨_,⟨p6,_⟩⟩:=H6.out.peerm p hp
     have l7:=H6.out.lt
     have tt:=(Turn.of_below (F:=F4) HB5.out).trans (Turn.of_below (F:=F4) hbd)
     have HT6:=Lib.hid (HT4.out.trans tt)
     have HM6:=Lib.hid (idsAt_turn HM4.out tt HMO4.out)
     have HWD:=Lib.hid hwd
     clear hbd hwd tt hb5
     go_wp2_with fail
     refine region_tail 13 (by kernel_rfl) (by kernel_rfl) HWD.out ?_
     simp only [List.take_succ_cons,List.take_zero,List.drop_succ_cons,List.drop_zero]
     repeat still_step
     refine wpStill_nil ?_
     go_wp2_with fail
     with_reducible refine (n_announce p y t (u.peers p).2 _ H6.out).mono ?_
     rintro e w7 ⟨rfl,F7,h7,t7⟩
     obtain ⟨hm7,hmo7⟩:=out_own HM6.out t7 HMO4.out
     have H7:=Lib.hid h7
     have T7:=Lib.hid (HT6.out.trans t7)
     have HM7:=Lib.hid hm7
     have HMO7:=Lib.hid hmo7
     clear h7 t7 hm7 hmo7
     go_wp2_with fail
     go_roundw
     case rel=>exact ⟨k+1,F7,_,by omega,by go_num,H7,T7,Lib.hid (by have:=HFN.out;rw [HW.out] at this;exact this),Lib.hid ⟨HS.out.1,HS.out.2⟩,HM7,HMO7⟩
     case measure=>simp [intOf];omega
   ·have he:l.drop k=[]:=List.drop_eq_nil_of_le (by omega)
    have HU:Hid (u=s.announce p l):=Lib.hid (by have:=HFO.out;rw [he] at this;exact this)
    go_wp2_with fail
    go_end0
    rw [← HU.out]
    exact ⟨rfl,F4,H4.out,HT4.out⟩
end Go.Proofs.YtlboemhbealnmaaGreat
namespace Go.Proofs.YtlboemhbealnmaaGreat
open Go.RowKit Go.Maps
variable {w w':World} {F:Nat→Prop} {R:Nat} {s:NS}
theorem message_bring (p:Nat) (E:ByteArray) (w:World):Calls Tryz.prog 53 #[.int .i64 p,.agg #[.int .i64 3,.slice none 0 0,.string E]] w fun e w'=>∃ v,e=.returned v∧OwnOuts w' w.heap.size v (message p ⟨3,[],E⟩)∧Below w.heap.size w w':=
 message_any p ⟨3,[],E⟩ none 0 w (fun i hi=>absurd hi (by simp))
theorem message_miss (p:Nat) (l:List UInt64) (a:Option Addr) (cap:Nat) (w:World) (hi:IdsAt w a l):Calls Tryz.prog 53 #[.int .i64 p,.agg #[.int .i64 4,.slice a l.length cap,.string ⟨#[]⟩]] w fun e w'=>∃ v,e=.returned v∧OwnOuts w' w.heap.size v (message p ⟨4,l,⟨#[]⟩⟩)∧Below w.heap.size w w':=
 message_any p ⟨4,l,⟨#[]⟩⟩ a cap w hi
theorem message_fetch (p:Nat) (l:List UInt64) (a:Option Addr) (cap:Nat) (w:World) (hi:IdsAt w a l):Calls Tryz.prog 53 #[.int .i64 p,.agg #[.int .i64 2,.slice a l.length cap,.string ⟨#[]⟩]] w fun e w'=>∃ v,e=.returned v∧OwnOuts w' w.heap.size v (message p ⟨2,l,⟨#[]⟩⟩)∧Below w.heap.size w w':=
 message_any p ⟨2,l,⟨#[]⟩⟩ a cap w hi
def NS.fetch1 (s:NS) (p:Nat) (x:UInt64):List OutD:=match Ju.findL s.A x with | none=>[] | some d=>message p ⟨3,[],str (encB d)⟩
theorem message_len (p:Nat) (m:Ms.MsgD):(message p m).length≤1:=by unfold message;split <;> simp
theorem fetch1_len (p:Nat) (x:UInt64):(s.fetch1 p x).length≤1:=by
 unfold NS.fetch1
 split
 ·simp
 ·exact message_len _ _
theorem flat_len (p:Nat) (l:List UInt64):(l.flatMap (s.fetch1 p)).length≤l.length:=by
 induction l with
 | nil=>simp
 | cons x r ih=>
  simp only [List.flatMap_cons,List.length_append,List.length_cons]
  have:=fetch1_len (s:=s) p x
  omega
theorem take_more {α:Type} (l:List α) (k:Nat) (h:k < l.length):l.take (k+1)=l.take k ++ [l[k]]:=by
 rw [List.take_add_one,List.getElem?_eq_getElem h]
 rfl
theorem kinds_apart {B C:Nat} {u v:Value} {l:List OutD} {d:List UInt64} (h:OwnOuts w B u l) (k:OwnIds w C v d):∀ g,u.ownBlock=some g→v.ownBlock≠some g:=fun g hu hv=>by
 obtain ⟨c1,h1⟩:=own_at h hu
 obtain ⟨c2,h2⟩:=own_at k hv
 rw [h1] at h2
 simp at h2
theorem own_grown {B:Nat} {e:TypeId} {size n:Nat} {v:Value} {xs:List Value} {row:Option Nat} (h:w.ownsRow B e size v n xs) (hg:w.grownBy w' row) (hn:∀ g,v.ownBlock=some g→row≠some g):w'.ownsRow B e size v n xs:=
 own_same h fun g hgg=>hg.block g (h.lt g hgg).2 (fun e=>hn g hgg e.symm)
theorem below_grown {n:Nat} {w0:World} {row:Option Nat} (h:Below n w0 w) (hg:w.grownBy w' row) (hn:∀ g,row=some g→n≤g) (hs:n≤w.heap.size):Below n w0 w':=
 ⟨hg.os.trans h.os,hg.tape.trans h.tape,hg.output.trans h.output,Nat.le_trans h.size hg.size,fun k hk=>(hg.block k (by omega) (fun e=>by have:=hn k e.symm;omega)).trans (h.block k hk)⟩
set_option maxRecDepth 20000 in
set_option maxHeartbeats 2000000 in
theorem fetch_any (p:Nat) (l:List UInt64) (a:Option Addr) (cap:Nat) (w:World) (h:NodeAt w F R s) (hl:l.length≤1000) (hi:IdsAt w a l) :
  Calls Tryz.prog 49 #[.pointer (some ⟨R,0,none⟩),.int .i64 p,.slice a l.length cap] w fun e w'=>∃ v,e=.returned v∧OwnOuts w' w.heap.size v (s.fetch p l)∧Below w.heap.size w w':=by
 have H:=Lib.hid h
 have HI:=Lib.hid hi
 clear h hi
 go_enter Tryz.func49,Tryz.ntmps49
 go_wp2_with fail
 go_loopw [7,8,17] (fun v7 v8 i wr=>∃ (k:Nat) (ou:List OutD) (ot:List UInt64),k≤l.length∧i=.int .i64 k∧Hid (OwnOuts wr w.heap.size v7 ou)∧Hid (OwnIds wr w.heap.size v8 ot)∧Hid ((l.take k).flatMap (s.fetch1 p)=ou)∧Hid (((l.take k).filter fun x=>(Ju.findL s.A x).isNone)=ot)∧ou.length≤k∧ot.length≤k∧Hid (Below w.heap.size w wr)) (fun _ _ i _=>l.length - (intOf i).toNat)
 case atStart=>exact ⟨0,[],[],Nat.zero_le _,rfl,Lib.hid (outs_nil _ _),Lib.hid (ownIds_nil _ _),Lib.hid rfl,Lib.hid rfl,Nat.le_refl _,Nat.le_refl _,Lib.hid (Below.refl _ _)⟩
 case round=>
  obtain ⟨k,ou,ot,hk,rfl,HOU,HOT,HEU,HET,hou,hot,HB⟩:=hrel
  obtain ⟨ao,co,rfl,_⟩:=outs_form HOU.out
  obtain ⟨ai,ci,e0,_,hids,_⟩:=owns_idsAt HOT.out
  subst e0
  by_cases hkl:k < l.length
  ·have HR:=Lib.hid (H.out.kept HB.out)
   obtain ⟨g,o,rfl,hg,hc2⟩:=idsAt_kept HB.out HI.out k hkl
   obtain ⟨y,hy⟩:∃ y,l[k]=y:=⟨_,rfl⟩
   rw [hy] at hc2
   have HY:=Lib.hid hy
   have l0:=HR.out.lt
   have l1:g < wr.heap.size:=hg
   have HTL:Hid ((l.take (k+1)).flatMap (s.fetch1 p)=ou ++ s.fetch1 p y):=Lib.hid (by rw [take_more l k hkl,hy,← HEU.out];simp)
   have HFL:Hid ((l.take (k+1)).filter (fun x=>(Ju.findL s.A x).isNone)=ot ++ (if (Ju.findL s.A y).isNone then [y] else [])):=Lib.hid (by rw [take_more l k hkl,hy,List.filter_append,HET.out];simp [List.filter_cons])
   clear hy hids
   go_wp2_with fail
   with_reducible refine (n_deedA y _ HR.out).mono ?_
   rintro e w2 ⟨a2,cp2,rfl,_,_,hi2,hb2⟩
   cases hd:Ju.findL s.A y with
   | none=>
    have HD:=Lib.hid hd
    simp only [Option.isSome_none,Bool.false_eq_true,if_false,Option.getD_none]
    obtain ⟨dz,hdz⟩:∃ dz,nod=dz:=⟨_,rfl⟩
    rw [hdz]
    obtain ⟨wy,hwy⟩:∃ wy,w2.alloc (.cells #[.slice a2 dz.ins.length cp2,.int .i64 dz.outs,.int .i64 dz.weight,.int .i64 dz.fee] 94)=wy:=⟨_,rfl⟩
    have hby:Below wr.heap.size wr wy:=kept_trans hb2 (hwy▸kept_new _ _)
    have HOU2:Hid (OwnOuts wy w.heap.size _ _):=Lib.hid (own_same HOU.out fun g hgg=>hby.block g (HOU.out.lt g hgg).2)
    have HOT2:=Lib.hid (ownIds_below HOT.out hby)
    have HB2:=Lib.hid (kept_trans HB.out hby)
    clear hd hi2 hb2 hby hdz
    go_wp2_with (at_builtin;refine append_id rfl _ _ rfl y rfl rfl HOT2.out (by omega) HB2.out.size ?_;intro g3 cap3 w3 ho3 hg3 hgw;refine Hid.out ?_)
    refine Lib.hid ?_
    have HOU3:=Lib.hid (own_grown HOU2.out hgw (fun g h1 h2=>kinds_apart HOU2.out HOT2.out g h1 h2))
    have HOT3:=Lib.hid ho3
    have HB3:=Lib.hid (below_grown HB2.out hgw (fun g h1=>(HOT2.out.lt g h1).1) HB2.out.size)
    clear ho3 hg3 hgw
    go_wp2_with fail
    go_roundw
    case rel=>
     refine ⟨k+1,ou,ot ++ [y],by omega,by go_num,HOU3,Lib.hid ?_,Lib.hid ?_,Lib.hid ?_,by omega,by simp;omega,HB3⟩
     ·have:=HOT3.out
      simpa using this
     ·rw [HTL.out]
      unfold NS.fetch1
      rw [HD.out,List.append_nil]
     ·rw [HFL.out,HD.out]
      rfl
    case measure=>simp [intOf];omega
   | some d=>
    have HD:=Lib.hid hd
    rw [hd] at hi2
    simp only [Option.isSome_some,if_true,Option.getD_some] at hi2 ⊢
    have HC:Hid (checkD d=0):=Lib.hid (HR.out.good.A.fine d (Ju.findL_mem hd).1)
    obtain ⟨wy,hwy⟩:∃ wy,w2.alloc (.cells #[.slice a2 d.ins.length cp2,.int .i64 d.outs,.int .i64 d.weight,.int .i64 d.fee] 94)=wy:=⟨_,rfl⟩
    have hby0:Below w2.heap.size w2 wy:=hwy▸kept_new _ _
    have hby:Below wr.heap.size wr wy:=kept_trans hb2 hby0
    obtain ⟨y0,y1,y2,y3⟩:DeedBox wy w2.heap.size a2 cp2 d:=hwy▸box_deed w2 a2 cp2 d
    have l2:=(cell_spot y0).2
    have HIY:=Lib.hid (insAt_kept hby0 hi2)
    obtain ⟨E,hE⟩:∃ E,str (encB d)=E:=⟨_,rfl⟩
    have HE:=Lib.hid hE
    have HBY:=Lib.hid hby
    clear hd hi2 hb2 hby hby0 hE
    go_wp2_with fail
    with_reducible refine (Ju.encode_is d a2 cp2 _ E HIY.out HC.out HE.out).mono ?_
    rintro e w4 ⟨rfl,hb4⟩
    have HB4:=Lib.hid (kept_trans HBY.out hb4)
    clear hb4
    go_wp2_with fail
    with_reducible refine (message_bring p E _).mono ?_
    rintro e w5 ⟨v5,rfl,ho5,hb5⟩
    have hb:=kept_trans HB4.out hb5
    have HOU5:Hid (OwnOuts w5 w.heap.size _ _):=Lib.hid (own_same HOU.out fun g hgg=>hb.block g (HOU.out.lt g hgg).2)
    have HOT5:=Lib.hid (ownIds_below HOT.out hb)
    have HB5:=Lib.hid (kept_trans HB.out hb)
    have HO5:=Lib.hid ho5
    obtain ⟨mm,hmm⟩:∃ mm,message p ⟨3,[],E⟩=mm:=⟨_,rfl⟩
    have hml:mm.length≤1:=hmm▸message_len p ⟨3,[],E⟩
    rw [hmm] at HO5
    have HMM:=Lib.hid hmm
    clear hmm
    clear hb hb5 ho5
    go_wp2_with (at_builtin;refine append_outs rfl _ _ rfl rfl rfl HOU5.out HO5.out (by omega) HB5.out.size ?_;intro v6 w6 ho6 hg6 hk6;refine Hid.out ?_)
    refine Lib.hid ?_
    have HOT6:=Lib.hid (own_grown HOT5.out hg6 (fun g h1 h2=>kinds_apart HOU5.out HOT5.out g h2 h1))
    have HOU6:=Lib.hid ho6
    have HB6:=Lib.hid (below_grown HB5.out hg6 (fun g h1=>(HOU5.out.lt g h1).1) HB5.out.size)
    clear ho6 hg6 hk6
    go_wp2_with fail
    go_roundw
    case rel=>
     refine ⟨k+1,ou ++ mm,ot,by omega,by go_num,HOU6,HOT6,Lib.hid ?_,Lib.hid ?_,by rw [List.length_append];omega,by omega,HB6⟩
     ·rw [HTL.out]
      have:s.fetch1 p y=message p ⟨3,[],E⟩:=by
       unfold NS.fetch1
       rw [HD.out]
       simp only
       rw [HE.out]
      rw [this,HMM.out]
     ·rw [HFL.out,HD.out]
      simp
    case measure=>simp [intOf];omega
  ·have he:l.take k=l:=List.take_of_length_le (by omega)
   have HF:Hid (s.fetch p l=ou ++ message p ⟨4,ot,⟨#[]⟩⟩):=Lib.hid (by
    have h1:=HEU.out
    have h2:=HET.out
    rw [he] at h1 h2
    rw [← h1,← h2]
    rfl)
   have HI2:=Lib.hid hids
   clear hids he
   go_wp2_with fail
   with_reducible refine (message_miss p ot ai ci _ HI2.out).mono ?_
   rintro e w5 ⟨v5,rfl,ho5,hb5⟩
   have HOU5:Hid (OwnOuts w5 w.heap.size _ _):=Lib.hid (own_same HOU.out fun g hgg=>hb5.block g (HOU.out.lt g hgg).2)
   have HB5:=Lib.hid (kept_trans HB.out hb5)
   have HO5:=Lib.hid ho5
   obtain ⟨mm,hmm⟩:∃ mm,message p ⟨4,ot,⟨#[]⟩⟩=mm:=⟨_,rfl⟩
   have hml:mm.length≤1:=hmm▸message_len p ⟨4,ot,⟨#[]⟩⟩
   rw [hmm] at HO5 HF
   clear hb5 ho5 hmm
   go_wp2_with (at_builtin;refine append_outs rfl _ _ rfl rfl rfl HOU5.out HO5.out (by omega) HB5.out.size ?_;intro v6 w6 ho6 hg6 hk6;refine Hid.out ?_)
   refine Lib.hid ?_
   have HOU6:=Lib.hid ho6
   have HB6:=Lib.hid (below_grown HB5.out hg6 (fun g h1=>(HOU5.out.lt g h1).1) HB5.out.size)
   clear ho6 hg6 hk6
   go_wp2_with fail
   go_ret
   rw [HF.out]
   exact ⟨v6,rfl,HOU6.out,HB6.out⟩
end Go.Proofs.YtlboemhbealnmaaGreat
namespace Go.Proofs.YtlboemhbealnmaaGreat
open Go.RowKit Go.Maps
variable {w w':World} {F:Nat→Prop} {R:Nat} {s:NS}
def NS.send (s:NS) (p:Int) (b:ByteArray):NS × List OutD × Int:=
 if s.thereE p≠0 then (s,[],s.thereE p)
 else if Ms.errM b.data.toList≠0 then (s,[],Ms.errM b.data.toList)
 else
  let m:=Ms.ansM b.data.toList
  if m.kind=1 then (s.announce p.toNat m.ids,[],0)
  else if m.kind=4 then (s.missing p.toNat m.ids,[],0)
  else if m.kind=2 then (s,s.fetch p.toNat m.ids,0)
  else if errD m.body.data.toList≠0 then (s,[],errD m.body.data.toList)
  else (s.bring p.toNat (readD m.body.data.toList),[],0)
def SentN (w:World) (F:Nat→Prop) (R:Nat) (q:NS × List OutD × Int) (e:Ending) (w':World):Prop:=
 ∃ v F',e=.returned (.tuple #[v,.int .i64 q.2.2])∧OwnOuts w' w.heap.size v q.2.1∧NodeAt w' F' R q.1∧Turn F F' w w'∧∀ g,v.ownBlock=some g→¬ F' g
theorem sent_none {r:Int} {F':Nat→Prop} {s':NS} (h:NodeAt w' F' R s') (ht:Turn F F' w w'):SentN w F R (s',[],r) (.returned (.tuple #[.slice none 0 0,.int .i64 r])) w':=
 ⟨.slice none 0 0,F',rfl,outs_nil _ _,h,ht,fun g hg=>by cases hg⟩
theorem there_zero {p:Int} (h:s.thereE p=0):∃ n:Nat,p=n∧n < 8∧(s.peers n).1=true:=by
 unfold NS.thereE at h
 split at h
 ·rename_i hp
  split at h
  ·exact ⟨p.toNat,by omega,by omega,by assumption⟩
  ·cases h
 ·cases h
def MsgBox (w:World) (b:Nat) (a:Option Addr) (cap:Nat) (m:Ms.MsgD):Prop:=w.cell? ⟨b,0,none⟩=some (.int .i64 m.kind)∧w.cell? ⟨b,1,none⟩=some (.slice a m.ids.length cap)∧w.cell? ⟨b,2,none⟩=some (.string m.body)
theorem box_msg (w:World) (a:Option Addr) (cap:Nat) (m:Ms.MsgD):MsgBox (w.alloc (.cells #[.int .i64 m.kind,.slice a m.ids.length cap,.string m.body] 113)) w.heap.size a cap m:=⟨by simp [go_sem],by simp [go_sem],by simp [go_sem]⟩
theorem decode_ans (b:ByteArray) (r:Int) (w:World) (hs:b.size≤maxLen) (h:errD b.data.toList=r) (D:DeedD) (hD:(if errD b.data.toList=0 then readD b.data.toList else De.zeroD)=D):Calls Tryz.prog 50 #[.string b] w (De.GaveBoth w D r):=by
 unfold errD at h hD
 by_cases hf:formD b.data.toList=0
 ·rw [if_neg (not_not_intro hf)] at h hD
  by_cases hc:checkD (readD b.data.toList)=0
  ·rw [if_pos hc] at hD
   rw [hc] at h
   subst h hD
   exact De.decode_ok b w hs hf hc
  ·rw [if_neg hc] at hD
   subst hD
   exact De.decode_check b r w hs hf h (by rw [← h];exact hc)
 ·rw [if_pos hf] at h hD
  rw [if_neg hf] at hD
  subst hD
  exact De.decode_form b r w hs h (by rw [← h];exact hf)
theorem errD_check {l:List UInt8} (h:errD l=0):checkD (readD l)=0:=by
 unfold errD at h
 split at h
 ·rename_i h1;exact absurd h h1
 ·exact h
set_option maxRecDepth 20000 in
theorem send_there (p:Int) (b:ByteArray) (r:Int) (hr:s.thereE p=r) (h0:r≠0) (w:World) (h:NodeAt w F R s):Calls Tryz.prog 28 #[.pointer (some ⟨R,0,none⟩),.int .i64 p,.string b] w (SentN w F R (s,[],r)):=by
 have H:=Lib.hid h
 have HR:=Lib.hid hr
 have hrb:(r != 0)=true:=by simpa using h0
 clear h hr
 go_enter Tryz.func28,Tryz.ntmps28
 go_wp2_with fail
 with_reducible refine (checkThere_any p r HR.out _ H.out).mono ?_
 rintro e w0 ⟨rfl,rfl⟩
 go_wp2_with fail
 go_ret2
 exact sent_none H.out (Turn.refl _ _)
set_option maxRecDepth 20000 in
theorem send_form (p:Int) (b:ByteArray) (hs:b.size≤maxLen) (r:Int) (ht:s.thereE p=0) (hr:Ms.errM b.data.toList=r) (h0:r≠0) (w:World) (h:NodeAt w F R s):Calls Tryz.prog 28 #[.pointer (some ⟨R,0,none⟩),.int .i64 p,.string b] w (SentN w F R (s,[],r)):=by
 have H:=Lib.hid h
 have HR:=Lib.hid hr
 have HT:=Lib.hid ht
 have hrb:(r != 0)=true:=by simpa using h0
 obtain ⟨m,hm⟩:∃ m,Ms.ansM b.data.toList=m:=⟨_,rfl⟩
 have HM:=Lib.hid hm
 clear h hr ht hm
 go_enter Tryz.func28,Tryz.ntmps28
 go_wp2_with fail
 with_reducible refine (checkThere_any p 0 HT.out _ H.out).mono ?_
 rintro e w0 ⟨rfl,rfl⟩
 go_wp2_with fail
 with_reducible refine (Ms.mdecode_all b r m _ hs HR.out HM.out).mono ?_
 rintro e w1 ⟨a1,c1,rfl,_,_,_,hb1⟩
 have HB:=Lib.hid hb1
 clear hb1
 go_wp2_with fail
 go_ret2
 exact sent_none (H.out.kept (kept_trans HB.out (kept_new _ _))) (Turn.of_below (kept_trans HB.out (kept_new _ _)))
set_option maxRecDepth 20000 in
set_option maxHeartbeats 1000000 in
theorem send_announce (p:Nat) (hp:p < 8) (b:ByteArray) (hs:b.size≤maxLen) (ht:s.thereE p=0) (hr:Ms.errM b.data.toList=0) (ids:List UInt64) (body:ByteArray) (hm:Ms.ansM b.data.toList=⟨1,ids,body⟩) (w:World) (h:NodeAt w F R s):Calls Tryz.prog 28 #[.pointer (some ⟨R,0,none⟩),.int .i64 p,.string b] w (SentN w F R (s.announce p ids,[],0)):=by
 have H:=Lib.hid h
 have HR:=Lib.hid hr
 have HT:=Lib.hid ht
 have HM:=Lib.hid hm
 have hck:Ms.checkM ⟨1,ids,body⟩=0:=by
  obtain ⟨_,h2⟩:=Ms.errM_zero hr
  have:Ms.readM b.data.toList=⟨1,ids,body⟩:=by rw [← hm];unfold Ms.ansM;rw [if_pos hr]
  rwa [this] at h2
 have hil:ids.length≤20:=by
  rcases (Ms.checkM_ok hck).2 with ⟨_,h1,_⟩ | ⟨_,_,_,h1,_⟩
  ·simp only at h1
   rw [h1]
   simp
  ·exact h1
 have hbl:body.size≤100:=Ms.check_body hck
 have hml:maxLen=9223372036854775807:=rfl
 clear h hr ht hm hck
 go_enter Tryz.func28,Tryz.ntmps28
 go_wp2_with fail
 with_reducible refine (checkThere_any p 0 HT.out _ H.out).mono ?_
 rintro e w0 ⟨rfl,rfl⟩
 go_wp2_with fail
 with_reducible refine (Ms.mdecode_all b 0 _ _ hs HR.out HM.out).mono ?_
 rintro e w1 ⟨a1,c1,rfl,_,hi1,hf1,hb1⟩
 simp only at hi1
 obtain ⟨wy,hwy⟩:∃ wy,w1.alloc (.cells #[.int .i64 1,.slice a1 ids.length c1,.string body] 113)=wy:=⟨_,rfl⟩
 have hby:Below w1.heap.size w1 wy:=hwy▸kept_new _ _
 obtain ⟨m0,m1,m2⟩:MsgBox wy w1.heap.size a1 c1 ⟨1,ids,body⟩:=hwy▸box_msg w1 a1 c1 ⟨1,ids,body⟩
 simp only at m0 m1 m2
 have l0:=(cell_spot m0).2
 have HIY:=Lib.hid (idsAt_kept hby hi1)
 have HBY:=Lib.hid (kept_trans hb1 hby)
 have HY:=Lib.hid (H.out.kept HBY.out)
 have l1:=HY.out.lt
 have hth:=H.out.there
 have HOY:Hid (∀ bb o,ids≠[]→a1=some ⟨bb,o,none⟩→¬ F bb):=Lib.hid fun bb o _ h2 hf=>by have h3:=hth bb hf;have h4:=hf1 bb o none h2;omega
 clear hby hi1 hb1 hf1 hth
 go_wp2_with fail
 with_reducible refine (announce_any p hp ids a1 c1 _ HY.out (by omega) HIY.out HOY.out).mono ?_
 rintro e w2 ⟨rfl,F2,h2,t2⟩
 have H2:=Lib.hid h2
 have T2:=Lib.hid ((Turn.of_below (F:=F) HBY.out).trans t2)
 clear h2 t2
 go_wp2_with fail
 go_ret2
 exact sent_none H2.out T2.out
set_option maxRecDepth 20000 in
set_option maxHeartbeats 1000000 in
theorem send_missing (p:Nat) (_hp:p < 8) (b:ByteArray) (hs:b.size≤maxLen) (ht:s.thereE p=0) (hr:Ms.errM b.data.toList=0) (ids:List UInt64) (body:ByteArray) (hm:Ms.ansM b.data.toList=⟨4,ids,body⟩) (w:World) (h:NodeAt w F R s):Calls Tryz.prog 28 #[.pointer (some ⟨R,0,none⟩),.int .i64 p,.string b] w (SentN w F R (s.missing p ids,[],0)):=by
 have H:=Lib.hid h
 have HR:=Lib.hid hr
 have HT:=Lib.hid ht
 have HM:=Lib.hid hm
 have hck:Ms.checkM ⟨4,ids,body⟩=0:=by
  obtain ⟨_,h2⟩:=Ms.errM_zero hr
  have:Ms.readM b.data.toList=⟨4,ids,body⟩:=by rw [← hm];unfold Ms.ansM;rw [if_pos hr]
  rwa [this] at h2
 have hil:ids.length≤20:=by
  rcases (Ms.checkM_ok hck).2 with ⟨_,h1,_⟩ | ⟨_,_,_,h1,_⟩
  ·simp only at h1
   rw [h1]
   simp
  ·exact h1
 have hbl:body.size≤100:=Ms.check_body hck
 have hml:maxLen=9223372036854775807:=rfl
 clear h hr ht hm hck
 go_enter Tryz.func28,Tryz.ntmps28
 go_wp2_with fail
 with_reducible refine (checkThere_any p 0 HT.out _ H.out).mono ?_
 rintro e w0 ⟨rfl,rfl⟩
 go_wp2_with fail
 with_reducible refine (Ms.mdecode_all b 0 _ _ hs HR.out HM.out).mono ?_
 rintro e w1 ⟨a1,c1,rfl,_,hi1,hf1,hb1⟩
 simp only at hi1
 obtain ⟨wy,hwy⟩:∃ wy,w1.alloc (.cells #[.int .i64 4,.slice a1 ids.length c1,.string body] 113)=wy:=⟨_,rfl⟩
 have hby:Below w1.heap.size w1 wy:=hwy▸kept_new _ _
 obtain ⟨m0,m1,m2⟩:MsgBox wy w1.heap.size a1 c1 ⟨4,ids,body⟩:=hwy▸box_msg w1 a1 c1 ⟨4,ids,body⟩
 simp only at m0 m1 m2
 have l0:=(cell_spot m0).2
 have HIY:=Lib.hid (idsAt_kept hby hi1)
 have HBY:=Lib.hid (kept_trans hb1 hby)
 have HY:=Lib.hid (H.out.kept HBY.out)
 have l1:=HY.out.lt
 have hth:=H.out.there
 have HOY:Hid (∀ bb o,ids≠[]→a1=some ⟨bb,o,none⟩→¬ F bb):=Lib.hid fun bb o _ h2 hf=>by have h3:=hth bb hf;have h4:=hf1 bb o none h2;omega
 clear hby hi1 hb1 hf1 hth
 go_wp2_with fail
 go_loopw [43] (fun i wr=>∃ (k:Nat) (F':Nat→Prop) (u:NS),k≤ids.length∧i=.int .i64 k∧Hid (NodeAt wr F' R u)∧Hid (Turn F F' w wr)∧Hid ((ids.drop k).foldl (fun s x=>{ s with T:=(Tr.answerC s.T p x).2 }) u=s.missing p ids)∧Hid (IdsAt wr a1 ids)∧Hid (∀ bb o,ids≠[]→a1=some ⟨bb,o,none⟩→¬ F' bb)) (fun i _=>ids.length - (intOf i).toNat)
 case atStart=>exact ⟨0,F,s,Nat.zero_le _,rfl,HY,Lib.hid (Turn.of_below HBY.out),Lib.hid rfl,HIY,HOY⟩
 case round=>
  obtain ⟨k,F4,u,hk,rfl,H4,HT4,HFO,HM4,HMO4⟩:=hrel
  by_cases hkl:k < ids.length
  ·obtain ⟨g,o,rfl,hg,hc2⟩:=HM4.out k hkl
   obtain ⟨y,hy⟩:∃ y,ids[k]=y:=⟨_,rfl⟩
   rw [hy] at hc2
   have HFN:Hid ((ids.drop (k+1)).foldl (fun s x=>{ s with T:=(Tr.answerC s.T p x).2 }) ({ u with T:=(Tr.answerC u.T p y).2 }:NS)=s.missing p ids):=Lib.hid (by rw [← HFO.out,List.drop_eq_getElem_cons hkl,List.foldl_cons,hy])
   have l4:=H4.out.lt
   have l5:g < wr.heap.size:=hg
   clear hy
   go_wp2_with fail
   with_reducible refine (n_answer p y _ H4.out).mono ?_
   rintro e w7 ⟨rfl,F7,h7,t7⟩
   obtain ⟨hm7,hmo7⟩:=out_own HM4.out t7 HMO4.out
   have H7:=Lib.hid h7
   have T7:=Lib.hid (HT4.out.trans t7)
   have HM7:=Lib.hid hm7
   have HMO7:=Lib.hid hmo7
   clear h7 t7 hm7 hmo7
   go_wp2_with fail
   go_roundw
   case rel=>exact ⟨k+1,F7,_,by omega,by go_num,H7,T7,HFN,HM7,HMO7⟩
   case measure=>simp [intOf];omega
  ·have he:ids.drop k=[]:=List.drop_eq_nil_of_le (by omega)
   have HU:Hid (u=s.missing p ids):=Lib.hid (by have:=HFO.out;rw [he] at this;exact this)
   go_wp2_with fail
   go_ret2
   rw [← HU.out]
   exact sent_none H4.out HT4.out
set_option maxRecDepth 20000 in
set_option maxHeartbeats 1000000 in
theorem send_fetch (p:Nat) (_hp:p < 8) (b:ByteArray) (hs:b.size≤maxLen) (ht:s.thereE p=0) (hr:Ms.errM b.data.toList=0) (ids:List UInt64) (body:ByteArray) (hm:Ms.ansM b.data.toList=⟨2,ids,body⟩) (w:World) (h:NodeAt w F R s):Calls Tryz.prog 28 #[.pointer (some ⟨R,0,none⟩),.int .i64 p,.string b] w (SentN w F R (s,s.fetch p ids,0)):=by
 have H:=Lib.hid h
 have HR:=Lib.hid hr
 have HT:=Lib.hid ht
 have HM:=Lib.hid hm
 have hck:Ms.checkM ⟨2,ids,body⟩=0:=by
  obtain ⟨_,h2⟩:=Ms.errM_zero hr
  have:Ms.readM b.data.toList=⟨2,ids,body⟩:=by rw [← hm];unfold Ms.ansM;rw [if_pos hr]
  rwa [this] at h2
 have hil:ids.length≤20:=by
  rcases (Ms.checkM_ok hck).2 with ⟨_,h1,_⟩ | ⟨_,_,_,h1,_⟩
  ·simp only at h1
   rw [h1]
   simp
  ·exact h1
 have hbl:body.size≤100:=Ms.check_body hck
 have hml:maxLen=9223372036854775807:=rfl
 clear h hr ht hm hck
 go_enter Tryz.func28,Tryz.ntmps28
 go_wp2_with fail
 with_reducible refine (checkThere_any p 0 HT.out _ H.out).mono ?_
 rintro e w0 ⟨rfl,rfl⟩
 go_wp2_with fail
 with_reducible refine (Ms.mdecode_all b 0 _ _ hs HR.out HM.out).mono ?_
 rintro e w1 ⟨a1,c1,rfl,_,hi1,hf1,hb1⟩
 simp only at hi1
 obtain ⟨wy,hwy⟩:∃ wy,w1.alloc (.cells #[.int .i64 2,.slice a1 ids.length c1,.string body] 113)=wy:=⟨_,rfl⟩
 have hby:Below w1.heap.size w1 wy:=hwy▸kept_new _ _
 obtain ⟨m0,m1,m2⟩:MsgBox wy w1.heap.size a1 c1 ⟨2,ids,body⟩:=hwy▸box_msg w1 a1 c1 ⟨2,ids,body⟩
 simp only at m0 m1 m2
 have l0:=(cell_spot m0).2
 have HIY:=Lib.hid (idsAt_kept hby hi1)
 have HBY:=Lib.hid (kept_trans hb1 hby)
 have HY:=Lib.hid (H.out.kept HBY.out)
 have l1:=HY.out.lt
 have hth:=H.out.there
 have HOY:Hid (∀ bb o,ids≠[]→a1=some ⟨bb,o,none⟩→¬ F bb):=Lib.hid fun bb o _ h2 hf=>by have h3:=hth bb hf;have h4:=hf1 bb o none h2;omega
 clear hby hi1 hb1 hf1 hth
 go_wp2_with fail
 with_reducible refine (fetch_any p ids a1 c1 _ HY.out (by omega) HIY.out).mono ?_
 rintro e w2 ⟨v2,rfl,ho2,hb2⟩
 have HO2:=Lib.hid ho2
 have HB2:=Lib.hid (kept_trans HBY.out hb2)
 have hth:=HY.out.there
 have HNF:Hid (∀ g,v2.ownBlock=some g→¬ F g):=Lib.hid fun g hg hf=>by have h3:=hth g hf;have h4:=(ho2.lt g hg).1;omega
 have HSZ:=Lib.hid HBY.out.size
 clear ho2 hb2 hth
 go_wp2_with fail
 go_ret2
 refine ⟨v2,F,rfl,?_,H.out.kept HB2.out,Turn.of_below HB2.out,HNF.out⟩
 have h1:=HO2.out
 exact ⟨h1.1,h1.2.imp id fun ⟨g,cap,cur,q1,q2,q3⟩=>⟨g,cap,cur,q1,Nat.le_trans HSZ.out q2,q3⟩⟩
set_option maxRecDepth 20000 in
set_option maxHeartbeats 1000000 in
theorem send_bad (p:Nat) (_hp:p < 8) (b:ByteArray) (hs:b.size≤maxLen) (ht:s.thereE p=0) (hr:Ms.errM b.data.toList=0) (ids:List UInt64) (body:ByteArray) (hm:Ms.ansM b.data.toList=⟨3,ids,body⟩) (r:Int) (hd:errD body.data.toList=r) (h0:r≠0) (w:World) (h:NodeAt w F R s):Calls Tryz.prog 28 #[.pointer (some ⟨R,0,none⟩),.int .i64 p,.string b] w (SentN w F R (s,[],r)):=by
 have H:=Lib.hid h
 have HR:=Lib.hid hr
 have HT:=Lib.hid ht
 have HM:=Lib.hid hm
 have hck:Ms.checkM ⟨3,ids,body⟩=0:=by
  obtain ⟨_,h2⟩:=Ms.errM_zero hr
  have:Ms.readM b.data.toList=⟨3,ids,body⟩:=by rw [← hm];unfold Ms.ansM;rw [if_pos hr]
  rwa [this] at h2
 have hil:ids.length≤20:=by
  rcases (Ms.checkM_ok hck).2 with ⟨_,h1,_⟩ | ⟨_,_,_,h1,_⟩
  ·simp only at h1
   rw [h1]
   simp
  ·exact h1
 have hbl:body.size≤100:=Ms.check_body hck
 have hml:maxLen=9223372036854775807:=rfl
 clear h hr ht hm hck
 go_enter Tryz.func28,Tryz.ntmps28
 go_wp2_with fail
 with_reducible refine (checkThere_any p 0 HT.out _ H.out).mono ?_
 rintro e w0 ⟨rfl,rfl⟩
 go_wp2_with fail
 with_reducible refine (Ms.mdecode_all b 0 _ _ hs HR.out HM.out).mono ?_
 rintro e w1 ⟨a1,c1,rfl,_,hi1,hf1,hb1⟩
 simp only at hi1
 obtain ⟨wy,hwy⟩:∃ wy,w1.alloc (.cells #[.int .i64 3,.slice a1 ids.length c1,.string body] 113)=wy:=⟨_,rfl⟩
 have hby:Below w1.heap.size w1 wy:=hwy▸kept_new _ _
 obtain ⟨m0,m1,m2⟩:MsgBox wy w1.heap.size a1 c1 ⟨3,ids,body⟩:=hwy▸box_msg w1 a1 c1 ⟨3,ids,body⟩
 simp only at m0 m1 m2
 have l0:=(cell_spot m0).2
 have HIY:=Lib.hid (idsAt_kept hby hi1)
 have HBY:=Lib.hid (kept_trans hb1 hby)
 have HY:=Lib.hid (H.out.kept HBY.out)
 have l1:=HY.out.lt
 have hth:=H.out.there
 have HOY:Hid (∀ bb o,ids≠[]→a1=some ⟨bb,o,none⟩→¬ F bb):=Lib.hid fun bb o _ h2 hf=>by have h3:=hth bb hf;have h4:=hf1 bb o none h2;omega
 clear hby hi1 hb1 hf1 hth
 have hrb:(r != 0)=true:=by simpa using h0
 have HD:=Lib.hid hd
 obtain ⟨dz,hdz⟩:∃ D,(if errD body.data.toList=0 then readD body.data.toList else De.zeroD)=D:=⟨_,rfl⟩
 have HDZ:=Lib.hid hdz
 clear hd hdz
 go_wp2_with fail
 with_reducible refine (decode_ans body r _ (by omega) HD.out dz HDZ.out).mono ?_
 rintro e w2 ⟨a2,c2,rfl,_,_,_,hb2⟩
 have HB2:=Lib.hid (kept_trans HBY.out (kept_trans hb2 (kept_new w2 (.cells #[.slice a2 dz.ins.length c2,.int .i64 dz.outs,.int .i64 dz.weight,.int .i64 dz.fee] 94))))
 clear hb2
 go_wp2_with fail
 go_ret2
 exact sent_none (H.out.kept HB2.out) (Turn.of_below HB2.out)
set_option maxRecDepth 20000 in
set_option maxHeartbeats 1000000 in
theorem send_bring (p:Nat) (hp:p < 8) (b:ByteArray) (hs:b.size≤maxLen) (ht:s.thereE p=0) (hr:Ms.errM b.data.toList=0) (ids:List UInt64) (body:ByteArray) (hm:Ms.ansM b.data.toList=⟨3,ids,body⟩) (hd:errD body.data.toList=0) (hl:s.A.length≤2950000000000) (w:World) (h:NodeAt w F R s):Calls Tryz.prog 28 #[.pointer (some ⟨R,0,none⟩),.int .i64 p,.string b] w (SentN w F R (s.bring p (readD body.data.toList),[],0)):=by
 have H:=Lib.hid h
 have HR:=Lib.hid hr
 have HT:=Lib.hid ht
 have HM:=Lib.hid hm
 have hck:Ms.checkM ⟨3,ids,body⟩=0:=by
  obtain ⟨_,h2⟩:=Ms.errM_zero hr
  have:Ms.readM b.data.toList=⟨3,ids,body⟩:=by rw [← hm];unfold Ms.ansM;rw [if_pos hr]
  rwa [this] at h2
 have hil:ids.length≤20:=by
  rcases (Ms.checkM_ok hck).2 with ⟨_,h1,_⟩ | ⟨_,_,_,h1,_⟩
  ·simp only at h1
   rw [h1]
   simp
  ·exact h1
 have hbl:body.size≤100:=Ms.check_body hck
 have hml:maxLen=9223372036854775807:=rfl
 clear h hr ht hm hck
 go_enter Tryz.func28,Tryz.ntmps28
 go_wp2_with fail
 with_reducible refine (checkThere_any p 0 HT.out _ H.out).mono ?_
 rintro e w0 ⟨rfl,rfl⟩
 go_wp2_with fail
 with_reducible refine (Ms.mdecode_all b 0 _ _ hs HR.out HM.out).mono ?_
 rintro e w1 ⟨a1,c1,rfl,_,hi1,hf1,hb1⟩
 simp only at hi1
 obtain ⟨wy,hwy⟩:∃ wy,w1.alloc (.cells #[.int .i64 3,.slice a1 ids.length c1,.string body] 113)=wy:=⟨_,rfl⟩
 have hby:Below w1.heap.size w1 wy:=hwy▸kept_new _ _
 obtain ⟨m0,m1,m2⟩:MsgBox wy w1.heap.size a1 c1 ⟨3,ids,body⟩:=hwy▸box_msg w1 a1 c1 ⟨3,ids,body⟩
 simp only at m0 m1 m2
 have l0:=(cell_spot m0).2
 have HIY:=Lib.hid (idsAt_kept hby hi1)
 have HBY:=Lib.hid (kept_trans hb1 hby)
 have HY:=Lib.hid (H.out.kept HBY.out)
 have l1:=HY.out.lt
 have hth:=H.out.there
 have HOY:Hid (∀ bb o,ids≠[]→a1=some ⟨bb,o,none⟩→¬ F bb):=Lib.hid fun bb o _ h2 hf=>by have h3:=hth bb hf;have h4:=hf1 bb o none h2;omega
 clear hby hi1 hb1 hf1 hth
 have HD:=Lib.hid hd
 have hck:=errD_check hd
 obtain ⟨d,hdd⟩:∃ d,readD body.data.toList=d:=⟨_,rfl⟩
 have HDZ:Hid ((if errD body.data.toList=0 then readD body.data.toList else De.zeroD)=d):=Lib.hid (by rw [if_pos hd];exact hdd)
 rw [hdd] at hck
 have HCK:=Lib.hid hck
 have HDD:=Lib.hid hdd
 clear hd hdd hck
 go_wp2_with fail
 with_reducible refine (decode_ans body 0 _ (by omega) HD.out d HDZ.out).mono ?_
 rintro e w2 ⟨a2,c2,rfl,_,hi2,hf2,hb2⟩
 obtain ⟨wz,hwz⟩:∃ wz,w2.alloc (.cells #[.slice a2 d.ins.length c2,.int .i64 d.outs,.int .i64 d.weight,.int .i64 d.fee] 94)=wz:=⟨_,rfl⟩
 have hbz:Below w2.heap.size w2 wz:=hwz▸kept_new _ _
 obtain ⟨y0,y1,y2,y3⟩:DeedBox wz w2.heap.size a2 c2 d:=hwz▸box_deed w2 a2 c2 d
 have l2:=(cell_spot y0).2
 have HIZ:=Lib.hid (insAt_kept hbz hi2)
 have hbb:=kept_trans HBY.out (kept_trans hb2 hbz)
 have HBZ:=Lib.hid hbb
 have HZ:=Lib.hid (H.out.kept hbb)
 have hth:=HY.out.there
 have HOZ:Hid (∀ bb o,d.ins≠[]→a2=some ⟨bb,o,none⟩→¬ F bb):=Lib.hid fun bb o _ h2 hf=>by have h3:=hth bb hf;have h4:=hf2 bb o none h2;omega
 clear hbz hi2 hb2 hf2 hth hbb
 go_wp2_with fail
 with_reducible refine (bring_any p hp d HCK.out a2 c2 hl _ HZ.out HIZ.out HOZ.out).mono ?_
 rintro e w3 ⟨rfl,F3,h3,t3⟩
 have H3:=Lib.hid h3
 have T3:=Lib.hid ((Turn.of_below (F:=F) HBZ.out).trans t3)
 clear h3 t3
 go_wp2_with fail
 go_ret2
 rw [HDD.out]
 exact sent_none H3.out T3.out
theorem send_any (p:Int) (b:ByteArray) (hs:b.size≤maxLen) (hl:s.A.length≤2950000000000) (q:NS × List OutD × Int) (hq:s.send p b=q) (w:World) (h:NodeAt w F R s):Calls Tryz.prog 28 #[.pointer (some ⟨R,0,none⟩),.int .i64 p,.string b] w (SentN w F R q):=by
 subst hq
 unfold NS.send
 by_cases ht:s.thereE p=0
 ·rw [if_neg (not_not_intro ht)]
  obtain ⟨n,rfl,hn,_⟩:=there_zero ht
  by_cases hr:Ms.errM b.data.toList=0
  ·rw [if_neg (not_not_intro hr)]
   obtain ⟨kd,ids,body,hm⟩:∃ kd ids body,Ms.ansM b.data.toList=⟨kd,ids,body⟩:=⟨_,_,_,rfl⟩
   have hwk:within kd 1 4=true:=by
    obtain ⟨_,h2⟩:=Ms.errM_zero hr
    have:Ms.readM b.data.toList=⟨kd,ids,body⟩:=by rw [← hm];unfold Ms.ansM;rw [if_pos hr]
    rw [this] at h2
    exact (Ms.checkM_ok h2).1
   simp only [hm,Int.toNat_natCast]
   rcases Ms.within_known hwk with rfl | rfl | rfl | rfl
   ·rw [if_pos rfl]
    exact send_announce n hn b hs ht hr ids body hm w h
   ·rw [if_neg (by decide),if_neg (by decide),if_pos rfl]
    exact send_fetch n hn b hs ht hr ids body hm w h
   ·rw [if_neg (by decide),if_neg (by decide),if_neg (by decide)]
    by_cases hd:errD body.data.toList=0
    ·rw [if_neg (not_not_intro hd)]
     exact send_bring n hn b hs ht hr ids body hm hd hl w h
    ·rw [if_pos hd]
     exact send_bad n hn b hs ht hr ids body hm _ rfl hd w h
   ·rw [if_neg (by decide),if_pos rfl]
    exact send_missing n hn b hs ht hr ids body hm w h
  ·rw [if_pos hr]
   exact send_form n b hs _ ht rfl hr w h
 ·rw [if_pos ht]
  exact send_there p b _ rfl ht w h
end Go.Proofs.YtlboemhbealnmaaGreat
