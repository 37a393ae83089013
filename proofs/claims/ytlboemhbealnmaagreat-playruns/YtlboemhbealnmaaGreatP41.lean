import Derived.Test.YtlboemhbealnmaaGreatP19
import Derived.Test.YtlboemhbealnmaaGreatP20
import Derived.Test.YtlboemhbealnmaaGreatP39
set_option maxRecDepth 20000
namespace Go.Proofs.YtlboemhbealnmaaGreat.Ms
open Go.RowKit Go.Maps
theorem ansM_err {l:List UInt8} {r:Int} (h:errM l=r) (hr:r≠0):ansM l=zeroM:=by unfold ansM;rw [if_neg (by rw [h];exact hr)]
theorem rdecode_all (s:ByteArray) (r:Int) (X:MsgD) (w:World) (hs:s.size≤maxLen) (h:errM s.data.toList=r) (hX:ansM s.data.toList=X):Calls Tryz.prog 58 #[.string s] w (GaveM w X r):=by
 have hlen:=len_eq s
 by_cases hf:formM s.data.toList=0
 ·obtain ⟨h0,h1,h2⟩:=formM_zero hf
  have hp:0 < s.size:=by omega
  have hk:=kind_at s hp
  rw [hk] at h1 h2
  have hc:checkM (readM s.data.toList)=r:=by rw [← h];unfold errM;rw [if_neg (by simp [hf])]
  have hX':X=if r=0 then readM s.data.toList else zeroM:=by rw [← hX];unfold ansM;rw [h]
  by_cases h3:(s[0].toNat:Int)=3
  ·refine rdecode_bring s r _ X w hp h3 ?_ hc hX'
   unfold readM
   rw [hk,if_pos h3]
   congr 1
   apply ByteArray.ext
   apply Array.toList_inj.1
   rw [extract_end _ _ _ rfl]
  ·have hl:=h2 h3
   rw [hlen] at hl
   have hp1:1 < s.size:=by omega
   rw [getD_at s 1 hp1] at hl
   refine rdecode_ids s _ r _ X w hp1 h1 h3 rfl hl ?_ hc hX'
   unfold readM
   rw [hk,if_neg h3,getD_at s 1 hp1]
 ·have he:formM s.data.toList=r:=by rw [← h];unfold errM;rw [if_pos hf]
  have hr:r≠0:=by rw [← he];exact hf
  rw [ansM_err h hr] at hX
  subst hX
  clear h
  by_cases h0:s.size=0
  ·have:r=3:=by rw [← he];unfold formM;rw [hlen,if_pos h0]
   subst this
   exact rdecode_none s w h0
  ·have hp:0 < s.size:=by omega
   have hk:=kind_at s hp
   unfold formM at he
   rw [hlen,if_neg h0,hk] at he
   by_cases hw:within (s[0].toNat:Int) 1 4=false
   ·rw [if_pos hw] at he
    subst he
    exact rdecode_kind s w hp hw
   ·rw [if_neg hw] at he
    rw [Bool.not_eq_false] at hw
    by_cases h3:(s[0].toNat:Int)=3
    ·rw [if_pos h3] at he
     exact absurd he.symm hr
    ·rw [if_neg h3] at he
     by_cases h2:s.size < 2
     ·rw [if_pos h2] at he
      subst he
      exact rdecode_one s w hp (by omega) hw h3
     ·rw [if_neg h2,getD_at s 1 (by omega)] at he
      by_cases h4:s.size < 2+8 * s[1].toNat
      ·rw [if_pos h4] at he
       subst he
       exact rdecode_short s w hs (by omega) hw h3 h4
      ·rw [if_neg h4] at he
       by_cases h5:2+8 * s[1].toNat < s.size
       ·rw [if_pos h5] at he
        subst he
        exact rdecode_long s w hs (by omega) hw h3 h5
       ·rw [if_neg h5] at he
        exact absurd he.symm hr
end Go.Proofs.YtlboemhbealnmaaGreat.Ms
namespace Go.Proofs.YtlboemhbealnmaaGreat.De
open Go.RowKit Go.Maps
def ansD (l:List UInt8):DeedD:=if errD l=0 then readD l else zeroD
theorem err_zero {l:List UInt8} (h:errD l=0):formD l=0∧checkD (readD l)=0:=by
 unfold errD at h
 split at h
 ·rename_i hh;exact absurd h hh
 ·rename_i hh;exact ⟨by simpa using hh,h⟩
theorem refDecode_all (s:ByteArray) (r:Int) (X:DeedD) (w:World) (hs:s.size≤maxLen) (h:errD s.data.toList=r) (hX:ansD s.data.toList=X):Calls Tryz.prog 66 #[.string s] w (GaveBoth w X r):=by
 by_cases hf:formD s.data.toList=0
 ·obtain ⟨h0,hsz⟩:=form_zero hf
  have hln:s.data.toList.length=s.size:=by simp
  have hp:1 < s.size:=by omega
  rw [getD_at s 1 hp,hln] at hsz
  rw [getD_at s 0 (by omega)] at h0
  have hc:errD s.data.toList=checkD (readD s.data.toList):=by unfold errD;rw [if_neg (by simp [hf])]
  refine refDecode_read s _ _ r w hp h0 rfl hsz rfl (hc.symm.trans h) X ?_
  rw [← hX]
  unfold ansD
  rw [h]
 ·have hc:errD s.data.toList=formD s.data.toList:=by unfold errD;rw [if_pos hf]
  have hr:r≠0:=by rw [← h,hc];exact hf
  have hX':X=zeroD:=by rw [← hX];unfold ansD;rw [if_neg (by rw [h];exact hr)]
  subst hX'
  exact refDecode_form s r w hs (hc.symm.trans h) hr
end Go.Proofs.YtlboemhbealnmaaGreat.De
set_option maxRecDepth 20000
namespace Go.Proofs.YtlboemhbealnmaaGreat
open Go.RowKit Go.Maps
variable {w w':World} {G G':Nat→Prop} {B:Nat} {s:NS}
set_option maxRecDepth 20000 in
theorem rout_any (p:Nat) (m:Ms.MsgD) (a:Option Addr) (cap:Nat) (hc:m.ids.length≤cap) (w:World) (hi:IdsAt w a m.ids) :
  Calls Tryz.prog 64 #[.int .i64 p,.agg #[.int .i64 m.kind,.slice a m.ids.length cap,.string m.body]] w fun e w'=>∃ v,e=.returned v∧OwnOuts w' w.heap.size v (message p m)∧Below w.heap.size w w':=by
 obtain ⟨wb,hwb⟩:∃ wb,w.alloc (.cells #[.int .i64 m.kind,.slice a m.ids.length cap,.string m.body] 113)=wb:=⟨_,rfl⟩
 have hk0:Below w.heap.size w wb:=hwb▸kept_new _ _
 have b0:wb.cell? ⟨w.heap.size,0,none⟩=some (.int .i64 m.kind):=by rw [← hwb];simp [go_sem]
 have b1:wb.cell? ⟨w.heap.size,1,none⟩=some (.slice a m.ids.length cap):=by rw [← hwb];simp [go_sem]
 have b2:wb.cell? ⟨w.heap.size,2,none⟩=some (.string m.body):=by rw [← hwb];simp [go_sem]
 have l0:=(cell_spot b0).2
 have HI:=Lib.hid (idsAt_kept hk0 hi)
 have HK:=Lib.hid hk0
 clear hk0 hi
 by_cases h:Ms.checkM m=0
 ·obtain ⟨E,hE⟩:∃ E,Ms.ansE m=E:=⟨_,rfl⟩
  have HE:=Lib.hid hE
  have HC:=Lib.hid h
  clear h hE
  go_enter Tryz.func64,Tryz.ntmps64
  go_wp2_with fail
  with_reducible refine (Ms.rencode_all m a cap _ 0 E hc HI.out HC.out HE.out).mono ?_
  rintro e w1 ⟨rfl,hb1⟩
  have HB1:=Lib.hid (kept_trans HK.out hb1)
  clear hb1
  go_wp2_with fail
  go_ret
  refine ⟨_,rfl,?_,kept_alloc HB1.out _⟩
  unfold message
  rw [if_pos HC.out,← Ms.ansE_ok HC.out,HE.out]
  have hs:=HB1.out.size
  exact ⟨rfl,.inr ⟨w1.heap.size,1,#[.int .i64 p,.string E],rfl,hs,heap_alloc_new w1 _,Nat.le_refl _,by decide,rfl,rfl⟩⟩
 ·obtain ⟨r,hr⟩:∃ r,Ms.checkM m=r:=⟨_,rfl⟩
  have h0:r≠0:=fun e=>h (by rw [hr];exact e)
  obtain ⟨E,hE⟩:∃ E,Ms.ansE m=E:=⟨_,rfl⟩
  have HE:=Lib.hid hE
  have HC:=Lib.hid hr
  have HN:=Lib.hid h
  clear h hr hE
  go_enter Tryz.func64,Tryz.ntmps64
  go_wp2_with fail
  with_reducible refine (Ms.rencode_all m a cap _ r E hc HI.out HC.out HE.out).mono ?_
  rintro e w1 ⟨rfl,hb1⟩
  have HB1:=Lib.hid (kept_trans HK.out hb1)
  have hrb:(r != 0)=true:=by simpa using h0
  clear hb1
  go_wp2_with fail
  go_ret
  refine ⟨_,rfl,?_,HB1.out⟩
  unfold message
  rw [if_neg HN.out]
  exact outs_nil _ _
def SentR (w:World) (G:Nat→Prop) (B:Nat) (q:NS × List OutD × Int) (e:Ending) (w':World):Prop:=
 ∃ v G',e=.returned (.tuple #[v,.int .i64 q.2.2])∧OwnOuts w' w.heap.size v q.2.1∧RN w' G' B q.1∧Gain B G G' w w'
theorem rsent_none {r:Int} {s':NS} (h:RN w' G' B s') (ht:Gain B G G' w w'):SentR w G B (s',[],r) (.returned (.tuple #[.slice none 0 0,.int .i64 r])) w':=
 ⟨.slice none 0 0,G',rfl,outs_nil _ _,h,ht⟩
set_option maxRecDepth 20000 in
theorem rsend_there (p:Int) (b:ByteArray) (r:Int) (hr:s.thereE p=r) (h0:r≠0) (w:World) (h:RN w G B s):Calls Tryz.prog 32 #[.pointer (some ⟨B,0,none⟩),.int .i64 p,.string b] w (SentR w G B (s,[],r)):=by
 have H:=Lib.hid h
 have HR:=Lib.hid hr
 have hrb:(r != 0)=true:=by simpa using h0
 clear h hr
 go_enter Tryz.func32,Tryz.ntmps32
 go_wp2_with fail
 with_reducible refine (rthere_any p r HR.out _ H.out).mono ?_
 rintro e w0 ⟨rfl,rfl⟩
 go_wp2_with fail
 go_ret2
 exact rsent_none H.out (Gain.refl _ _)
set_option maxRecDepth 20000 in
theorem rsend_form (p:Int) (b:ByteArray) (hs:b.size≤maxLen) (r:Int) (ht:s.thereE p=0) (hr:Ms.errM b.data.toList=r) (h0:r≠0) (w:World) (h:RN w G B s):Calls Tryz.prog 32 #[.pointer (some ⟨B,0,none⟩),.int .i64 p,.string b] w (SentR w G B (s,[],r)):=by
 have H:=Lib.hid h
 have HR:=Lib.hid hr
 have HT:=Lib.hid ht
 have hrb:(r != 0)=true:=by simpa using h0
 obtain ⟨m,hm⟩:∃ m,Ms.ansM b.data.toList=m:=⟨_,rfl⟩
 have HM:=Lib.hid hm
 clear h hr ht hm
 go_enter Tryz.func32,Tryz.ntmps32
 go_wp2_with fail
 with_reducible refine (rthere_any p 0 HT.out _ H.out).mono ?_
 rintro e w0 ⟨rfl,rfl⟩
 go_wp2_with fail
 with_reducible refine (Ms.rdecode_all b r m _ hs HR.out HM.out).mono ?_
 rintro e w1 ⟨a1,c1,rfl,_,_,_,hb1⟩
 have HB:=Lib.hid hb1
 clear hb1
 go_wp2_with fail
 go_ret2
 exact rsent_none (H.out.kept (kept_trans HB.out (kept_new _ _))) (Gain.of_below (kept_trans HB.out (kept_new _ _)))
theorem msg_small {b:ByteArray} {kd:Int} {ids:List UInt64} {body:ByteArray} (hr:Ms.errM b.data.toList=0) (hm:Ms.ansM b.data.toList=⟨kd,ids,body⟩):ids.length≤20∧body.size≤100:=by
 have hck:Ms.checkM ⟨kd,ids,body⟩=0:=by
  obtain ⟨_,h2⟩:=Ms.errM_zero hr
  have:Ms.readM b.data.toList=⟨kd,ids,body⟩:=by rw [← hm];unfold Ms.ansM;rw [if_pos hr]
  rwa [this] at h2
 refine ⟨?_,Ms.check_body hck⟩
 rcases (Ms.checkM_ok hck).2 with ⟨_,h1,_⟩ | ⟨_,_,_,h1,_⟩
 ·simp only at h1
  rw [h1]
  simp
 ·exact h1
theorem known_parts {u:NS} {x:UInt64}:u.knows x=((Ju.findL u.A x).isSome || (Ho.deedOf u.P x).isSome || u.W.has x || u.Q.has x):=rfl
theorem hasA_any {wr:World} {G1:Nat→Prop} {u:NS} (h:RN wr G1 B u) (hn:u.A.length≤2932031007402) (x:UInt64) (r:Bool) (hr:(Ju.findL u.A x).isSome=r) {la:Option Addr} {ll lc:Nat} (hc:wr.cell? ⟨B,3,none⟩=some (.slice la ll lc)) :
  Calls Tryz.prog 59 #[.agg #[.slice la ll lc],.int .u64 x.toNat] wr fun e w'=>e=.returned (.bool r)∧Below wr.heap.size wr w':=by
 obtain ⟨a',c',l,hc',hl,hrow⟩:=h.led
 rw [hc] at hc'
 simp only [Option.some.injEq,Value.slice.injEq] at hc'
 obtain ⟨rfl,rfl,rfl⟩:=hc'
 rw [← hl] at hr hn
 rw [Ju.dOf_len] at hn
 exact Ju.refHasJ_any x _ wr hrow hn r hr
set_option maxRecDepth 20000 in
set_option maxHeartbeats 2000000 in
theorem rsend_announce (p:Nat) (hp:p < 8) (b:ByteArray) (hs:b.size≤maxLen) (ht:s.thereE p=0) (hr:Ms.errM b.data.toList=0) (ids:List UInt64) (body:ByteArray) (hm:Ms.ansM b.data.toList=⟨1,ids,body⟩) (hA:s.A.length≤2932031007402) (w:World) (h:RN w G B s):Calls Tryz.prog 32 #[.pointer (some ⟨B,0,none⟩),.int .i64 p,.string b] w (SentR w G B (s.announce p ids,[],0)):=by
 obtain ⟨hil,hbl⟩:=msg_small hr hm
 have H:=Lib.hid h
 have HR:=Lib.hid hr
 have HT:=Lib.hid ht
 have HM:=Lib.hid hm
 have hml:maxLen=9223372036854775807:=rfl
 obtain ⟨t,hat⟩:∃ t,s.annAt p=t:=⟨_,rfl⟩
 have HAT:=Lib.hid hat
 clear h hr ht hm hat
 go_enter Tryz.func32,Tryz.ntmps32
 go_wp2_with fail
 with_reducible refine (rthere_any p 0 HT.out _ H.out).mono ?_
 rintro e w0 ⟨rfl,rfl⟩
 go_wp2_with fail
 with_reducible refine (Ms.rdecode_all b 0 _ _ hs HR.out HM.out).mono ?_
 rintro e w1 ⟨a1,c1,rfl,_,hi1,hf1,hb1⟩
 simp only at hi1
 obtain ⟨wy,hwy⟩:∃ wy,w1.alloc (.cells #[.int .i64 1,.slice a1 ids.length c1,.string body] 113)=wy:=⟨_,rfl⟩
 have hby:Below w1.heap.size w1 wy:=hwy▸kept_new _ _
 obtain ⟨m0,m1,m2⟩:MsgBox wy w1.heap.size a1 c1 ⟨1,ids,body⟩:=hwy▸box_msg w1 a1 c1 ⟨1,ids,body⟩
 simp only at m0 m1 m2
 have l0:=(cell_spot m0).2
 have HIY:=Lib.hid (idsAt_kept hby hi1)
 have HBY:=Lib.hid (kept_trans hb1 hby)
 have HY:=Lib.hid (H.out.kept HBY.out)
 have l1:=HY.out.lt
 have HOY:Hid (∀ bb o,ids≠[]→a1=some ⟨bb,o,none⟩→bb≠B):=Lib.hid fun bb o _ h2 hf=>by have h3:=H.out.lt;have h4:=hf1 bb o none h2;omega
 obtain ⟨p6,_⟩:=HY.out.peerc p hp
 obtain ⟨n6,_⟩:=HY.out.nowc
 have hth:(s.peers p).1=true:=by
  obtain ⟨n,e,_,h3⟩:=there_zero HT.out
  have:n=p:=by omega
  rw [this] at h3
  exact h3
 have hst:=stand_two hth
 have hng:=HY.out.good.now
 obtain ⟨sp,hsp⟩:∃ sp,stand (s.peers p)=sp:=⟨_,rfl⟩
 obtain ⟨nw,hnw⟩:∃ nw,s.now=nw:=⟨_,rfl⟩
 rw [hsp] at hst p6
 rw [hnw] at n6 hng
 obtain ⟨hng0,hng1⟩:=hng
 have HTN:Hid (t=if (s.peers p).2 then nw else min (nw+3) 1099511627776):=Lib.hid (by rw [← HAT.out,← hnw];rfl)
 have hp8:(p:Int) < 8:=by omega
 have hp0:(0:Int)≤(p:Int):=by omega
 clear hby hi1 hb1 hf1 hth hsp hnw
 cases hpf:(s.peers p).2
 case' true=>
  have hE:nw=t:=by have:=HTN.out;rw [hpf] at this;exact this.symm
  rw [hpf] at hst
  rw [hE] at n6
  clear hE HTN
  go_wp2_with fail
 case' false=>
  have hE:min (nw+3) 1099511627776=t:=by have:=HTN.out;rw [hpf] at this;exact this.symm
  rw [hpf] at hst
  by_cases hlt:(1099511627776:Int) < nw+3
  case' pos=>
   obtain rfl:t=1099511627776:=by omega
   clear hE HTN
   go_wp2_with fail
  case' neg=>
   obtain rfl:t=nw+3:=by omega
   clear hE HTN
   go_wp2_with fail
 all_goals
  have HSB:=Lib.hid hpf
  clear hpf
  go_loopw [66] (fun i wr=>∃ (k:Nat) (G1:Nat→Prop) (u:NS),k≤ids.length∧i=.int .i64 k∧Hid (RN wr G1 B u)∧Hid (Gain B G G1 w wr)∧Hid ((ids.drop k).foldl (fun s m=>s.announce1 p m) u=s.announce p ids)∧Hid (u.now=s.now∧u.peers=s.peers∧u.A=s.A)∧Hid (IdsAt wr a1 ids)) (fun i _=>ids.length - (intOf i).toNat)
  case atStart=>exact ⟨0,G,s,Nat.zero_le _,rfl,HY,Lib.hid (Gain.of_below HBY.out),Lib.hid rfl,Lib.hid ⟨rfl,rfl,rfl⟩,HIY⟩
  case round=>
   obtain ⟨k,G4,u,hk,rfl,H4,HT4,HFO,HS,HM4⟩:=hrel
   by_cases hkl:k < ids.length
   ·obtain ⟨g,o,rfl,hg,hc2⟩:=HM4.out k hkl
    obtain ⟨y,hy⟩:∃ y,ids[k]=y:=⟨_,rfl⟩
    rw [hy] at hc2
    have HFN:Hid ((ids.drop (k+1)).foldl (fun s m=>s.announce1 p m) (u.announce1 p y)=s.announce p ids):=Lib.hid (by rw [← HFO.out,List.drop_eq_getElem_cons hkl,List.foldl_cons,hy])
    have HUN:Hid (u.knows y=true→(ids.drop (k+1)).foldl (fun s m=>s.announce1 p m) u=s.announce p ids):=Lib.hid (fun hkn=>by have:=HFN.out;rw [ann1_known hkn] at this;exact this)
    have HUA:Hid (u.A.length≤2932031007402):=Lib.hid (by rw [HS.out.2.2];exact hA)
    obtain ⟨la,lc,ll,h3,_,_⟩:=H4.out.led
    have l4:=H4.out.lt
    have l5:g < wr.heap.size:=hg
    clear hy
    cases hkA:(Ju.findL u.A y).isSome with
    | true=>
     have HKA:=Lib.hid hkA
     have HKN:Hid (u.knows y=true):=Lib.hid (by rw [known_parts,hkA];rfl)
     clear hkA
     go_wp2_with fail
     with_reducible refine (hasA_any H4.out HUA.out y true HKA.out h3).mono ?_
     rintro e w5 ⟨rfl,hb5⟩
     have HB5:=Lib.hid hb5
     clear hb5
     go_wp2_with fail
     go_roundw
     case rel=>exact ⟨k+1,G4,u,by omega,by go_num,Lib.hid (H4.out.kept HB5.out),Lib.hid (HT4.out.trans (Gain.of_below HB5.out)),Lib.hid (HUN.out HKN.out),HS,Lib.hid (idsAt_kept HB5.out HM4.out)⟩
     case measure=>simp [intOf];omega
    | false=>
     have HKA:=Lib.hid hkA
     go_wp2_with fail
     with_reducible refine (hasA_any H4.out HUA.out y false HKA.out h3).mono ?_
     rintro e w5 ⟨rfl,hb5⟩
     have H5:=Lib.hid (H4.out.kept hb5)
     have l6:=H5.out.lt
     have HB5:=Lib.hid hb5
     clear hb5
     cases hkP:(Ho.deedOf u.P y).isSome with
     | true=>
      have HKP:=Lib.hid hkP
      have HKN:Hid (u.knows y=true):=Lib.hid (by rw [known_parts,hkA,hkP];rfl)
      clear hkA hkP
      go_wp2_with fail
      with_reducible refine (r_hasP y true HKP.out _ H5.out).mono ?_
      rintro e w6 ⟨rfl,hb6⟩
      have HB6:=Lib.hid (kept_trans HB5.out hb6)
      clear hb6
      go_wp2_with fail
      go_roundw
      case rel=>exact ⟨k+1,G4,u,by omega,by go_num,Lib.hid (H4.out.kept HB6.out),Lib.hid (HT4.out.trans (Gain.of_below HB6.out)),Lib.hid (HUN.out HKN.out),HS,Lib.hid (idsAt_kept HB6.out HM4.out)⟩
      case measure=>simp [intOf];omega
     | false=>
      have HKP:=Lib.hid hkP
      go_wp2_with fail
      with_reducible refine (r_hasP y false HKP.out _ H5.out).mono ?_
      rintro e w6 ⟨rfl,hb6⟩
      have HB6:=Lib.hid (kept_trans HB5.out hb6)
      have H6:=Lib.hid (H4.out.kept HB6.out)
      have l7:=H6.out.lt
      clear hb6
      cases hkW:u.W.has y with
      | true=>
       have HKW:=Lib.hid hkW
       have HKN:Hid (u.knows y=true):=Lib.hid (by rw [known_parts,hkA,hkP,hkW];rfl)
       clear hkA hkP hkW
       go_wp2_with fail
       with_reducible refine (r_hasW y true HKW.out _ H6.out).mono ?_
       rintro e w7 ⟨rfl,rfl⟩
       go_wp2_with fail
       go_roundw
       case rel=>exact ⟨k+1,G4,u,by omega,by go_num,H6,Lib.hid (HT4.out.trans (Gain.of_below HB6.out)),Lib.hid (HUN.out HKN.out),HS,Lib.hid (idsAt_kept HB6.out HM4.out)⟩
       case measure=>simp [intOf];omega
      | false=>
       have HKW:=Lib.hid hkW
       cases hkQ:u.Q.has y with
       | true=>
        have HKQ:=Lib.hid hkQ
        have HKN:Hid (u.knows y=true):=Lib.hid (by rw [known_parts,hkA,hkP,hkW,hkQ];rfl)
        clear hkA hkP hkW hkQ
        go_wp2_with fail
        with_reducible refine (r_hasW y false HKW.out _ H6.out).mono ?_
        rintro e w7 ⟨rfl,rfl⟩
        go_wp2_with fail
        with_reducible refine (r_hasQ y true HKQ.out _ H6.out).mono ?_
        rintro e w8 ⟨rfl,rfl⟩
        go_wp2_with fail
        go_roundw
        case rel=>exact ⟨k+1,G4,u,by omega,by go_num,H6,Lib.hid (HT4.out.trans (Gain.of_below HB6.out)),Lib.hid (HUN.out HKN.out),HS,Lib.hid (idsAt_kept HB6.out HM4.out)⟩
        case measure=>simp [intOf];omega
       | false=>
        have HKQ:=Lib.hid hkQ
        have HW:Hid (u.announce1 p y={ u with T:=(Tr.annC u.T p y (s.annAt p) (s.peers p).2).2 }):=Lib.hid (by
         rw [ann1_new (by rw [known_parts,hkA,hkP,hkW,hkQ];rfl)]
         have e1:=annAt_same (s:=s) (p:=p) HS.out.1 HS.out.2.1
         unfold NS.annAt at e1
         have e2:s.annAt p=if (s.peers p).2 then s.now else s.later 3:=rfl
         rw [e1,e2,HS.out.2.1])
        rw [HSB.out,HAT.out] at HW
        clear hkA hkP hkW hkQ
        go_wp2_with fail
        with_reducible refine (r_hasW y false HKW.out _ H6.out).mono ?_
        rintro e w7 ⟨rfl,rfl⟩
        go_wp2_with fail
        with_reducible refine (r_hasQ y false HKQ.out _ H6.out).mono ?_
        rintro e w8 ⟨rfl,rfl⟩
        go_wp2_with fail
        with_reducible refine (r_announce p y _ _ _ H6.out).mono ?_
        rintro e w9 ⟨rfl,G9,h9,t9⟩
        have H9:=Lib.hid h9
        have T9:=Lib.hid ((HT4.out.trans (Gain.of_below HB6.out)).trans t9)
        have HM9:=Lib.hid (gain_ids (idsAt_kept HB6.out HM4.out) t9 HOY.out)
        clear h9 t9
        go_wp2_with fail
        go_roundw
        case rel=>exact ⟨k+1,G9,_,by omega,by go_num,H9,T9,Lib.hid (by have:=HFN.out;rw [HW.out] at this;exact this),HS,HM9⟩
        case measure=>simp [intOf];omega
   ·have he:ids.drop k=[]:=List.drop_eq_nil_of_le (by omega)
    have HU:Hid (u=s.announce p ids):=Lib.hid (by have:=HFO.out;rw [he] at this;exact this)
    go_wp2_with fail
    go_ret2
    rw [← HU.out]
    exact rsent_none H4.out HT4.out
set_option maxRecDepth 20000 in
set_option maxHeartbeats 2000000 in
theorem rsend_missing (p:Nat) (b:ByteArray) (hs:b.size≤maxLen) (ht:s.thereE p=0) (hr:Ms.errM b.data.toList=0) (ids:List UInt64) (body:ByteArray) (hm:Ms.ansM b.data.toList=⟨4,ids,body⟩) (w:World) (h:RN w G B s):Calls Tryz.prog 32 #[.pointer (some ⟨B,0,none⟩),.int .i64 p,.string b] w (SentR w G B (s.missing p ids,[],0)):=by
 obtain ⟨hil,hbl⟩:=msg_small hr hm
 have H:=Lib.hid h
 have HR:=Lib.hid hr
 have HT:=Lib.hid ht
 have HM:=Lib.hid hm
 have hml:maxLen=9223372036854775807:=rfl
 obtain ⟨pn,hpn,hp,_⟩:=there_zero ht
 obtain rfl:pn=p:=by omega
 clear h hr ht hm hpn
 go_enter Tryz.func32,Tryz.ntmps32
 go_wp2_with fail
 with_reducible refine (rthere_any pn 0 HT.out _ H.out).mono ?_
 rintro e w0 ⟨rfl,rfl⟩
 go_wp2_with fail
 with_reducible refine (Ms.rdecode_all b 0 _ _ hs HR.out HM.out).mono ?_
 rintro e w1 ⟨a1,c1,rfl,_,hi1,hf1,hb1⟩
 simp only at hi1
 obtain ⟨wy,hwy⟩:∃ wy,w1.alloc (.cells #[.int .i64 4,.slice a1 ids.length c1,.string body] 113)=wy:=⟨_,rfl⟩
 have hby:Below w1.heap.size w1 wy:=hwy▸kept_new _ _
 obtain ⟨m0,m1,m2⟩:MsgBox wy w1.heap.size a1 c1 ⟨4,ids,body⟩:=hwy▸box_msg w1 a1 c1 ⟨4,ids,body⟩
 simp only at m0 m1 m2
 have l0:=(cell_spot m0).2
 have HIY:=Lib.hid (idsAt_kept hby hi1)
 have HBY:=Lib.hid (kept_trans hb1 hby)
 have HY:=Lib.hid (H.out.kept HBY.out)
 have l1:=HY.out.lt
 have HOY:Hid (∀ bb o,ids≠[]→a1=some ⟨bb,o,none⟩→bb≠B):=Lib.hid fun bb o _ h2 hf=>by have h3:=H.out.lt;have h4:=hf1 bb o none h2;omega
 obtain ⟨p6,_⟩:=HY.out.peerc pn hp
 have hp8:(pn:Int) < 8:=by omega
 have hp0:(0:Int)≤(pn:Int):=by omega
 clear hby hi1 hb1 hf1
 go_wp2_with fail
 go_loopw [191] (fun i wr=>∃ (k:Nat) (G1:Nat→Prop) (u:NS),k≤ids.length∧i=.int .i64 k∧Hid (RN wr G1 B u)∧Hid (Gain B G G1 w wr)∧Hid ((ids.drop k).foldl (fun s x=>{ s with T:=(Tr.answerC s.T pn x).2 }) u=s.missing pn ids)∧Hid (IdsAt wr a1 ids)) (fun i _=>ids.length - (intOf i).toNat)
 case atStart=>exact ⟨0,G,s,Nat.zero_le _,rfl,HY,Lib.hid (Gain.of_below HBY.out),Lib.hid rfl,HIY⟩
 case round=>
  obtain ⟨k,G4,u,hk,rfl,H4,HT4,HFO,HM4⟩:=hrel
  by_cases hkl:k < ids.length
  ·obtain ⟨g,o,rfl,hg,hc2⟩:=HM4.out k hkl
   obtain ⟨y,hy⟩:∃ y,ids[k]=y:=⟨_,rfl⟩
   rw [hy] at hc2
   have HFN:Hid ((ids.drop (k+1)).foldl (fun s x=>{ s with T:=(Tr.answerC s.T pn x).2 }) ({ u with T:=(Tr.answerC u.T pn y).2 }:NS)=s.missing pn ids):=Lib.hid (by rw [← HFO.out,List.drop_eq_getElem_cons hkl,List.foldl_cons,hy])
   have l4:=H4.out.lt
   have l5:g < wr.heap.size:=hg
   clear hy
   go_wp2_with fail
   with_reducible refine (r_answer pn y _ H4.out).mono ?_
   rintro e w7 ⟨rfl,G7,h7,t7⟩
   have H7:=Lib.hid h7
   have T7:=Lib.hid (HT4.out.trans t7)
   have HM7:=Lib.hid (gain_ids HM4.out t7 HOY.out)
   clear h7 t7
   go_wp2_with fail
   go_roundw
   case rel=>exact ⟨k+1,G7,_,by omega,by go_num,H7,T7,HFN,HM7⟩
   case measure=>simp [intOf];omega
  ·have he:ids.drop k=[]:=List.drop_eq_nil_of_le (by omega)
   have HU:Hid (u=s.missing pn ids):=Lib.hid (by have:=HFO.out;rw [he] at this;exact this)
   go_wp2_with fail
   go_ret2
   rw [← HU.out]
   exact rsent_none H4.out HT4.out
end Go.Proofs.YtlboemhbealnmaaGreat
set_option maxRecDepth 20000
namespace Go.Proofs.YtlboemhbealnmaaGreat
open Go.RowKit Go.Maps
variable {w w':World} {G G':Nat→Prop} {B:Nat} {s:NS}
theorem find_any {wr:World} {G1:Nat→Prop} {u:NS} (h:RN wr G1 B u) (hn:u.A.length≤2932031007402) (x:UInt64) {la:Option Addr} {ll lc:Nat} (hc:wr.cell? ⟨B,3,none⟩=some (.slice la ll lc)) :
  Calls Tryz.prog 63 #[.agg #[.slice la ll lc],.int .u64 x.toNat] wr (Ju.FindAns wr (Ju.findL u.A x)):=by
 obtain ⟨a',c',l,hc',hl,hrow⟩:=h.led
 rw [hc] at hc'
 simp only [Option.some.injEq,Value.slice.injEq] at hc'
 obtain ⟨rfl,rfl,rfl⟩:=hc'
 rw [← hl] at hn ⊢
 rw [Ju.dOf_len] at hn
 exact Ju.refFind_any x _ wr hrow hn
theorem rout_bring (p:Nat) (E:ByteArray) (w:World):Calls Tryz.prog 64 #[.int .i64 p,.agg #[.int .i64 3,.slice none 0 0,.string E]] w fun e w'=>∃ v,e=.returned v∧OwnOuts w' w.heap.size v (message p ⟨3,[],E⟩)∧Below w.heap.size w w':=rout_any p ⟨3,[],E⟩ none 0 (Nat.le_refl _) w (idsAt_nil _ _)
theorem rout_miss (p:Nat) (l:List UInt64) (a:Option Addr) (cap:Nat) (hc:l.length≤cap) (w:World) (hi:IdsAt w a l):Calls Tryz.prog 64 #[.int .i64 p,.agg #[.int .i64 4,.slice a l.length cap,.string ⟨#[]⟩]] w fun e w'=>∃ v,e=.returned v∧OwnOuts w' w.heap.size v (message p ⟨4,l,⟨#[]⟩⟩)∧Below w.heap.size w w':=rout_any p ⟨4,l,⟨#[]⟩⟩ a cap hc w hi
theorem rout_fetch (p:Nat) (l:List UInt64) (a:Option Addr) (cap:Nat) (hc:l.length≤cap) (w:World) (hi:IdsAt w a l):Calls Tryz.prog 64 #[.int .i64 p,.agg #[.int .i64 2,.slice a l.length cap,.string ⟨#[]⟩]] w fun e w'=>∃ v,e=.returned v∧OwnOuts w' w.heap.size v (message p ⟨2,l,⟨#[]⟩⟩)∧Below w.heap.size w w':=rout_any p ⟨2,l,⟨#[]⟩⟩ a cap hc w hi
theorem outs_low {w:World} {C C':Nat} {v:Value} {l:List OutD} (h:OwnOuts w C v l) (hc:C'≤C):OwnOuts w C' v l:=⟨h.1,h.2.imp id fun ⟨g,cap,cur,q1,q2,q3⟩=>⟨g,cap,cur,q1,Nat.le_trans hc q2,q3⟩⟩
set_option maxRecDepth 20000 in
set_option maxHeartbeats 2000000 in
theorem rsend_fetch (p:Nat) (b:ByteArray) (hs:b.size≤maxLen) (ht:s.thereE p=0) (hr:Ms.errM b.data.toList=0) (ids:List UInt64) (body:ByteArray) (hm:Ms.ansM b.data.toList=⟨2,ids,body⟩) (hA:s.A.length≤2932031007402) (w:World) (h:RN w G B s):Calls Tryz.prog 32 #[.pointer (some ⟨B,0,none⟩),.int .i64 p,.string b] w (SentR w G B (s,s.fetch p ids,0)):=by
 obtain ⟨hil,hbl⟩:=msg_small hr hm
 have H:=Lib.hid h
 have HR:=Lib.hid hr
 have HT:=Lib.hid ht
 have HM:=Lib.hid hm
 have hml:maxLen=9223372036854775807:=rfl
 obtain ⟨pn,hpn,hp,_⟩:=there_zero ht
 obtain rfl:pn=p:=by omega
 clear h hr ht hm hpn
 go_enter Tryz.func32,Tryz.ntmps32
 go_wp2_with fail
 with_reducible refine (rthere_any pn 0 HT.out _ H.out).mono ?_
 rintro e w0 ⟨rfl,rfl⟩
 go_wp2_with fail
 with_reducible refine (Ms.rdecode_all b 0 _ _ hs HR.out HM.out).mono ?_
 rintro e w1 ⟨a1,c1,rfl,_,hi1,hf1,hb1⟩
 simp only at hi1
 obtain ⟨wy,hwy⟩:∃ wy,w1.alloc (.cells #[.int .i64 2,.slice a1 ids.length c1,.string body] 113)=wy:=⟨_,rfl⟩
 have hby:Below w1.heap.size w1 wy:=hwy▸kept_new _ _
 obtain ⟨m0,m1,m2⟩:MsgBox wy w1.heap.size a1 c1 ⟨2,ids,body⟩:=hwy▸box_msg w1 a1 c1 ⟨2,ids,body⟩
 simp only at m0 m1 m2
 have l0:=(cell_spot m0).2
 have HIY:=Lib.hid (idsAt_kept hby hi1)
 have HBY:=Lib.hid (kept_trans hb1 hby)
 have HY:=Lib.hid (H.out.kept HBY.out)
 have l1:=HY.out.lt
 obtain ⟨p6,_⟩:=HY.out.peerc pn hp
 have hp8:(pn:Int) < 8:=by omega
 have hp0:(0:Int)≤(pn:Int):=by omega
 clear hby hi1 hb1 hf1
 go_wp2_with fail
 go_loopw [15,16,115] (fun v7 v8 i wr=>∃ (k:Nat) (ou:List OutD) (ot:List UInt64),k≤ids.length∧i=.int .i64 k∧Hid (OwnOuts wr wy.heap.size v7 ou)∧Hid (OwnIds wr wy.heap.size v8 ot)∧Hid ((ids.take k).flatMap (s.fetch1 pn)=ou)∧Hid (((ids.take k).filter fun x=>(Ju.findL s.A x).isNone)=ot)∧ou.length≤k∧ot.length≤k∧Hid (Below wy.heap.size wy wr)) (fun _ _ i _=>ids.length - (intOf i).toNat)
 case atStart=>exact ⟨0,[],[],Nat.zero_le _,rfl,Lib.hid (outs_nil _ _),Lib.hid (ownIds_nil _ _),Lib.hid rfl,Lib.hid rfl,Nat.le_refl _,Nat.le_refl _,Lib.hid (Below.refl _ _)⟩
 case round=>
  obtain ⟨k,ou,ot,hk,rfl,HOU,HOT,HEU,HET,hou,hot,HB⟩:=hrel
  obtain ⟨ao,co,rfl,_⟩:=outs_form HOU.out
  obtain ⟨ai,ci,e0,hci,hids,_⟩:=owns_idsAt HOT.out
  subst e0
  by_cases hkl:k < ids.length
  ·have HR:=Lib.hid (HY.out.kept HB.out)
   obtain ⟨g,o,rfl,hg,hc2⟩:=idsAt_kept HB.out HIY.out k hkl
   obtain ⟨y,hy⟩:∃ y,ids[k]=y:=⟨_,rfl⟩
   rw [hy] at hc2
   have HYY:=Lib.hid hy
   obtain ⟨la,lc,ll,h3,_,_⟩:=HR.out.led
   have l2:=HR.out.lt
   have l3:g < wr.heap.size:=hg
   have HTL:Hid ((ids.take (k+1)).flatMap (s.fetch1 pn)=ou ++ s.fetch1 pn y):=Lib.hid (by rw [take_more ids k hkl,hy,← HEU.out];simp)
   have HFL:Hid ((ids.take (k+1)).filter (fun x=>(Ju.findL s.A x).isNone)=ot ++ (if (Ju.findL s.A y).isNone then [y] else [])):=Lib.hid (by rw [take_more ids k hkl,hy,List.filter_append,HET.out];simp [List.filter_cons])
   clear hy hids
   go_wp2_with fail
   with_reducible refine (find_any HR.out hA y h3).mono ?_
   rintro e w2 ⟨a2,cp2,rfl,hcp,hi2,hb2⟩
   cases hd:Ju.findL s.A y with
   | none=>
    have HD:=Lib.hid hd
    simp only [Option.isSome_none,Option.getD_none]
    obtain ⟨dz,hdz⟩:∃ dz,nod=dz:=⟨_,rfl⟩
    rw [hdz]
    obtain ⟨wz,hwz⟩:∃ wz,w2.alloc (.cells #[.slice a2 dz.ins.length cp2,.int .i64 dz.outs,.int .i64 dz.weight,.int .i64 dz.fee] 94)=wz:=⟨_,rfl⟩
    have hbz:Below wr.heap.size wr wz:=kept_trans hb2 (hwz▸kept_new _ _)
    have HOU2:Hid (OwnOuts wz wy.heap.size _ _):=Lib.hid (own_same HOU.out fun g hgg=>hbz.block g (HOU.out.lt g hgg).2)
    have HOT2:=Lib.hid (ownIds_below HOT.out hbz)
    have HB2:=Lib.hid (kept_trans HB.out hbz)
    clear hd hi2 hb2 hbz hdz hcp
    go_wp2_with (at_builtin;refine append_id rfl _ _ rfl y rfl rfl HOT2.out (by omega) HB2.out.size ?_;intro g3 cap3 w3 ho3 hg3 hgw;refine Hid.out ?_)
    refine Lib.hid ?_
    have HOU3:=Lib.hid (own_grown HOU2.out hgw (fun g h1 h2=>kinds_apart HOU2.out HOT2.out g h1 h2))
    have HOT3:=Lib.hid ho3
    have HB3:=Lib.hid (below_grown HB2.out hgw (fun g h1=>(HOT2.out.lt g h1).1) HB2.out.size)
    clear ho3 hg3 hgw
    go_wp2_with fail
    go_roundw
    case rel=>
     refine ⟨k+1,ou,ot ++ [y],by omega,by go_num,HOU3,Lib.hid ?_,Lib.hid ?_,Lib.hid ?_,by omega,by simp;omega,HB3⟩
     ·have:=HOT3.out
      simpa using this
     ·rw [HTL.out]
      unfold NS.fetch1
      rw [HD.out,List.append_nil]
     ·rw [HFL.out,HD.out]
      rfl
    case measure=>simp [intOf];omega
   | some d=>
    have HD:=Lib.hid hd
    rw [hd] at hi2
    simp only [Option.isSome_some,Option.getD_some] at hi2 ⊢
    have HC:Hid (checkD d=0):=Lib.hid (HR.out.good.A.fine d (Ju.findL_mem hd).1)
    obtain ⟨wz,hwz⟩:∃ wz,w2.alloc (.cells #[.slice a2 d.ins.length cp2,.int .i64 d.outs,.int .i64 d.weight,.int .i64 d.fee] 94)=wz:=⟨_,rfl⟩
    have hby0:Below w2.heap.size w2 wz:=hwz▸kept_new _ _
    have hby:Below wr.heap.size wr wz:=kept_trans hb2 hby0
    obtain ⟨y0,y1,y2,y3⟩:DeedBox wz w2.heap.size a2 cp2 d:=hwz▸box_deed w2 a2 cp2 d
    have l4:=(cell_spot y0).2
    have HIZ:=Lib.hid (insAt_kept hby0 hi2)
    obtain ⟨E,hE⟩:∃ E,str (encB d)=E:=⟨_,rfl⟩
    have HE:=Lib.hid hE
    have HBZ:=Lib.hid hby
    clear hd hi2 hb2 hby hby0 hE hcp
    go_wp2_with fail
    with_reducible refine (bytesOf_ok d a2 cp2 _ HIZ.out HC.out).mono ?_
    rw [HE.out]
    rintro e w4 ⟨rfl,hb4⟩
    have HB4:=Lib.hid (kept_trans HBZ.out hb4)
    clear hb4
    go_wp2_with fail
    with_reducible refine (rout_bring pn E _).mono ?_
    rintro e w5 ⟨v5,rfl,ho5,hb5⟩
    have hb:=kept_trans HB4.out hb5
    have HOU5:Hid (OwnOuts w5 wy.heap.size _ _):=Lib.hid (own_same HOU.out fun g hgg=>hb.block g (HOU.out.lt g hgg).2)
    have HOT5:=Lib.hid (ownIds_below HOT.out hb)
    have HB5:=Lib.hid (kept_trans HB.out hb)
    have HO5:=Lib.hid ho5
    obtain ⟨mm,hmm⟩:∃ mm,message pn ⟨3,[],E⟩=mm:=⟨_,rfl⟩
    have hml:mm.length≤1:=hmm▸message_len pn ⟨3,[],E⟩
    rw [hmm] at HO5
    have HMM:=Lib.hid hmm
    clear hmm
    clear hb hb5 ho5
    go_wp2_with (at_builtin;refine append_outs rfl _ _ rfl rfl rfl HOU5.out HO5.out (by omega) HB5.out.size ?_;intro v6 w6 ho6 hg6 hk6;refine Hid.out ?_)
    refine Lib.hid ?_
    have HOT6:=Lib.hid (own_grown HOT5.out hg6 (fun g h1 h2=>kinds_apart HOU5.out HOT5.out g h2 h1))
    have HOU6:=Lib.hid ho6
    have HB6:=Lib.hid (below_grown HB5.out hg6 (fun g h1=>(HOU5.out.lt g h1).1) HB5.out.size)
    clear ho6 hg6 hk6
    go_wp2_with fail
    go_roundw
    case rel=>
     refine ⟨k+1,ou ++ mm,ot,by omega,by go_num,HOU6,HOT6,Lib.hid ?_,Lib.hid ?_,by rw [List.length_append];omega,by omega,HB6⟩
     ·rw [HTL.out]
      have:s.fetch1 pn y=message pn ⟨3,[],E⟩:=by
       unfold NS.fetch1
       rw [HD.out]
       simp only
       rw [HE.out]
      rw [this,HMM.out]
     ·rw [HFL.out,HD.out]
      simp
    case measure=>simp [intOf];omega
  ·have he:ids.take k=ids:=List.take_of_length_le (by omega)
   have HF:Hid (s.fetch pn ids=ou ++ message pn ⟨4,ot,⟨#[]⟩⟩):=Lib.hid (by
    have h1:=HEU.out
    have h2:=HET.out
    rw [he] at h1 h2
    rw [← h1,← h2]
    rfl)
   have HI2:=Lib.hid hids
   clear hids he
   go_wp2_with fail
   with_reducible refine (rout_miss pn ot ai ci hci _ HI2.out).mono ?_
   rintro e w5 ⟨v5,rfl,ho5,hb5⟩
   have HOU5:Hid (OwnOuts w5 wy.heap.size _ _):=Lib.hid (own_same HOU.out fun g hgg=>hb5.block g (HOU.out.lt g hgg).2)
   have HB5:=Lib.hid (kept_trans HB.out hb5)
   have HO5:=Lib.hid ho5
   obtain ⟨mm,hmm⟩:∃ mm,message pn ⟨4,ot,⟨#[]⟩⟩=mm:=⟨_,rfl⟩
   have hml:mm.length≤1:=hmm▸message_len pn ⟨4,ot,⟨#[]⟩⟩
   rw [hmm] at HO5 HF
   clear hb5 ho5 hmm
   go_wp2_with (at_builtin;refine append_outs rfl _ _ rfl rfl rfl HOU5.out HO5.out (by omega) HB5.out.size ?_;intro v6 w6 ho6 hg6 hk6;refine Hid.out ?_)
   refine Lib.hid ?_
   obtain ⟨a6,c6,rfl,_⟩:=outs_form ho6
   have HOU6:=Lib.hid ho6
   have HB6:=Lib.hid (below_grown HB5.out hg6 (fun g h1=>(HOU5.out.lt g h1).1) HB5.out.size)
   clear ho6 hg6 hk6
   go_wp2_with fail
   go_ret2
   have hbw:Below w.heap.size w w6:=HBY.out.trans (HB6.out.mono HBY.out.size)
   refine ⟨.slice a6 (ou ++ mm).length c6,G,rfl,?_,H.out.kept hbw,Gain.of_below hbw⟩
   rw [HF.out]
   exact outs_low HOU6.out HBY.out.size
end Go.Proofs.YtlboemhbealnmaaGreat
