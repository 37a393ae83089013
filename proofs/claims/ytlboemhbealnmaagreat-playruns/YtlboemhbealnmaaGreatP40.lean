import Derived.Test.YtlboemhbealnmaaGreatP39
import Derived.Deep.RegionLaw
import Derived.BigQuiet
set_option maxRecDepth 20000
namespace Go.Proofs.YtlboemhbealnmaaGreat
open Go.RowKit Go.Maps
variable {w w':World} {G G':Nat→Prop} {B:Nat} {s:NS}
def LR (s:NS) (p:Nat) (x:UInt64) (d:DeedD) (n k:Nat) (q:List UInt64) (u:NS) (D:DeedD):Prop:=
 (k=0∧q=[x]∧u=s∧D=d)∨(0 < k∧LI n (s.look p x d) k q u)
structure LF (s:NS) (p:Nat) (x:UInt64) (d:DeedD) (n k:Nat) (q:List UInt64) (u:NS) (y:UInt64) (D:DeedD):Prop where
 ex:LE n u q y D
 next:Ju.stateL u.A D≠2→(u.examine y D).1.follow (q.drop (k+1) ++ (u.examine y D).2)=s.look p x d
 pool:k=0∨(Ho.removeL u.P y).length+1≤u.P.length
 lost:Ju.stateL u.A D=2→(k=0∧u.P.length≤24∧(u.peers p).1=true∧∀ t8,t8=u.adopt p y D (Ju.missL (Ju.findL u.A) D.ins)→LI n (s.look p x d) (k+1) q t8)∨(0 < k∧LI n (s.look p x d) (k+1) q u)
theorem lf_first {p n k:Nat} {x y:UInt64} {d D:DeedD} {q:List UInt64} {u:NS} (hE:LE n s [x] x d) (hth:(s.peers p).1=true) (hkl:k < q.length) (hy:q[k]=y) (hk0:k=0) (hr:LR s p x d n k q u D):LF s p x d n k q u y D:=by
 have hall:q=[x]∧u=s∧D=d:=hr.elim (fun h=>h.2) (fun h=>absurd h.1 (by omega))
 have hyx:y=x:=by
  rw [← hy]
  have:q[k]?=some x:=by rw [hall.1,hk0];rfl
  rw [List.getElem?_eq_getElem hkl] at this
  exact Option.some.inj this
 obtain ⟨h1,rfl,rfl⟩:=hall
 subst hyx hk0
 clear hy hr
 subst h1
 exact ⟨hE,fun hne=>look_first hE hne,.inl rfl,fun he=>.inl ⟨rfl,hE.pool,hth,fun t8 ht=>by rw [ht];exact li_adopted hE he⟩⟩
theorem lf_later {p n k:Nat} {x y:UInt64} {d D:DeedD} {q:List UInt64} {u:NS} (hkl:k < q.length) (hy:q[k]=y) (hk0:0 < k) (hL:LI n (s.look p x d) k q u) (hd:Ho.deedOf u.P y=some D) (hfine:checkD D=0) (h24:u.P.length≤24):LF s p x d n k q u y D:=by
 obtain ⟨h1,h2⟩:=hL.found hkl hy hd hfine h24
 exact ⟨h1,fun _=>h2,.inr (remove_mem hd),fun he=>.inr ⟨hk0,hL.lost hkl (lost_is rfl h1.ok he) h2⟩⟩
def mu (v8 v9:Value) (wr:World) (B:Nat):Nat:=(if intOf v9=0 then 5000 else 0)+49 * Ho.lenAtR wr B+(sliceLen v8 - (intOf v9).toNat)
theorem lenAt_is {wr:World} {G1:Nat→Prop} {u:NS} (h:RN wr G1 B u):Ho.lenAtR wr B=u.P.length:=by
 obtain ⟨cs,h⟩:=h
 exact h.P.lenAt (R:=⟨B,ocOf cs⟩)
theorem mu_is {wr:World} {G1:Nat→Prop} {u:NS} {q:List UInt64} {v:Value} {D:DeedD} {A:Option Addr} {C:Nat} (h:LK w G B wr G1 u q v D A C) (k:Nat):mu v (.int .i64 k) wr B=(if k=0 then 5000 else 0)+49 * u.P.length+(q.length - k):=by
 obtain ⟨ra,rc,hv,_⟩:=owns_idsAt h.row
 unfold mu
 rw [lenAt_is h.node,hv]
 show (if (k:Int)=0 then 5000 else 0)+49 * u.P.length+(q.length - (k:Int).toNat)=_
 rw [Int.toNat_natCast]
 by_cases hk:k=0
 ·rw [if_pos hk,if_pos (by omega)]
 ·rw [if_neg hk,if_neg (by omega)]
theorem box_gain {G1 G2:Nat→Prop} {b:Nat} {a:Option Addr} {cap:Nat} {d:DeedD} (h:DeedBox w b a cap d) (ht:Gain B G1 G2 w w') (hn:b≠B):DeedBox w' b a cap d:=by
 have e:=ht.block b (cell_spot h.1).2 hn
 exact ⟨(World.cell?_of_block (w:=w) (a:=⟨b,0,none⟩) e).trans h.1,(World.cell?_of_block (w:=w) (a:=⟨b,1,none⟩) e).trans h.2.1,(World.cell?_of_block (w:=w) (a:=⟨b,2,none⟩) e).trans h.2.2.1,(World.cell?_of_block (w:=w) (a:=⟨b,3,none⟩) e).trans h.2.2.2⟩
theorem judge_any {wr:World} {G1:Nat→Prop} {u:NS} (h:RN wr G1 B u) (hn:u.A.length≤2932031007402) {d:DeedD} {a:Option Addr} {cap:Nat} (hi:InsAt wr a d.ins) (hd:checkD d=0) (st:Int) (m:List UInt64) (hst:Ju.stateL u.A d=st) (hm:Ju.missL (Ju.findL u.A) d.ins=m) {la:Option Addr} {ll lc:Nat} (hc:wr.cell? ⟨B,3,none⟩=some (.slice la ll lc)) :
  Calls Tryz.prog 124 #[.agg #[.slice la ll lc],.agg #[.slice a d.ins.length cap,.int .i64 d.outs,.int .i64 d.weight,.int .i64 d.fee]] wr (Ju.GaveR wr st m):=by
 obtain ⟨a',c',l,hc',hl,hr⟩:=h.led
 rw [hc] at hc'
 simp only [Option.some.injEq,Value.slice.injEq] at hc'
 obtain ⟨rfl,rfl,rfl⟩:=hc'
 rw [← hl] at hst hm hn
 rw [Ju.dOf_len] at hn
 exact Ju.refjudge_any _ d a cap wr hr hn hd hi st m hst hm
theorem pair_any {wr:World} {G1:Nat→Prop} {u:NS} (h:RN wr G1 B u) (hn:u.A.length≤2932031007401) {d c:DeedD} {a ca:Option Addr} {cap cc:Nat} (hi:InsAt wr a d.ins) (hci:InsAt wr ca c.ins) (hcap:d.ins.length≤cap) (hcc:c.ins.length≤cc) (hf:Ju.findL u.A (Ju.idD d)=none) (k r:Int) (hk:Ju.pairL u.A d c=(k,r)) {la:Option Addr} {ll lc:Nat} (hc:wr.cell? ⟨B,3,none⟩=some (.slice la ll lc)) :
  Calls Tryz.prog 130 #[.agg #[.slice la ll lc],.agg #[.slice a d.ins.length cap,.int .i64 d.outs,.int .i64 d.weight,.int .i64 d.fee],.agg #[.slice ca c.ins.length cc,.int .i64 c.outs,.int .i64 c.weight,.int .i64 c.fee]] wr fun e w'=>e=.returned (.tuple #[.int .i64 k,.int .i64 r])∧Below wr.heap.size wr w':=by
 obtain ⟨a',c',l,hc',hl,hr⟩:=h.led
 rw [hc] at hc'
 simp only [Option.some.injEq,Value.slice.injEq] at hc'
 obtain ⟨rfl,rfl,rfl⟩:=hc'
 rw [← hl] at hf hk hn
 rw [Ju.dOf_len] at hn
 exact Ju.refPair_any _ d c a ca cap cc wr hr hn hcap hcc hi hci k r (by rw [Ju.pairR_eq hf];exact hk)
theorem then_split {Q2 Q0:Exit→Act→World→Prop} {K:Act→World→Prop} (h:Q2=Exit.then K Q0):∃ K2,Q2=Exit.then K2 Q0∧Hid (K2=K):=⟨K,h,Lib.hid rfl⟩
set_option maxRecDepth 20000 in
set_option maxHeartbeats 100000000 in
theorem rlook_any (p:Nat) (hp:p < 8) (x:UInt64) (d:DeedD) (a:Option Addr) (cap n:Nat) (hn:n≤2932031007402) (w:World) (h:RN w G B s) (hi:InsAt w a d.ins) (hout:∀ bb o,d.ins≠[]→a=some ⟨bb,o,none⟩→bb≠B) (hcap:d.ins.length≤cap) (hE:LE n s [x] x d) (hth:(s.peers p).1=true) :
  Calls Tryz.prog 68 #[.pointer (some ⟨B,0,none⟩),.int .i64 p,.int .u64 x.toNat,.agg #[.slice a d.ins.length cap,.int .i64 d.outs,.int .i64 d.weight,.int .i64 d.fee]] w (TurnsR w G B (.tuple #[]) (s.look p x d)):=by
 obtain ⟨w1,hw1⟩:∃ w1,w1=(w.alloc (.cells #[.slice a d.ins.length cap,.int .i64 d.outs,.int .i64 d.weight,.int .i64 d.fee] 94)).alloc (.cells #[.int .u64 x.toNat] 22):=⟨_,rfl⟩
 have hk1:Below w.heap.size w w1:=hw1▸kept_alloc (kept_new _ _) _
 have HL1:Hid (LK w G B w1 G s [x] (.slice (some ⟨w.heap.size+1,0,none⟩) 1 1) d a cap):=Lib.hid {
  node:=h.kept hk1
  grow:=Gain.of_below hk1
  hB:=h.lt
  hG:=h.there
  own:=fun j hj=>.inl hj
  box:=by rw [hw1];exact ((kept_new _ _).block w.heap.size (by simp)).trans (heap_alloc_new w _)
  ins:=insAt_kept hk1 hi
  out:=fun bb o hne e=>⟨hout bb o hne e,by have:=Ju.ins_lt hi bb o hne e;omega,fun e2=>by
   have:=Ju.ins_lt hi bb o hne e
   simp only [Value.ownBlock,Option.some.injEq] at e2
   omega⟩
  cap:=hcap
  row:=⟨rfl,.inr ⟨w.heap.size+1,1,#[.int .u64 x.toNat],rfl,Nat.le_refl _,by rw [hw1];have:=heap_alloc_new (w.alloc (.cells #[.slice a d.ins.length cap,.int .i64 d.outs,.int .i64 d.weight,.int .i64 d.fee] 94)) (.cells #[.int .u64 x.toNat] 22);simpa using this,Nat.le_refl _,by decide,rfl,rfl⟩⟩
  rowG:=fun j hj hg=>by
   have:=h.there j hg
   simp only [Value.ownBlock,Option.some.injEq] at hj
   omega }
 have HE:=Lib.hid hE
 have HTH:=Lib.hid hth
 have l0:=h.lt
 clear h hi hout hk1 hE hth
 go_enter Tryz.func68,Tryz.ntmps68
 go_wp2_with fail
 go_loopw [8,9] (fun v8 v9 wr=>∃ (k:Nat) (q:List UInt64) (u:NS) (G1:Nat→Prop) (D:DeedD) (A:Option Addr) (C:Nat),v9=.int .i64 k∧k≤q.length∧Hid (LK w G B wr G1 u q v8 D A C)∧Hid (LR s p x d n k q u D)) (fun v8 v9 wr=>mu v8 v9 wr B)
 case atStart=>exact ⟨0,[x],s,G,d,a,cap,rfl,by simp,(by rw [← hw1];exact HL1),Lib.hid (.inl ⟨rfl,rfl,rfl,rfl⟩)⟩
 case round=>
  obtain ⟨k,q,u,G1,D,A,C,rfl,hk,HLK,HLR⟩:=hrel
  by_cases hkl:k < q.length
  ·obtain ⟨ra,rc,hv,hrc,hids,_⟩:=owns_idsAt HLK.out.row
   subst hv
   obtain ⟨g,o,rfl,hg,hc0⟩:=hids k hkl
   obtain ⟨y,hy⟩:∃ y,q[k]=y:=⟨_,rfl⟩
   rw [hy] at hc0
   have hq2:q.length≤2000:=HLR.out.elim (fun h=>by rw [h.2.1];simp) (fun h=>by have:=h.2.few;omega)
   obtain ⟨⟨b0,b1,b2,b3⟩,lb,lB⟩:=HLK.out.cells
   obtain ⟨f0,f1,f2,f3⟩:=HLK.out.free
   have HM:=Lib.hid (mu_is HLK.out k)
   have HNN:=Lib.hid hn
   have HY:=Lib.hid hy
   clear hids hy
   go_upto_if 36 with fail
   go_cut [11,12] from 25 to 221 (fun _ _ wx=>∃ (D4:DeedD) (A4:Option Addr) (C4:Nat),Hid (LK w G B wx G1 u q (.slice (some ⟨g,o,none⟩) q.length rc) D4 A4 C4)∧Hid (LF s p x d n k q u y D4))
   case first=>
    rename (Exit→Act→World→Prop)=>Q2
    clear_value (hQ2:Q2=_)
    obtain ⟨KQ,hQ3,HKQ⟩:=then_split hQ2
    clear hQ2
    subst hQ3
    as_aux_lemma=>
     rcases Nat.eq_zero_or_pos k with hk0 | hk0
     ·have hgt:¬ (k:Int) > 0:=by omega
      have hkn:¬ 0 < k:=by omega
      have HLF:Hid (LF s p x d n k q u y D):=Lib.hid (lf_first HE.out HTH.out hkl HY.out hk0 HLR.out)
      clear hk0
      go_wp2_with fail
      go_meet
      case rel=>exact ⟨D,A,C,HLK,HLF⟩
     ·have hgt:(k:Int) > 0:=by omega
      have HLI:Hid (LI n (s.look p x d) k q u):=Lib.hid (HLR.out.elim (fun h=>absurd h.1 (by omega)) (fun h=>h.2))
      go_wp2_with fail
      with_reducible refine (r_deedP y _ HLK.out.node).mono ?_
      rintro e w2 ⟨a2,c2,rfl,hi2,hb2,ho2,hc2⟩
      have HK2:=Lib.hid (HLK.out.kept hb2)
      cases hd:Ho.deedOf u.P y with
      | none=>
       have HD:=Lib.hid hd
       clear hd hi2 hb2 ho2 hc2 b0 b1 b2 b3 lb lB f0 f1 f2 f3
       simp only [Option.getD_none,Option.isSome_none,Bool.false_eq_true,if_false]
       have HK3:=Lib.hid (HK2.out.kept (kept_new w2 (.cells #[.slice a2 nod.ins.length c2,.int .i64 nod.outs,.int .i64 nod.weight,.int .i64 nod.fee] 94)))
       go_wp2_with fail
       have hKQ:=HKQ.out
       clear HKQ
       subst hKQ
       dsimp only
       go_roundw
       case rel=>exact ⟨k+1,q,u,G1,D,A,C,by go_num,by omega,HK3,Lib.hid (.inr ⟨by omega,HLI.out.gone hkl HY.out HD.out⟩)⟩
       case measure=>
        have h1:=mu_is HK3.out (k+1)
        rw [HM.out]
        refine Nat.lt_of_le_of_lt (Nat.le_of_eq h1) ?_
        rw [if_neg (by omega),if_neg (by omega)]
        omega
      | some D4=>
       have hfine:checkD D4=0:=by
        obtain ⟨l,hl,e1,e2⟩:=Ho.deedOf_some hd
        have:=HLK.out.node.good.P.fine l hl
        rw [e2] at this
        exact this
       have HLF:Hid (LF s p x d n k q u y D4):=Lib.hid (lf_later hkl HY.out hk0 HLI.out hd hfine HLK.out.node.good.P.len)
       rw [hd] at hi2 ho2 hc2
       simp only [Option.getD_some,Option.isSome_some,if_true] at hi2 ho2 hc2 ⊢
       obtain ⟨wz,hwz⟩:∃ wz,w2.alloc (.cells #[.slice a2 D4.ins.length c2,.int .i64 D4.outs,.int .i64 D4.weight,.int .i64 D4.fee] 94)=wz:=⟨_,rfl⟩
       have hbz:Below w2.heap.size w2 wz:=hwz▸kept_new _ _
       have HKZ:=Lib.hid (HK2.out.kept hbz)
       obtain ⟨z0,z1,z2,z3⟩:DeedBox wz w2.heap.size a2 c2 D4:=hwz▸box_deed w2 a2 c2 D4
       have lz:=(cell_spot z0).2
       obtain ⟨w4,hw4⟩:∃ w4,((((wz.setCell ⟨w.heap.size,0,none⟩ (.slice a2 D4.ins.length c2)).setCell ⟨w.heap.size,1,none⟩ (.int .i64 D4.outs)).setCell ⟨w.heap.size,2,none⟩ (.int .i64 D4.weight)).setCell ⟨w.heap.size,3,none⟩ (.int .i64 D4.fee))=w4:=⟨_,rfl⟩
       have HK4:Hid (LK w G B w4 G1 u q (.slice (some ⟨g,o,none⟩) q.length rc) D4 a2 c2):=Lib.hid (hw4▸HKZ.out.put (insAt_kept hbz hi2) ho2 hc2)
       clear b0 b1 b2 b3 lb lB f0 f1 f2 f3
       obtain ⟨⟨b0,b1,b2,b3⟩,lb,lB⟩:=HKZ.out.cells
       obtain ⟨f0,f1,f2,f3⟩:=HKZ.out.free
       clear hi2 ho2 hc2 hb2 hd hfine hbz
       go_wp2_with fail
       go_meet
       case rel=>exact ⟨D4,a2,c2,HK4,HLF⟩
   case rest=>
    obtain ⟨D4,A4,C4,HK4,HLF⟩:=hcut
    have HEX:=Lib.hid HLF.out.ex
    have HR:=Lib.hid HLF.out.next
    have HPL:=Lib.hid HLF.out.pool
    have HLO:=Lib.hid HLF.out.lost
    obtain ⟨w4,hw4⟩:∃ z,z=wc:=⟨_,rfl⟩
    subst hw4
    clear HLK hc0 hg b0 b1 b2 b3 lb lB f0 f1 f2 f3
    go_upto_region 10 with fail
    obtain ⟨st,hst⟩:∃ st,Ju.stateL u.A D4=st:=⟨_,rfl⟩
    obtain ⟨ms,hms⟩:∃ ms,Ju.missL (Ju.findL u.A) D4.ins=ms:=⟨_,rfl⟩
    have HS:=Lib.hid hst
    have HMI:=Lib.hid hms
    have hml:ms.length≤8:=by
     have h1:=Ju.missL_length (Ju.findL u.A) D4.ins
     have h2:=(check_ok HEX.out.ok).1
     rw [hms] at h1
     omega
    have HAL:Hid (u.A.length≤2932031007401):=Lib.hid (by have:=HEX.out.sum;have:=HNN.out;omega)
    have hbd:Below w4.heap.size w4 w4.drew:=(Below.refl _ _).drew
    have hkd:=HK4.out.kept hbd
    obtain ⟨⟨b0,b1,b2,b3⟩,lb,lB⟩:=hkd.cells
    obtain ⟨la,lc,ll,h3,_,_⟩:=hkd.node.led
    have HKd:=Lib.hid hkd
    clear hkd hbd hst hms
    go_cut [13,14] from 25 to 221 (fun v13 v14 wx=>∃ am cm,v13=.int .i64 st∧v14=.slice am ms.length cm∧Hid (IdsAt wx am ms)∧Hid (∀ bb o,ms≠[]→am=some ⟨bb,o,none⟩→bb≠B)∧Hid (Below w4.heap.size w4 wx))
    case first=>
     rename (Exit→Act→World→Prop)=>Q2
     clear_value (hQ2:Q2=_)
     obtain ⟨KQ,hQ3,HKQ⟩:=then_split hQ2
     clear hQ2
     subst hQ3
     as_aux_lemma=>
      go_region_law (first
       | (go_simp;go_at_call 124;(with_reducible refine (judge_any HKd.out.node (Nat.le_trans HAL.out (by decide)) HKd.out.ins HEX.out.ok _ _ HS.out HMI.out h3).mono ?_);rintro e w5 ⟨am,cm,rfl,hom,hb5⟩;have HO5:=Lib.hid hom;have HB5:=Lib.hid hb5;clear hom hb5))
      all_goals
       go_wp2_with fail
       go_meet
       case rel=>
        obtain ⟨am',cm',e9,_,hids9,hfr9⟩:=owns_idsAt HO5.out
        simp only [Value.slice.injEq,true_and] at e9
        obtain ⟨rfl,rfl⟩:=e9
        exact ⟨_,_,rfl,rfl,Lib.hid hids9,Lib.hid (fun bb o _ e=>by have:=hfr9 bb o none e;have:=HKd.out.node.lt;omega),Lib.hid (kept_trans ((Below.refl _ _).drew) HB5.out)⟩
    case rest=>
     obtain ⟨am,cm,rfl,rfl,HIDS,HFR,HB5⟩:=hcut
     have HK5:=Lib.hid (HK4.out.kept HB5.out)
     clear b0 b1 b2 b3 lb lB h3 HKd HK4
     obtain ⟨⟨b0,b1,b2,b3⟩,lb,lB⟩:=HK5.out.cells
     rcases state_cases u.A D4 with ⟨hs,hm⟩ | ⟨hs | hs | hs,hm⟩
     ·obtain rfl:st=2:=HS.out.symm.trans hs
      rcases HLO.out hs with ⟨hL0,hL1,hL2,hL3⟩ | ⟨hL0,hLL⟩
      ·rename (Exit→Act→World→Prop)=>Q2
       clear_value (hQ2:Q2=_)
       obtain ⟨KQ,hQ3,HKQ⟩:=then_split hQ2
       clear hQ2
       subst hQ3
       as_aux_lemma=>
        clear hs hm
        have hgt:¬ (k:Int) > 0:=by omega
        have HQK:Hid (k=0∧u.P.length≤24):=Lib.hid ⟨hL0,hL1⟩
        have HTH':=Lib.hid hL2
        have HADP:=Lib.hid hL3
        clear hL0 hL1 hL2 hL3 b0 b1 b2 b3 lb
        go_wp2_with fail
        with_reducible refine (r_forget y _ HK5.out.node).mono ?_
        rintro e w6 ⟨rfl,G6,h6,t6⟩
        have HK6:=Lib.hid (HK5.out.gain h6 t6)
        have HIDS6:=Lib.hid (gain_ids HIDS.out t6 HFR.out)
        clear h6 t6 lB HK5
        obtain ⟨wd,hwd⟩:∃ wd,w6.drew=wd:=⟨_,rfl⟩
        have hbd:Below w6.heap.size w6 wd:=hwd▸(Below.refl _ _).drew
        have hkd:=HK6.out.kept hbd
        obtain ⟨⟨b0,b1,b2,b3⟩,lb,lB⟩:=hkd.cells
        have HKd:=Lib.hid hkd
        have HWD:=Lib.hid hwd
        have HIDSd:=Lib.hid (idsAt_kept hbd HIDS6.out)
        clear hkd hwd hbd HIDS6 HK6
        go_wp2_with fail
        refine region_tail 6 (by kernel_rfl) (by kernel_rfl) HWD.out ?_
        simp only [List.take_succ_cons,List.take_zero,List.drop_succ_cons,List.drop_zero]
        repeat still_step
        refine wpStill_nil ?_
        go_wp2_with fail
        with_reducible refine (r_add p y D4 A4 C4 HKd.out.cap _ HKd.out.node HKd.out.ins).mono ?_
        rintro e w7 ⟨rfl,G7,h7,t7⟩
        obtain ⟨t,ht⟩:∃ t:NS,({ u with T:=Tr.forgetL u.T y,P:=(Ho.addC u.P p y D4).2 }:NS)=t:=⟨_,rfl⟩
        have HK7:Hid (LK w G B w7 G7 t q (.slice (some ⟨g,o,none⟩) q.length rc) D4 A4 C4):=Lib.hid (ht▸HKd.out.gain h7 t7)
        have HIDS7:=Lib.hid (gain_ids HIDSd.out t7 HFR.out)
        have HAD:Hid (u.adopt p y D4 ms=if (Ho.deedOf t.P y).isSome then ms.foldl (fun s m=>s.want p m) t else t):=Lib.hid (by unfold NS.adopt;rw [← ht])
        have HTP:Hid (t.peers=u.peers∧t.P.length≤u.P.length+1):=Lib.hid (by rw [← ht];exact ⟨rfl,add_len u.P p y D4⟩)
        clear h7 t7 ht HKd HIDSd b0 b1 b2 b3 lb lB
        obtain ⟨hy7,hhy7⟩:∃ b,(Ho.deedOf t.P y).isSome=b:=⟨_,rfl⟩
        have HHY:=Lib.hid hhy7
        rw [hhy7] at HAD
        clear hhy7
        go_wp2_with fail
        obtain ⟨wB,hwB⟩:∃ x,x=w7:=⟨_,rfl⟩
        subst hwB
        go_loopw [179] (fun i wq=>∃ (j:Nat) (G8:Nat→Prop) (t8:NS),j≤ms.length∧i=.int .i64 j∧Hid (LK w G B wq G8 t8 q (.slice (some ⟨g,o,none⟩) q.length rc) D4 A4 C4)∧Hid ((if hy7 then (ms.drop j).foldl (fun s m=>s.want p m) t8 else t8)=u.adopt p y D4 ms)∧Hid (t8.P=t.P∧t8.peers=t.peers)∧Hid (IdsAt wq am ms)) (fun i _=>ms.length - (intOf i).toNat)
        case atStart=>exact ⟨0,G7,t,Nat.zero_le _,rfl,HK7,Lib.hid HAD.out.symm,Lib.hid ⟨rfl,rfl⟩,HIDS7⟩
        case round=>
         obtain ⟨j,G8,t8,hj,rfl,HK8,HFO,HPP,HIDS8⟩:=hrel
         by_cases hjl:j < ms.length
         ·obtain ⟨gj,oj,rfl,hgj,hcj⟩:=HIDS8.out j hjl
          obtain ⟨c,hc⟩:∃ c,ms[j]=c:=⟨_,rfl⟩
          rw [hc] at hcj
          have HFN:Hid (hy7=true→(ms.drop (j+1)).foldl (fun s m=>s.want p m) (t8.want p c)=u.adopt p y D4 ms):=Lib.hid (fun hb=>by
           have:=HFO.out
           rw [hb,if_pos rfl,List.drop_eq_getElem_cons hjl,List.foldl_cons,hc] at this
           exact this)
          have HHY8:Hid ((Ho.deedOf t8.P y).isSome=hy7):=Lib.hid (by rw [HPP.out.1];exact HHY.out)
          have l4:=HK8.out.node.lt
          clear hc
          cases hb7:hy7 with
          | false=>
           rw [hb7] at HHY8
           have HFF:Hid (hy7=false):=Lib.hid hb7
           clear hb7
           go_wp2_with fail
           with_reducible refine (r_hasP y false HHY8.out _ HK8.out.node).mono ?_
           rintro e w9 ⟨rfl,hb9⟩
           have HK9:=Lib.hid (HK8.out.kept hb9)
           have HIDS9:=Lib.hid (idsAt_kept hb9 HIDS8.out)
           clear hb9
           go_wp2_with fail
           go_roundw
           case rel=>exact ⟨j+1,G8,t8,by omega,by go_num,HK9,Lib.hid (by have:=HFO.out;rw [HFF.out] at this;exact this),HPP,HIDS9⟩
           case measure=>simp [intOf];omega
          | true=>
           rw [hb7] at HHY8
           have HFT:Hid (hy7=true):=Lib.hid hb7
           clear hb7
           go_wp2_with fail
           with_reducible refine (r_hasP y true HHY8.out _ HK8.out.node).mono ?_
           rintro e w9 ⟨rfl,hb9⟩
           have HK9:=Lib.hid (HK8.out.kept hb9)
           have HIDS9:=Lib.hid (idsAt_kept hb9 HIDS8.out)
           have l9:=HK9.out.node.lt
           clear hb9
           cases hhp:(Ho.deedOf t8.P c).isSome with
           | true=>
            have HHP:=Lib.hid hhp
            have HW:Hid (t8.want p c=t8):=Lib.hid (want_none (by rw [hhp];rfl))
            clear hhp
            go_wp2_with fail
            with_reducible refine (r_hasP c true HHP.out _ HK9.out.node).mono ?_
            rintro e w10 ⟨rfl,hb10⟩
            have HK10:=Lib.hid (HK9.out.kept hb10)
            have HIDS10:=Lib.hid (idsAt_kept hb10 HIDS9.out)
            clear hb10
            go_wp2_with fail
            go_roundw
            case rel=>exact ⟨j+1,G8,t8,by omega,by go_num,HK10,Lib.hid (by have:=HFN.out HFT.out;rw [HW.out] at this;exact this),HPP,HIDS10⟩
            case measure=>simp [intOf];omega
           | false=>
            have HHP:=Lib.hid hhp
            go_wp2_with fail
            with_reducible refine (r_hasP c false HHP.out _ HK9.out.node).mono ?_
            rintro e w10 ⟨rfl,hb10⟩
            have HK10:=Lib.hid (HK9.out.kept hb10)
            have HIDS10:=Lib.hid (idsAt_kept hb10 HIDS9.out)
            have l10:=HK10.out.node.lt
            clear hb10
            cases hhw:t8.W.has c with
            | true=>
             have HHW:=Lib.hid hhw
             have HW:Hid (t8.want p c=t8):=Lib.hid (want_none (by rw [hhp,hhw];rfl))
             clear hhw hhp
             go_wp2_with fail
             with_reducible refine (r_hasW c true HHW.out _ HK10.out.node).mono ?_
             rintro e w11 ⟨rfl,rfl⟩
             go_wp2_with fail
             go_roundw
             case rel=>exact ⟨j+1,G8,t8,by omega,by go_num,HK10,Lib.hid (by have:=HFN.out HFT.out;rw [HW.out] at this;exact this),HPP,HIDS10⟩
             case measure=>simp [intOf];omega
            | false=>
             have HHW:=Lib.hid hhw
             have HW:Hid (t8.want p c={ t8 with T:=(Tr.annC t8.T p c t8.now (t8.peers p).2).2 }):=Lib.hid (want_some hhp hhw)
             clear hhw hhp
             go_wp2_with fail
             with_reducible refine (r_hasW c false HHW.out _ HK10.out.node).mono ?_
             rintro e w11 ⟨rfl,rfl⟩
             obtain ⟨wd,hwd⟩:∃ wd,w10.drew=wd:=⟨_,rfl⟩
             have hbd:Below w10.heap.size w10 wd:=hwd▸(Below.refl _ _).drew
             have H6:=Lib.hid (HK10.out.kept hbd)
             have n6:=H6.out.node.nowc.1
             obtain ⟨p6,_⟩:=H6.out.node.peerc p hp
             have hst:=stand_two (b:=t8.peers p) (by rw [HPP.out.2,HTP.out.1];exact HTH'.out)
             obtain ⟨sp,hsp⟩:∃ sp,stand (t8.peers p)=sp:=⟨_,rfl⟩
             obtain ⟨sb,hsb⟩:∃ sb,(t8.peers p).2=sb:=⟨_,rfl⟩
             rw [hsp,hsb] at hst
             rw [hsp] at p6
             have HSB:=Lib.hid hsb
             have l7:=H6.out.node.lt
             have HIDS6:=Lib.hid (idsAt_kept hbd HIDS10.out)
             have hp8:(p:Int) < 8:=by omega
             have hp0:(0:Int)≤(p:Int):=by omega
             have HWD:=Lib.hid hwd
             clear hbd hwd hsp hsb
             go_wp2_with fail
             refine region_tail 16 (by kernel_rfl) (by kernel_rfl) HWD.out ?_
             simp only [List.take_succ_cons,List.take_zero,List.drop_succ_cons,List.drop_zero]
             repeat still_step
             refine wpStill_nil ?_
             go_wp2_with fail
             with_reducible refine (r_announce p c t8.now sb _ H6.out.node).mono ?_
             rintro e w12 ⟨rfl,G12,h12,t12⟩
             have HK12:=Lib.hid (H6.out.gain h12 t12)
             have HIDS12:=Lib.hid (gain_ids HIDS6.out t12 HFR.out)
             clear h12 t12
             go_wp2_with fail
             go_roundw
             case rel=>exact ⟨j+1,G12,_,by omega,by go_num,HK12,Lib.hid (by have:=HFN.out HFT.out;rw [HW.out,HSB.out] at this;exact this),HPP,HIDS12⟩
             case measure=>simp [intOf];omega
         ·have he:ms.drop j=[]:=List.drop_eq_nil_of_le (by omega)
          have HU:Hid (t8=u.adopt p y D4 ms):=Lib.hid (by have:=HFO.out;rw [he] at this;rw [← this];cases hy7 <;> rfl)
          go_wp2_with fail
          have hKQ:=HKQ.out
          clear HKQ
          subst hKQ
          dsimp only
          go_roundw
          case rel=>exact ⟨k+1,q,t8,G8,D4,A4,C4,by go_num,by omega,HK8,Lib.hid (.inr ⟨by omega,HADP.out t8 (by rw [HU.out,HMI.out])⟩)⟩
          case measure=>
           have h1:=mu_is HK8.out (k+1)
           have h2:=HTP.out.2
           have h3:t8.P.length=t.P.length:=by rw [HPP.out.1]
           have h4:=HQK.out
           rw [HM.out]
           refine Nat.lt_of_le_of_lt (Nat.le_of_eq h1) ?_
           rw [if_neg (by omega),if_pos h4.1]
           omega
      ·rename (Exit→Act→World→Prop)=>Q2
       clear_value (hQ2:Q2=_)
       obtain ⟨KQ,hQ3,HKQ⟩:=then_split hQ2
       clear hQ2
       subst hQ3
       as_aux_lemma=>
        clear hs hm
        have hgt:(k:Int) > 0:=by omega
        go_wp2_with fail
        have hKQ:=HKQ.out
        clear HKQ
        subst hKQ
        dsimp only
        go_roundw
        case rel=>exact ⟨k+1,q,u,G1,D4,A4,C4,by go_num,by omega,HK5,Lib.hid (.inr ⟨by omega,hLL⟩)⟩
        case measure=>
         have h1:=mu_is HK5.out (k+1)
         have h3:=HPL.out
         rw [HM.out]
         refine Nat.lt_of_le_of_lt (Nat.le_of_eq h1) ?_
         rw [if_neg (Nat.succ_ne_zero k),if_neg (by omega)]
         omega
     ·have HNL:Hid (Ju.stateL u.A D4≠2):=Lib.hid (by rw [hs];decide)
      rename (Exit→Act→World→Prop)=>Q2
      clear_value (hQ2:Q2=_)
      obtain ⟨KQ,hQ3,HKQ⟩:=then_split hQ2
      clear hQ2
      subst hQ3
      as_aux_lemma=>
       obtain rfl:st=0:=HS.out.symm.trans hs
       have HX:Hid (u.examine y D4=(u.accept y D4,Ho.childL (u.accept y D4).P y)):=Lib.hid (examine_good (by rw [judge_ok HEX.out.ok];exact hs))
       clear hs hm
       go_wp2_with fail
       with_reducible refine (raccept_any y D4 A4 C4 HAL.out HK5.out.cap _ HK5.out.node HK5.out.ins).mono ?_
       rintro e w6 ⟨rfl,G6,h6,t6⟩
       have HK6:=Lib.hid (HK5.out.gain h6 t6)
       have l6:=h6.lt
       clear h6 t6
       go_wp2_with fail
       with_reducible refine (r_childP y _ HK6.out.node).mono ?_
       rintro e w7 ⟨a7,c7,rfl,ho7,hb7⟩
       have HK7:=Lib.hid (HK6.out.kept hb7)
       have HO7:=Lib.hid ho7
       clear ho7 hb7
       go_wp2_with (at_builtin;refine append_ids rfl _ _ rfl rfl rfl HK7.out.row HO7.out (by have h1:=HEX.out.few;have h2:=childL_len (L:=(u.accept y D4).P) y;have h3:=HK7.out.node.good.P.len;omega) HK7.out.lt ?_;intro v8 w8 ho8 hg8 hn8)
       have HK8:=Lib.hid (HK7.out.rowed ho8 hg8 hn8)
       clear ho8 hg8 hn8
       go_wp2_with fail
       have hKQ:=HKQ.out
       clear HKQ
       subst hKQ
       dsimp only
       go_roundw
       case rel=>exact ⟨k+1,q ++ Ho.childL (u.accept y D4).P y,u.accept y D4,G6,D4,A4,C4,by go_num,by simp only [List.length_append];omega,HK8,Lib.hid (.inr ⟨by omega,by have:=HEX.out.step hkl (HR.out HNL.out) HNL.out;rw [HX.out] at this;exact this⟩)⟩
       case measure=>
        have h1:=mu_is HK8.out (k+1)
        have h2:=HEX.out.small HNL.out
        have h3:=HPL.out
        rw [HX.out] at h2
        simp only at h2
        rw [HM.out]
        refine Nat.lt_of_le_of_lt (Nat.le_of_eq h1) ?_
        rw [List.length_append,if_neg (Nat.succ_ne_zero k)]
        split <;> omega
     ·have HNL:Hid (Ju.stateL u.A D4≠2):=Lib.hid (by rw [hs];decide)
      obtain rfl:st=1:=HS.out.symm.trans hs
      obtain ⟨t,ht⟩:∃ t:NS,({ u with Q:=u.Q.put y }:NS).settle y=t:=⟨_,rfl⟩
      have HX:Hid (u.examine y D4=t.seek y D4):=Lib.hid (by rw [examine_poor (by rw [judge_ok HEX.out.ok];exact hs),ht])
      have HTA:Hid (t.A=u.A∧t.P=Ho.removeL u.P y):=Lib.hid (by rw [← ht];exact ⟨rfl,rfl⟩)
      have HTT:=Lib.hid ht
      clear hs hm ht
      go_wp2_with fail
      with_reducible refine (r_putQ y _ HK5.out.node).mono ?_
      rintro e w6 ⟨rfl,G6,h6,t6⟩
      have HK6:=Lib.hid (HK5.out.gain h6 t6)
      have l6:=h6.lt
      clear h6 t6
      go_wp2_with fail
      with_reducible refine (r_forget y _ HK6.out.node).mono ?_
      rintro e w7 ⟨rfl,G7,h7,t7⟩
      have HK7:=Lib.hid (HK6.out.gain h7 t7)
      have l7:=h7.lt
      clear h7 t7
      go_wp2_with fail
      with_reducible refine (r_remove y _ rfl _ HK7.out.node).mono ?_
      rintro e w8 ⟨rfl,G8,h8,t8⟩
      have HK8:Hid (LK w G B w8 G8 t q (.slice (some ⟨g,o,none⟩) q.length rc) D4 A4 C4):=Lib.hid (HTT.out▸HK7.out.gain h8 t8)
      have l8:=h8.lt
      clear h8 t8 HK5 HK6 HK7 b0 b1 b2 b3 lb lB
      go_wp2_with fail
      with_reducible refine (r_childP y _ HK8.out.node).mono ?_
      rintro e w9 ⟨a9,c9,rfl,ho9,hb9⟩
      have HK9:=Lib.hid (HK8.out.kept hb9)
      obtain ⟨a9',c9',e9,_,hids9,_⟩:=owns_idsAt ho9
      simp only [Value.slice.injEq,true_and] at e9
      obtain ⟨rfl,rfl⟩:=e9
      obtain ⟨cs,hcs⟩:∃ cs,Ho.childL t.P y=cs:=⟨_,rfl⟩
      rw [hcs] at hids9 ⊢
      have HIDS:=Lib.hid hids9
      have HCS:=Lib.hid hcs
      have hcl:cs.length≤24:=by
       have h1:=childL_len (L:=t.P) y
       have h2:=HK9.out.node.good.P.len
       rw [hcs] at h1
       omega
      clear ho9 hb9 hids9 hcs HK8 l6 l7 l8
      go_wp2_with fail
      obtain ⟨wB,hwB⟩:∃ x,x=w9:=⟨_,rfl⟩
      subst hwB
      go_loopw [8,94] (fun v8 i wq=>∃ j:Nat,j≤cs.length∧i=.int .i64 j∧v8=.slice (some ⟨g,o,none⟩) q.length rc∧Hid (Below wB.heap.size wB wq)∧Hid ((cs.take j).find? (pays t D4)=none)) (fun _ i _=>cs.length - (intOf i).toNat)
      case atStart=>exact ⟨0,Nat.zero_le _,rfl,rfl,Lib.hid (Below.refl _ _),Lib.hid rfl⟩
      case round=>
       obtain ⟨j,hj,rfl,rfl,HBJ,HNJ⟩:=hrel
       have HKJ:=Lib.hid (HK9.out.kept HBJ.out)
       by_cases hjl:j < cs.length
       ·obtain ⟨gj,oj,rfl,hgj,hcj⟩:=HIDS.out j hjl
        have hcj2:=kept_cell HBJ.out hcj
        obtain ⟨c,hc⟩:∃ c,cs[j]=c:=⟨_,rfl⟩
        rw [hc] at hcj hcj2
        have HC:=Lib.hid hc
        have hlj:=(cell_spot hcj2).2
        have hlB:=HKJ.out.node.lt
        have HDE:Hid (∃ E,Ho.deedOf t.P c=some E):=Lib.hid (child_deed (x:=y) (by rw [HCS.out,← hc];exact List.getElem_mem hjl))
        clear hc hcj
        go_wp2_with fail
        with_reducible refine (r_deedP c _ HKJ.out.node).mono ?_
        rintro e w10 ⟨a10,c10,rfl,hi10,hb10,ho10,hc10⟩
        obtain ⟨E,hE⟩:=HDE.out
        have HEE:=Lib.hid hE
        rw [hE] at hi10 ho10 hc10 ⊢
        simp only [Option.getD_some,Option.isSome_some,if_true] at hi10 ho10 hc10 ⊢
        obtain ⟨wy,hwy⟩:∃ wy,w10.alloc (.cells #[.slice a10 E.ins.length c10,.int .i64 E.outs,.int .i64 E.weight,.int .i64 E.fee] 94)=wy:=⟨_,rfl⟩
        have hby:Below w10.heap.size w10 wy:=hwy▸kept_new _ _
        have HBY:Hid (Below wB.heap.size wB wy):=Lib.hid (kept_trans HBJ.out (kept_trans hb10 hby))
        have HYY:Hid (DeedBox wy w10.heap.size a10 c10 E):=Lib.hid (hwy▸box_deed w10 a10 c10 E)
        have HIY:=Lib.hid (insAt_kept hby hi10)
        have HOY:=Lib.hid ho10
        have HCY:=Lib.hid hc10
        have HZY:Hid (wB.heap.size≤w10.heap.size):=Lib.hid (Nat.le_trans HBJ.out.size hb10.size)
        have hbd:Below wy.heap.size wy wy.drew:=(Below.refl _ _).drew
        have hkd:=HK9.out.kept (kept_trans HBY.out hbd)
        obtain ⟨⟨b0,b1,b2,b3⟩,lb,lB⟩:=hkd.cells
        obtain ⟨la,lc,ll,h3,_,_⟩:=hkd.node.led
        obtain ⟨y0,y1,y2,y3⟩:=HYY.out.kept hbd
        have ly:=(cell_spot y0).2
        obtain ⟨ps,pr,hp⟩:∃ ps pr,Ju.pairL t.A D4 E=(ps,pr):=⟨_,_,rfl⟩
        have HP:=Lib.hid hp
        have HKd:=Lib.hid hkd
        have HIYd:=Lib.hid (insAt_kept hbd HIY.out)
        clear hkd hbd hp hi10 ho10 hc10 hb10 hE hby hcj2 hlj hlB
        go_upto_region 23 with fail
        go_cut [19,20,94] from 94 to 143 (fun v19 v20 i wx=>v19=.int .i64 ps∧v20=.int .i64 pr∧i=.int .i64 j∧Hid (Below wy.heap.size wy wx))
        case first=>
         go_region_law (first
          | (go_simp;go_at_call 130;(with_reducible refine (pair_any HKd.out.node (by rw [HTA.out.1];exact HAL.out) HKd.out.ins HIYd.out HKd.out.cap HCY.out (by rw [HTA.out.1,HEX.out.id];exact HEX.out.new) ps pr HP.out h3).mono ?_);rintro e w11 ⟨rfl,hb11⟩))
         all_goals
          go_wp2_with fail
          go_meet
          case rel=>exact ⟨rfl,rfl,rfl,Lib.hid (kept_trans ((Below.refl _ _).drew) hb11)⟩
        case rest=>
        obtain ⟨rfl,rfl,rfl,HB4⟩:=hcut
        clear b0 b1 b2 b3 lb lB h3 y0 y1 y2 y3 ly HKd HIYd
        have HB11:=Lib.hid (kept_trans HBY.out HB4.out)
        have HK11:=Lib.hid (HK9.out.kept HB11.out)
        have HY11:=Lib.hid (HYY.out.kept HB4.out)
        have HI11:=Lib.hid (insAt_kept HB4.out HIY.out)
        obtain ⟨⟨b0,b1,b2,b3⟩,lb,lB⟩:=HK11.out.cells
        obtain ⟨y0,y1,y2,y3⟩:=HY11.out
        have ly:=(cell_spot y0).2
        by_cases hz:ps=0∧pr=0
        ·obtain ⟨rfl,rfl⟩:=hz
         have HFI:Hid ((Ho.childL t.P y).find? (pays t D4)=some c):=Lib.hid (by
          have e:=HNJ.out
          rw [HCS.out,← List.take_append_drop j cs,List.find?_append,e,List.drop_eq_getElem_cons hjl,HC.out,List.find?_cons]
          have:pays t D4 c=true:=by
           unfold pays
           rw [HEE.out,Option.getD_some,HP.out]
           rfl
          rw [this]
          rfl)
         have HXX:Hid (u.examine y D4=((t.accept y D4).accept c E,Ho.childL ((t.accept y D4).accept c E).P y ++ Ho.childL ((t.accept y D4).accept c E).P c)):=Lib.hid (by rw [HX.out,seek_some HFI.out,HEE.out,Option.getD_some])
         go_wp2_with fail
         with_reducible refine (raccept_any y D4 A4 C4 (by rw [HTA.out.1];exact HAL.out) HK11.out.cap _ HK11.out.node HK11.out.ins).mono ?_
         rintro e w12 ⟨rfl,G12,h12,t12⟩
         have HK12:=Lib.hid (HK11.out.gain h12 t12)
         have hyB:w10.heap.size≠B:=by have:=HZY.out;have:=HK9.out.node.lt;omega
         have HY12:Hid (DeedBox w12 w10.heap.size a10 c10 E):=Lib.hid (box_gain HY11.out t12 hyB)
         have HI12:Hid (InsAt w12 a10 E.ins):=Lib.hid (gain_ins HI11.out t12 (fun bb o hne e=>(HOY.out bb o hne e).2))
         clear b0 b1 b2 b3 lb lB y0 y1 y2 y3 ly h12 t12 hyB
         obtain ⟨y0,y1,y2,y3⟩:=HY12.out
         have ly:=(cell_spot y0).2
         have lB:=HK12.out.node.lt
         have HA12:Hid ((t.accept y D4).A.length≤2932031007401):=Lib.hid (by
          have h1:=accept_A t y D4
          have h2:=HEX.out.sum
          have h4:0 < t.P.length:=by
           obtain ⟨l,hl,_⟩:=Ho.deedOf_some HEE.out
           exact List.length_pos_of_mem hl
          rw [HTA.out.1] at h1
          rw [HTA.out.2] at h4
          omega)
         go_wp2_with fail
         with_reducible refine (raccept_any c E a10 c10 HA12.out HCY.out _ HK12.out.node HI12.out).mono ?_
         rintro e w13 ⟨rfl,G13,h13,t13⟩
         have HL:=Lib.hid (HK12.out.gain h13 t13)
         clear y0 y1 y2 y3 ly lB h13 t13
         have lB:=HL.out.node.lt
         have HQ1:Hid (q.length+24+24≤1000000∧(Ho.childL ((t.accept y D4).accept c E).P y).length≤24∧(Ho.childL ((t.accept y D4).accept c E).P c).length≤24):=Lib.hid (by
          have h1:=HEX.out.few
          have h2:=childL_len (L:=((t.accept y D4).accept c E).P) y
          have h3:=childL_len (L:=((t.accept y D4).accept c E).P) c
          have h4:=HL.out.node.good.P.len
          exact ⟨by omega,by omega,by omega⟩)
         go_upto_region 27 with fail
         have HL0:=Lib.hid (HL.out.kept ((Below.refl _ _).drew))
         have lB0:=HL0.out.node.lt
         clear HL lB
         go_region_law (first
          | (refine step_append_ids (C0:=w.heap.size+1) (v:=.slice (some ⟨g,o,none⟩) q.length rc) (u:=.slice ach1 (Ho.childL ((t.accept y D4).accept c E).P y).length cch1) (l:=q) (m:=(Ho.childL ((t.accept y D4).accept c E).P y)) (by rfl) _ _ (by rfl) (by rfl) (by rfl) (by first | exact HLc2.out.row | exact HLc1.out.row) (by first | exact HO1c2.out | exact HO1c1.out) (by have:=HQ1.out;omega) (by first | exact HLc2.out.lt | exact HLc1.out.lt) ?_;intro v1 wa1 ho1 hg1 hn1;have HLa1:Hid (LK w G B wa1 G13 ((t.accept y D4).accept c E) (q ++ (Ho.childL ((t.accept y D4).accept c E).P y)) v1 D4 A4 C4):=Lib.hid (by first | exact HLc2.out.rowed ho1 hg1 hn1 | exact HLc1.out.rowed ho1 hg1 hn1);first | (have HO2a1:=Lib.hid (ids_beside HO2c2.out HD2c2.out hg1 hn1).1) | (have HO2a1:=Lib.hid (ids_beside HO2c1.out HD2c2.out hg1 hn1).1) | skip;have lBa1:=HLa1.out.node.lt;clear ho1 hg1 hn1)
          | (refine step_append_ids (C0:=w.heap.size+1) (v:=v1) (u:=.slice ach2 (Ho.childL ((t.accept y D4).accept c E).P c).length cch2) (l:=q ++ (Ho.childL ((t.accept y D4).accept c E).P y)) (m:=(Ho.childL ((t.accept y D4).accept c E).P c)) (by rfl) _ _ (by rfl) (by rfl) (by rfl) (by first | exact HLa1.out.row | exact HLc2.out.row) (by first | exact HO2a1.out | exact HO2c2.out) (by have:=HQ1.out;rw [List.length_append];omega) (by first | exact HLa1.out.lt | exact HLc2.out.lt) ?_;intro v2 wa2 ho3 hg3 hn3;have HLz:Hid (LK w G B wa2 G13 ((t.accept y D4).accept c E) ((q ++ (Ho.childL ((t.accept y D4).accept c E).P y)) ++ (Ho.childL ((t.accept y D4).accept c E).P c)) v2 D4 A4 C4):=Lib.hid (by first | exact HLa1.out.rowed ho3 hg3 hn3 | exact HLc2.out.rowed ho3 hg3 hn3);clear ho3 hg3 hn3)
          | (go_simp;go_at_call 126;(with_reducible refine (r_childP (G:=G13) (s:=((t.accept y D4).accept c E)) y _ (by first | exact HLc2.out.node | exact HL0.out.node)).mono ?_);rintro e wc1 ⟨ach1,cch1,rfl,ho1,hb1⟩;have HO1c1:=Lib.hid ho1;first | (have HLc1:=Lib.hid (HLc2.out.kept hb1);have HO2c1:=Lib.hid (owns_below HO2c2.out hb1)) | (have HLc1:=Lib.hid (HL0.out.kept hb1));have lBc1:=HLc1.out.node.lt;clear ho1 hb1)
          | (go_simp;go_at_call 126;(with_reducible refine (r_childP (G:=G13) (s:=((t.accept y D4).accept c E)) c _ (by first | exact HLa1.out.node | exact HLc1.out.node | exact HL0.out.node)).mono ?_);rintro e wc2 ⟨ach2,cch2,rfl,ho2,hb2⟩;have HO2c2:=Lib.hid ho2;first | (have HLc2:=Lib.hid (HLa1.out.kept hb2)) | (have HLc2:=Lib.hid (HLc1.out.kept hb2);have HD2c2:=Lib.hid (fresh_beside HLc1.out.row ho2);have HO1c2:=Lib.hid (owns_below HO1c1.out hb2)) | (have HLc2:=Lib.hid (HL0.out.kept hb2);have HD2c2:=Lib.hid (fresh_beside HL0.out.row ho2));have lBc2:=HLc2.out.node.lt;clear ho2 hb2))
         all_goals
          have HLF:Hid (LK w G B _ G13 ((t.accept y D4).accept c E) (q ++ (Ho.childL ((t.accept y D4).accept c E).P y ++ Ho.childL ((t.accept y D4).accept c E).P c)) _ D4 A4 C4):=Lib.hid (by rw [← List.append_assoc];exact HLz.out)
          go_wp2_with fail
          go_roundw
          case rel=>exact ⟨k+1,q ++ (Ho.childL ((t.accept y D4).accept c E).P y ++ Ho.childL ((t.accept y D4).accept c E).P c),((t.accept y D4).accept c E),G13,D4,A4,C4,by go_num,by simp only [List.length_append];omega,HLF,Lib.hid (.inr ⟨by omega,by have:=HEX.out.step hkl (HR.out HNL.out) HNL.out;rw [HXX.out] at this;exact this⟩)⟩
          case measure=>
           have h1:=mu_is HLF.out (k+1)
           have h2:=HEX.out.small HNL.out
           have h3:=HPL.out
           rw [HXX.out] at h2
           simp only at h2
           rw [HM.out]
           refine Nat.lt_of_le_of_lt (Nat.le_of_eq h1) ?_
           rw [List.length_append,if_neg (Nat.succ_ne_zero k)]
           split <;> omega
        ·have HNN:Hid ((cs.take (j+1)).find? (pays t D4)=none):=Lib.hid (by
          rw [List.take_add_one,List.find?_append,HNJ.out,List.getElem?_eq_getElem hjl,HC.out]
          have:pays t D4 c=false:=by
           unfold pays
           rw [HEE.out,Option.getD_some,HP.out]
           exact decide_eq_false (fun e=>hz (by simpa using e))
          simp [this])
         by_cases hpr:pr=0
         ·subst hpr
          have hps:¬ ps=0:=fun e=>hz ⟨e,rfl⟩
          go_wp2_with fail
          go_roundw
          case rel=>exact ⟨j+1,by omega,by go_num,rfl,HB11,HNN⟩
          case measure=>simp [intOf];omega
         ·go_wp2_with fail
          go_roundw
          case rel=>exact ⟨j+1,by omega,by go_num,rfl,HB11,HNN⟩
          case measure=>simp [intOf];omega
       ·have he:cs.take j=cs:=List.take_of_length_le (by omega)
        have HFI:Hid ((Ho.childL t.P y).find? (pays t D4)=none):=Lib.hid (by have:=HNJ.out;rw [he] at this;rw [HCS.out];exact this)
        have HXX:Hid (u.examine y D4=(t,[])):=Lib.hid (by rw [HX.out,seek_none HFI.out])
        have HKN:Hid (LK w G B _ G8 t (q ++ []) (.slice (some ⟨g,o,none⟩) q.length rc) D4 A4 C4):=Lib.hid (by rw [List.append_nil];exact HKJ.out)
        go_wp2_with fail
        go_roundw
        case rel=>exact ⟨k+1,q ++ [],t,G8,D4,A4,C4,by go_num,by simp only [List.length_append];omega,HKN,Lib.hid (.inr ⟨by omega,by have:=HEX.out.step hkl (HR.out HNL.out) HNL.out;rw [HXX.out] at this;exact this⟩)⟩
        case measure=>
         have h1:=mu_is HKN.out (k+1)
         have h2:=HEX.out.small HNL.out
         have h3:=HPL.out
         rw [HXX.out] at h2
         simp only at h2
         rw [HM.out]
         refine Nat.lt_of_le_of_lt (Nat.le_of_eq h1) ?_
         rw [List.length_append,if_neg (Nat.succ_ne_zero k)]
         split <;> omega
     ·have HNL:Hid (Ju.stateL u.A D4≠2):=Lib.hid (by rw [hs];decide)
      rename (Exit→Act→World→Prop)=>Q2
      clear_value (hQ2:Q2=_)
      obtain ⟨KQ,hQ3,HKQ⟩:=then_split hQ2
      clear hQ2
      subst hQ3
      as_aux_lemma=>
       obtain rfl:st=3:=HS.out.symm.trans hs
       have HX:Hid (u.examine y D4=(({ u with W:=u.W.put y }:NS).settle y,[])):=Lib.hid (examine_wicked (by rw [judge_ok HEX.out.ok];exact hs))
       clear hs hm
       go_wp2_with fail
       with_reducible refine (r_putW y _ HK5.out.node).mono ?_
       rintro e w6 ⟨rfl,G6,h6,t6⟩
       have HK6:=Lib.hid (HK5.out.gain h6 t6)
       have l6:=h6.lt
       clear h6 t6
       go_wp2_with fail
       with_reducible refine (r_forget y _ HK6.out.node).mono ?_
       rintro e w7 ⟨rfl,G7,h7,t7⟩
       have HK7:=Lib.hid (HK6.out.gain h7 t7)
       have l7:=h7.lt
       clear h7 t7
       go_wp2_with fail
       with_reducible refine (r_remove y _ rfl _ HK7.out.node).mono ?_
       rintro e w8 ⟨rfl,G8,h8,t8⟩
       have HK8:Hid (LK w G B w8 G8 (({ u with W:=u.W.put y }:NS).settle y) q (.slice (some ⟨g,o,none⟩) q.length rc) D4 A4 C4):=Lib.hid (HK7.out.gain h8 t8)
       clear h8 t8
       have HK9:Hid (LK w G B w8 G8 (({ u with W:=u.W.put y }:NS).settle y) (q ++ []) (.slice (some ⟨g,o,none⟩) q.length rc) D4 A4 C4):=Lib.hid (by rw [List.append_nil];exact HK8.out)
       go_wp2_with fail
       have hKQ:=HKQ.out
       clear HKQ
       subst hKQ
       dsimp only
       go_roundw
       case rel=>exact ⟨k+1,q ++ [],({ u with W:=u.W.put y }:NS).settle y,G8,D4,A4,C4,by go_num,by simp only [List.length_append];omega,HK9,Lib.hid (.inr ⟨by omega,by have:=HEX.out.step hkl (HR.out HNL.out) HNL.out;rw [HX.out] at this;exact this⟩)⟩
       case measure=>
        have h1:=mu_is HK9.out (k+1)
        have h2:=HEX.out.small HNL.out
        have h3:=HPL.out
        rw [HX.out] at h2
        simp only at h2
        rw [HM.out]
        refine Nat.lt_of_le_of_lt (Nat.le_of_eq h1) ?_
        rw [List.length_append,if_neg (Nat.succ_ne_zero k)]
        split <;> omega
  ·have HF:Hid (LI n (s.look p x d) k q u):=Lib.hid (HLR.out.elim (fun h=>by
    have h1:=h.1
    have h2:=h.2.1
    rw [h1,h2] at hkl
    exact absurd (Nat.zero_lt_one) hkl) (fun h=>h.2))
   obtain ⟨ra,rc,hv,_⟩:=owns_idsAt HLK.out.row
   subst hv
   go_wp2_with fail
   go_end0
   have h1:=HF.out.rest
   rw [List.drop_eq_nil_of_le (by omega),follow_nil] at h1
   rw [← h1]
   exact ⟨rfl,G1,HLK.out.node,HLK.out.grow⟩
end Go.Proofs.YtlboemhbealnmaaGreat
