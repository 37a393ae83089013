import Derived.Test.YtlboemhbealnmaaGreatP31
import Derived.Deep.RegionHeld3
import Derived.Test.YtlboemhbealnmaaGreatP32
import Derived.Deep.CutRange
import Derived.Test.YtlboemhbealnmaaGreatP16
set_option maxRecDepth 20000
namespace Go.Proofs.YtlboemhbealnmaaGreat.Tr
open Go.RowKit Go.Maps
theorem refMix_peer (salt:UInt64) (p:Nat) (hp:p < 8) (x k:UInt64) (hk:mixU salt (UInt64.ofNat p) x=k) (w:World):Calls Tryz.prog 182 #[.int .u64 salt.toNat,.int .u64 p,.int .u64 x.toNat] w fun e w'=>e=.returned (.int .u64 k.toNat)∧w=w':=by
 have h:((UInt64.ofNat p).toNat:Int)=p:=by rw [UInt64.toNat_ofNat_of_lt' (by show p < 18446744073709551616;omega)]
 have:=refMix_any salt (UInt64.ofNat p) x w
 rw [h,hk] at this
 exact this
theorem u64_ne (x y:UInt64):(((x.toNat:Nat):Int) != (y.toNat:Int))=!(x == y):=by
 rw [bne,u64_beq]
set_option maxRecDepth 20000 in
set_option maxHeartbeats 1000000 in
theorem beats_any (salt:UInt64) (B:Nat) (a b:TEnt) (ha:a.peer < 8) (hb:b.peer < 8) (r:Bool) (hr:beatsB salt a b=r) (w:World) (hs:w.cell? ⟨B,0,none⟩=some (.int .u64 salt.toNat)) :
  Calls Tryz.prog 133 #[.pointer (some ⟨B,0,none⟩),.agg #[.int .i64 a.peer,.int .u64 a.id.toNat,.bool a.pref,.int .i64 a.st,.int .i64 a.till],.agg #[.int .i64 b.peer,.int .u64 b.id.toNat,.bool b.pref,.int .i64 b.st,.int .i64 b.till]] w fun e w'=>e=.returned (.bool r)∧Below w.heap.size w w':=by
 have hR:=(cell_spot hs).2
 obtain ⟨wX,hwX⟩:∃ x,x=((w.alloc (.cells #[.int .i64 a.peer,.int .u64 a.id.toNat,.bool a.pref,.int .i64 a.st,.int .i64 a.till] 105)).alloc (.cells #[.int .i64 b.peer,.int .u64 b.id.toNat,.bool b.pref,.int .i64 b.st,.int .i64 b.till] 105)):=⟨_,rfl⟩
 have hbX:Below w.heap.size w wX:=hwX▸kept_alloc (kept_new _ _) _
 have HBX:=Lib.hid hbX
 obtain ⟨a0,a1,a2,a3,a4⟩:EntAt wX w.heap.size 0 a:=hwX▸⟨by simp [go_sem],by simp [go_sem],by simp [go_sem],by simp [go_sem],by simp [go_sem]⟩
 obtain ⟨b0,b1,b2,b3,b4⟩:EntAt wX (w.heap.size+1) 0 b:=hwX▸⟨by simp [go_sem],by simp [go_sem],by simp [go_sem],by simp [go_sem],by simp [go_sem]⟩
 have hsX:=kept_cell hbX hs
 have hsz:wX.heap.size=w.heap.size+2:=by rw [hwX];simp
 by_cases hpr:a.pref=b.pref
 ·obtain ⟨ka,hka⟩:∃ k,rankU salt a=k:=⟨_,rfl⟩
  obtain ⟨kb,hkb⟩:∃ k,rankU salt b=k:=⟨_,rfl⟩
  have HKA:Hid (mixU salt (UInt64.ofNat a.peer) a.id=ka):=Lib.hid hka
  have HKB:Hid (mixU salt (UInt64.ofNat b.peer) b.id=kb):=Lib.hid hkb
  have HA:=Lib.hid ha
  have HB:=Lib.hid hb
  have ca:IntKind.u64.wrap (a.peer:Int)=a.peer:=by show (a.peer:Int) % 18446744073709551616=_;omega
  have cb:IntKind.u64.wrap (b.peer:Int)=b.peer:=by show (b.peer:Int) % 18446744073709551616=_;omega
  have ca':(a.peer:Int) % 18446744073709551616=a.peer:=ca
  have cb':(b.peer:Int) % 18446744073709551616=b.peer:=cb
  have hpb:(!(a.pref == b.pref))=false:=by simp [hpr]
  have go:(if ka=kb then decide (a.peer < b.peer) else decide (kb.toNat < ka.toNat))=r:=by rw [← hr];unfold beatsB;rw [if_pos hpr,hka,hkb]
  have HGO:=Lib.hid go
  clear hka hkb ha hb hr hpr go hbX
  go_enter Tryz.func133,Tryz.ntmps133
  go_wp2_with fail
  rw [← hwX]
  clear hwX hs
  go_region_held3 (fun w'=>w'.cell? ⟨B,0,none⟩=some (.int .u64 salt.toNat)∧w'.cell? ⟨w.heap.size,0,none⟩=some (.int .i64 a.peer)∧w'.cell? ⟨w.heap.size,1,none⟩=some (.int .u64 a.id.toNat)∧w'.cell? ⟨w.heap.size+1,0,none⟩=some (.int .i64 b.peer)∧w'.cell? ⟨w.heap.size+1,1,none⟩=some (.int .u64 b.id.toNat))
   (first | exact ⟨hsX,a0,a1,b0,b1⟩ | assumption)
   (first
    | (go_at_call 182;((with_reducible refine (refMix_peer salt a.peer HA.out a.id ka HKA.out _).mono ?_);rintro e w2 ⟨rfl,rfl⟩))
    | (go_at_call 182;((with_reducible refine (refMix_peer salt b.peer HB.out b.id kb HKB.out _).mono ?_);rintro e w2 ⟨rfl,rfl⟩)))
  clear a0 a1 a2 a3 a4 b0 b1 b2 b3 b4 hsX ca cb ca' cb'
  go_split_ands
  by_cases hk:ka=kb
  ·subst hk
   have HG:Hid (decide (a.peer < b.peer)=r):=Lib.hid (by
    have:=HGO.out
    rw [if_pos rfl] at this
    exact this)
   have hq:(((ka.toNat:Nat):Int) != (ka.toNat:Int))=false:=by simp
   go_wp2_with fail
   go_ret
   exact ⟨ret_bool HG.out,kept_trans HBX.out ((Below.refl _ _).drew)⟩
  ·have HG:Hid (decide (kb.toNat < ka.toNat)=r):=Lib.hid (by
    have:=HGO.out
    rw [if_neg hk] at this
    exact this)
   have hq:(((ka.toNat:Nat):Int) != (kb.toNat:Int))=true:=by rw [u64_ne];simp [hk]
   go_wp2_with fail
   go_ret
   exact ⟨ret_bool HG.out,kept_trans HBX.out ((Below.refl _ _).drew)⟩
 ·have HG:Hid (a.pref=r):=Lib.hid (by rw [← hr];unfold beatsB;rw [if_neg hpr])
  have hpb:(!(a.pref == b.pref))=true:=by simp [hpr]
  clear hr ha hb hpr hbX a0 a1 a2 a3 a4 b0 b1 b2 b3 b4 hsX
  go_enter Tryz.func133,Tryz.ntmps133
  go_wp2_with fail
  go_ret
  exact ⟨ret_bool HG.out,by rw [← hwX];exact HBX.out⟩
end Go.Proofs.YtlboemhbealnmaaGreat.Tr
namespace Go.Proofs.YtlboemhbealnmaaGreat.Tr
open Go.RowKit Go.Maps
variable {w w':World} {G:Nat→Prop} {R:Loc} {salt:UInt64} {L:List TEnt} {v:Value}
def aheadR (salt:UInt64) (e x:TEnt):Bool:=x.id == e.id && x.st == 1 && x != e && beatsB salt x e
def readyR (L:List TEnt) (p:Nat) (e:TEnt):Bool:=e.peer == p && e.st == 1 && !L.any (fun y=>y.id == e.id && y.st == 2)
def firstR (salt:UInt64) (L:List TEnt) (p:Nat) (e:TEnt):Bool:=readyR L p e && !L.any (aheadR salt e)
theorem any_step {q:TEnt→Bool} {l:List TEnt} {k:Nat} (h:k < l.length):(l.take (k+1)).any q=((l.take k).any q || q l[k]):=by
 rw [List.take_succ_eq_append_getElem h,List.any_append]
 simp
theorem firstR_step {q:TEnt→Bool} {l:List TEnt} {k:Nat} (h:k < l.length):((l.take (k+1)).filter q).map (fun e=>e.id)=((l.take k).filter q).map (fun e=>e.id) ++ if q l[k] then [l[k].id] else []:=by
 rw [filter_step h,List.map_append]
 cases q l[k] <;> simp
theorem same_one {L:List TEnt} (hn:L.Pairwise fun a b=>¬ (a.peer=b.peer∧a.id=b.id)) {x e:TEnt} (hx:x ∈ L) (he:e ∈ L) (hp:x.peer=e.peer) (hi:x.id=e.id):x=e:=by
 obtain ⟨i,hil,rfl⟩:=List.getElem_of_mem he
 exact isE_only hn (p:=L[i].peer) (x:=L[i].id) hil (by unfold isE;simp) hx (by unfold isE;simp [hp,hi])
set_option maxRecDepth 20000 in
set_option maxHeartbeats 2000000 in
theorem refNext_any (p:Nat) (hp:p < 8) (w:World) (h:RefTr w G R salt L v) (hg:Good L) :
  Calls Tryz.prog 70 #[.pointer (some ⟨R.b,0,none⟩),.int .i64 p] w fun e w'=>GaveIds w ((L.filter (firstR salt L p)).map fun e=>e.id) e w'∧Below w.heap.size w w':=by
 obtain ⟨c1,_⟩:=h.slicec
 have s1:=h.saltc
 have hlt:=h.lt
 have hl:=all_few hg.peer hg.few
 obtain ⟨a,cp,hv,hcp,hat,_⟩:=ownE_form h.row
 rw [hv] at c1
 have H:=Lib.hid h
 have HA:=Lib.hid hat
 have HG:=Lib.hid hg
 clear h hat hv hg
 go_enter Tryz.func70,Tryz.ntmps70
 go_wp2_with fail
 with_reducible refine (badPeer_no p hp _).mono ?_
 rintro e w1 ⟨rfl,rfl⟩
 go_wp2_with fail
 go_loopw [6,19] (fun v i wr=>∃ k:Nat,k≤L.length∧i=.int .i64 k∧Hid (OwnIds wr w.heap.size v (((L.take k).filter (firstR salt L p)).map fun e=>e.id))∧Hid (Below w.heap.size w wr)) (fun _ i _=>L.length - (intOf i).toNat)
 case atStart=>exact ⟨0,Nat.zero_le _,rfl,Lib.hid (ownIds_nil _ _),Lib.hid (Below.refl _ _)⟩
 case round=>
  obtain ⟨k,hk,rfl,HO,HB⟩:=hrel
  obtain ⟨wB,hwB⟩:∃ x,x=wr:=⟨_,rfl⟩
  subst hwB
  by_cases hkl:k < L.length
  ·obtain ⟨g,o,rfl,hgl,hc5⟩:=entsAt_kept HB.out HA.out k hkl
   have HST:=Lib.hid (firstR_step (q:=firstR salt L p) hkl)
   have hlen:(((L.take k).filter (firstR salt L p)).map fun e=>e.id).length≤160:=by rw [List.length_map];exact Nat.le_trans (List.length_filter_le _ _) (Nat.le_trans (List.length_take_le _ _) (by omega))
   have HM:Hid (L[k] ∈ L):=Lib.hid (List.getElem_mem hkl)
   obtain ⟨e0,he0⟩:∃ e0,L[k]=e0:=⟨_,rfl⟩
   rw [he0] at hc5 HST HM
   obtain ⟨d0,d1,d2,d3,d4⟩:=hc5
   clear he0
   go_upto_region 7 with fail
   have hbX:=kept_new wB (.cells #[.int .i64 e0.peer,.int .u64 e0.id.toNat,.bool e0.pref,.int .i64 e0.st,.int .i64 e0.till] 105)
   have hEX:EntAt (wB.alloc (.cells #[.int .i64 e0.peer,.int .u64 e0.id.toNat,.bool e0.pref,.int .i64 e0.st,.int .i64 e0.till] 105)) wB.heap.size 0 e0:=⟨by simp [go_sem],by simp [go_sem],by simp [go_sem],by simp [go_sem],by simp [go_sem]⟩
   generalize wB.alloc (.cells #[.int .i64 e0.peer,.int .u64 e0.id.toNat,.bool e0.pref,.int .i64 e0.st,.int .i64 e0.till] 105)=wX at hbX hEX ⊢
   have HBX:=Lib.hid hbX
   have HEX:=Lib.hid hEX
   clear d0 d1 d2 d3 d4 hbX hEX
   go_cut [9,19] from 19 to 76 (fun u i wx=>u=.bool (readyR L p e0)∧i=.int .i64 k∧Hid (Below wX.heap.size wX wx))
   case first=>
    obtain ⟨x0,x1,_,x3,_⟩:=HEX.out
    rw [Nat.zero_add] at x1 x3
    have hzX:=(cell_spot x0).2
    have hq1:(((e0.peer:Nat):Int) == (p:Int))=(e0.peer == p):=beq_nat e0.peer p
    have hq2:(((e0.st:Nat):Int) == 1)=(e0.st == 1):=beq_nat e0.st 1
    cases e1:e0.peer == p with
    | false=>
     have HR:Hid (readyR L p e0=false):=Lib.hid (by unfold readyR;rw [e1];rfl)
     rw [e1] at hq1
     clear e1
     go_wp2_with fail
     go_meet
     case rel=>exact ⟨by rw [HR.out],rfl,Lib.hid (Below.refl _ _)⟩
    | true=>
     cases e2:e0.st == 1 with
     | false=>
      have HR:Hid (readyR L p e0=false):=Lib.hid (by unfold readyR;rw [e1,e2];rfl)
      rw [e1] at hq1
      rw [e2] at hq2
      clear e1 e2
      go_wp2_with fail
      go_meet
      case rel=>exact ⟨by rw [HR.out],rfl,Lib.hid (Below.refl _ _)⟩
     | true=>
      obtain ⟨r,hr⟩:∃ r,L.any (fun y=>y.id == e0.id && y.st == 2)=r:=⟨_,rfl⟩
      have HR:Hid (readyR L p e0=!r):=Lib.hid (by unfold readyR;rw [e1,e2,hr];rfl)
      have HRR:=Lib.hid hr
      rw [e1] at hq1
      rw [e2] at hq2
      clear e1 e2 hr
      go_wp2_with fail
      with_reducible refine (refAsked_any e0.id _ (H.out.kept (kept_trans HB.out HBX.out)) hl r HRR.out).mono ?_
      rintro e w2 ⟨rfl,hb2⟩
      have HB2:=Lib.hid hb2
      clear hb2
      go_wp2_with fail
      go_meet
      case rel=>exact ⟨by rw [HR.out],rfl,HB2⟩
   case rest=>
    obtain ⟨rfl,rfl,HC⟩:=hcut
    have cc:=kept_cell (kept_trans (kept_trans HB.out HBX.out) HC.out) c1
    have hzc:=(cell_spot cc).2
    go_wp2_with fail
    clear cc hzc
    go_loopw [9,44] (fun u j wr=>∃ m:Nat,m≤L.length∧j=.int .i64 m∧u=.bool (readyR L p e0 && !(L.take m).any (aheadR salt e0))∧Hid (Below wX.heap.size wX wr)) (fun _ j _=>L.length - (intOf j).toNat)
    case atStart=>exact ⟨0,Nat.zero_le _,rfl,by simp,HC⟩
    case round=>
     obtain ⟨m,hm,rfl,rfl,HD⟩:=hrel
     clear HC
     by_cases hml:m < L.length
     ·obtain ⟨g2,o2,e2,hg2,hc5⟩:=entsAt_kept (kept_trans (kept_trans HB.out HBX.out) HD.out) HA.out m hml
      simp only [Option.some.injEq,Addr.mk.injEq,and_true] at e2
      obtain ⟨rfl,rfl⟩:=e2
      have HAS:=Lib.hid (any_step (q:=aheadR salt e0) hml)
      have HMX:Hid (L[m] ∈ L):=Lib.hid (List.getElem_mem hml)
      obtain ⟨x,hx⟩:∃ x,L[m]=x:=⟨_,rfl⟩
      rw [hx] at hc5 HAS HMX
      obtain ⟨d0,d1,d2,d3,d4⟩:=hc5
      obtain ⟨y0,y1,y2,y3,y4⟩:=entAt_kept HD.out HEX.out
      rw [Nat.zero_add] at y1 y2 y3 y4
      have hzy:=(cell_spot y0).2
      have HB2:=Lib.hid (kept_alloc HD.out (.cells #[.int .i64 x.peer,.int .u64 x.id.toNat,.bool x.pref,.int .i64 x.st,.int .i64 x.till] 105))
      have hq1:((x.id.toNat:Int) == (e0.id.toNat:Int))=(x.id == e0.id):=u64_beq _ _
      have hq2:(((x.st:Nat):Int) == 1)=(x.st == 1):=beq_nat x.st 1
      clear hx
      cases e1:x.id == e0.id with
      | false=>
       have HQ:Hid (aheadR salt e0 x=false):=Lib.hid (by unfold aheadR;rw [e1];rfl)
       rw [e1] at hq1
       clear e1
       go_wp2_with fail
       go_roundw
       case rel=>exact ⟨m+1,by omega,by go_num,by rw [HAS.out,HQ.out,Bool.or_false],HB2⟩
       case measure=>simp [intOf];omega
      | true=>
       cases e2:x.st == 1 with
       | false=>
        have HQ:Hid (aheadR salt e0 x=false):=Lib.hid (by unfold aheadR;rw [e1,e2];rfl)
        rw [e1] at hq1
        rw [e2] at hq2
        clear e1 e2
        go_wp2_with fail
        go_roundw
        case rel=>exact ⟨m+1,by omega,by go_num,by rw [HAS.out,HQ.out,Bool.or_false],HB2⟩
        case measure=>simp [intOf];omega
       | true=>
        rw [e1] at hq1
        rw [e2] at hq2
        by_cases hpp:x.peer=e0.peer
        ·obtain rfl:x=e0:=same_one HG.out.nodup HMX.out HM.out hpp (by simpa using e1)
         have HQ:Hid (aheadR salt x x=false):=Lib.hid (by unfold aheadR;simp)
         clear e1 e2 hpp
         go_wp2_with fail
         go_roundw
         case rel=>exact ⟨m+1,by omega,by go_num,by rw [HAS.out,HQ.out,Bool.or_false],HB2⟩
         case measure=>simp [intOf];omega
        ·obtain ⟨r,hr⟩:∃ r,beatsB salt x e0=r:=⟨_,rfl⟩
         have HQ:Hid (aheadR salt e0 x=r):=Lib.hid (by
          unfold aheadR
          rw [e1,e2,hr]
          have:(x != e0)=true:=by
           rw [bne_iff_ne]
           exact fun h=>hpp (by rw [h])
          rw [this]
          rfl)
         have HR:=Lib.hid hr
         have hpi:¬ ((x.peer:Int)=(e0.peer:Int)):=by omega
         have HX8:=Lib.hid (HG.out.peer x HMX.out)
         have HE8:=Lib.hid (HG.out.peer e0 HM.out)
         have HSC:=Lib.hid (kept_cell (kept_trans (kept_trans HB.out HBX.out) HB2.out) s1)
         clear e1 e2 hpp hr
         go_wp2_with fail
         with_reducible refine (beats_any salt R.b x e0 HX8.out HE8.out r HR.out _ HSC.out).mono ?_
         rintro e w3 ⟨rfl,hb3⟩
         have HB3:=Lib.hid (kept_trans HB2.out hb3)
         clear hb3 hpi
         cases r with
         | true=>
          go_wp2_with fail
          go_roundw
          case rel=>exact ⟨m+1,by omega,by go_num,by rw [HAS.out,HQ.out,Bool.or_true,Bool.not_true,Bool.and_false],HB3⟩
          case measure=>simp [intOf];omega
         | false=>
          go_wp2_with fail
          go_roundw
          case rel=>exact ⟨m+1,by omega,by go_num,by rw [HAS.out,HQ.out,Bool.or_false],HB3⟩
          case measure=>simp [intOf];omega
     ·have he:L.take m=L:=List.take_of_length_le (by omega)
      have hF:(readyR L p e0 && !(L.take m).any (aheadR salt e0))=firstR salt L p e0:=by rw [he];rfl
      rw [hF]
      clear hF he
      obtain ⟨y0,y1,_,_,_⟩:=entAt_kept HD.out HEX.out
      rw [Nat.zero_add] at y1
      have hzy:=(cell_spot y0).2
      have HBB:=Lib.hid (kept_trans HBX.out HD.out)
      have HOW:=Lib.hid (ownIds_below HO.out HBB.out)
      have HBW:=Lib.hid (kept_trans HB.out HBB.out)
      cases hf:firstR salt L p e0 with
      | true=>
       rw [hf] at HST
       clear hf
       go_wp2_with (at_builtin;refine append_id rfl _ _ rfl e0.id rfl rfl HOW.out (by omega) HBW.out.size ?_;intro g3 cap3 w4 ho4 hg4 hg4')
       have HO4:=Lib.hid ho4
       have HB4:=Lib.hid (HBW.out.grown hg4' HBW.out.size (fun j hj=>(ownIds_block HOW.out j hj).1))
       clear ho4 hg4 hg4'
       go_wp2_with fail
       go_roundw
       case rel=>exact ⟨k+1,by omega,by go_num,Lib.hid (by have h4:=HO4.out;rw [List.length_map] at h4;rw [HST.out];exact h4),HB4⟩
       case measure=>simp [intOf];omega
      | false=>
       rw [hf] at HST
       clear hf
       go_wp2_with fail
       go_roundw
       case rel=>exact ⟨k+1,by omega,by go_num,Lib.hid (by rw [HST.out];simp only [Bool.false_eq_true,if_false,List.append_nil];exact HOW.out),HBW⟩
       case measure=>simp [intOf];omega
  ·have he:L.take k=L:=List.take_of_length_le (by omega)
   have HO':=HO.out
   rw [he] at HO'
   obtain ⟨a5,cap5,e5,hc5,hat5,hfr5⟩:=owns_idsAt HO'
   subst e5
   have HE:=Lib.hid (And.intro hc5 (And.intro hat5 hfr5))
   clear HO' hat5 hfr5 he
   go_wp2_with fail
   go_ret2
   exact ⟨⟨a5,cap5,rfl,HE.out.1,HE.out.2.1,HE.out.2.2⟩,HB.out⟩
end Go.Proofs.YtlboemhbealnmaaGreat.Tr
set_option maxRecDepth 20000
namespace Go.Proofs.YtlboemhbealnmaaGreat.Tr
theorem best_some {salt:UInt64} {L:List TEnt} {x:UInt64} {m:TEnt} (h:(ofL salt L).best x=some m):m ∈ entsOf L x∧m.st=1∧∀ e ∈ entsOf L x,e.st≠2:=by
 unfold TS.best at h
 rw [ofL_ents] at h
 split at h
 ·rename_i h2
  rw [List.findIdx?_eq_none_iff] at h2
  split at h
  ·cases h
  ·rename_i a r hr
   cases h
   have hm:minE salt a r ∈ a :: r:=by
    rcases minE_mem salt r a with h3 | h3
    ·rw [h3];simp
    ·simp [h3]
   rw [show (ofL salt L).salt=salt from rfl]
   rw [← hr] at hm
   obtain ⟨h3,h4⟩:=List.mem_filter.1 hm
   refine ⟨h3,?_,fun e he hs=>?_⟩
   ·have h4:(!(minE salt a r).st != 1)=true:=h4
    simpa [bne] using h4
   ·have:=h2 e he
    rw [hs] at this
    simp at this
 ·cases h
theorem beats_iff (salt:UInt64) (a b:TEnt):beatsB salt a b=true ↔ (a.pref=true∧b.pref=false)∨(a.pref=b.pref∧((rankU salt b).toNat < (rankU salt a).toNat∨((rankU salt a).toNat=(rankU salt b).toNat∧a.peer < b.peer))):=by
 unfold beatsB
 by_cases hp:a.pref=b.pref
 ·rw [if_pos hp]
  by_cases hr:rankU salt a=rankU salt b
  ·rw [if_pos hr,decide_eq_true_eq,hr]
   constructor
   ·exact fun h=>.inr ⟨hp,.inr ⟨rfl,h⟩⟩
   ·rintro (⟨h1,h2⟩ | ⟨_,h | ⟨_,h⟩⟩)
    ·rw [hp,h2] at h1;cases h1
    ·omega
    ·exact h
  ·rw [if_neg hr,decide_eq_true_eq]
   have hr':(rankU salt a).toNat≠(rankU salt b).toNat:=fun h=>hr (UInt64.toNat_inj.1 h)
   constructor
   ·exact fun h=>.inr ⟨hp,.inl h⟩
   ·rintro (⟨h1,h2⟩ | ⟨_,h | ⟨h,_⟩⟩)
    ·rw [hp,h2] at h1;cases h1
    ·exact h
    ·exact absurd h hr'
 ·rw [if_neg hp]
  constructor
  ·intro h
   refine .inl ⟨h,?_⟩
   cases hb:b.pref with
   | false=>rfl
   | true=>exact absurd (h.trans hb.symm) hp
  ·rintro (⟨h,_⟩ | ⟨h,_⟩)
   ·exact h
   ·exact absurd h hp
theorem beats_self (salt:UInt64) (a:TEnt):beatsB salt a a=false:=by
 rw [← Bool.not_eq_true,beats_iff]
 rintro (⟨h1,h2⟩ | ⟨_,h | ⟨_,h⟩⟩)
 ·rw [h1] at h2;cases h2
 ·omega
 ·omega
theorem beats_part {salt:UInt64} {a z:TEnt} (m:TEnt) (h:beatsB salt a z=true):beatsB salt a m=true∨beatsB salt m z=true:=by
 rw [beats_iff] at h ⊢
 rw [beats_iff]
 generalize (rankU salt a).toNat=ra at *
 generalize (rankU salt z).toNat=rz at *
 generalize (rankU salt m).toNat=rm at *
 cases ha:a.pref <;> cases hz:z.pref <;> cases hm:m.pref <;> simp_all <;> omega
theorem beats_asym {salt:UInt64} {a b:TEnt} (h:beatsB salt a b=true):beatsB salt b a=false:=by
 rw [← Bool.not_eq_true]
 intro h2
 rw [beats_iff] at h h2
 generalize (rankU salt a).toNat=ra at *
 generalize (rankU salt b).toNat=rb at *
 cases ha:a.pref <;> cases hb:b.pref <;> simp_all <;> omega
theorem beats_total {salt:UInt64} {a b:TEnt} (h:a.peer≠b.peer):beatsB salt a b=true∨beatsB salt b a=true:=by
 rw [beats_iff,beats_iff]
 generalize (rankU salt a).toNat=ra
 generalize (rankU salt b).toNat=rb
 cases ha:a.pref <;> cases hb:b.pref <;> simp <;> omega
theorem minE_unbeaten (salt:UInt64):∀ (l:List TEnt) (m y:TEnt),y ∈ m :: l→beatsB salt y (minE salt m l)=false
 | [],m,y,h=>by
  rw [List.mem_singleton.1 h]
  exact beats_self salt m
 | a :: l,m,y,h=>by
  show beatsB salt y (minE salt (if beatsB salt a m then a else m) l)=false
  have ih:=minE_unbeaten salt l (if beatsB salt a m then a else m)
  generalize minE salt (if beatsB salt a m then a else m) l=z at *
  rw [← Bool.not_eq_true]
  intro hy
  cases hb:beatsB salt a m with
  | true=>
   rw [hb,if_pos rfl] at ih
   rcases List.mem_cons.1 h with rfl | h
   ·rcases beats_part a hy with h1 | h1
    ·rw [beats_asym hb] at h1;cases h1
    ·rw [ih a (by simp)] at h1;cases h1
   ·rw [ih y h] at hy;cases hy
  | false=>
   rw [hb,if_neg (by decide)] at ih
   rcases List.mem_cons.1 h with rfl | h
   ·rw [ih y (by simp)] at hy;cases hy
   ·rcases List.mem_cons.1 h with rfl | h
    ·rcases beats_part m hy with h1 | h1
     ·rw [hb] at h1;cases h1
     ·rw [ih m (by simp)] at h1;cases h1
    ·rw [ih y (by simp [h])] at hy;cases hy
theorem best_is {salt:UInt64} {L:List TEnt} {x:UInt64} {z:TEnt} (h:(ofL salt L).best x=some z):∀ y ∈ L,y.id=x→y.st=1→beatsB salt y z=false:=by
 unfold TS.best at h
 rw [ofL_ents] at h
 split at h
 ·split at h
  ·cases h
  ·rename_i a r hr
   cases h
   intro y hy hi hs
   refine minE_unbeaten salt r a y ?_
   rw [← hr]
   exact List.mem_filter.2 ⟨ents_mem.2 ⟨hy,hi⟩,by rw [hs];rfl⟩
 ·cases h
theorem best_there {salt:UInt64} {L:List TEnt} {x:UInt64} {e:TEnt} (he:e ∈ L) (hi:e.id=x) (hs:e.st=1) (hn:∀ y ∈ L,y.id=x→y.st≠2):∃ z,(ofL salt L).best x=some z:=by
 unfold TS.best
 rw [ofL_ents,if_pos]
 ·split
  ·rename_i hr
   have:e ∈ (entsOf L x).filter (fun e=>!(e.st != 1)):=List.mem_filter.2 ⟨ents_mem.2 ⟨he,hi⟩,by rw [hs];rfl⟩
   rw [hr] at this
   cases this
  ·exact ⟨_,rfl⟩
 ·rw [List.findIdx?_eq_none_iff]
  intro y hy
  obtain ⟨h1,h2⟩:=ents_mem.1 hy
  simpa using hn y h1 h2
theorem first_is {salt:UInt64} {L:List TEnt} (hg:Good L) (p:Nat) {e:TEnt} (he:e ∈ L):firstR salt L p e=(e.peer == p && (ofL salt L).isNext p e.id):=by
 rw [Bool.eq_iff_iff]
 unfold firstR readyR
 simp only [Bool.and_eq_true,beq_iff_eq,Bool.not_eq_true',List.any_eq_false]
 constructor
 ·rintro ⟨⟨⟨h1,h2⟩,h3⟩,h4⟩
  refine ⟨h1,?_⟩
  have hn:∀ y ∈ L,y.id=e.id→y.st≠2:=fun y hy hi hs=>by
   have:=h3 y hy
   simp [hi,hs] at this
  obtain ⟨z,hz⟩:=best_there (salt:=salt) he rfl h2 hn
  obtain ⟨z1,z2,_⟩:=best_some hz
  obtain ⟨z3,z4⟩:=ents_mem.1 z1
  have hze:z=e:=by
   by_cases hpp:z.peer=e.peer
   ·exact same_one hg.nodup z3 he hpp z4
   ·exfalso
    rcases beats_total (salt:=salt) hpp with hb | hb
    ·have:=h4 z z3
     unfold aheadR at this
     have hne:(z != e)=true:=by
      rw [bne_iff_ne]
      exact fun h=>hpp (by rw [h])
     simp [z4,z2,hne,hb] at this
    ·rw [best_is hz e he rfl h2] at hb
     cases hb
  unfold TS.isNext
  rw [hz,hze]
  simpa using h1
 ·rintro ⟨h1,h2⟩
  unfold TS.isNext at h2
  split at h2
  ·cases h2
  ·rename_i z hz
   obtain ⟨z1,z2,zn⟩:=best_some hz
   obtain ⟨z3,z4⟩:=ents_mem.1 z1
   have hzp:z.peer=p:=by simpa using h2
   obtain rfl:z=e:=same_one hg.nodup z3 he (hzp.trans h1.symm) z4
   refine ⟨⟨⟨h1,z2⟩,fun y hy hq=>?_⟩,fun y hy hq=>?_⟩
   ·exact zn y (ents_mem.2 ⟨hy,hq.1⟩) hq.2
   ·unfold aheadR at hq
    simp only [Bool.and_eq_true,beq_iff_eq] at hq
    rw [best_is hz y hy hq.1.1.1 hq.1.1.2] at hq
    exact absurd hq.2 (by decide)
theorem next_is {salt:UInt64} {L:List TEnt} (hg:Good L) (p:Nat):(L.filter (firstR salt L p)).map (fun e=>e.id)=(idsOf L p).filter ((ofL salt L).isNext p):=by
 unfold idsOf
 rw [List.filter_map,List.filter_filter]
 congr 1
 refine List.filter_congr fun e he=>?_
 rw [first_is hg p he,Bool.and_comm]
 rfl
end Go.Proofs.YtlboemhbealnmaaGreat.Tr
set_option maxRecDepth 20000
namespace Go.Proofs.YtlboemhbealnmaaGreat.Ho
open Go.RowKit Go.Maps
variable {L:List LinkD} {n:Nat}
theorem wI_bound (hg:GoodL n L) (x:UInt64):0≤wI (deedOf L) x∧wI (deedOf L) x≤1000:=by
 unfold wI
 cases hx:deedOf L x with
 | none=>simp [nod]
 | some d=>
  obtain ⟨l,hl,_,rfl⟩:=deedOf_some hx
  have:=(check_ok (hg.fine l hl)).2.2.2.2.1
  simp only [Option.getD_some]
  omega
theorem usage_small (L:List LinkD) (p:Nat):0≤(usageL L p).2∧(usageL L p).2≤L.length:=by
 have:=List.length_filter_le (fun l:LinkD=>l.peer == p) L
 unfold usageL
 simp only
 omega
theorem weight_pos (hg:GoodL n L) {l:LinkD} (hl:l ∈ L):1≤l.d.weight∧l.d.weight≤1000:=(check_ok (hg.fine l hl)).2.2.2.2.1
theorem sumW_snoc (M:UInt64→Option DeedD) (a:List UInt64) (x:UInt64):sumW M (a ++ [x])=sumW M a+wI M x:=by
 unfold sumW
 rw [List.map_append,List.sum_append]
 simp
end Go.Proofs.YtlboemhbealnmaaGreat.Ho
