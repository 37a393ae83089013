import Derived.Test.YtlboemhbealnmaaGreatP13
set_option maxRecDepth 20000
namespace Go.Proofs.YtlboemhbealnmaaGreat.Ho
open Go.RowKit Go.Maps
variable {w w':World} {F:Nat→Prop} {R:Loc} {it:Option It} {ls:List LD} {M:UInt64→Option DeedD} {b:Nat} {ev:UInt64→Option Value} {v:Value}
theorem next_tmap {P:Program} {ops:Array Oper} {rest:List Oper} {o:Oper} {a:Act} {Q:Exit→Act→World→Prop} (w:World) (hg:o.guard=none) (itr:Operand) (hop:o.op=Op.next itr false) (hP:P=Tryz.prog)
  (b r:Nat) (left:Lit→Bool) (cnt:Nat) (ev:UInt64→Option Value) (hit:a.eval itr=.pointer (some ⟨r,0,none⟩)) (h:TMap w b (some ⟨r,left,cnt⟩) ev)
  (hDone:cnt=0→(∀ kl,left kl=false)→wpList P ops Q rest (a.put o.dst (.tuple #[.bool false])) w)
  (hMore:∀ (x:UInt64) (v:Value) (w':World) (cnt':Nat),left (.int .u64 x.toNat)=true→ev x=some v→TMap w' b (some ⟨r,fun z=>left z && !z.sameKey (.int .u64 x.toNat),cnt'⟩) ev→cnt' < cnt →
   w.grownBy w' (some r)→w'.heap.size=w.heap.size→(Instr.entry (.pointer (some ⟨r,0,none⟩))).run P w'=.ok (.tuple #[.int .u64 x.toNat,v]) w'→wpList P ops Q rest (a.put o.dst (.tuple #[.bool true,.int .u64 x.toNat,v])) w') :
  wpList P ops Q (o :: rest) a w:=by
 subst hP
 obtain ⟨D,⟨n,hm⟩,hat,hhas⟩:=h
 exact wpList_next_ranges w hg itr hop 22 u64_keyed exactE (fun x:UInt64=>Value.int .u64 x.toNat) (fun v:Value=>v)
  (fun key kl hkey=>by
   obtain ⟨x,rfl,_,hw⟩:=Maps.keyOf_int_inv Tryz.underlying22 hkey
   obtain ⟨u,rfl⟩:=wf_u64 hw
   exact ⟨u,rfl⟩) (fun v _ _=>⟨v,rfl⟩)
  b r n D left cnt hit hm hDone (fun x c kl y w' cnt' hkey hlk hv hy hrg hlt hgr hsz hen=>by
   rw [u64_key x] at hkey
   cases hkey
   have e1:y.1=.held c:=by unfold exactE at hv;cases hv;rfl
   have hx:ev x=some c:=by
    have h1:=has_true_of_atKey hy
    rw [hhas x] at h1
    obtain ⟨v,hv'⟩:=Option.isSome_iff_exists.1 h1
    have h2:=hat x v hv' .nil
    rw [hy,e1] at h2
    cases h2
    exact hv'
   exact hMore x c w' cnt' hlk hx ⟨D,⟨n,hrg⟩,hat,hhas⟩ hlt hgr hsz hen)
theorem tmap_left {w:World} {b:Nat} {i:It} {ev:UInt64→Option Value} (h:TMap w b (some i) ev):w.rangeLeft b i.r=i.cnt:=by
 obtain ⟨D,⟨n,hm⟩,_⟩:=h
 exact World.ranges.left_eq hm
theorem tmap_end {w:World} {b:Nat} {it:Option It} {ev:UInt64→Option Value} (h:TMap w b it ev):TMap w b none ev:=by
 obtain ⟨D,hm,r⟩:=h
 exact ⟨D,mapIs_owns hm,r⟩
theorem HomeAt.ended (h:HomeAt w F R it ls M b ev v):HomeAt w F R none ls M b ev v:=
 ⟨h.head,tmap_end h.map,h.deeds,h.fine,h.links,h.fR,h.fb,h.fv,h.there,fun i hi=>by cases hi⟩
theorem HomeAt.stepped {r:Nat} {left left':Lit→Bool} {cnt cnt':Nat} (h:HomeAt w F R (some ⟨r,left,cnt⟩) ls M b ev v) (hm:TMap w' b (some ⟨r,left',cnt'⟩) ev) (hg:w.grownBy w' (some r)):HomeAt w' F R (some ⟨r,left',cnt'⟩) ls M b ev v:=by
 have hr:=h.out _ rfl
 have hF:∀ k,F k→w'.heap[k]?=w.heap[k]?:=fun k hk=>hg.block k (h.there k hk) (fun e=>hr.1 (by cases e;exact hk))
 exact ⟨(hF R.b h.fR).trans h.head,hm,fun x=>(h.deeds x).imp id fun ⟨a,c,d,h1,h2,h3,h4⟩=>⟨a,c,d,h1,h2,own_same h3 fun g hg=>hF g (h4 g hg),h4⟩,h.fine,own_same h.links fun g hg=>hF g (h.fv g hg),h.fR,h.fb,h.fv,h.there.later hg.size,fun i hi=>by cases hi;exact ⟨hr.1,Nat.lt_of_lt_of_le hr.2 hg.size⟩⟩
theorem HomeAt.ranged {w0:World} {D:DataW Value} {n:Nat} (h:HomeAt w F R none ls M b ev v) (hat:∀ x v,ev x=some v→∀ z,D.atKey (.int .u64 x.toNat) z=.held v) (hhas:∀ x:UInt64,Maps.has D (.int .u64 x.toNat)=(ev x).isSome) (hrg:w0.ranges Tryz.prog 22 exactE b w.heap.size n D (Maps.has D) (Maps.size D)) (hg:w.grownBy w0 none) (hs:w0.heap.size=w.heap.size+1) :
  HomeAt w0 F R (some ⟨w.heap.size,Maps.has D,Maps.size D⟩) ls M b ev v:=by
 have hk:=h.kept (grown_below hg)
 exact ⟨hk.head,⟨D,⟨n,hrg⟩,hat,hhas⟩,hk.deeds,hk.fine,hk.links,hk.fR,hk.fb,hk.fv,hk.there,fun i hi=>by
  cases hi
  exact ⟨fun hF=>absurd (h.there w.heap.size hF) (Nat.lt_irrefl _),by show w.heap.size < _;omega⟩⟩
def wI (M:UInt64→Option DeedD) (x:UInt64):Int:=((M x).getD nod).weight
def sumW (M:UInt64→Option DeedD) (ks:List UInt64):Int:=(ks.map (wI M)).sum
theorem sumW_out {M:UInt64→Option DeedD} {f:UInt64→Bool} {x:UInt64}:∀ {ks:List UInt64},ks.Nodup→x ∈ ks→f x=true→sumW M (ks.filter f)=wI M x+sumW M (ks.filter fun y=>f y && !(y == x))
 | [],_,h,_=>absurd h (by simp)
 | a :: r,hn,hx,hf=>by
  obtain ⟨ha,hr⟩:=List.nodup_cons.1 hn
  by_cases e:x=a
  ·subst e
   have:r.filter f=r.filter fun y=>f y && !(y == x):=List.filter_congr fun y hy=>by
    have:(y == x)=false:=beq_eq_false_iff_ne.2 (fun e=>ha (e▸hy))
    rw [this];simp
   rw [List.filter_cons_of_pos hf,List.filter_cons_of_neg (by simp),← this]
   simp [sumW]
  ·have hxr:x ∈ r:=(List.mem_cons.1 hx).resolve_left e
   have ih:=sumW_out (M:=M) hr hxr hf
   have hax:(a == x)=false:=beq_eq_false_iff_ne.2 (fun e'=>e e'.symm)
   cases hfa:f a with
   | true=>
    rw [List.filter_cons_of_pos hfa,List.filter_cons_of_pos (by rw [hfa,hax];rfl)]
    simp only [sumW,List.map_cons,List.sum_cons] at ih ⊢
    omega
   | false=>
    rw [List.filter_cons_of_neg (by rw [hfa];simp),List.filter_cons_of_neg (by rw [hfa];simp)]
    exact ih
theorem HomeAt.weightI (h:HomeAt w F R it ls M b ev v) (x:UInt64):0≤wI M x∧wI M x≤1000:=h.weight ⟨0,x⟩
theorem sumW_bound (hw:∀ x,0≤wI M x∧wI M x≤1000) (ks:List UInt64):0≤sumW M ks∧sumW M ks≤1000 * ks.length:=by
 have h1:=sum_bound (wI M) 0 1000 ks (fun x _=>hw x)
 unfold sumW
 omega
def peersF (u:Nat→Int × Int) (k:Nat):Nat:=((List.range k).filter fun p=>decide (0 < (u p).2)).length
theorem peersF_le (u:Nat→Int × Int) (k:Nat):peersF u k≤k:=by
 have:=List.length_filter_le (fun p=>decide (0 < (u p).2)) (List.range k)
 simpa [peersF] using this
theorem peersF_step (u:Nat→Int × Int) (k:Nat):peersF u (k+1)=if 0 < (u k).2 then peersF u k+1 else peersF u k:=by
 unfold peersF
 rw [List.range_succ,List.filter_append,List.length_append]
 by_cases h:0 < (u k).2
 ·simp [h]
 ·simp [h]
def fullF (M:UInt64→Option DeedD) (ls:List LD) (ks:List UInt64):Bool:=decide (sumW M ks > 3000 * (peersF (usageF M ls) 8:Int)) || decide (ls.length > 24)
set_option maxRecDepth 20000 in
theorem isFull_any (ks:List UInt64) (hn:ks.Nodup) (hks:∀ x,(M x).isSome=true ↔ x ∈ ks) (hkl:ks.length≤1000) (w:World) (h:HomeAt w F R none ls M b ev v) (hl:ls.length≤1000) (hp8:∀ l ∈ ls,l.peer < 8) :
  Calls Tryz.prog 197 #[.pointer (some ⟨R.b,27,none⟩)] w fun e w'=>e=.returned (.bool (fullF M ls ks))∧Below w.heap.size w w':=by
 have hmc:=h.mapc
 have hlt:=h.lt
 obtain ⟨D,⟨n,hown⟩,hat,hhas⟩:=h.map
 have HAT:=Lib.hid (And.intro hat hhas)
 have H:=Lib.hid h
 have HW:=Lib.hid h.weightI
 have HN:=Lib.hid hn
 have HK:=Lib.hid hks
 have HP:=Lib.hid hp8
 obtain ⟨tot,htot⟩:∃ t,sumW M ks=t:=⟨_,rfl⟩
 have HTOT:=Lib.hid htot
 have htb:=sumW_bound h.weightI ks
 rw [htot] at htb
 have ht0:=htb.1
 have ht1:tot≤1000000:=by omega
 clear h hat hhas hn hks hp8 htot htb
 go_enter Tryz.func197,Tryz.ntmps197
 go_wp2_with (first
  | (at_range;refine wpList_range_own _ rfl _ 72 rfl 22 94 u64_keyed Tryz.underlying72 _ b n D rfl hown ?_;intro w0 hrg0 hg0 hs0)
  | go_in)
 try go_frame
 have hb0:Below w.heap.size w w0:=grown_below hg0
 have HR0:=Lib.hid (H.out.ranged HAT.out.1 HAT.out.2 hrg0 hg0 hs0)
 clear hrg0 hg0 hs0 hown
 go_loopw [3] (fun vz wr=>∃ (z:Int) (left:Lit→Bool) (cnt:Nat),vz=.int .i64 z∧0≤z∧z≤tot∧Hid (HomeAt wr F R (some ⟨w.heap.size,left,cnt⟩) ls M b ev v)∧Hid (z+sumW M (ks.filter fun x=>left (.int .u64 x.toNat))=tot)∧Hid (Below w.heap.size w wr))
  (fun _ wr=>wr.rangeLeft b w.heap.size)
 case atStart=>
  refine ⟨0,_,_,rfl,by omega,by omega,HR0,Lib.hid ?_,Lib.hid hb0⟩
  have e1:(ks.filter fun x=>Maps.has D (.int .u64 x.toNat))=ks:=List.filter_eq_self.2 fun x hx=>by
   rw [HAT.out.2 x,H.out.there_is x]
   exact (HK.out x).2 hx
  rw [e1,HTOT.out]
  omega
 case round=>
  obtain ⟨z,left,cnt,rfl,hz0,hz1,HT,HS,HB⟩:=hrel
  have hm:=HT.out.map
  go_wp2_with (first
   | (at_next;refine next_tmap _ rfl _ rfl rfl b w.heap.size left cnt ev rfl hm ?_ ?_)
   | go_in)
  ·intro hc0 hl0
   have hz:tot=z:=by
    have:=HS.out
    have e0:(ks.filter fun y:UInt64=>left (.int .u64 y.toNat))=[]:=List.filter_eq_nil_iff.2 fun y _=>by rw [hl0];simp
    rw [e0] at this
    simp [sumW] at this
    exact this.symm
   subst hz
   have HE:=Lib.hid HT.out.ended
   clear hm hc0 hl0 hz0 hz1 HS
   go_wp2_with fail
   with_reducible refine (usages_any _ HE.out hl HP.out).mono ?_
   rintro e w1 ⟨rfl,hb1⟩
   obtain ⟨u,hu⟩:∃ u,usageF M ls=u:=⟨_,rfl⟩
   have HUU:=Lib.hid hu
   rw [hu]
   have hix:=index_us u
   have H1:=Lib.hid (HE.out.kept hb1)
   have HB1:=Lib.hid (kept_trans HB.out hb1)
   clear hu hb1
   obtain ⟨wB,hwB⟩:∃ x,x=wr:=⟨_,rfl⟩
   subst hwB
   go_wp2_with fail
   go_loopw [4,24] (fun vc vk wq=>∃ k:Nat,k≤8∧vc=.int .i64 (peersF u k)∧vk=.int .i64 k∧Hid (Below w1.heap.size w1 wq)) (fun _ k _=>8 - (intOf k).toNat)
   case atStart=>exact ⟨0,by omega,rfl,rfl,Lib.hid (Below.refl _ _)⟩
   case round=>
    obtain ⟨k,hk,rfl,rfl,HQ⟩:=hrel
    by_cases hkl:k < 8
    ·have hixk:=hix k hkl
     have hki:(k:Int) < 8:=by omega
     have hpl:=peersF_le u k
     have hst:=peersF_step u k
     clear hix
     by_cases hg:0 < (u k).2
     ·rw [if_pos hg] at hst
      have HST:=Lib.hid hst
      clear hst
      go_wp2_with fail
      go_roundw
      case rel=>exact ⟨k+1,by omega,by rw [HST.out];go_num,by go_num,Lib.hid (kept_alloc HQ.out _)⟩
      case measure=>simp [intOf];omega
     ·rw [if_neg hg] at hst
      have HST:=Lib.hid hst
      clear hst
      go_wp2_with fail
      go_roundw
      case rel=>exact ⟨k+1,by omega,by rw [HST.out],by go_num,Lib.hid (kept_alloc HQ.out _)⟩
      case measure=>simp [intOf];omega
    ·obtain rfl:k=8:=by omega
     have hpl:=peersF_le u 8
     have H2:=H1.out.kept HQ.out
     obtain ⟨a,cap,rfl,hcap,_⟩:=H2.linkForm
     have hlc:=H2.linkc.1
     have hltq:=H2.lt
     have HF:Hid (fullF M ls ks=(decide (tot > 3000 * (peersF u 8:Int)) || decide ((ls.length:Int) > 24))):=Lib.hid (by
      unfold fullF
      rw [HTOT.out,HUU.out]
      congr 1
      rw [decide_eq_decide]
      omega)
     clear H2 hix
     by_cases hA:tot > 3000 * (peersF u 8:Int)
     ·have HA:Hid (fullF M ls ks=true):=Lib.hid (by rw [HF.out,decide_eq_true hA];rfl)
      go_wp2_with fail
      go_ret
      exact ⟨ret_bool HA.out.symm,kept_trans HB1.out HQ.out⟩
     ·have HA:Hid (fullF M ls ks=decide ((ls.length:Int) > 24)):=Lib.hid (by rw [HF.out,decide_eq_false hA];simp)
      go_wp2_with fail
      go_ret
      exact ⟨ret_bool HA.out.symm,kept_trans HB1.out HQ.out⟩
  ·intro x vx w1 cnt1 hlx hvx hm1 hlt1 hg1 hs1 hen
   have hrlt:=(HT.out.out _ rfl).2
   have H1:=HT.out.stepped hm1 hg1
   rcases H1.deeds x with ⟨h1,_⟩ | ⟨a,c,d,h1,h2,_,_⟩
   ·rw [h1] at hvx
    cases hvx
   ·rw [h1] at hvx
    cases hvx
    unfold deedV at hen ⊢
    have hwx:wI M x=d.weight:=by unfold wI;rw [h2];rfl
    have hsum:=sumW_out (M:=M) (f:=fun y=>left (.int .u64 y.toNat)) HN.out ((HK.out x).1 (by rw [h2];rfl)) hlx
    have hb2:=sumW_bound HW.out (ks.filter fun y=>left (.int .u64 y.toNat) && !(y == x))
    have hwb:=HW.out x
    rw [hwx] at hsum hwb
    have hs:=HS.out
    rw [hsum] at hs
    have hz2:z+d.weight≤tot:=by omega
    have hw0:=hwb.1
    have hw1:=hwb.2
    have HS1:Hid (z+d.weight+sumW M (ks.filter fun y=>(fun q:Lit=>left q && !q.sameKey (.int .u64 x.toNat)) (.int .u64 y.toNat))=tot):=Lib.hid (by
     have e1:(fun y:UInt64=>(fun q:Lit=>left q && !q.sameKey (.int .u64 x.toNat)) (.int .u64 y.toNat))=fun y=>left (.int .u64 y.toNat) && !(y == x):=funext fun y=>by
      show (left (.int .u64 y.toNat) && !(Lit.int .u64 y.toNat).sameKey (.int .u64 x.toNat))=_
      rw [same_lit]
     rw [e1]
     omega)
    have HH1:=Lib.hid H1
    have HB1:Hid (Below w.heap.size w w1):=Lib.hid (HB.out.grown hg1 HB.out.size (fun j hj=>by cases hj;exact Nat.le_refl _))
    have HC:Hid (cnt1 < cnt):=Lib.hid hlt1
    clear H1 h1 h2 hwx hsum hb2 hwb hs hm1 hg1 hlx hlt1 HS hm
    go_wp2_with fail
    go_roundw
    case rel=>exact ⟨z+d.weight,_,cnt1,rfl,by omega,hz2,Lib.hid (HH1.out.kept (kept_new _ _)),HS1,Lib.hid (kept_alloc HB1.out _)⟩
    case measure=>
     rw [tmap_left (HH1.out.kept (kept_new _ _)).map,tmap_left HT.out.map]
     exact HC.out
end Go.Proofs.YtlboemhbealnmaaGreat.Ho
namespace Go.Proofs.YtlboemhbealnmaaGreat.Ho
open Go.RowKit Go.Maps
variable {w w':World} {F:Nat→Prop} {R:Loc} {it:Option It} {ls:List LD} {M:UInt64→Option DeedD} {b:Nat} {ev:UInt64→Option Value} {v:Value}
theorem picks_id (f:FuncId) (hf:f=144) (c:Nat) (x:UInt64):PicksL (CellIs c (.int .u64 x.toNat)) f #[.pointer (some ⟨c,0,none⟩)] (fun l=>l.id == x):=by
 subst hf
 refine ⟨fun _ _=>by kernel_rfl,fun e w hw=>?_⟩
 unfold linkV
 have hc:=cell_spot hw
 have hw:w.cell? ⟨c,0,none⟩=some (.int .u64 x.toNat):=hw
 have hlt:c < w.heap.size:=hc.2
 clear hc
 have hq:((e.id.toNat:Int) == (x.toNat:Int))=(e.id == x):=u64_beq e.id x
 show Calls Tryz.prog 144 #[.agg #[.int .i64 e.peer,.int .u64 e.id.toNat],.pointer (some ⟨c,0,none⟩)] w _
 go_enter Tryz.func144,Tryz.ntmps144
 go_wp2
 go_ret
 exact ⟨rfl,kept_new _ _⟩
theorem picks_remove (c:Nat) (x:UInt64):PicksL (CellIs c (.int .u64 x.toNat)) 212 #[.pointer (some ⟨c,0,none⟩)] (fun l=>l.id == x):=by
 refine ⟨fun _ _=>by kernel_rfl,fun e w hw=>?_⟩
 unfold linkV
 have hc:=cell_spot hw
 have hw:w.cell? ⟨c,0,none⟩=some (.int .u64 x.toNat):=hw
 have hlt:c < w.heap.size:=hc.2
 clear hc
 have hq:((e.id.toNat:Int) == (x.toNat:Int))=(e.id == x):=u64_beq e.id x
 show Calls Tryz.prog 212 #[.agg #[.int .i64 e.peer,.int .u64 e.id.toNat],.pointer (some ⟨c,0,none⟩)] w _
 go_enter Tryz.func212,Tryz.ntmps212
 go_wp2
 go_ret
 exact ⟨rfl,kept_new _ _⟩
theorem picks_drop (c p:Nat):PicksL (CellIs c (.int .i64 p)) 86 #[.pointer (some ⟨c,0,none⟩)] (fun l=>l.peer == p):=by
 refine ⟨fun _ _=>by kernel_rfl,fun e w hw=>?_⟩
 unfold linkV
 have hc:=cell_spot hw
 have hw:w.cell? ⟨c,0,none⟩=some (.int .i64 p):=hw
 have hlt:c < w.heap.size:=hc.2
 clear hc
 have hq:=beq_nat e.peer p
 show Calls Tryz.prog 86 #[.agg #[.int .i64 e.peer,.int .u64 e.id.toNat],.pointer (some ⟨c,0,none⟩)] w _
 go_enter Tryz.func86,Tryz.ntmps86
 go_wp2
 go_ret
 exact ⟨rfl,kept_new _ _⟩
theorem picks_peer (c p:Nat):PicksL (CellIs c (.int .i64 p)) 216 #[.pointer (some ⟨c,0,none⟩)] (fun l=>l.peer == p):=by
 refine ⟨fun _ _=>by kernel_rfl,fun e w hw=>?_⟩
 unfold linkV
 have hc:=cell_spot hw
 have hw:w.cell? ⟨c,0,none⟩=some (.int .i64 p):=hw
 have hlt:c < w.heap.size:=hc.2
 clear hc
 have hq:=beq_nat e.peer p
 show Calls Tryz.prog 216 #[.agg #[.int .i64 e.peer,.int .u64 e.id.toNat],.pointer (some ⟨c,0,none⟩)] w _
 go_enter Tryz.func216,Tryz.ntmps216
 go_wp2
 go_ret
 exact ⟨rfl,kept_new _ _⟩
def LinkIs (c:Nat) (l:LD) (w:World):Prop:=LinkAt w c 0 l
theorem linkIs_kept (c:Nat) (l:LD) (a b:World) (h:LinkIs c l a) (hb:Below a.heap.size a b):LinkIs c l b:=linkAt_kept hb h
theorem linkIs_set {c g:Nat} (l:LD) (hc:c≠g) (a:World) (j:Nat) (u:Value) (h:LinkIs c l a):LinkIs c l (a.setCell ⟨g,j,none⟩ u):=
 ⟨(World.cell?_of_block (a:=⟨c,0,none⟩) (Below.heap_setCell a ⟨g,j,none⟩ u c hc)).trans h.1,(World.cell?_of_block (a:=⟨c,1,none⟩) (Below.heap_setCell a ⟨g,j,none⟩ u c hc)).trans h.2⟩
theorem picks_same (c:Nat) (x:LD):PicksL (LinkIs c x) 217 #[.pointer (some ⟨c,0,none⟩)] (fun l=>decide (l=x)):=by
 refine ⟨fun _ _=>by kernel_rfl,fun e w hw=>?_⟩
 unfold linkV
 obtain ⟨c0,c1⟩:=hw
 have hlt:c < w.heap.size:=(cell_spot c0).2
 have hq:=fun wx=>run_eq_link e x wx
 show Calls Tryz.prog 217 #[.agg #[.int .i64 e.peer,.int .u64 e.id.toNat],.pointer (some ⟨c,0,none⟩)] w _
 go_enter Tryz.func217,Tryz.ntmps217
 go_wp2
 go_ret
 exact ⟨rfl,kept_new _ _⟩
theorem unlinkPick_any (c:Nat) (x:UInt64) (d:DeedD) (a:Option Addr) (n cap:Nat) (w:World) (h:HomeAt w F R it ls M b ev v) (hl:ls.length≤1000) (hc:CellIs c (.pointer (some ⟨R.b,27,none⟩)) w) :
  Calls Tryz.prog 142 #[.int .u64 x.toNat,.agg #[.slice a n cap,.int .i64 d.outs,.int .i64 d.weight,.int .i64 d.fee],.pointer (some ⟨c,0,none⟩)] w fun e w'=>e=.returned (.bool (!(ls.any fun l=>l.id == x)))∧Below w.heap.size w w':=by
 have hc:w.cell? ⟨c,0,none⟩=some (.pointer (some ⟨R.b,27,none⟩)):=hc
 have hclt:=(cell_spot hc).2
 obtain ⟨la,lcap,rfl,hcap,hat⟩:=h.linkForm
 have hlc:=h.linkc.1
 have hlt:=h.lt
 have hk:Below w.heap.size w ((w.alloc (.cells #[.int .u64 x.toNat] 22)).alloc (.cells #[.slice a n cap,.int .i64 d.outs,.int .i64 d.weight,.int .i64 d.fee] 94)):=kept_alloc (kept_new _ _) _
 have HI:=Lib.hid (linksAt_kept hk hat)
 have HC:Hid (CellIs w.heap.size (.int .u64 x.toNat) ((w.alloc (.cells #[.int .u64 x.toNat] 22)).alloc (.cells #[.slice a n cap,.int .i64 d.outs,.int .i64 d.weight,.int .i64 d.fee] 94))):=Lib.hid (cellIs_kept _ _ _ _ (cellIs_new w _ _) (kept_new _ _))
 clear h hat
 go_enter Tryz.func142,Tryz.ntmps142
 go_wp2_with fail
 refine (linkContains_any _ (cellIs_kept _ _) _ _ _ (picks_id _ rfl w.heap.size x) ls _ _ _ HC.out hl HI.out).mono ?_
 rintro e w1 ⟨rfl,hb1⟩
 go_wp2
 go_ret
 exact ⟨rfl,kept_trans hk hb1⟩
def partM (M:UInt64→Option DeedD) (left:Lit→Bool) (keep:UInt64→Bool):UInt64→Option DeedD:=fun y=>if left (.int .u64 y.toNat) || keep y then M y else none
theorem partM_keep {M:UInt64→Option DeedD} {left:Lit→Bool} {keep:UInt64→Bool} {x:UInt64} (h:keep x=true) (y:UInt64):partM M left keep y=partM M (fun z=>left z && !z.sameKey (.int .u64 x.toNat)) keep y:=by
 unfold partM
 simp only [same_lit]
 by_cases e:y=x
 ·subst e
  rw [h]
  simp
 ·rw [show (y == x)=false from beq_eq_false_iff_ne.2 e]
  simp
theorem partM_drop {M:UInt64→Option DeedD} {left:Lit→Bool} {keep:UInt64→Bool} {x:UInt64} (h:keep x=false) (y:UInt64):upd (partM M left keep) x none y=partM M (fun z=>left z && !z.sameKey (.int .u64 x.toNat)) keep y:=by
 by_cases e:y=x
 ·subst e
  rw [upd_same]
  unfold partM
  simp only [same_lit,h]
  simp
 ·rw [upd_other _ _ e]
  unfold partM
  simp only [same_lit]
  rw [show (y == x)=false from beq_eq_false_iff_ne.2 e]
  simp
theorem HomeAt.as {M':UInt64→Option DeedD} (h:HomeAt w F R it ls M b ev v) (e:∀ x,M x=M' x):HomeAt w F R it ls M' b ev v:=by
 have:M=M':=funext e
 exact this▸h
set_option maxRecDepth 20000 in
theorem mapDelete_any (c:Nat) (w:World) (h:HomeAt w F R none ls M b ev v) (hl:ls.length≤1000) (hc:CellIs c (.pointer (some ⟨R.b,27,none⟩)) w) (hcF:¬ F c) :
  Calls Tryz.prog 141 #[.map (some b),.func (.func 142) #[] #[.pointer (some ⟨c,0,none⟩)]] w fun e w'=>e=.returned (.tuple #[])∧∃ ev',HomeAt w' F R none ls (fun y=>if ls.any (fun l=>l.id == y) then M y else none) b ev' v∧Turn F F w w':=by
 have hcf:∀ (args:Array Value) (w:World),(callFunc 142 args).run Tryz.prog w=.ok (.enter 142 args) w:=fun _ _=>by kernel_rfl
 obtain ⟨D,⟨n,hown⟩,hat,hhas⟩:=h.map
 have HAT:=Lib.hid (And.intro hat hhas)
 have H:=Lib.hid h
 have HC:=Lib.hid hc
 have HCF:=Lib.hid hcF
 have hclt:c < w.heap.size:=(cell_spot hc).2
 clear h hat hhas hc hcF
 go_enter Tryz.func141,Tryz.ntmps141
 go_wp2_with (first
  | (at_range;refine wpList_range_own _ rfl _ 72 rfl 22 94 u64_keyed Tryz.underlying72 _ b n D rfl hown ?_;intro w0 hrg0 hg0 hs0)
  | go_in)
 try go_frame
 have hb0:Below w.heap.size w w0:=grown_below hg0
 have HR0:=Lib.hid (H.out.ranged HAT.out.1 HAT.out.2 hrg0 hg0 hs0)
 clear hrg0 hg0 hs0 hown
 go_loopw [4] (fun _ wr=>∃ (left:Lit→Bool) (cnt:Nat) (ev':UInt64→Option Value),Hid (HomeAt wr F R (some ⟨w.heap.size,left,cnt⟩) ls (partM M left fun y=>ls.any fun l=>l.id == y) b ev' v)∧Hid (CellIs c (.pointer (some ⟨R.b,27,none⟩)) wr)∧Hid (Turn F F w wr))
  (fun _ wr=>wr.rangeLeft b w.heap.size)
 case atStart=>
  refine ⟨_,_,ev,Lib.hid (HR0.out.as fun x=>?_),Lib.hid (cellIs_kept _ _ _ _ HC.out hb0),Lib.hid (Turn.of_below hb0)⟩
  unfold partM
  rw [HAT.out.2 x,H.out.there_is x]
  cases M x with
  | none=>simp
  | some d=>simp
 case round=>
  obtain ⟨left,cnt,ev',HT,HCC,HU⟩:=hrel
  have hm:=HT.out.map
  go_wp2_with (first
   | (at_next;refine next_tmap _ rfl _ rfl rfl b w.heap.size left cnt ev' rfl hm ?_ ?_)
   | go_in)
  ·intro hc0 hl0
   have HE:Hid (∃ ev',HomeAt wr F R none ls (fun y=>if ls.any (fun l=>l.id == y) then M y else none) b ev' v∧Turn F F w wr):=Lib.hid ⟨ev',HT.out.ended.as fun x=>by unfold partM;rw [hl0];simp,HU.out⟩
   clear hm hc0 hl0
   go_wp2
   go_end0
   exact ⟨rfl,HE.out⟩
  ·intro x vx w1 cnt1 hlx hvx hm1 hlt1 hg1 hs1 hen
   have hrlt:=(HT.out.out _ rfl).2
   have H1:=HT.out.stepped hm1 hg1
   have HU1:Hid (Turn F F w w1):=Lib.hid (by
    refine ⟨hg1.os.trans HU.out.os,hg1.tape.trans HU.out.tape,hg1.output.trans HU.out.output,Nat.le_trans HU.out.size hg1.size,fun k hk hn=>(hg1.block k (Nat.lt_of_lt_of_le hk HU.out.size) (fun e=>by cases e;omega)).trans (HU.out.block k hk hn),HU.out.own⟩)
   have HC1:Hid (CellIs c (.pointer (some ⟨R.b,27,none⟩)) w1):=Lib.hid ((World.cell?_of_block (a:=⟨c,0,none⟩) (hg1.block c (cell_spot HCC.out).2 (fun e=>by cases e;omega))).trans HCC.out)
   rcases H1.deeds x with ⟨h1,_⟩ | ⟨a,cp,d,h1,h2,_,_⟩
   ·rw [h1] at hvx
    cases hvx
   ·rw [h1] at hvx
    cases hvx
    unfold deedV at hen ⊢
    have HH1:=Lib.hid H1
    have HLT:=Lib.hid hlt1
    have HLX:=Lib.hid hlx
    have hb2:=kept_new w1 (.cells #[.slice a d.ins.length cp,.int .i64 d.outs,.int .i64 d.weight,.int .i64 d.fee] 94)
    have HB2:=Lib.hid hb2
    clear H1 h1 h2 hm1 hg1 hlx hlt1 hm hb2
    go_wp2_with fail
    with_reducible refine (unlinkPick_any c x d a _ cp _ (HH1.out.kept HB2.out) hl (cellIs_kept _ _ _ _ HC1.out HB2.out)).mono ?_
    rintro e w3 ⟨rfl,hb3⟩
    have H3:=Lib.hid (HH1.out.kept (kept_trans HB2.out hb3))
    have HC3:Hid (CellIs c (.pointer (some ⟨R.b,27,none⟩)) w3):=Lib.hid (cellIs_kept _ _ _ _ HC1.out (kept_trans HB2.out hb3))
    have HU3:Hid (Turn F F w w3):=Lib.hid (HU1.out.trans (Turn.of_below (kept_trans HB2.out hb3)))
    have hrlt3:w.heap.size < w3.heap.size:=Nat.lt_of_lt_of_le hrlt (by have:=(kept_trans HB2.out hb3).size;omega)
    clear hb3
    cases hq:ls.any fun l=>l.id == x with
    | true=>
     have HQ:=Lib.hid hq
     clear hq
     go_wp2_with fail
     go_roundw
     case rel=>
      exact ⟨_,cnt1,ev',Lib.hid (H3.out.as (partM_keep HQ.out)),HC3,HU3⟩
     case measure=>
      rw [tmap_left H3.out.map,tmap_left HT.out.map]
      exact HLT.out
    | false=>
     have HQ:=Lib.hid hq
     obtain ⟨w4,hdel,n4,hn4,h4,t4⟩:=H3.out.deleted x
     have H4:=Lib.hid h4
     have T4:=Lib.hid t4
     have HN4:=Lib.hid (hn4 _ rfl)
     clear hq h4 t4 hn4
     go_wp2_with fail
     go_roundw
     case rel=>
      have h5:=H4.out
      unfold It.drop at h5
      simp only [Option.map_some] at h5
      rw [Maps.strike_twice] at h5
      refine ⟨_,n4,_,Lib.hid (h5.as fun y=>?_),Lib.hid ((World.cell?_of_block (a:=⟨c,0,none⟩) (T4.out.block c (Nat.lt_trans hclt hrlt3) HCF.out)).trans HC3.out),Lib.hid (HU3.out.trans T4.out)⟩
      exact partM_drop HQ.out y
     case measure=>
      have h5:=H4.out
      unfold It.drop at h5
      simp only [Option.map_some] at h5
      rw [tmap_left h5.map,tmap_left HT.out.map]
      exact Nat.lt_of_le_of_lt HN4.out HLT.out
end Go.Proofs.YtlboemhbealnmaaGreat.Ho
namespace Go.Proofs.YtlboemhbealnmaaGreat.Ho
open Go.RowKit Go.Maps
variable {w w':World} {F:Nat→Prop} {R:Loc} {it:Option It} {ls:List LD} {M:UInt64→Option DeedD} {b:Nat} {ev:UInt64→Option Value} {v:Value}
def linkedM (ls:List LD) (M:UInt64→Option DeedD):UInt64→Option DeedD:=fun y=>if ls.any (fun l=>l.id == y) then M y else none
theorem unlink_call (K:World→Prop) (hK:∀ a b,K a→Below a.heap.size a b→K b) (f:FuncId) (fc:Array Value) (q:LD→Bool) (hp:PicksL K f fc q) (w:World) (hw:K w) (h:HomeAt w F R it ls M b ev v) (hKs:∀ g,F g→∀ a j u,K a→K (a.setCell ⟨g,j,none⟩ u)) (hl:ls.length≤1000) :
  Calls Tryz.prog 140 #[v,.func (.func f) #[] fc] w fun e w'=>∃ a n cp,e=.returned (.slice a n cp)∧(∀ k,k < w.heap.size→¬ F k→w'.heap[k]?=w.heap[k]?) ∧
   (w'.cell? ⟨R.b,28,none⟩=some v∧w'.frozen? ⟨R.b,28,none⟩=false∧w.heap.size≤w'.heap.size) ∧
   HomeAt (w'.setCell ⟨R.b,28,none⟩ (.slice a n cp)) (fun k=>F k∨(Value.slice a n cp).ownBlock=some k) R it (ls.filter fun e=>!q e) M b ev (.slice a n cp)∧Turn F (fun k=>F k∨(Value.slice a n cp).ownBlock=some k) w (w'.setCell ⟨R.b,28,none⟩ (.slice a n cp)):=by
 refine (linkDelete_own K hK f fc q hp ls v w hw (fun g hg=>hKs g (h.fv g hg)) hl h.links).mono ?_
 rintro e w' ⟨a,n,cp,rfl,ho,hob,ht⟩
 obtain ⟨r1,r2⟩:=h.setLinks (fun k hk=>hk) ht ho (fun k hk=>.inl (by rw [← hob];exact hk))
 have hR:=ht.block R.b h.lt (fun hk=>(h.b_ne hk).1 rfl)
 refine ⟨a,n,cp,rfl,fun k hk hn=>ht.block k hk (fun hk'=>hn (h.fv k hk')),⟨?_,?_,ht.size⟩,r1,r2⟩
 ·exact (World.cell?_of_block (a:=⟨R.b,28,none⟩) hR).trans h.linkc.1
 ·exact (World.frozen?_of_block (a:=⟨R.b,28,none⟩) hR).trans h.linkc.2
theorem box_one {w w':World} {F:Nat→Prop} {u:Value} {t:TypeId} (h:∀ k,k < (w.alloc (.cells #[u] t)).drew.heap.size→¬ F k→w'.heap[k]?=(w.alloc (.cells #[u] t)).drew.heap[k]?) (hn:¬ F w.heap.size):w'.cell? ⟨w.heap.size,0,none⟩=some u:=
 (World.cell?_of_block (a:=⟨w.heap.size,0,none⟩) (h w.heap.size (by show _ < (w.alloc _).heap.size;simp) hn)).trans (by show (w.alloc _).cell? _=_;simp [go_sem])
theorem alloc_lt {w w':World} {o:Obj} (h:(w.alloc o).drew.heap.size≤w'.heap.size):w.heap.size < w'.heap.size:=by
 have:(w.alloc o).drew.heap.size=w.heap.size+1:=by show (w.alloc o).heap.size=_;simp
 omega
set_option maxRecDepth 20000 in
theorem unlink_any (K:World→Prop) (hK:∀ a b,K a→Below a.heap.size a b→K b) (f:FuncId) (fc:Array Value) (q:LD→Bool) (hp:PicksL K f fc q) (w:World) (hw:K w) (h:HomeAt w F R none ls M b ev v) (hKs:∀ g,F g→∀ a j u,K a→K (a.setCell ⟨g,j,none⟩ u)) (hl:ls.length≤1000) :
  Calls Tryz.prog 85 #[.pointer (some ⟨R.b,27,none⟩),.func (.func f) #[] fc] w fun e w'=>e=.returned (.tuple #[])∧∃ F' ev' v',HomeAt w' F' R none (ls.filter fun e=>!q e) (linkedM (ls.filter fun e=>!q e) M) b ev' v'∧Turn F F' w w':=by
 have hkd:=(kept_new w (.cells #[.pointer (some ⟨R.b,27,none⟩)] 76)).drew
 have hlc:=h.linkc.1
 have hlt:=h.lt
 have HD:=Lib.hid (h.kept hkd)
 have HTD:Hid (Turn F F w _):=Lib.hid (Turn.of_below hkd)
 have HP:=Lib.hid hp
 have HK:=Lib.hid hK
 have HKs:=Lib.hid hKs
 have HW:=Lib.hid (hK _ _ hw hkd)
 have HNB:Hid (¬ F w.heap.size):=Lib.hid (fun hF=>by have:=h.there _ hF;omega)
 clear h hp hK hw hKs hkd
 go_enter Tryz.func85,Tryz.ntmps85
 go_wp2_with fail
 go_region_law (first
  | (go_simp;go_at_call 140;(with_reducible refine (unlink_call K HK.out f fc q HP.out _ HW.out HD.out HKs.out hl).mono ?_);rintro e w1 ⟨a1,n1,cp1,rfl,hk1,⟨j0,j1,jz⟩,t1,u1⟩;have d0:=box_one hk1 HNB.out;have T1:=Lib.hid t1;have U1:=Lib.hid u1;clear t1 u1 hk1;have hz1:=alloc_lt jz;have hz2:=Nat.lt_trans hlt hz1))
 all_goals
  have d1:(w1.setCell ⟨R.b,28,none⟩ (.slice a1 n1 cp1)).cell? ⟨w.heap.size,0,none⟩=some (.pointer (some ⟨R.b,27,none⟩)):=(World.cell?_of_block (a:=⟨w.heap.size,0,none⟩) (Below.heap_setCell _ _ _ _ (by simp;omega))).trans d0
  have HD1:Hid (CellIs w.heap.size (.pointer (some ⟨R.b,27,none⟩)) (w1.setCell ⟨R.b,28,none⟩ (.slice a1 n1 cp1))):=Lib.hid d1
  have hm1:=T1.out.mapc
  have hn1:¬ (F w.heap.size∨(Value.slice a1 n1 cp1).ownBlock=some w.heap.size):=fun hF=>by
   rcases U1.out.own _ hF with hF | hF
   ·exact HNB.out hF
   ·have:(w.alloc (.cells #[.pointer (some ⟨R.b,27,none⟩)] 76)).drew.heap.size=w.heap.size+1:=by show (w.alloc _).heap.size=_;simp
    omega
  have HN1:=Lib.hid hn1
  have hl1:(ls.filter fun e=>!q e).length≤1000:=Nat.le_trans (List.length_filter_le _ _) hl
  clear hn1
  go_wp2_with fail
  with_reducible refine (mapDelete_any w.heap.size _ T1.out hl1 HD1.out HN1.out).mono ?_
  rintro e w3 ⟨rfl,ev3,h3,t3⟩
  have H3:=Lib.hid h3
  have T3:=Lib.hid t3
  clear h3 t3
  go_wp2_with fail
  go_end0
  exact ⟨rfl,_,ev3,_,H3.out,(HTD.out.trans U1.out).trans T3.out⟩
theorem remove_any (x:UInt64) (w:World) (h:HomeAt w F R none ls M b ev v) (hl:ls.length≤1000) :
  Calls Tryz.prog 193 #[.pointer (some ⟨R.b,27,none⟩),.int .u64 x.toNat] w fun e w'=>e=.returned (.bool (M x).isSome)∧∃ F' ev' v',HomeAt w' F' R none (ls.filter fun e=>!(e.id == x)) (linkedM (ls.filter fun e=>!(e.id == x)) M) b ev' v'∧Turn F F' w w':=by
 have hk:=kept_new w (.cells #[.int .u64 x.toNat] 22)
 have H:=Lib.hid (h.kept hk)
 have HC:Hid (CellIs w.heap.size (.int .u64 x.toNat) (w.alloc (.cells #[.int .u64 x.toNat] 22))):=Lib.hid (cellIs_new _ _ _)
 have HNB:Hid (∀ g,F g→w.heap.size≠g):=Lib.hid (fun g hg=>by have:=h.there _ hg;omega)
 have HK:=Lib.hid hk
 clear h hk
 go_enter Tryz.func193,Tryz.ntmps193
 go_wp2_with fail
 with_reducible refine (has_home x _ H.out).mono ?_
 rintro e w1 ⟨rfl,hb1⟩
 have H1:=Lib.hid (H.out.kept hb1)
 have HC1:=Lib.hid (cellIs_kept _ _ _ _ HC.out hb1)
 have HB1:=Lib.hid (kept_trans HK.out hb1)
 clear hb1
 go_wp2_with fail
 refine (unlink_any _ (cellIs_kept _ _) _ _ _ (picks_remove w.heap.size x) _ HC1.out H1.out (fun g hg=>cellIs_set _ (HNB.out g hg)) hl).mono ?_
 rintro e w2 ⟨rfl,F2,ev2,v2,h2,t2⟩
 have H2:=Lib.hid h2
 have T2:=Lib.hid t2
 clear h2 t2
 go_wp2_with fail
 go_ret
 exact ⟨rfl,F2,ev2,v2,H2.out,(Turn.of_below HB1.out).trans T2.out⟩
theorem drop_yes (p:Nat) (hp:p < 8) (w:World) (h:HomeAt w F R none ls M b ev v) (hl:ls.length≤1000) :
  Calls Tryz.prog 45 #[.pointer (some ⟨R.b,27,none⟩),.int .i64 p] w fun e w'=>e=.returned (.int .i64 0)∧∃ F' ev' v',HomeAt w' F' R none (ls.filter fun e=>!(e.peer == p)) (linkedM (ls.filter fun e=>!(e.peer == p)) M) b ev' v'∧Turn F F' w w':=by
 have hk:=kept_new w (.cells #[.int .i64 p] 3)
 have H:=Lib.hid (h.kept hk)
 have HC:Hid (CellIs w.heap.size (.int .i64 p) (w.alloc (.cells #[.int .i64 p] 3))):=Lib.hid (cellIs_new _ _ _)
 have HNB:Hid (∀ g,F g→w.heap.size≠g):=Lib.hid (fun g hg=>by have:=h.there _ hg;omega)
 have HK:=Lib.hid hk
 clear h hk
 go_enter Tryz.func45,Tryz.ntmps45
 go_wp2_with fail
 with_reducible refine (isPeer_yes p p rfl hp _).mono ?_
 rintro e w1 ⟨rfl,rfl⟩
 go_wp2_with fail
 refine (unlink_any _ (cellIs_kept _ _) _ _ _ (picks_drop w.heap.size p) _ HC.out H.out (fun g hg=>cellIs_set _ (HNB.out g hg)) hl).mono ?_
 rintro e w2 ⟨rfl,F2,ev2,v2,h2,t2⟩
 have H2:=Lib.hid h2
 have T2:=Lib.hid t2
 clear h2 t2
 go_wp2_with fail
 go_ret
 exact ⟨rfl,F2,ev2,v2,H2.out,(Turn.of_below HK.out).trans T2.out⟩
end Go.Proofs.YtlboemhbealnmaaGreat.Ho
namespace Go.Proofs.YtlboemhbealnmaaGreat.Ho
open Go.RowKit Go.Maps
variable {w w':World} {F:Nat→Prop} {R:Loc} {it:Option It} {ls:List LD} {M:UInt64→Option DeedD} {b:Nat} {ev:UInt64→Option Value} {v:Value}
theorem box_two {w w1:World} {o:Obj} {t:TypeId} (h:Below ((w.alloc o).alloc (.cells #[.int .i64 0,.int .u64 0] t)).drew.heap.size ((w.alloc o).alloc (.cells #[.int .i64 0,.int .u64 0] t)).drew w1) :
  w1.cell? ⟨w.heap.size+1,0,none⟩=some (.int .i64 0)∧w1.cell? ⟨w.heap.size+1,1,none⟩=some (.int .u64 0)∧w1.frozen? ⟨w.heap.size+1,0,none⟩=false∧w1.frozen? ⟨w.heap.size+1,1,none⟩=false∧w.heap.size+1 < w1.heap.size:=by
 have hs:((w.alloc o).alloc (.cells #[.int .i64 0,.int .u64 0] t)).drew.heap.size=w.heap.size+2:=by show ((w.alloc o).alloc _).heap.size=_;simp
 have hB:w1.heap[w.heap.size+1]?=some (.cells #[.int .i64 0,.int .u64 0] t (0,0)):=(h.block _ (by omega)).trans (heap_alloc2_new _ _ _)
 exact ⟨head_cell hB 0,head_cell hB 1,frozen_of_row w1 _ 0 _ _ hB,frozen_of_row w1 _ 1 _ _ hB,(cell_spot (head_cell hB 0)).2⟩
set_option maxRecDepth 20000 in
set_option maxHeartbeats 4000000 in
theorem removeOldest_any (p i:Nat) (hi:i < ls.length) (hf:ls.findIdx? (fun l=>l.peer == p)=some i) (w:World) (h:HomeAt w F R none ls M b ev v) (hl:ls.length≤1000) :
  Calls Tryz.prog 198 #[.pointer (some ⟨R.b,27,none⟩),.int .i64 p] w fun e w'=>e=.returned (.tuple #[])∧∃ F' ev' v',HomeAt w' F' R none (ls.filter fun e=>!decide (e=ls[i])) (linkedM (ls.filter fun e=>!decide (e=ls[i])) M) b ev' v'∧Turn F F' w w':=by
 have hkd:=(kept_new w (.cells #[.int .i64 p] 3)).drew
 obtain ⟨la,lcap,rfl,hcap,hat⟩:=h.linkForm
 have hlc:=h.linkc.1
 have hlt:=h.lt
 obtain ⟨g,o,rfl,hg,c0,c1⟩:=hat i hi
 have hk0:=kept_new w (.cells #[.int .i64 p] 3)
 have HX:Hid (∀ W,Below (w.alloc (.cells #[.int .i64 p] 3)).heap.size (w.alloc (.cells #[.int .i64 p] 3)) W→CellIs w.heap.size (.int .i64 p) W∧LinksAt W (some ⟨g,o,none⟩) ls∧HomeAt W F R none ls M b ev (.slice (some ⟨g,o,none⟩) ls.length lcap)∧W.cell? ⟨g,o+i * 2,none⟩=some (.int .i64 ls[i].peer)∧W.cell? ⟨g,o+i * 2+1,none⟩=some (.int .u64 ls[i].id.toNat)):=Lib.hid (fun W hW=>by
  have hb:=kept_trans hk0 hW
  exact ⟨cellIs_kept _ _ _ _ (cellIs_new w _ 3) hW,linksAt_kept hb hat,h.kept hb,kept_cell hb c0,kept_cell hb c1⟩)
 have HK0:=Lib.hid hk0
 have HNB:Hid (∀ g,F g→g < w.heap.size):=Lib.hid h.there
 have HF:Hid (firstAt (fun l:LD=>l.peer == p) ls=i):=Lib.hid (by unfold firstAt;rw [hf])
 obtain ⟨l0,hl0⟩:∃ l0,ls[i]=l0:=⟨_,rfl⟩
 rw [hl0] at c0 c1 HX ⊢
 have hii:(i:Int) < ls.length:=by omega
 clear h hat hkd hf hl0 hk0
 go_enter Tryz.func198,Tryz.ntmps198
 go_upto_region 1 with fail
 go_cut [4] from 5 to 16 (fun v4 wx=>∃ c,v4=.pointer (some ⟨c,0,none⟩)∧Hid (LinkIs c l0 wx)∧Hid (w.heap.size≤c)∧Hid (HomeAt wx F R none ls M b ev (.slice (some ⟨g,o,none⟩) ls.length lcap))∧Hid (Below w.heap.size w wx))
 case first=>
  go_region_law (first
   | (go_simp;go_at_call 185;(refine (linkIndex_any _ (cellIs_kept _ _) _ _ _ (picks_peer w.heap.size p) ls _ _ ((w.alloc (.cells #[.int .i64 p] 3)).drew) (HX.out _ ((Below.refl _ _).drew)).1 hl (HX.out _ ((Below.refl _ _).drew)).2.1).mono ?_);rintro e w1 ⟨rfl,hb1⟩;rw [HF.out];have hb2:=kept_trans ((Below.refl _ (w.alloc (.cells #[.int .i64 p] 3))).drew) hb1;obtain ⟨q0,q1,q2,q3,q4⟩:=HX.out _ hb2;have j0:=q2.linkc.1;have j1:=q2.lt;have j2:=(cell_spot q3).2;have j3:=(cell_spot q0).2;have HB1:=Lib.hid hb2;clear hb1 hb2 q0 q1 q2)
   | (go_simp;go_at_call 185;(refine (linkIndex_any _ (cellIs_kept _ _) _ _ _ (picks_peer w.heap.size p) ls _ _ (((w.alloc (.cells #[.int .i64 p] 3)).alloc (.cells #[.int .i64 0,.int .u64 0] 136)).drew) (HX.out _ ((kept_new _ _).drew)).1 hl (HX.out _ ((kept_new _ _).drew)).2.1).mono ?_);rintro e w1 ⟨rfl,hb1⟩;rw [HF.out];have hb2:=kept_trans ((kept_new (w.alloc (.cells #[.int .i64 p] 3)) (.cells #[.int .i64 0,.int .u64 0] 136)).drew) hb1;obtain ⟨q0,q1,q2,q3,q4⟩:=HX.out _ hb2;have j0:=q2.linkc.1;have j1:=q2.lt;have j2:=(cell_spot q3).2;have j3:=(cell_spot q0).2;have HB1:=Lib.hid hb2;obtain ⟨k0,k1,k2,k3,k4⟩:=box_two hb1;clear hb1 hb2 q0 q1 q2))
  all_goals
   go_wp2_with fail
   go_meet
   case rel=>
    first
     | exact ⟨_,rfl,Lib.hid ⟨by simp [go_sem],by simp [go_sem]⟩,Lib.hid (by omega),Lib.hid (HX.out _ (kept_alloc HB1.out _)).2.2.1,Lib.hid (kept_alloc (kept_trans HK0.out HB1.out) _)⟩
     | exact ⟨_,rfl,Lib.hid ⟨by simp [go_sem,k0],by simp [go_sem,k1]⟩,Lib.hid (by omega),Lib.hid (HX.out _ (below_set (below_set HB1.out (by simp)) (by simp))).2.2.1,Lib.hid (below_set (below_set (kept_trans HK0.out HB1.out) (by simp)) (by simp))⟩
 case rest=>
  obtain ⟨c,rfl,HL,HCW,HH,HB⟩:=hcut
  go_wp2_with fail
  refine (unlink_any _ (linkIs_kept _ _) _ _ _ (picks_same c l0) _ HL.out HH.out (fun g hg=>linkIs_set _ (by have:=HNB.out g hg;have:=HCW.out;omega)) hl).mono ?_
  rintro e w2 ⟨rfl,F2,ev2,v2,h2,t2⟩
  have H2:=Lib.hid h2
  have T2:=Lib.hid t2
  clear h2 t2
  go_wp2_with fail
  go_end0
  exact ⟨rfl,F2,ev2,v2,H2.out,(Turn.of_below HB.out).trans T2.out⟩
end Go.Proofs.YtlboemhbealnmaaGreat.Ho
