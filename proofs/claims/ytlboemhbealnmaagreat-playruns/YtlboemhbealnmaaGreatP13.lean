import Derived.Test.YtlboemhbealnmaaGreatP12
import Derived.Shelf.SlMaps.Clone
import Derived.Deep.RegionLaw
import Derived.BigQuiet
import Derived.Deep.QuietTactic
import Derived.Deep.CutRange
import Derived.Deep.RegionHeld3
set_option maxRecDepth 20000
namespace Go.Proofs.YtlboemhbealnmaaGreat.Ho
open Go.RowKit Go.Maps
variable {w w':World} {F:Nat→Prop} {R:Loc} {it:Option It} {ls:List LD} {M:UInt64→Option DeedD} {b:Nat} {ev:UInt64→Option Value} {v:Value}
set_option maxRecDepth 20000 in
theorem keep_any (x:UInt64) (d:DeedD) (a:Option Addr) (cap:Nat) (ks:List UInt64) (hks:∀ x,(M x).isSome=true→x ∈ ks) (hkl:ks.length≤1000) (hd:checkD d=0) (w:World) (h:HomeAt w F R none ls M b ev v) (hi:InsAt w a d.ins) :
  Calls Tryz.prog 196 #[.pointer (some ⟨R.b,27,none⟩),.int .u64 x.toNat,.agg #[.slice a d.ins.length cap,.int .i64 d.outs,.int .i64 d.weight,.int .i64 d.fee]] w fun e w'=>e=.returned (.tuple #[])∧∃ F' ev',HomeAt w' F' R none ls (upd M x (some d)) b ev' v∧Turn F F' w w':=by
 have hk0:=kept_new w (.cells #[.slice a d.ins.length cap,.int .i64 d.outs,.int .i64 d.weight,.int .i64 d.fee] 94)
 have hkd:=(kept_new w (.cells #[.slice a d.ins.length cap,.int .i64 d.outs,.int .i64 d.weight,.int .i64 d.fee] 94)).drew
 have hmc:=h.mapc
 have hlt:=h.lt
 have hnn:=map_not_nil
 have HD:=Lib.hid (h.kept hkd)
 have HI:=Lib.hid (insAt_kept hkd hi)
 have hl:=(check_ok hd).1
 have HC:=Lib.hid hd
 have HK:=Lib.hid hks
 have HKL:=Lib.hid hkl
 have HTD:Hid (Turn F F w (w.alloc (.cells #[.slice a d.ins.length cap,.int .i64 d.outs,.int .i64 d.weight,.int .i64 d.fee] 94)).drew):=Lib.hid (Turn.of_below hkd)
 clear h hi hks hkl hd hk0 hkd
 go_enter Tryz.func196,Tryz.ntmps196
 go_wp2_with fail
 go_region_law (first
  | (go_simp;go_at_call 153;(with_reducible refine (clone_any d a cap _ hl HI.out).mono ?_);rintro e w1 ⟨v1,rfl,a1,c1,rfl,ho1,hb1⟩;obtain ⟨w2,hput,F2,h2,t2⟩:=HD.out.put ks HK.out HKL.out x HC.out hb1 ho1;have j0:=(HD.out.kept hb1).mapc;have j1:=(HD.out.kept hb1).lt;have H2:=Lib.hid h2;have T2:=Lib.hid t2;unfold deedV at hput;clear h2 t2 ho1 hb1))
 all_goals
  go_wp2_with fail
  go_end0
  exact ⟨rfl,F2,_,H2.out,HTD.out.trans T2.out⟩
set_option maxRecDepth 20000 in
theorem deed_none (x:UInt64) (w:World) (h:HomeAt w F R it ls M b ev v) (hx:M x=none) :
  Calls Tryz.prog 169 #[.pointer (some ⟨R.b,27,none⟩),.int .u64 x.toNat] w (DeedAns w none):=by
 have H:=Lib.hid (h.kept (kept_new w (.cells #[.slice none 0 0,.int .i64 0,.int .i64 0,.int .i64 0] 94)))
 have HX:Hid ((M x).isSome=false):=Lib.hid (by rw [hx];rfl)
 clear h hx
 go_enter Tryz.func169,Tryz.ntmps169
 go_wp2_with fail
 with_reducible refine (has_home_is x _ H.out false HX.out).mono ?_
 rintro e w1 ⟨rfl,hb1⟩
 have hB:=(hb1.block w.heap.size (by simp)).trans (heap_alloc_new w _)
 have c0:=(head_cell hB 0).trans rfl
 have c1:=(head_cell hB 1).trans rfl
 have c2:=(head_cell hB 2).trans rfl
 have c3:=(head_cell hB 3).trans rfl
 have f0:=frozen_of_row w1 _ 0 _ _ hB
 have f1:=frozen_of_row w1 _ 1 _ _ hB
 have f2:=frozen_of_row w1 _ 2 _ _ hB
 have f3:=frozen_of_row w1 _ 3 _ _ hB
 have hs:=(cell_spot c0).2
 have HB:=Lib.hid (kept_trans (kept_new _ _) hb1)
 clear hB hb1
 go_wp2_with fail
 refine bodyPost_ret (v:=.tuple #[.agg #[.slice none 0 0,.int .i64 0,.int .i64 0,.int .i64 0],.int .i64 5]) (by simp [results,Tryz.results169,go_sem,c0,c1,c2,c3]) rfl ?_
 have ht:=turn_set4 w1 w.heap.size (.slice none 0 0) (.int .i64 0) (.int .i64 0) (.int .i64 0)
 exact ⟨none,0,rfl,Nat.zero_le _,Nat.zero_le _,fun i hi=>absurd hi (by simp [nod]),HB.out.trans (ht.below (fun k hk=>by omega) HB.out.size)⟩
def wM (M:UInt64→Option DeedD) (l:LD):Int:=((M l.id).getD nod).weight
def usageF (M:UInt64→Option DeedD) (ls:List LD):Nat→Int × Int:=fun p=>(((ls.filter fun l=>l.peer == p).map (wM M)).sum,((ls.filter fun l=>l.peer == p).length:Int))
def usC (u:Nat→Int × Int):Array Value:=#[.int .i64 (u 0).1,.int .i64 (u 0).2,.int .i64 (u 1).1,.int .i64 (u 1).2,.int .i64 (u 2).1,.int .i64 (u 2).2,.int .i64 (u 3).1,.int .i64 (u 3).2,
 .int .i64 (u 4).1,.int .i64 (u 4).2,.int .i64 (u 5).1,.int .i64 (u 5).2,.int .i64 (u 6).1,.int .i64 (u 6).2,.int .i64 (u 7).1,.int .i64 (u 7).2]
theorem usC_at (u:Nat→Int × Int) (p:Nat) (hp:p < 8):(usC u)[p * 2]?=some (.int .i64 (u p).1)∧(usC u)[p * 2+1]?=some (.int .i64 (u p).2):=
 match p,hp with
 | 0,_=>⟨rfl,rfl⟩
 | 1,_=>⟨rfl,rfl⟩
 | 2,_=>⟨rfl,rfl⟩
 | 3,_=>⟨rfl,rfl⟩
 | 4,_=>⟨rfl,rfl⟩
 | 5,_=>⟨rfl,rfl⟩
 | 6,_=>⟨rfl,rfl⟩
 | 7,_=>⟨rfl,rfl⟩
theorem usC_set (u:Nat→Int × Int) (p:Nat) (hp:p < 8) (x y:Int):((usC u).setIfInBounds (p * 2) (.int .i64 x)).setIfInBounds (p * 2+1) (.int .i64 y)=usC (upd u p (x,y)):=
 match p,hp with
 | 0,_=>by simp [usC,upd]
 | 1,_=>by simp [usC,upd]
 | 2,_=>by simp [usC,upd]
 | 3,_=>by simp [usC,upd]
 | 4,_=>by simp [usC,upd]
 | 5,_=>by simp [usC,upd]
 | 6,_=>by simp [usC,upd]
 | 7,_=>by simp [usC,upd]
theorem usageF_step {M:UInt64→Option DeedD} {ls:List LD} {k:Nat} (h:k < ls.length):usageF M (ls.take (k+1))=upd (usageF M (ls.take k)) ls[k].peer ((usageF M (ls.take k) ls[k].peer).1+wM M ls[k],(usageF M (ls.take k) ls[k].peer).2+1):=by
 funext p
 unfold usageF
 rw [List.take_succ_eq_append_getElem h,List.filter_append,List.map_append,List.sum_append,List.length_append]
 by_cases hp:p=ls[k].peer
 ·rw [hp,upd_same]
  simp
 ·rw [upd_other _ _ hp]
  have:(ls[k].peer == p)=false:=beq_eq_false_iff_ne.2 (fun e=>hp e.symm)
  simp [this]
theorem sum_bound {α:Type} (f:α→Int) (lo hi:Int):∀ (l:List α),(∀ x ∈ l,lo≤f x∧f x≤hi)→lo * l.length≤(l.map f).sum∧(l.map f).sum≤hi * l.length
 | [],_=>by simp
 | a :: r,h=>by
  have h1:=sum_bound f lo hi r (fun x hx=>h x (by simp [hx]))
  have h2:=h a (by simp)
  simp only [List.map_cons,List.sum_cons,List.length_cons]
  have e1:lo * ((r.length+1:Nat):Int)=lo * r.length+lo:=by rw [Int.natCast_add,Int.mul_add];simp
  have e2:hi * ((r.length+1:Nat):Int)=hi * r.length+hi:=by rw [Int.natCast_add,Int.mul_add];simp
  rw [e1,e2]
  omega
theorem HomeAt.weight (h:HomeAt w F R it ls M b ev v) (l:LD):0≤wM M l∧wM M l≤1000:=by
 unfold wM
 cases hx:M l.id with
 | none=>simp [nod]
 | some d=>
  have:=(check_ok (h.fine _ d hx)).2.2.2.2.1
  simp only [Option.getD_some]
  omega
theorem usage_bound (hw:∀ l,0≤wM M l∧wM M l≤1000) (ls:List LD) (p:Nat):0≤(usageF M ls p).1∧(usageF M ls p).1≤1000 * ls.length∧0≤(usageF M ls p).2∧(usageF M ls p).2≤ls.length:=by
 have h1:=sum_bound (wM M) 0 1000 (ls.filter fun l=>l.peer == p) (fun x _=>hw x)
 have h2:=List.length_filter_le (fun l=>l.peer == p) ls
 unfold usageF
 simp only
 omega
end Go.Proofs.YtlboemhbealnmaaGreat.Ho
namespace Go.Proofs.YtlboemhbealnmaaGreat.Ho
open Go.RowKit Go.Maps
variable {w w':World} {F:Nat→Prop} {R:Loc} {it:Option It} {ls:List LD} {M:UInt64→Option DeedD} {b:Nat} {ev:UInt64→Option Value} {v:Value}
theorem below_set {n:Nat} {a c:World} (h:Below n a c) {p:Addr} {u:Value} (hp:n≤p.block):Below n a (c.setCell p u):=
 ⟨h.os,h.tape,h.output,by rw [World.size_setCell];exact h.size,fun k hk=>(Below.heap_setCell c p u k (by omega)).trans (h.block k hk)⟩
theorem HomeAt.linkForm (h:HomeAt w F R it ls M b ev v):∃ a cap,v=.slice a ls.length cap∧ls.length≤cap∧LinksAt w a ls:=ownLinks_form h.links
theorem HomeAt.linksAt {a:Option Addr} {n cap:Nat} (h:HomeAt w F R it ls M b ev (.slice a n cap)):LinksAt w a ls:=by
 obtain ⟨a',cap',e,_,hat⟩:=h.linkForm
 simp only [Value.slice.injEq] at e
 rw [e.1]
 exact hat
def UsAt (w:World) (U:Nat) (u:Nat→Int × Int):Prop:=w.heap[U]?=some (.cells (usC u) 236 (0,0))
theorem usAt_cell {U:Nat} {u:Nat→Int × Int} (h:UsAt w U u) {p:Nat} (hp:p < 8):w.cell? ⟨U,p * 2,none⟩=some (.int .i64 (u p).1)∧w.cell? ⟨U,p * 2+1,none⟩=some (.int .i64 (u p).2)∧w.frozen? ⟨U,p * 2,none⟩=false∧w.frozen? ⟨U,p * 2+1,none⟩=false:=
 ⟨(head_cell h _).trans (usC_at u p hp).1,(head_cell h _).trans (usC_at u p hp).2,frozen_of_row w U _ _ _ h,frozen_of_row w U _ _ _ h⟩
theorem usAt_set {U:Nat} {u:Nat→Int × Int} (h:UsAt w U u) {p:Nat} (hp:p < 8) (x y:Int):UsAt ((w.setCell ⟨U,p * 2,none⟩ (.int .i64 x)).setCell ⟨U,p * 2+1,none⟩ (.int .i64 y)) U (upd u p (x,y)):=by
 unfold UsAt
 rw [← usC_set u p hp x y]
 exact heap_setCell_same _ U _ _ _ _ (heap_setCell_same _ U _ _ _ _ h)
theorem HomeAt.look_weight (h:HomeAt w F R it ls M b ev v) (x:UInt64):∃ a c,(Instr.lookup 72 (.map (some b)) (.int .u64 x.toNat) false).run Tryz.prog w=.ok (.agg #[.slice a ((M x).getD nod).ins.length c,.int .i64 ((M x).getD nod).outs,.int .i64 ((M x).getD nod).weight,.int .i64 ((M x).getD nod).fee]) w:=by
 obtain ⟨a,c,e,_⟩:=h.deed x
 exact ⟨a,c,by rw [h.look x,e];rfl⟩
theorem field_weight (a:Option Addr) (n c:Nat) (o z f:Int) (w:World):(Instr.field 94 (.agg #[.slice a n c,.int .i64 o,.int .i64 z,.int .i64 f]) 2).run Tryz.prog w=.ok (.int .i64 z) w:=by kernel_rfl
set_option maxRecDepth 20000 in
theorem usages_any (w:World) (h:HomeAt w F R it ls M b ev v) (hl:ls.length≤1000) (hp8:∀ l ∈ ls,l.peer < 8) :
  Calls Tryz.prog 215 #[.pointer (some ⟨R.b,27,none⟩)] w fun e w'=>e=.returned (.agg (usC (usageF M ls)))∧Below w.heap.size w w':=by
 have HW:=Lib.hid h.weight
 obtain ⟨a,cap,rfl,hcap,_⟩:=h.linkForm
 have hk2:Below w.heap.size w ((w.alloc (.cells (usC fun _=>(0,0)) 236)).alloc (.cells (usC fun _=>(0,0)) 236)):=kept_alloc (kept_new _ _) _
 have HK2:=Lib.hid hk2
 have H:=Lib.hid (h.kept hk2)
 have hlc:=(h.linkc).1
 have hlt:=h.lt
 have HP:=Lib.hid hp8
 have HTH:=Lib.hid h.there
 have HIR:Hid (∀ i,it=some i→i.r < w.heap.size):=Lib.hid (fun i hi=>(h.out i hi).2)
 have HU0:Hid (UsAt ((w.alloc (.cells (usC fun _=>(0,0)) 236)).alloc (.cells (usC fun _=>(0,0)) 236)) w.heap.size (fun _=>(0,0))):=Lib.hid (heap_alloc2_old _ _ _)
 have HU1:Hid (UsAt ((w.alloc (.cells (usC fun _=>(0,0)) 236)).alloc (.cells (usC fun _=>(0,0)) 236)) (w.heap.size+1) (usageF M (ls.take 0))):=Lib.hid (heap_alloc2_new _ _ _)
 unfold usC at HU0 HU1 HK2 H
 simp only at HU0 HU1 HK2 H
 clear h hp8 hk2
 go_enter Tryz.func215,Tryz.ntmps215
 go_wp2_with fail
 go_loopw [11] (fun i wr=>∃ k:Nat,k≤ls.length∧i=.int .i64 k∧Hid (HomeAt wr F R it ls M b ev (.slice a ls.length cap))∧Hid (UsAt wr w.heap.size (fun _=>(0,0)))∧Hid (UsAt wr (w.heap.size+1) (usageF M (ls.take k)))∧Hid (Below w.heap.size w wr)) (fun i _=>ls.length - (intOf i).toNat)
 case atStart=>exact ⟨0,Nat.zero_le _,rfl,H,HU0,HU1,HK2⟩
 case round=>
  clear H HU0 HU1 HK2
  obtain ⟨k,hk,rfl,H,HU0,HU1,HB⟩:=hrel
  by_cases hkl:k < ls.length
  ·obtain ⟨g,o,rfl,hg,hc2⟩:=H.out.linksAt k hkl
   have hpk:=HP.out _ (List.getElem_mem hkl)
   have hstep:=usageF_step (M:=M) hkl
   obtain ⟨l0,hl0⟩:∃ l0,ls[k]=l0:=⟨_,rfl⟩
   rw [hl0] at hc2 hpk hstep
   obtain ⟨c0,c1⟩:=hc2
   have HST:=Lib.hid hstep
   have hpi:(l0.peer:Int) < 8:=by omega
   obtain ⟨wd,hwd⟩:∃ wd,(wr.alloc (.cells #[.int .i64 l0.peer,.int .u64 l0.id.toNat] 136)).drew=wd:=⟨_,rfl⟩
   have hbd:Below wr.heap.size wr wd:=hwd▸(kept_new _ _).drew
   have HD:=H.out.kept hbd
   have hmd:=HD.mapc
   have hRd:=HD.lt
   obtain ⟨ia,ic,hlk⟩:=HD.look_weight l0.id
   have hU1:UsAt wd (w.heap.size+1) (usageF M (ls.take k)):=(hbd.block _ (by have:=HU1.out;unfold UsAt at this;exact (Array.getElem?_eq_some_iff.1 this).1)).trans HU1.out
   have hU0:UsAt wd w.heap.size (fun _=>(0,0)):=(hbd.block _ (by have:=HU0.out;unfold UsAt at this;exact (Array.getElem?_eq_some_iff.1 this).1)).trans HU0.out
   obtain ⟨u0,u1,f0,f1⟩:=usAt_cell hU1 hpk
   have d0:wd.cell? ⟨wr.heap.size,0,none⟩=some (.int .i64 l0.peer):=by rw [← hwd];show (wr.alloc _).cell? _=_;simp [go_sem]
   have d1:wd.cell? ⟨wr.heap.size,1,none⟩=some (.int .u64 l0.id.toNat):=by rw [← hwd];show (wr.alloc _).cell? _=_;simp [go_sem]
   have hub:=usage_bound HW.out (ls.take k) l0.peer
   have hwb:=HW.out l0
   have htk:((ls.take k).length:Int)≤1000:=by rw [List.length_take];omega
   obtain ⟨x,hx⟩:∃ x,(usageF M (ls.take k) l0.peer).1=x:=⟨_,rfl⟩
   obtain ⟨y,hy⟩:∃ y,(usageF M (ls.take k) l0.peer).2=y:=⟨_,rfl⟩
   obtain ⟨z,hz⟩:∃ z,wM M l0=z:=⟨_,rfl⟩
   have hz':((M l0.id).getD nod).weight=z:=hz
   rw [hx,hy] at hub
   rw [hx] at u0
   rw [hy] at u1
   rw [hz] at hwb
   rw [hz'] at hlk
   have HXX:=Lib.hid hx
   have HYY:=Lib.hid hy
   have HZZ:=Lib.hid hz
   have hx1:x≤1000000:=by omega
   have hy1:y≤1000:=by omega
   have hx0:=hub.1
   have hy0:=hub.2.2.1
   obtain ⟨hz0,hz1⟩:=hwb
   have hs0:=(cell_spot u0).2
   have hs1:=(cell_spot d0).2
   have hne:wr.heap.size≠w.heap.size+1:=by
    have:=HU1.out
    unfold UsAt at this
    have:=(Array.getElem?_eq_some_iff.1 this).1
    omega
   have HWD:=Lib.hid hwd
   have HHD:=Lib.hid HD
   have HU1':=Lib.hid hU1
   have HU0':=Lib.hid hU0
   have HBD:=Lib.hid (kept_trans HB.out hbd)
   clear hl0 hstep HD hbd hU1 hU0 hub htk hx hy hz hz' hwd
   have hfd:=field_weight
   go_wp2_with fail
   refine region_tail 16 (by kernel_rfl) (by kernel_rfl) HWD.out ?_
   simp only [List.take_succ_cons,List.take_zero,List.drop_succ_cons,List.drop_zero]
   repeat still_step
   refine wpStill_nil ?_
   go_wp2_with fail
   go_roundw
   case rel=>
    have ht:Turn (fun j=>j=w.heap.size+1) (fun j=>j=w.heap.size+1) wd _:=(Turn.set (F:=fun j=>j=w.heap.size+1) wd ⟨w.heap.size+1,l0.peer * 2,none⟩ (.int .i64 (x+z)) rfl).trans (Turn.set (F:=fun j=>j=w.heap.size+1) _ ⟨w.heap.size+1,l0.peer * 2+1,none⟩ (.int .i64 (y+1)) rfl)
    refine ⟨k+1,by omega,by go_num,Lib.hid (HHD.out.turn ht (fun j hj e=>by have:=HTH.out j hj;omega) (fun i hi e=>by have:=HIR.out i hi;omega)),Lib.hid ?_,Lib.hid ?_,Lib.hid (HBD.out.trans (ht.below (fun j hj=>by omega) HBD.out.size))⟩
    ·exact (ht.block _ (Nat.lt_trans (Nat.lt_succ_self _) hs0) (by omega)).trans HU0'.out
    ·rw [HST.out,HXX.out,HYY.out,HZZ.out]
     exact usAt_set HU1'.out hpk _ _
   case measure=>simp [intOf];omega
  ·have he:ls.take k=ls:=List.take_of_length_le (by omega)
   have h1:=HU1.out
   rw [he] at h1
   have h0:=HU0.out
   unfold UsAt at h0 h1
   have hs1:=(Array.getElem?_eq_some_iff.1 h1).1
   have hs0:=(Array.getElem?_eq_some_iff.1 h0).1
   obtain ⟨u,hu⟩:∃ u,usageF M ls=u:=⟨_,rfl⟩
   rw [hu] at h1
   have HUU:=Lib.hid hu
   have a0:wr.cell? ⟨w.heap.size+1,0,none⟩=some (.int .i64 (u 0).1):=(head_cell h1 0).trans rfl
   have b0:wr.cell? ⟨w.heap.size,0,none⟩=some (.int .i64 0):=(head_cell h0 0).trans rfl
   have f0:=frozen_of_row wr _ 0 _ _ h0
   have a1:wr.cell? ⟨w.heap.size+1,1,none⟩=some (.int .i64 (u 0).2):=(head_cell h1 1).trans rfl
   have b1:wr.cell? ⟨w.heap.size,1,none⟩=some (.int .i64 0):=(head_cell h0 1).trans rfl
   have f1:=frozen_of_row wr _ 1 _ _ h0
   have a2:wr.cell? ⟨w.heap.size+1,2,none⟩=some (.int .i64 (u 1).1):=(head_cell h1 2).trans rfl
   have b2:wr.cell? ⟨w.heap.size,2,none⟩=some (.int .i64 0):=(head_cell h0 2).trans rfl
   have f2:=frozen_of_row wr _ 2 _ _ h0
   have a3:wr.cell? ⟨w.heap.size+1,3,none⟩=some (.int .i64 (u 1).2):=(head_cell h1 3).trans rfl
   have b3:wr.cell? ⟨w.heap.size,3,none⟩=some (.int .i64 0):=(head_cell h0 3).trans rfl
   have f3:=frozen_of_row wr _ 3 _ _ h0
   have a4:wr.cell? ⟨w.heap.size+1,4,none⟩=some (.int .i64 (u 2).1):=(head_cell h1 4).trans rfl
   have b4:wr.cell? ⟨w.heap.size,4,none⟩=some (.int .i64 0):=(head_cell h0 4).trans rfl
   have f4:=frozen_of_row wr _ 4 _ _ h0
   have a5:wr.cell? ⟨w.heap.size+1,5,none⟩=some (.int .i64 (u 2).2):=(head_cell h1 5).trans rfl
   have b5:wr.cell? ⟨w.heap.size,5,none⟩=some (.int .i64 0):=(head_cell h0 5).trans rfl
   have f5:=frozen_of_row wr _ 5 _ _ h0
   have a6:wr.cell? ⟨w.heap.size+1,6,none⟩=some (.int .i64 (u 3).1):=(head_cell h1 6).trans rfl
   have b6:wr.cell? ⟨w.heap.size,6,none⟩=some (.int .i64 0):=(head_cell h0 6).trans rfl
   have f6:=frozen_of_row wr _ 6 _ _ h0
   have a7:wr.cell? ⟨w.heap.size+1,7,none⟩=some (.int .i64 (u 3).2):=(head_cell h1 7).trans rfl
   have b7:wr.cell? ⟨w.heap.size,7,none⟩=some (.int .i64 0):=(head_cell h0 7).trans rfl
   have f7:=frozen_of_row wr _ 7 _ _ h0
   have a8:wr.cell? ⟨w.heap.size+1,8,none⟩=some (.int .i64 (u 4).1):=(head_cell h1 8).trans rfl
   have b8:wr.cell? ⟨w.heap.size,8,none⟩=some (.int .i64 0):=(head_cell h0 8).trans rfl
   have f8:=frozen_of_row wr _ 8 _ _ h0
   have a9:wr.cell? ⟨w.heap.size+1,9,none⟩=some (.int .i64 (u 4).2):=(head_cell h1 9).trans rfl
   have b9:wr.cell? ⟨w.heap.size,9,none⟩=some (.int .i64 0):=(head_cell h0 9).trans rfl
   have f9:=frozen_of_row wr _ 9 _ _ h0
   have a10:wr.cell? ⟨w.heap.size+1,10,none⟩=some (.int .i64 (u 5).1):=(head_cell h1 10).trans rfl
   have b10:wr.cell? ⟨w.heap.size,10,none⟩=some (.int .i64 0):=(head_cell h0 10).trans rfl
   have f10:=frozen_of_row wr _ 10 _ _ h0
   have a11:wr.cell? ⟨w.heap.size+1,11,none⟩=some (.int .i64 (u 5).2):=(head_cell h1 11).trans rfl
   have b11:wr.cell? ⟨w.heap.size,11,none⟩=some (.int .i64 0):=(head_cell h0 11).trans rfl
   have f11:=frozen_of_row wr _ 11 _ _ h0
   have a12:wr.cell? ⟨w.heap.size+1,12,none⟩=some (.int .i64 (u 6).1):=(head_cell h1 12).trans rfl
   have b12:wr.cell? ⟨w.heap.size,12,none⟩=some (.int .i64 0):=(head_cell h0 12).trans rfl
   have f12:=frozen_of_row wr _ 12 _ _ h0
   have a13:wr.cell? ⟨w.heap.size+1,13,none⟩=some (.int .i64 (u 6).2):=(head_cell h1 13).trans rfl
   have b13:wr.cell? ⟨w.heap.size,13,none⟩=some (.int .i64 0):=(head_cell h0 13).trans rfl
   have f13:=frozen_of_row wr _ 13 _ _ h0
   have a14:wr.cell? ⟨w.heap.size+1,14,none⟩=some (.int .i64 (u 7).1):=(head_cell h1 14).trans rfl
   have b14:wr.cell? ⟨w.heap.size,14,none⟩=some (.int .i64 0):=(head_cell h0 14).trans rfl
   have f14:=frozen_of_row wr _ 14 _ _ h0
   have a15:wr.cell? ⟨w.heap.size+1,15,none⟩=some (.int .i64 (u 7).2):=(head_cell h1 15).trans rfl
   have b15:wr.cell? ⟨w.heap.size,15,none⟩=some (.int .i64 0):=(head_cell h0 15).trans rfl
   have f15:=frozen_of_row wr _ 15 _ _ h0
   clear h0 h1 he HU0 HU1 hu
   go_wp2_with fail
   refine bodyPost_ret (v:=.agg (usC u)) (by simp [results,Tryz.results215,go_sem,usC,b0,b1,b2,b3,b4,b5,b6,b7,b8,b9,b10,b11,b12,b13,b14,b15]) rfl ?_
   rw [HUU.out]
   refine ⟨rfl,?_⟩
   iterate 16 refine below_set ?_ (Nat.le_refl _)
   exact HB.out
end Go.Proofs.YtlboemhbealnmaaGreat.Ho
namespace Go.Proofs.YtlboemhbealnmaaGreat.Ho
open Go.RowKit Go.Maps
variable {w w':World} {F:Nat→Prop} {R:Loc} {it:Option It} {ls:List LD} {M:UInt64→Option DeedD} {b:Nat} {ev:UInt64→Option Value} {v:Value}
theorem index_us (u:Nat→Int × Int) (p:Nat) (hp:p < 8) (w:World):(Instr.index 236 (.agg (usC u)) (.int .i64 p)).run Tryz.prog w=.ok (.agg #[.int .i64 (u p).1,.int .i64 (u p).2]) w:=
 match p,hp with
 | 0,_=>by kernel_rfl
 | 1,_=>by kernel_rfl
 | 2,_=>by kernel_rfl
 | 3,_=>by kernel_rfl
 | 4,_=>by kernel_rfl
 | 5,_=>by kernel_rfl
 | 6,_=>by kernel_rfl
 | 7,_=>by kernel_rfl
def burd (x:Int × Int):Int:=max (x.1 * 24) (x.2 * 3000)
theorem burden_any (x:Int × Int) (w:World) (h:0≤x.1∧x.1≤1000000∧0≤x.2∧x.2≤1000) :
  Calls Tryz.prog 218 #[.agg #[.int .i64 x.1,.int .i64 x.2]] w fun e w'=>e=.returned (.int .i64 (burd x))∧Below w.heap.size w w':=by
 obtain ⟨h0,h1,h2,h3⟩:=h
 unfold burd
 go_enter Tryz.func218,Tryz.ntmps218
 go_wp2
 all_goals (go_ret;exact ⟨ret_i64 (by omega),kept_new _ _⟩)
theorem burden_is (x:Int × Int) (r:Int) (w:World) (h:0≤x.1∧x.1≤1000000∧0≤x.2∧x.2≤1000) (hr:burd x=r) :
  Calls Tryz.prog 218 #[.agg #[.int .i64 x.1,.int .i64 x.2]] w fun e w'=>e=.returned (.int .i64 r)∧Below w.heap.size w w':=hr▸burden_any x w h
def wst (B:Nat→Int):Nat→Nat
 | 0=>0
 | k+1=>if B k > B (wst B k) then k else wst B k
theorem two_us {wX w1 w2:World} {n U m:Nat} {u:Nat→Int × Int} {x:Int × Int} (hm:m < 8) (h0:wX.cell? ⟨n,0,none⟩=some (.int .i64 x.1)) (h1:wX.cell? ⟨n,1,none⟩=some (.int .i64 x.2)) (hU:UsAt wX U u) (hb:Below wX.heap.size wX w1) (hb2:Below w1.heap.size w1 w2) :
  ((w2.cell? ⟨n,0,none⟩=some (.int .i64 x.1)∧w2.cell? ⟨n,1,none⟩=some (.int .i64 x.2))∧(w2.cell? ⟨U,m * 2,none⟩=some (.int .i64 (u m).1)∧w2.cell? ⟨U,m * 2+1,none⟩=some (.int .i64 (u m).2)))∧Below wX.heap.size wX w2:=by
 have hk:=kept_trans hb hb2
 obtain ⟨q0,q1,_,_⟩:=usAt_cell hU hm
 exact ⟨⟨⟨kept_cell hk h0,kept_cell hk h1⟩,⟨kept_cell hk q0,kept_cell hk q1⟩⟩,hk⟩
set_option maxRecDepth 20000 in
theorem worst_any (w:World) (h:HomeAt w F R it ls M b ev v) (hl:ls.length≤1000) (hp8:∀ l ∈ ls,l.peer < 8) :
  Calls Tryz.prog 199 #[.pointer (some ⟨R.b,27,none⟩)] w fun e w'=>e=.returned (.int .i64 (wst (fun p=>burd (usageF M ls p)) 8))∧Below w.heap.size w w':=by
 have H:=Lib.hid h
 have HP:=Lib.hid hp8
 have HB0:Hid (∀ p,0≤(usageF M ls p).1∧(usageF M ls p).1≤1000000∧0≤(usageF M ls p).2∧(usageF M ls p).2≤1000):=Lib.hid (fun p=>by
  have:=usage_bound h.weight ls p
  omega)
 clear h hp8
 go_enter Tryz.func199,Tryz.ntmps199
 go_wp2_with fail
 with_reducible refine (usages_any _ H.out hl HP.out).mono ?_
 rintro e w1 ⟨rfl,hb1⟩
 obtain ⟨u,hu⟩:∃ u,usageF M ls=u:=⟨_,rfl⟩
 have HUU:=Lib.hid hu
 rw [hu] at HB0 ⊢
 have HU1:Hid (UsAt (w1.alloc (.cells (usC u) 236)) w1.heap.size u):=Lib.hid (heap_alloc_new _ _)
 have HK1:=Lib.hid (kept_alloc hb1 (.cells (usC u) 236))
 unfold usC at HU1 HK1 ⊢
 have hix:=index_us u
 unfold usC at hix
 clear hu hb1
 go_wp2_with fail
 go_loopw [4,10] (fun vm vk wr=>∃ m k:Nat,vm=.int .i64 m∧vk=.int .i64 k∧k≤8∧m < 8∧Hid (m=wst (fun p=>burd (u p)) k)∧Hid (UsAt wr w1.heap.size u)∧Hid (Below w.heap.size w wr)) (fun _ k _=>8 - (intOf k).toNat)
 case atStart=>exact ⟨0,0,rfl,rfl,by omega,by omega,Lib.hid rfl,HU1,HK1⟩
 case round=>
  clear HU1 HK1
  obtain ⟨m,k,rfl,rfl,hk,hm,HM,HU,HB⟩:=hrel
  by_cases hkl:k < 8
  ·have hixk:=hix k hkl
   have hki:(k:Int) < 8:=by omega
   have hmi:(m:Int) < 8:=by omega
   obtain ⟨bk,hbk⟩:∃ x,burd (u k)=x:=⟨_,rfl⟩
   obtain ⟨bm,hbm⟩:∃ x,burd (u m)=x:=⟨_,rfl⟩
   have HBK:=Lib.hid hbk
   have HBM:=Lib.hid hbm
   obtain ⟨wX,hwX⟩:∃ x,x=wr.alloc (.cells #[.int .i64 (u k).1,.int .i64 (u k).2] 235):=⟨_,rfl⟩
   have hbX:Below wr.heap.size wr wX:=hwX▸kept_new _ _
   have a0:wX.cell? ⟨wr.heap.size,0,none⟩=some (.int .i64 (u k).1):=by rw [hwX];simp [go_sem]
   have a1:wX.cell? ⟨wr.heap.size,1,none⟩=some (.int .i64 (u k).2):=by rw [hwX];simp [go_sem]
   have hUX:UsAt wX w1.heap.size u:=(hbX.block _ (Array.getElem?_eq_some_iff.1 HU.out).1).trans HU.out
   obtain ⟨q0,q1,_,_⟩:=usAt_cell hUX hm
   have hsU:w1.heap.size < wX.heap.size:=(cell_spot q0).2
   have hsX:wr.heap.size < wX.heap.size:=(cell_spot a0).2
   have HUX:=Lib.hid hUX
   have HWX:=Lib.hid hwX
   have HBX:=Lib.hid (kept_trans HB.out hbX)
   clear hbk hbm hix hUX hwX hbX
   by_cases hgt:bk > bm
   ·have HN:Hid (k=wst (fun p=>burd (u p)) (k+1)):=Lib.hid (by
     unfold wst
     rw [← HM.out,HBK.out,HBM.out,if_pos hgt])
    go_wp2_with fail
    rw [← HWX.out]
    go_region_held3 (fun w'=>((w'.cell? ⟨wr.heap.size,0,none⟩=some (.int .i64 (u k).1)∧w'.cell? ⟨wr.heap.size,1,none⟩=some (.int .i64 (u k).2))∧(w'.cell? ⟨w1.heap.size,m * 2,none⟩=some (.int .i64 (u m).1)∧w'.cell? ⟨w1.heap.size,m * 2+1,none⟩=some (.int .i64 (u m).2)))∧Below wX.heap.size wX w')
     (first | exact two_us hm a0 a1 HUX.out (Below.refl _ _) ((Below.refl _ _).drew) | (go_split_ands;exact two_us hm a0 a1 HUX.out (by assumption) hb2) | (go_split_ands;exact two_us hm a0 a1 HUX.out (by assumption) (Below.refl _ _)))
     (first
      | (go_at_call 218;(go_split_ands;(with_reducible refine (burden_is (u k) bk _ (HB0.out k) HBK.out).mono ?_);rintro e w2 ⟨rfl,hb2⟩))
      | (go_at_call 218;(go_split_ands;(with_reducible refine (burden_is (u m) bm _ (HB0.out m) HBM.out).mono ?_);rintro e w2 ⟨rfl,hb2⟩)))
    go_split_ands
    rename_i hb9 _ _ _ _
    have HB9:=Lib.hid hb9
    clear hb9
    go_wp2_with fail
    go_roundw
    case rel=>exact ⟨k,k+1,rfl,by go_num,by omega,by omega,HN,Lib.hid ((HB9.out.block _ hsU).trans HUX.out),Lib.hid (kept_trans HBX.out HB9.out)⟩
    case measure=>simp [intOf];omega
   ·have HN:Hid (m=wst (fun p=>burd (u p)) (k+1)):=Lib.hid (by
     unfold wst
     rw [← HM.out,HBK.out,HBM.out,if_neg hgt])
    go_wp2_with fail
    rw [← HWX.out]
    go_region_held3 (fun w'=>((w'.cell? ⟨wr.heap.size,0,none⟩=some (.int .i64 (u k).1)∧w'.cell? ⟨wr.heap.size,1,none⟩=some (.int .i64 (u k).2))∧(w'.cell? ⟨w1.heap.size,m * 2,none⟩=some (.int .i64 (u m).1)∧w'.cell? ⟨w1.heap.size,m * 2+1,none⟩=some (.int .i64 (u m).2)))∧Below wX.heap.size wX w')
     (first | exact two_us hm a0 a1 HUX.out (Below.refl _ _) ((Below.refl _ _).drew) | (go_split_ands;exact two_us hm a0 a1 HUX.out (by assumption) hb2) | (go_split_ands;exact two_us hm a0 a1 HUX.out (by assumption) (Below.refl _ _)))
     (first
      | (go_at_call 218;(go_split_ands;(with_reducible refine (burden_is (u k) bk _ (HB0.out k) HBK.out).mono ?_);rintro e w2 ⟨rfl,hb2⟩))
      | (go_at_call 218;(go_split_ands;(with_reducible refine (burden_is (u m) bm _ (HB0.out m) HBM.out).mono ?_);rintro e w2 ⟨rfl,hb2⟩)))
    go_split_ands
    rename_i hb9 _ _ _ _
    have HB9:=Lib.hid hb9
    clear hb9
    go_wp2_with fail
    go_roundw
    case rel=>exact ⟨m,k+1,rfl,by go_num,by omega,by omega,HN,Lib.hid ((HB9.out.block _ hsU).trans HUX.out),Lib.hid (kept_trans HBX.out HB9.out)⟩
    case measure=>simp [intOf];omega
  ·have HE:Hid (m=wst (fun p=>burd (u p)) 8):=Lib.hid (by have:=HM.out;rw [show k=8 by omega] at this;exact this)
   have hki:¬ (k:Int) < 8:=by omega
   clear hix
   go_wp2_with fail
   go_ret
   refine ⟨ret_i64 ?_,HB.out⟩
   rw [HUU.out,← HE.out]
end Go.Proofs.YtlboemhbealnmaaGreat.Ho
