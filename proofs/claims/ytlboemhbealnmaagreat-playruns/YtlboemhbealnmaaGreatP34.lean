import Derived.Test.YtlboemhbealnmaaGreatP16
import Derived.Test.YtlboemhbealnmaaGreatP30
import Derived.Test.YtlboemhbealnmaaGreatP5
import Derived.Test.YtlboemhbealnmaaGreatP2
import Derived.Test.YtlboemhbealnmaaGreatP33
set_option maxRecDepth 20000
namespace Go.Proofs.YtlboemhbealnmaaGreat.Ho
open Go.RowKit Go.Maps
structure LR where
 l:LinkD
 ia:Option Addr
 ic:Nat
instance : Inhabited LR:=⟨⟨default,none,0⟩⟩
def lrC (e:LR):List Value:=[.int .i64 e.l.peer,.int .u64 e.l.id.toNat,.slice e.ia e.l.d.ins.length e.ic,.int .i64 e.l.d.outs,.int .i64 e.l.d.weight,.int .i64 e.l.d.fee]
def lrsC (l:List LR):List Value:=l.flatMap lrC
theorem lrC_length (e:LR):(lrC e).length=6:=rfl
theorem lrsC_length (l:List LR):(lrsC l).length=l.length * 6:=by
 induction l with
 | nil=>rfl
 | cons a r ih=>simp only [lrsC,List.flatMap_cons,List.length_append,lrC_length,List.length_cons] at ih ⊢;omega
theorem lrsC_append (a b:List LR):lrsC (a ++ b)=lrsC a ++ lrsC b:=by simp [lrsC]
theorem lrsC_at:∀ (l:List LR) (i:Nat) (h:i < l.length) (j:Nat),j < 6→(lrsC l)[i * 6+j]?=(lrC l[i])[j]?
 | [],i,h,_,_=>absurd h (by simp)
 | a :: r,0,_,j,hj=>by
  show (lrC a ++ lrsC r)[0 * 6+j]?=_
  rw [List.getElem?_append_left (by rw [lrC_length];omega)]
  simp
 | a :: r,i+1,h,j,hj=>by
  show (lrC a ++ lrsC r)[(i+1) * 6+j]?=_
  rw [List.getElem?_append_right (by rw [lrC_length];omega),lrC_length,show (i+1) * 6+j - 6=i * 6+j by omega,lrsC_at r i (by simpa using h) j hj]
  rfl
theorem lrsC_one (l:List LR):∀ u ∈ lrsC l,u.oneCell'=true:=fun u hu=>by
 unfold lrsC at hu
 obtain ⟨x,_,hx⟩:=List.mem_flatMap.1 hu
 simp only [lrC,List.mem_cons,List.not_mem_nil,or_false] at hx
 rcases hx with rfl | rfl | rfl | rfl | rfl | rfl <;> rfl
def LRAt (w:World) (b o:Nat) (e:LR):Prop:=
 w.cell? ⟨b,o,none⟩=some (.int .i64 e.l.peer)∧w.cell? ⟨b,o+1,none⟩=some (.int .u64 e.l.id.toNat)∧w.cell? ⟨b,o+2,none⟩=some (.slice e.ia e.l.d.ins.length e.ic)∧w.cell? ⟨b,o+3,none⟩=some (.int .i64 e.l.d.outs)∧w.cell? ⟨b,o+4,none⟩=some (.int .i64 e.l.d.weight)∧w.cell? ⟨b,o+5,none⟩=some (.int .i64 e.l.d.fee)
def LRsAt (w:World) (a:Option Addr) (l:List LR):Prop:=∀ i (h:i < l.length),∃ b o,a=some ⟨b,o,none⟩∧b < w.heap.size∧LRAt w b (o+i * 6) l[i]
theorem lrAt_kept {w w':World} {b o:Nat} {e:LR} (hb:Below w.heap.size w w') (h:LRAt w b o e):LRAt w' b o e:=by
 obtain ⟨c0,c1,c2,c3,c4,c5⟩:=h
 exact ⟨kept_cell hb c0,kept_cell hb c1,kept_cell hb c2,kept_cell hb c3,kept_cell hb c4,kept_cell hb c5⟩
theorem lrsAt_kept {w w':World} {a:Option Addr} {l:List LR} (hb:Below w.heap.size w w') (h:LRsAt w a l):LRsAt w' a l:=fun i hi=>by
 obtain ⟨b,o,e,hlt,c⟩:=h i hi
 exact ⟨b,o,e,Nat.lt_of_lt_of_le hlt hb.size,lrAt_kept hb c⟩
abbrev OwnR (w:World) (C:Nat) (v:Value) (l:List LR):Prop:=w.ownsRow C 100 6 v l.length (lrsC l)
theorem ownR_form {w:World} {C:Nat} {v:Value} {l:List LR} (h:OwnR w C v l):∃ a cap,v=.slice a l.length cap∧l.length≤cap∧LRsAt w a l∧(∀ b o sp,a=some ⟨b,o,sp⟩→o=0∧sp=none):=by
 rcases h.2 with ⟨hv,hn⟩ | ⟨g,cap,cur,hv,hB,hg,hc,_,_,_⟩
 ·exact ⟨none,0,by rw [hn];exact hv,by omega,fun i hi=>absurd hi (by omega),fun _ _ _ e=>by cases e⟩
 ·refine ⟨some ⟨g,0,none⟩,cap,hv,hc,fun i hi=>⟨g,0,rfl,(Array.getElem?_eq_some_iff.1 hg).1,?_⟩,fun _ _ _ e=>by cases e;exact ⟨rfl,rfl⟩⟩
  have hh:=h
  rw [hv] at hh
  have hat:∀ j,j < 6→w.cell? ⟨g,0+i * 6+j,none⟩=(lrC l[i])[j]?:=fun j hj=>by
   rw [Nat.zero_add,hh.cellAt (i * 6+j) (by omega)]
   exact lrsC_at l i hi j hj
  exact ⟨hat 0 (by omega),hat 1 (by omega),hat 2 (by omega),hat 3 (by omega),hat 4 (by omega),hat 5 (by omega)⟩
theorem own_cap {w:World} {C:Nat} {e:TypeId} {size n m cap:Nat} {a:Option Addr} {xs:List Value} (h:w.ownsRow C e size (.slice a m cap) n xs):n≤cap:=by
 rcases h.2 with ⟨hv,hn⟩ | ⟨g,c,cur,hv,_,_,hc,_⟩
 ·omega
 ·simp only [Value.slice.injEq] at hv
  omega
def InsIn (w:World) (G:Nat→Prop) (e:LR):Prop:=InsAt w e.ia e.l.d.ins∧(∀ bb o,e.l.d.ins≠[]→e.ia=some ⟨bb,o,none⟩→G bb)∧e.l.d.ins.length≤e.ic
structure RefAt (w:World) (G:Nat→Prop) (R:Loc) (rs:List LR) (v:Value):Prop where
 head:w.heap[R.b]?=some (.cells (refHC R.oc v) 54 (0,0))
 row:OwnR w 0 v rs
 ins:∀ e ∈ rs,InsIn w (fun k=>G k∧k≠R.b) e
 gB:G R.b
 gv:∀ g,v.ownBlock=some g→G g
 there:There w G
def lOf (rs:List LR):List LinkD:=rs.map (·.l)
theorem lOf_len (rs:List LR):(lOf rs).length=rs.length:=by simp [lOf]
variable {w w':World} {G:Nat→Prop} {R:Loc} {rs:List LR} {v:Value}
theorem RefAt.same (h:RefAt w G R rs v) (e:∀ k,k < w.heap.size→G k→w'.heap[k]?=w.heap[k]?) (hs:w.heap.size≤w'.heap.size):RefAt w' G R rs v where
 head:=(e R.b (h.there R.b h.gB) h.gB).trans h.head
 row:=own_same h.row fun g hg=>e g (h.there g (h.gv g hg)) (h.gv g hg)
 ins:=fun x hx=>⟨insAt_same (h.ins x hx).1 (fun bb o hne ea=>e bb (h.there bb ((h.ins x hx).2.1 bb o hne ea).1) ((h.ins x hx).2.1 bb o hne ea).1) hs,(h.ins x hx).2⟩
 gB:=h.gB
 gv:=h.gv
 there:=h.there.later hs
theorem RefAt.kept (h:RefAt w G R rs v) (hb:Below w.heap.size w w'):RefAt w' G R rs v:=h.same (fun k hk _=>hb.block k hk) hb.size
theorem RefAt.lt (h:RefAt w G R rs v):R.b < w.heap.size:=h.there R.b h.gB
theorem RefAt.cell (h:RefAt w G R rs v):w.cell? ⟨R.b,2,none⟩=some v∧w.frozen? ⟨R.b,2,none⟩=false:=⟨head_cell h.head 2,frozen_of_row w R.b 2 _ _ h.head⟩
theorem RefAt.stored (h:RefAt w G R rs v) {G':Nat→Prop} {rs':List LR} {v':Value} (hb:Below w.heap.size w w') (ho:OwnR w' w.heap.size v' rs') (hG:∀ k,G k→G' k) (hn:∀ k,G' k→G k∨w.heap.size≤k∧k < w'.heap.size) (hi:∀ e ∈ rs',InsIn w' (fun k=>G' k∧k≠R.b) e) :
  RefAt (w'.setCell ⟨R.b,2,none⟩ v') (fun k=>G' k∨v'.ownBlock=some k) R rs' v'∧Gain R.b G (fun k=>G' k∨v'.ownBlock=some k) w (w'.setCell ⟨R.b,2,none⟩ v'):=by
 have hset:∀ k,k≠R.b→(w'.setCell ⟨R.b,2,none⟩ v').heap[k]?=w'.heap[k]?:=fun k hk=>Below.heap_setCell w' ⟨R.b,2,none⟩ v' k hk
 have hBw:=h.lt
 have hvB:∀ k,v'.ownBlock=some k→k≠R.b:=fun k hk e=>by have:=(ho.lt k hk).1;omega
 have hiB:∀ e ∈ rs',∀ bb o,e.l.d.ins≠[]→e.ia=some ⟨bb,o,none⟩→bb≠R.b:=fun e he bb o hne ea eB=>by
  exact ((hi e he).2.1 bb o hne ea).2 eB
 refine ⟨⟨heap_setCell_same w' R.b 2 _ _ v' ((hb.block R.b hBw).trans h.head),?_,fun e he=>⟨insAt_same (hi e he).1 (fun bb o hne ea=>hset bb (hiB e he bb o hne ea)) (by rw [World.size_setCell];exact Nat.le_refl _),⟨fun bb o hne ea=>⟨.inl ((hi e he).2.1 bb o hne ea).1,((hi e he).2.1 bb o hne ea).2⟩,(hi e he).2.2⟩⟩,.inl (hG _ h.gB),fun g hg=>.inr hg,fun k hk=>?_⟩,?_⟩
 ·have:=own_same ho fun g hg=>hset g (hvB g hg)
  exact ⟨this.1,this.2.imp id fun ⟨g,cap,cur,q1,_,q3⟩=>⟨g,cap,cur,q1,Nat.zero_le _,q3⟩⟩
 ·rw [World.size_setCell]
  rcases hk with hk | hk
  ·rcases hn k hk with hk | hk
   ·exact Nat.lt_of_lt_of_le (h.there k hk) hb.size
   ·exact hk.2
  ·exact (ho.lt k hk).2
 ·refine ⟨hb.os,hb.tape,hb.output,by rw [World.size_setCell];exact hb.size,fun k hk hnG=>(hset k hnG).trans (hb.block k hk),fun k hk=>?_,fun k hk=>.inl (hG k hk)⟩
  rcases hk with hk | hk
  ·exact (hn k hk).imp id And.left
  ·exact .inr (ho.lt k hk).1
theorem outside_any (x lo hi:Int) (w:World):Calls Tryz.prog 76 #[.int .i64 x,.int .i64 lo,.int .i64 hi] w fun e w'=>e=.returned (.bool (decide (x < lo∨hi < x)))∧w=w':=by
 by_cases h1:x < lo
 ·have h3:decide (x < lo∨hi < x)=true:=by simp [h1]
  rw [h3]
  go_enter Tryz.func76,Tryz.ntmps76
  go_wp2
  go_ret
  exact ⟨rfl,rfl⟩
 ·by_cases h2:x > hi
  ·have h3:decide (x < lo∨hi < x)=true:=by simp [h2]
   rw [h3]
   go_enter Tryz.func76,Tryz.ntmps76
   go_wp2
   go_ret
   exact ⟨rfl,rfl⟩
  ·have h3:decide (x < lo∨hi < x)=false:=decide_eq_false (by omega)
   rw [h3]
   go_enter Tryz.func76,Tryz.ntmps76
   go_wp2
   go_ret
   exact ⟨rfl,rfl⟩
theorem badPeer_is (p:Int) (r:Bool) (hr:decide (goodP p)=!r) (w:World):Calls Tryz.prog 40 #[.int .i64 p] w fun e w'=>e=.returned (.bool r)∧w=w':=by
 have HR:Hid (decide (p < 0∨7 < p)=r):=Lib.hid (by
  cases r with
  | true=>exact decide_eq_true (by have:¬ goodP p:=of_decide_eq_false hr;unfold goodP at this;omega)
  | false=>exact decide_eq_false (by have:goodP p:=of_decide_eq_true hr;unfold goodP at this;omega))
 clear hr
 go_enter Tryz.func40,Tryz.ntmps40
 go_wp2_with fail
 with_reducible refine (outside_any p 0 7 _).mono ?_
 rintro e w1 ⟨rfl,rfl⟩
 rw [HR.out]
 go_wp2_with fail
 go_ret
 exact ⟨rfl,rfl⟩
theorem badPeer_yes (p:Int) (h:¬ goodP p) (w:World):Calls Tryz.prog 40 #[.int .i64 p] w fun e w'=>e=.returned (.bool true)∧w=w':=badPeer_is p true (decide_eq_false h) w
theorem badPeer_no (p:Nat) (h:p < 8) (w:World):Calls Tryz.prog 40 #[.int .i64 p] w fun e w'=>e=.returned (.bool false)∧w=w':=badPeer_is p false (decide_eq_true ⟨by omega,by omega⟩) w
set_option maxRecDepth 20000 in
theorem refAt_any (x:UInt64) (w:World) (h:RefAt w G R rs v) (hl:rs.length≤1000) :
  Calls Tryz.prog 38 #[.pointer (some ⟨R.b,2,none⟩),.int .u64 x.toNat] w fun e w'=>e=.returned (.int .i64 (firstAt (fun e=>e.l.id == x) rs))∧Below w.heap.size w w':=by
 obtain ⟨a,cap,rfl,hcap,hat,-⟩:=ownR_form h.row
 have HAT:=Lib.hid hat
 have hlc:=h.cell.1
 have hlt:=h.lt
 clear h hat
 go_enter Tryz.func38,Tryz.ntmps38
 go_wp2_with fail
 go_loopw [12] (fun i wr=>∃ k:Nat,k≤rs.length∧i=.int .i64 k∧Hid ((rs.take k).findIdx? (fun e=>e.l.id == x)=none)∧Hid (Below w.heap.size w wr)) (fun i _=>rs.length - (intOf i).toNat)
 case atStart=>exact ⟨0,Nat.zero_le _,rfl,Lib.hid rfl,Lib.hid (Below.refl _ _)⟩
 case round=>
  obtain ⟨k,hk,rfl,NO,HB⟩:=hrel
  by_cases hkl:k < rs.length
  ·obtain ⟨g,o,rfl,hg,c0,c1,c2,c3,c4,c5⟩:=lrsAt_kept HB.out HAT.out k hkl
   have hq:((rs[k].l.id.toNat:Int) == (x.toNat:Int))=(rs[k].l.id == x):=u64_beq _ _
   cases hx:rs[k].l.id == x with
   | true=>
    rw [hx] at hq
    have HX:=Lib.hid hx
    clear hx
    go_wp2_with fail
    go_ret
    exact ⟨ret_i64 (firstAt_hit hkl NO.out HX.out).symm,kept_alloc HB.out _⟩
   | false=>
    rw [hx] at hq
    have HX:=Lib.hid hx
    clear hx
    go_wp2_with fail
    go_roundw
    case rel=>exact ⟨k+1,by omega,by go_num,Lib.hid (firstAt_miss hkl NO.out HX.out),Lib.hid (kept_alloc HB.out _)⟩
    case measure=>simp [intOf];omega
  ·go_wp2_with fail
   go_ret
   refine ⟨ret_i64 ?_,HB.out⟩
   have:=NO.out
   rw [List.take_of_length_le (by omega)] at this
   unfold firstAt
   rw [this]
theorem deedOf_any (rs:List LR) (x:UInt64):rs.any (fun e=>e.l.id == x)=(deedOf (lOf rs) x).isSome:=by
 rw [Bool.eq_iff_iff,List.any_eq_true,deedOf_isSome]
 constructor
 ·rintro ⟨e,he,h⟩
  exact ⟨e.l,List.mem_map_of_mem he,by simpa using h⟩
 ·rintro ⟨l,hl,h⟩
  obtain ⟨e,he,rfl⟩:=List.mem_map.1 hl
  exact ⟨e,he,by simpa using h⟩
theorem refHas_is (x:UInt64) (r:Bool) (w:World) (h:RefAt w G R rs v) (hl:rs.length≤1000) (hr:(deedOf (lOf rs) x).isSome=r) :
  Calls Tryz.prog 60 #[.pointer (some ⟨R.b,2,none⟩),.int .u64 x.toNat] w fun e w'=>e=.returned (.bool r)∧Below w.heap.size w w':=by
 have H:=Lib.hid h
 have HR:=Lib.hid hr
 clear h hr
 go_enter Tryz.func60,Tryz.ntmps60
 go_wp2_with fail
 with_reducible refine (refAt_any x _ H.out hl).mono ?_
 rintro e w1 ⟨rfl,hb1⟩
 have e1:=firstAt_neg (fun e:LR=>e.l.id == x) rs
 rw [deedOf_any,HR.out] at e1
 obtain ⟨i,hi⟩:∃ i,firstAt (fun e:LR=>e.l.id == x) rs=i:=⟨_,rfl⟩
 rw [hi] at e1 ⊢
 clear hi
 go_wp2
 go_ret
 exact ⟨rfl,hb1⟩
end Go.Proofs.YtlboemhbealnmaaGreat.Ho
namespace Go.Proofs.YtlboemhbealnmaaGreat.Ho
open Go.RowKit Go.Maps
variable {w w':World} {G:Nat→Prop} {R:Loc} {rs:List LR} {v:Value} {n:Nat}
theorem lOf_take (rs:List LR) (k:Nat):lOf (rs.take k)=(lOf rs).take k:=by simp [lOf,List.map_take]
theorem lOf_snoc {k:Nat} (h:k < rs.length):lOf (rs.take (k+1))=lOf (rs.take k) ++ [rs[k].l]:=by
 rw [List.take_succ_eq_append_getElem h]
 unfold lOf
 rw [List.map_append]
 rfl
theorem usageL_snoc (L:List LinkD) (m:LinkD) (p:Nat):usageL (L ++ [m]) p=if m.peer=p then ((usageL L p).1+m.d.weight,(usageL L p).2+1) else usageL L p:=by
 unfold usageL
 by_cases h:m.peer=p
 ·rw [if_pos h,List.filter_append,List.filter_cons_of_pos (by simpa using h)]
  simp
 ·rw [if_neg h,List.filter_append,List.filter_cons_of_neg (by simpa using h)]
  simp
theorem usageR_step {k:Nat} (h:k < rs.length) (p:Nat):usageL (lOf (rs.take (k+1))) p=if rs[k].l.peer=p then ((usageL (lOf (rs.take k)) p).1+rs[k].l.d.weight,(usageL (lOf (rs.take k)) p).2+1) else usageL (lOf (rs.take k)) p:=by
 rw [← usageL_snoc,lOf_snoc h]
theorem usageR_bound (hg:GoodL n (lOf rs)) (p:Nat):0≤(usageL (lOf rs) p).1∧(usageL (lOf rs) p).1≤1000 * rs.length∧0≤(usageL (lOf rs) p).2∧(usageL (lOf rs) p).2≤rs.length:=by
 have h1:=sum_bound (fun l:LinkD=>l.d.weight) 0 1000 ((lOf rs).filter fun l=>l.peer == p) (fun l hl=>by
  have:=weight_pos hg (List.mem_filter.1 hl).1
  omega)
 have h2:=List.length_filter_le (fun l:LinkD=>l.peer == p) (lOf rs)
 rw [lOf_len] at h2
 unfold usageL
 simp only
 omega
theorem good_take (hg:GoodL n (lOf rs)) (k:Nat):GoodL n (lOf (rs.take k)):=hg.sub (by rw [lOf_take];exact List.take_sublist _ _)
theorem mem_lOf {k:Nat} (h:k < rs.length):rs[k].l ∈ lOf rs:=List.mem_map_of_mem (List.getElem_mem h)
set_option maxRecDepth 20000 in
set_option maxHeartbeats 2000000 in
theorem refUsage_yes (p:Nat) (hp:p < 8) (w:World) (h:RefAt w G R rs v) (hl:rs.length≤1000) (hg:GoodL n (lOf rs)) :
  Calls Tryz.prog 181 #[.pointer (some ⟨R.b,2,none⟩),.int .i64 p] w fun e w'=>e=.returned (.tuple #[.int .i64 (usageL (lOf rs) p).1,.int .i64 (usageL (lOf rs) p).2,.int .i64 0])∧Below w.heap.size w w':=by
 obtain ⟨a,cap,rfl,hcap,hat,-⟩:=ownR_form h.row
 have HAT:=Lib.hid hat
 have hlc:=h.cell.1
 have hlt:=h.lt
 have HG:=Lib.hid hg
 clear h hat hg
 go_enter Tryz.func181,Tryz.ntmps181
 go_wp2_with fail
 with_reducible refine (badPeer_no p hp _).mono ?_
 rintro e w1 ⟨rfl,rfl⟩
 go_wp2_with fail
 go_loopw [7,8,18] (fun vx vy i wr=>∃ k:Nat,k≤rs.length∧i=.int .i64 k∧vx=.int .i64 (usageL (lOf (rs.take k)) p).1∧vy=.int .i64 (usageL (lOf (rs.take k)) p).2∧Hid (Below w.heap.size w wr)) (fun _ _ i _=>rs.length - (intOf i).toNat)
 case atStart=>exact ⟨0,Nat.zero_le _,rfl,rfl,rfl,Lib.hid (Below.refl _ _)⟩
 case round=>
  obtain ⟨k,hk,rfl,rfl,rfl,HB⟩:=hrel
  have hub:=usageR_bound (good_take HG.out k) p
  have htk:(rs.take k).length≤1000:=by rw [List.length_take];omega
  by_cases hkl:k < rs.length
  ·obtain ⟨g,o,rfl,hg,c0,c1,c2,c3,c4,c5⟩:=lrsAt_kept HB.out HAT.out k hkl
   have hst:=usageR_step hkl p
   have hwp:=weight_pos HG.out (mem_lOf hkl)
   obtain ⟨e0,he0⟩:∃ e0,rs[k]=e0:=⟨_,rfl⟩
   rw [he0] at c0 c1 c2 c3 c4 c5 hst hwp
   obtain ⟨x,hx⟩:∃ x,(usageL (lOf (rs.take k)) p).1=x:=⟨_,rfl⟩
   obtain ⟨y,hy⟩:∃ y,(usageL (lOf (rs.take k)) p).2=y:=⟨_,rfl⟩
   rw [hx,hy] at hub hst ⊢
   have HXY:Hid (usageL (lOf (rs.take k)) p=(x,y)):=Lib.hid (by rw [← hx,← hy])
   have hx0:=hub.1
   have hx1:x≤1000000:=by omega
   have hy0:=hub.2.2.1
   have hy1:y≤1000:=by omega
   obtain ⟨hw0,hw1⟩:=hwp
   clear hx hy hub htk he0
   by_cases hp0:e0.l.peer=p
   ·rw [if_pos hp0] at hst
    have HST:=Lib.hid hst
    have hpb:((e0.l.peer:Int) == (p:Int))=true:=by rw [hp0];simp
    clear hst hp0
    go_wp2_with fail
    go_roundw
    case rel=>exact ⟨k+1,by omega,by go_num,by rw [HST.out],by rw [HST.out],Lib.hid (kept_alloc HB.out _)⟩
    case measure=>simp [intOf];omega
   ·rw [if_neg hp0,HXY.out] at hst
    have HST:=Lib.hid hst
    have hpb:((e0.l.peer:Int) == (p:Int))=false:=by rw [beq_eq_false_iff_ne];omega
    clear hst
    go_wp2_with fail
    go_roundw
    case rel=>exact ⟨k+1,by omega,by go_num,by rw [HST.out],by rw [HST.out],Lib.hid (kept_alloc HB.out _)⟩
    case measure=>simp [intOf];omega
  ·have he:rs.take k=rs:=List.take_of_length_le (by omega)
   rw [he]
   clear he hub htk
   go_wp2_with fail
   go_ret3
   exact ⟨rfl,HB.out⟩
theorem first_here {k:Nat} (h:k < rs.length):(firstAt (fun e=>e.l.id == rs[k].l.id) rs == (k:Int))=!((allL (lOf (rs.take k))).contains rs[k].l.id):=by
 cases hc:(allL (lOf (rs.take k))).contains rs[k].l.id with
 | true=>
  rw [List.contains_iff_mem,allL_mem] at hc
  obtain ⟨l,hl,e⟩:=hc
  obtain ⟨r,hr,rfl⟩:=List.mem_map.1 hl
  obtain ⟨j,hj,rfl⟩:=List.mem_take_iff_getElem.1 hr
  rw [Bool.not_true,beq_eq_false_iff_ne]
  unfold firstAt
  cases hf:rs.findIdx? (fun e=>e.l.id == rs[k].l.id) with
  | none=>simp
  | some i=>
   obtain ⟨_,_,h2⟩:=List.findIdx?_eq_some_iff_getElem.1 hf
   intro e'
   have e'':(i:Int)=k:=e'
   have:=h2 j (by omega)
   simp [e] at this
 | false=>
  rw [Bool.not_false,beq_iff_eq]
  refine firstAt_hit h ?_ (by simp)
  rw [List.findIdx?_eq_none_iff]
  intro r hr
  rw [← Bool.not_eq_true,List.contains_iff_mem,allL_mem] at hc
  exact beq_eq_false_iff_ne.2 (fun e=>hc ⟨r.l,List.mem_map_of_mem hr,e⟩)
theorem allR_step {k:Nat} (h:k < rs.length):allL (lOf (rs.take (k+1)))=if (allL (lOf (rs.take k))).contains rs[k].l.id then allL (lOf (rs.take k)) else allL (lOf (rs.take k)) ++ [rs[k].l.id]:=by
 rw [lOf_snoc h]
 unfold allL lsOf allI
 rw [List.map_append,List.foldl_append]
 rfl
theorem allR_len (rs:List LR) (k:Nat):(allL (lOf (rs.take k))).length≤k:=by
 have:=allL_len (lOf (rs.take k))
 rw [lOf_len,List.length_take] at this
 omega
end Go.Proofs.YtlboemhbealnmaaGreat.Ho
namespace Go.Proofs.YtlboemhbealnmaaGreat.Ho
open Go.RowKit Go.Maps
variable {w w':World} {G:Nat→Prop} {R:Loc} {rs:List LR} {v:Value} {n:Nat}
theorem sumR_step (hg:GoodL n (lOf rs)) {k:Nat} (h:k < rs.length):sumW (deedOf (lOf rs)) (allL (lOf (rs.take (k+1))))=if (allL (lOf (rs.take k))).contains rs[k].l.id then sumW (deedOf (lOf rs)) (allL (lOf (rs.take k))) else sumW (deedOf (lOf rs)) (allL (lOf (rs.take k)))+rs[k].l.d.weight:=by
 rw [allR_step h]
 split
 ·rfl
 ·rw [sumW_snoc]
  have:wI (deedOf (lOf rs)) rs[k].l.id=rs[k].l.d.weight:=by
   unfold wI
   rw [deedOf_mem hg (mem_lOf h)]
   rfl
  rw [this]
theorem sumR_bound (hg:GoodL n (lOf rs)) (k:Nat):0≤sumW (deedOf (lOf rs)) (allL (lOf (rs.take k)))∧sumW (deedOf (lOf rs)) (allL (lOf (rs.take k)))≤1000 * (k:Int):=by
 have h1:=sumW_bound (M:=deedOf (lOf rs)) (fun x=>wI_bound hg x) (allL (lOf (rs.take k)))
 have h2:=allR_len rs k
 omega
set_option maxRecDepth 20000 in
set_option maxHeartbeats 2000000 in
theorem refFull_is (r:Bool) (w:World) (h:RefAt w G R rs v) (hl:rs.length≤1000) (hg:GoodL n (lOf rs)) (hr:fullL (lOf rs)=r) :
  Calls Tryz.prog 180 #[.pointer (some ⟨R.b,2,none⟩)] w fun e w'=>e=.returned (.bool r)∧Below w.heap.size w w':=by
 have H:=Lib.hid h
 obtain ⟨a,cap,rfl,hcap,hat,-⟩:=ownR_form h.row
 have HAT:=Lib.hid hat
 have hlc:=h.cell.1
 have hlt:=h.lt
 have HG:=Lib.hid hg
 have HR:Hid (r=(decide (sumW (deedOf (lOf rs)) (allL (lOf rs)) > 3000 * (peersF (usageL (lOf rs)) 8:Int)) || decide ((rs.length:Int) > 24))):=Lib.hid (by
  rw [← hr]
  unfold fullL fullF
  rw [usageL_eq hg,lsOf_len,lOf_len]
  congr 1
  rw [decide_eq_decide]
  omega)
 clear h hat hg hr
 go_enter Tryz.func180,Tryz.ntmps180
 go_wp2_with fail
 go_loopw [3,16] (fun vz i wr=>∃ k:Nat,k≤rs.length∧i=.int .i64 k∧vz=.int .i64 (sumW (deedOf (lOf rs)) (allL (lOf (rs.take k))))∧Hid (Below w.heap.size w wr)) (fun _ i _=>rs.length - (intOf i).toNat)
 case atStart=>exact ⟨0,Nat.zero_le _,rfl,rfl,Lib.hid (Below.refl _ _)⟩
 case round=>
  obtain ⟨k,hk,rfl,rfl,HB⟩:=hrel
  have hsb:=sumR_bound HG.out k
  by_cases hkl:k < rs.length
  ·obtain ⟨g,o,rfl,hg,c0,c1,c2,c3,c4,c5⟩:=lrsAt_kept HB.out HAT.out k hkl
   have hst:=sumR_step HG.out hkl
   have hfh:=first_here hkl
   have hwp:=weight_pos HG.out (mem_lOf hkl)
   obtain ⟨e0,he0⟩:∃ e0,rs[k]=e0:=⟨_,rfl⟩
   rw [he0] at c0 c1 c2 c3 c4 c5 hst hfh hwp
   obtain ⟨z,hz⟩:∃ z,sumW (deedOf (lOf rs)) (allL (lOf (rs.take k)))=z:=⟨_,rfl⟩
   rw [hz] at hsb hst ⊢
   obtain ⟨hz0,hz1⟩:=hsb
   obtain ⟨hw0,hw1⟩:=hwp
   have hz2:z≤1000000:=by omega
   have hb1:=kept_new wr (.cells #[.int .i64 e0.l.peer,.int .u64 e0.l.id.toNat,.slice e0.ia e0.l.d.ins.length e0.ic,.int .i64 e0.l.d.outs,.int .i64 e0.l.d.weight,.int .i64 e0.l.d.fee] 100)
   have HB1:=Lib.hid hb1
   have H1:=Lib.hid (H.out.kept (kept_trans HB.out hb1))
   clear he0 hb1 hz hz1
   cases hq:(allL (lOf (rs.take k))).contains e0.l.id with
   | true=>
    rw [hq] at hst hfh
    simp only [Bool.not_true,if_true] at hst hfh
    have HST:=Lib.hid hst
    clear hst hq
    go_wp2_with fail
    with_reducible refine (refAt_any e0.l.id _ H1.out hl).mono ?_
    rintro e w2 ⟨rfl,hb2⟩
    have HB2:=Lib.hid (kept_trans HB.out (kept_trans HB1.out hb2))
    obtain ⟨i,hi⟩:∃ i,firstAt (fun e:LR=>e.l.id == e0.l.id) rs=i:=⟨_,rfl⟩
    rw [hi] at hfh ⊢
    clear hb2 hi
    go_wp2_with fail
    go_roundw
    case rel=>exact ⟨k+1,by omega,by go_num,by rw [HST.out],HB2⟩
    case measure=>simp [intOf];omega
   | false=>
    rw [hq] at hst hfh
    simp only [Bool.not_false,Bool.false_eq_true,if_false] at hst hfh
    have HST:=Lib.hid hst
    clear hst hq
    go_wp2_with fail
    with_reducible refine (refAt_any e0.l.id _ H1.out hl).mono ?_
    rintro e w2 ⟨rfl,hb2⟩
    have HB2:=Lib.hid (kept_trans HB.out (kept_trans HB1.out hb2))
    obtain ⟨d0,d1,d2,d3,d4,d5⟩:LRAt w2 wr.heap.size 0 e0:=lrAt_kept hb2 ⟨by simp [go_sem],by simp [go_sem],by simp [go_sem],by simp [go_sem],by simp [go_sem],by simp [go_sem]⟩
    have hs2:=(cell_spot d0).2
    obtain ⟨i,hi⟩:∃ i,firstAt (fun e:LR=>e.l.id == e0.l.id) rs=i:=⟨_,rfl⟩
    rw [hi] at hfh ⊢
    clear hb2 hi
    go_wp2_with fail
    go_roundw
    case rel=>exact ⟨k+1,by omega,by go_num,by rw [HST.out],HB2⟩
    case measure=>simp [intOf];omega
  ·have he:rs.take k=rs:=List.take_of_length_le (by omega)
   rw [he] at hsb ⊢
   obtain ⟨z,hz⟩:∃ z,sumW (deedOf (lOf rs)) (allL (lOf rs))=z:=⟨_,rfl⟩
   rw [hz] at hsb HR ⊢
   have hz2:z≤1000000:=by omega
   have hz0:=hsb.1
   obtain ⟨wB,hwB⟩:∃ x,x=wr:=⟨_,rfl⟩
   subst hwB
   have H1:=Lib.hid (H.out.kept HB.out)
   clear he hz hsb
   go_wp2_with fail
   go_loopw [4,33] (fun vp vi wr=>∃ k:Nat,k≤8∧vp=.int .i64 (peersF (usageL (lOf rs)) k)∧vi=.int .i64 k∧Hid (Below wB.heap.size wB wr)) (fun _ i _=>8 - (intOf i).toNat)
   case atStart=>exact ⟨0,by omega,rfl,rfl,Lib.hid (Below.refl _ _)⟩
   case round=>
    obtain ⟨j,hj,rfl,rfl,HQ⟩:=hrel
    have hpl:=peersF_le (usageL (lOf rs)) j
    by_cases hjl:j < 8
    ·have hji:(j:Int) < 8:=by omega
     have HP1:=Lib.hid (peersF_step (usageL (lOf rs)) j)
     have H2:=Lib.hid (H1.out.kept HQ.out)
     obtain ⟨pk,hpk⟩:∃ p,peersF (usageL (lOf rs)) j=p:=⟨_,rfl⟩
     rw [hpk] at hpl HP1 ⊢
     clear hpk
     go_wp2_with fail
     with_reducible refine (refUsage_yes j hjl _ H2.out hl HG.out).mono ?_
     rintro e w6 ⟨rfl,hb6⟩
     obtain ⟨x,hx⟩:∃ x,(usageL (lOf rs) j).1=x:=⟨_,rfl⟩
     obtain ⟨y,hy⟩:∃ y,(usageL (lOf rs) j).2=y:=⟨_,rfl⟩
     rw [hy] at HP1
     rw [hx,hy]
     have HB6:=Lib.hid (kept_trans HQ.out hb6)
     clear hb6 hx hy
     by_cases hy3:0 < y
     ·go_wp2_with fail
      go_roundw
      case rel=>exact ⟨j+1,by omega,by rw [HP1.out,if_pos hy3];go_num,by go_num,HB6⟩
      case measure=>simp [intOf];omega
     ·go_wp2_with fail
      go_roundw
      case rel=>exact ⟨j+1,by omega,by rw [HP1.out,if_neg (by omega)],by go_num,HB6⟩
      case measure=>simp [intOf];omega
    ·obtain rfl:j=8:=by omega
     obtain ⟨pk,hpk⟩:∃ p,peersF (usageL (lOf rs)) 8=p:=⟨_,rfl⟩
     rw [hpk] at HR hpl ⊢
     have H2:=H1.out.kept HQ.out
     have hlc2:=H2.cell.1
     have hlt2:=H2.lt
     have HBE:=Lib.hid (kept_trans HB.out HQ.out)
     clear hpk H2
     by_cases hA:z > 3000 * (pk:Int)
     ·have HA:Hid (r=true):=Lib.hid (by rw [HR.out,decide_eq_true hA];rfl)
      go_wp2_with fail
      go_ret
      exact ⟨ret_bool HA.out.symm,HBE.out⟩
     ·have HA:Hid (r=decide ((rs.length:Int) > 24)):=Lib.hid (by rw [HR.out,decide_eq_false hA];simp)
      go_wp2_with fail
      go_ret
      exact ⟨ret_bool HA.out.symm,HBE.out⟩
theorem firstAt_deed (rs:List LR) (x:UInt64):(firstAt (fun e=>e.l.id == x) rs=-1∧deedOf (lOf rs) x=none)∨∃ i,∃ h:i < rs.length,firstAt (fun e=>e.l.id == x) rs=(i:Int)∧deedOf (lOf rs) x=some rs[i].l.d:=by
 unfold firstAt
 cases hf:rs.findIdx? (fun e=>e.l.id == x) with
 | none=>
  refine .inl ⟨rfl,deedOf_none.2 fun l hl=>?_⟩
  obtain ⟨r,hr,rfl⟩:=List.mem_map.1 hl
  have:=List.findIdx?_eq_none_iff.1 hf r hr
  simpa using this
 | some i=>
  obtain ⟨hi,h1,h2⟩:=List.findIdx?_eq_some_iff_getElem.1 hf
  refine .inr ⟨i,hi,rfl,?_⟩
  unfold deedOf lOf
  rw [List.find?_map,Option.map_map]
  have:rs.find? ((fun l:LinkD=>l.id == x) ∘ fun e:LR=>e.l)=some rs[i]:=by
   rw [List.find?_eq_some_iff_getElem]
   exact ⟨h1,i,hi,rfl,fun j hj=>by have:=h2 j hj;simpa using this⟩
  rw [this]
  rfl
def DeedAns2 (w:World) (G:Nat→Prop) (B:Nat) (m:Option DeedD) (e:Ending) (w':World):Prop:=
 ∃ a c,e=.returned (.tuple #[.agg #[.slice a (m.getD nod).ins.length c,.int .i64 (m.getD nod).outs,.int .i64 (m.getD nod).weight,.int .i64 (m.getD nod).fee],.int .i64 (if m.isSome then 0 else 5)])∧InsAt w' a (m.getD nod).ins∧Below w.heap.size w w'∧(∀ bb o,(m.getD nod).ins≠[]→a=some ⟨bb,o,none⟩→G bb∧bb≠B)∧(m.getD nod).ins.length≤c
set_option maxRecDepth 20000 in
theorem refDeed_any (x:UInt64) (w:World) (h:RefAt w G R rs v) (hl:rs.length≤1000) :
  Calls Tryz.prog 123 #[.pointer (some ⟨R.b,2,none⟩),.int .u64 x.toNat] w (DeedAns2 w G R.b (deedOf (lOf rs) x)):=by
 have hk:=kept_new w (.cells #[.slice none 0 0,.int .i64 0,.int .i64 0,.int .i64 0] 94)
 have H:=Lib.hid (h.kept hk)
 have HK:=Lib.hid hk
 clear h hk
 go_enter Tryz.func123,Tryz.ntmps123
 go_wp2_with fail
 with_reducible refine (refAt_any x _ H.out hl).mono ?_
 rintro e w1 ⟨rfl,hb1⟩
 have hB:=(hb1.block w.heap.size (by simp)).trans (heap_alloc_new w _)
 have c0:=(head_cell hB 0).trans rfl
 have c1:=(head_cell hB 1).trans rfl
 have c2:=(head_cell hB 2).trans rfl
 have c3:=(head_cell hB 3).trans rfl
 have f0:=frozen_of_row w1 _ 0 _ _ hB
 have f1:=frozen_of_row w1 _ 1 _ _ hB
 have f2:=frozen_of_row w1 _ 2 _ _ hB
 have f3:=frozen_of_row w1 _ 3 _ _ hB
 have hs:=(cell_spot c0).2
 have HB:=Lib.hid (kept_trans HK.out hb1)
 have H1:=Lib.hid (H.out.kept hb1)
 rcases firstAt_deed rs x with ⟨e1,e2⟩ | ⟨i,hi,e1,e2⟩
 ·rw [e1]
  have HE:=Lib.hid e2
  clear e1 e2 hB hb1
  go_wp2_with fail
  refine bodyPost_ret (v:=.tuple #[.agg #[.slice none 0 0,.int .i64 0,.int .i64 0,.int .i64 0],.int .i64 5]) (by simp [results,Tryz.results123,go_sem,c0,c1,c2,c3]) rfl ?_
  have ht:=turn_set4 w1 w.heap.size (.slice none 0 0) (.int .i64 0) (.int .i64 0) (.int .i64 0)
  rw [HE.out]
  exact ⟨none,0,rfl,fun i hi=>absurd hi (by simp [nod]),HB.out.trans (ht.below (fun k hk=>by omega) HB.out.size),fun bb o hne ea=>(by cases ea),Nat.le_refl _⟩
 ·rw [e1]
  obtain ⟨a,cap,hv,hcap,hat,-⟩:=ownR_form H1.out.row
  have hlc:=H1.out.cell.1
  have hlt:=H1.out.lt
  rw [hv] at hlc
  obtain ⟨g,o,rfl,hg,b0,b1,b2,b3,b4,b5⟩:=hat i hi
  have hin:=H1.out.ins _ (List.getElem_mem hi)
  obtain ⟨e0,he0⟩:∃ e0,rs[i]=e0:=⟨_,rfl⟩
  rw [he0] at b0 b1 b2 b3 b4 b5 e2 hin
  have HE:=Lib.hid e2
  have HIN:=Lib.hid hin
  have hii:(i:Int) < rs.length:=by omega
  have HNE:Hid (∀ bb oo,e0.l.d.ins≠[]→e0.ia=some ⟨bb,oo,none⟩→bb≠w.heap.size):=Lib.hid (fun bb oo hne ea e=>by
   have hG:=hin.2.1 bb oo hne ea
   obtain ⟨b',o',ea',hb',q0,_⟩:=hin.1 0 (List.length_pos_iff.2 hne)
   rw [ea] at ea'
   cases ea'
   rw [e] at q0
   have:=head_cell hB (oo+0 * 2)
   rw [q0] at this
   cases ho:oo with
   | zero=>rw [ho] at this;simp at this
   | succ m=>
    rw [ho] at this
    have h4:∀ u,(#[Value.slice none 0 0,Value.int .i64 0,Value.int .i64 0,Value.int .i64 0]:Array Value)[m+1+0 * 2]?≠some (.int .u64 u):=by
     intro u
     match m with
     | 0=>simp
     | 1=>simp
     | 2=>simp
     | m+3=>simp
    exact h4 _ this.symm)
  clear e1 e2 hB hb1 hat he0 hin hv
  go_wp2_with fail
  refine bodyPost_ret (v:=.tuple #[.agg #[.slice e0.ia e0.l.d.ins.length e0.ic,.int .i64 e0.l.d.outs,.int .i64 e0.l.d.weight,.int .i64 e0.l.d.fee],.int .i64 0]) (by simp [results,Tryz.results123,go_sem,c0,c1,c2,c3]) rfl ?_
  have ht:=turn_set4 w1 w.heap.size (.slice e0.ia e0.l.d.ins.length e0.ic) (.int .i64 e0.l.d.outs) (.int .i64 e0.l.d.weight) (.int .i64 e0.l.d.fee)
  rw [HE.out]
  refine ⟨e0.ia,e0.ic,rfl,insAt_turn HIN.out.1 ht (fun bb oo hne ea=>HNE.out bb oo hne ea),HB.out.trans (ht.below (fun k hk=>by omega) HB.out.size),HIN.out.2.1,HIN.out.2.2⟩
end Go.Proofs.YtlboemhbealnmaaGreat.Ho
namespace Go.Proofs.YtlboemhbealnmaaGreat.Ho
open Go.RowKit Go.Maps
variable {w w':World} {G:Nat→Prop} {R:Loc} {rs:List LR} {v:Value} {n:Nat}
theorem info_linkR:(Tryz.prog.info? 100).map (fun i=>(i.zero,i.size,i.bytes))=some (some (.agg #[.int .i64 0,.int .u64 0,.slice none 0 0,.int .i64 0,.int .i64 0,.int .i64 0]),6,64):=by kernel_rfl
theorem append_noneR (a:Option Addr) (cap:Nat) (ty:TypeId) (w:World):(Builtin.append_ #[44,44] ty #[.slice none 0 0,.slice a 0 cap]).run Tryz.prog w=.ok (.slice none 0 0) w:=by
 obtain ⟨iE,hiE,_,hz1,_⟩:=info_parts info_linkR
 cases a with
 | none=>simp [Builtin.append_,run_underlying Tryz.underlying44,Builtin.lenOf,Builtin.firstCells,sizeOf,typeInfo,hiE]
 | some ad=>simp [Builtin.append_,run_underlying Tryz.underlying44,Builtin.lenOf,Builtin.firstCells,sizeOf,typeInfo,hiE,loadCells,loadCellsFrom]
theorem step_append_noneR {ops:Array Oper} {rest:List Oper} {o:Oper} {a:Act} {Q:Exit→Act→World→Prop} {w:World} (hgd:o.guard=none) (s x:Operand) (ho:o.op=.call { callee:=.builtin .append,args:=#[s,x],argTypes:=#[44,44] })
  (ad:Option Addr) (cap:Nat) (hs:a.eval s=.slice none 0 0) (hx:a.eval x=.slice ad 0 cap) (h:wpList Tryz.prog ops Q rest (a.put o.dst (.slice none 0 0)) w):wpList Tryz.prog ops Q (o :: rest) a w:=by
 refine wpList_plain hgd fun K' hK'=>?_
 unfold Oper.wp
 simp [execOp,ho,resolve,invoke,builtin,hs,hx,append_noneR,Result.andThen]
 exact hK' _ _ h
def CopyR (w:World) (l:List LR) (e:Ending) (w':World):Prop:=∃ a cap,e=.returned (.slice a l.length cap)∧OwnR w' w.heap.size (.slice a l.length cap) l∧Below w.heap.size w w'
theorem lrs_cells {w:World} {bb o:Nat} {l:List LR} (h:LRsAt w (some ⟨bb,o,none⟩) l):∀ j u,(lrsC l)[j]?=some u→w.cell? ((⟨bb,o,none⟩:Addr).add j)=some u:=fun j u hj=>by
 have hl:j < (lrsC l).length:=(List.getElem?_eq_some_iff.1 hj).1
 rw [lrsC_length] at hl
 have hi:j / 6 < l.length:=by omega
 have e2:=lrsC_at l (j / 6) hi (j % 6) (by omega)
 rw [show j / 6 * 6+j % 6=j by omega,hj] at e2
 obtain ⟨b',o',e,_,c0,c1,c2,c3,c4,c5⟩:=h (j / 6) hi
 simp only [Option.some.injEq,Addr.mk.injEq,and_true] at e
 obtain ⟨rfl,rfl⟩:=e
 have e3:(⟨bb,o,none⟩:Addr).add j=⟨bb,o+j,none⟩:=by unfold Addr.add;split <;> simp_all
 rw [e3]
 have hm:j % 6=0∨j % 6=1∨j % 6=2∨j % 6=3∨j % 6=4∨j % 6=5:=by omega
 rcases hm with hm | hm | hm | hm | hm | hm
 ·rw [hm] at e2
  rw [show o+j=o+j / 6 * 6 by omega,c0,e2];rfl
 ·rw [hm] at e2
  rw [show o+j=o+j / 6 * 6+1 by omega,c1,e2];rfl
 ·rw [hm] at e2
  rw [show o+j=o+j / 6 * 6+2 by omega,c2,e2];rfl
 ·rw [hm] at e2
  rw [show o+j=o+j / 6 * 6+3 by omega,c3,e2];rfl
 ·rw [hm] at e2
  rw [show o+j=o+j / 6 * 6+4 by omega,c4,e2];rfl
 ·rw [hm] at e2
  rw [show o+j=o+j / 6 * 6+5 by omega,c5,e2];rfl
theorem copyLinks_any (l:List LR) (a:Option Addr) (cap:Nat) (w:World) (hl:l.length≤1000) (hi:LRsAt w a l) :
  Calls Tryz.prog 179 #[.slice a l.length cap] w (CopyR w l):=by
 by_cases hnil:l=[]
 ·subst hnil
  have HE:Hid (CopyR w [] (.returned (.slice none 0 0)) w):=Lib.hid ⟨none,0,rfl,World.ownsRow_nil _ _ _ _,Below.refl _ _⟩
  clear hl hi
  simp only [List.length_nil]
  go_enter Tryz.func179,Tryz.ntmps179
  go_wp2_with (at_builtin;refine step_append_noneR rfl _ _ rfl a cap rfl rfl ?_)
  go_ret
  exact HE.out
 ·have hpos:0 < l.length:=List.length_pos_iff.2 hnil
  obtain ⟨bb,oo,rfl,hbl,_⟩:=hi 0 hpos
  obtain ⟨iE,hiE,hz0,hz1,hz2⟩:=info_parts info_linkR
  have HN:=Lib.hid (lrs_cells hi)
  have HL:=Lib.hid hl
  clear hnil hi
  go_enter Tryz.func179,Tryz.ntmps179
  go_wp2_with (at_builtin;refine wpList_append_lies _ rfl _ _ 44 rfl w.heap.size 100 iE _ 6 64 Tryz.underlying44 hiE hz0 hz1 hz2 rfl (by decide) (.slice none 0 0) 0 [] rfl (World.ownsRow_nil _ _ _ _) ⟨bb,oo,none⟩ l.length cap (lrsC l) rfl (lrsC_length l) HN.out (lrsC_one l) hpos (by have:=HL.out;unfold maxLen;omega) (by have:=HL.out;omega) (Nat.le_refl _) _ rfl ?_;intro g2 cap2 w2 hown2 hgrow2 hat2 hlt2)
  have HE:Hid (CopyR w l (.returned (.slice (some ⟨g2,0,none⟩) l.length cap2)) w2):=Lib.hid (by
   rw [Nat.zero_add] at hown2
   exact ⟨_,_,rfl,hown2,(Below.refl _ _).grown hgrow2 (Nat.le_refl _) (fun j hj=>by cases hj)⟩)
  clear hown2 hgrow2 hat2
  go_wp2
  go_ret
  exact HE.out
theorem append_linkR {ops:Array Oper} {rest:List Oper} {o:Oper} {a:Act} {Q:Exit→Act→World→Prop} {w:World} (hgd:o.guard=none) (s x:Operand) (ho:o.op=.call { callee:=.builtin .append,args:=#[s,x],argTypes:=#[44,44] })
  {C:Nat} {v:Value} {d:List LR} (y:LR) (hs:a.eval s=v) (hx:a.eval x=.slice (some ⟨w.heap.size,0,none⟩) 1 1) (hown:OwnR w C v d) (hlen:d.length≤1000000) (hC:C≤w.heap.size)
  (h:∀ g cap w',OwnR w' C (.slice (some ⟨g,0,none⟩) (d.length+1) cap) (d ++ [y])→w.grownBy w' v.ownBlock→wpList Tryz.prog ops Q rest (a.put o.dst (.slice (some ⟨g,0,none⟩) (d.length+1) cap)) w') :
  wpList Tryz.prog ops Q (o :: rest) a (w.alloc (.cells #[.int .i64 y.l.peer,.int .u64 y.l.id.toNat,.slice y.ia y.l.d.ins.length y.ic,.int .i64 y.l.d.outs,.int .i64 y.l.d.weight,.int .i64 y.l.d.fee] 100)):=by
 obtain ⟨i0,hi0,hz0,hz1,hz2⟩:=info_parts info_linkR
 refine wpList_append_lies _ hgd s x 44 ho C 100 i0 _ 6 64 Tryz.underlying44 hi0 hz0 hz1 hz2 rfl (by decide) v d.length (lrsC d) hs (hown.alloc _) ⟨w.heap.size,0,none⟩ 1 1 (lrC y) hx rfl (cells_new w _ _) (by simp [lrC,Value.oneCell']) (by decide) (by unfold maxLen;omega) (by omega) (by simp;omega) _ rfl ?_
 intro g cap w1 hown' hgrow _ _
 refine h g cap w1 ?_ ((World.grownBy_alloc w _ _).trans hgrow)
 unfold OwnR
 rw [List.length_append,lrsC_append]
 have:lrsC [y]=lrC y:=by simp [lrsC]
 rw [this]
 exact hown'
def PicksR (K:World→Prop) (f:FuncId) (cap:Array Value) (q:LR→Bool):Prop:=
 (∀ (args:Array Value) (w:World),(callFunc f args).run Tryz.prog w=.ok (.enter f args) w) ∧
 ∀ (e:LR) (w:World),K w→Calls Tryz.prog f (#[.agg #[.int .i64 e.l.peer,.int .u64 e.l.id.toNat,.slice e.ia e.l.d.ins.length e.ic,.int .i64 e.l.d.outs,.int .i64 e.l.d.weight,.int .i64 e.l.d.fee]] ++ cap) w fun x w'=>x=.returned (.bool (q e))∧Below w.heap.size w w'
theorem filter_step {α:Type} {q:α→Bool} {l:List α} {k:Nat} (h:k < l.length):(l.take (k+1)).filter q=(l.take k).filter q ++ if q l[k] then [l[k]] else []:=by
 rw [List.take_succ_eq_append_getElem h,List.filter_append]
 congr 1
 cases hq:q l[k] with
 | true=>rw [List.filter_cons_of_pos hq];rfl
 | false=>rw [List.filter_cons_of_neg (by rw [hq];simp)];rfl
set_option maxRecDepth 20000 in
set_option maxHeartbeats 2000000 in
theorem withoutR_any (K:World→Prop) (hK:∀ a b,K a→Below a.heap.size a b→K b) (f:FuncId) (fc:Array Value) (q:LR→Bool) (hp:PicksR K f fc q) (l:List LR) (a:Option Addr) (cp:Nat) (w:World) (hw:K w) (hl:l.length≤1000) (hi:LRsAt w a l) :
  Calls Tryz.prog 112 #[.slice a l.length cp,.func (.func f) #[] fc] w (CopyR w (l.filter fun e=>!q e)):=by
 have hcf:=hp.1
 have HP:=Lib.hid hp.2
 have HK:=Lib.hid hK
 have HW:=Lib.hid hw
 have HI:=Lib.hid hi
 clear hp hK hw hi
 go_enter Tryz.func112,Tryz.ntmps112
 go_wp2
 go_loopw [5,10] (fun v i wr=>∃ k:Nat,k≤l.length∧i=.int .i64 k∧Hid (OwnR wr w.heap.size v ((l.take k).filter fun e=>!q e))∧Hid (Below w.heap.size w wr)) (fun _ i _=>l.length - (intOf i).toNat)
 case atStart=>exact ⟨0,Nat.zero_le _,rfl,Lib.hid (World.ownsRow_nil _ _ _ _),Lib.hid (Below.refl _ _)⟩
 case round=>
  obtain ⟨k,hk,rfl,HO,HB⟩:=hrel
  rename_i u5
  by_cases hkl:k < l.length
  ·obtain ⟨g,o,rfl,hg,hc6⟩:=lrsAt_kept HB.out HI.out k hkl
   have hstep:=filter_step (q:=fun e=>!q e) hkl
   obtain ⟨e0,he0⟩:∃ e0,l[k]=e0:=⟨_,rfl⟩
   rw [he0] at hc6 hstep
   obtain ⟨c0,c1,c2,c3,c4,c5⟩:=hc6
   have HST:=Lib.hid hstep
   have hlen:((l.take k).filter fun e=>!q e).length≤1000:=Nat.le_trans (List.length_filter_le _ _) (Nat.le_trans (List.length_take_le _ _) (by omega))
   have hb1:=kept_new wr (.cells #[.int .i64 e0.l.peer,.int .u64 e0.l.id.toNat,.slice e0.ia e0.l.d.ins.length e0.ic,.int .i64 e0.l.d.outs,.int .i64 e0.l.d.weight,.int .i64 e0.l.d.fee] 100)
   clear hstep he0
   go_wp2_with fail
   refine (HP.out e0 _ (HK.out _ _ HW.out (kept_trans HB.out hb1))).mono ?_
   rintro e w2 ⟨rfl,hb2⟩
   have hb12:=kept_trans hb1 hb2
   obtain ⟨d0,d1,d2,d3,d4,d5⟩:LRAt w2 wr.heap.size 0 e0:=lrAt_kept hb2 ⟨by simp [go_sem],by simp [go_sem],by simp [go_sem],by simp [go_sem],by simp [go_sem],by simp [go_sem]⟩
   have hlt2:=(cell_spot d0).2
   have HO2:=Lib.hid (owns_below HO.out hb12)
   have HB2:=Lib.hid (kept_trans HB.out hb12)
   clear hb1 hb12
   cases hq:q e0 with
   | true=>
    rw [hq] at HST
    clear hq
    go_wp2_with fail
    go_roundw
    case rel=>exact ⟨k+1,by omega,by go_num,Lib.hid (by rw [HST.out];simp only [Bool.not_true,Bool.false_eq_true,if_false,List.append_nil];exact HO2.out),HB2⟩
    case measure=>simp [intOf];omega
   | false=>
    rw [hq] at HST
    clear hq
    go_wp2_with (at_builtin;refine append_linkR rfl _ _ rfl e0 rfl rfl HO2.out (by omega) HB2.out.size ?_;intro g4 cap4 w4 ho4 hg4)
    have HO4:=Lib.hid ho4
    have HB4:=Lib.hid (HB2.out.grown hg4 HB2.out.size (fun j hj=>(HO2.out.lt j hj).1))
    clear ho4 hg4
    go_wp2_with fail
    go_roundw
    case rel=>exact ⟨k+1,by omega,by go_num,Lib.hid (by rw [HST.out];simp only [Bool.not_false,if_true];simpa using HO4.out),HB4⟩
    case measure=>simp [intOf];omega
  ·have he:l.take k=l:=List.take_of_length_le (by omega)
   have HO':=HO.out
   rw [he] at HO'
   obtain ⟨a6,cap6,e6,-,-,-⟩:=ownR_form HO'
   subst e6
   have HE:=Lib.hid HO'
   clear HO' he
   go_wp2_with fail
   go_ret
   exact ⟨a6,cap6,rfl,HE.out,HB.out⟩
theorem picksR_remove (c:Nat) (x:UInt64):PicksR (CellIs c (.int .u64 x.toNat)) 177 #[.pointer (some ⟨c,0,none⟩)] (fun e=>e.l.id == x):=by
 refine ⟨fun _ _=>by kernel_rfl,fun e w hw=>?_⟩
 have hc:=cell_spot hw
 have hw:w.cell? ⟨c,0,none⟩=some (.int .u64 x.toNat):=hw
 have hlt:c < w.heap.size:=hc.2
 clear hc
 have hq:((e.l.id.toNat:Int) == (x.toNat:Int))=(e.l.id == x):=u64_beq _ _
 show Calls Tryz.prog 177 #[.agg #[.int .i64 e.l.peer,.int .u64 e.l.id.toNat,.slice e.ia e.l.d.ins.length e.ic,.int .i64 e.l.d.outs,.int .i64 e.l.d.weight,.int .i64 e.l.d.fee],.pointer (some ⟨c,0,none⟩)] w _
 go_enter Tryz.func177,Tryz.ntmps177
 go_wp2
 go_ret
 exact ⟨rfl,kept_new _ _⟩
theorem picksR_drop (c p:Nat):PicksR (CellIs c (.int .i64 p)) 113 #[.pointer (some ⟨c,0,none⟩)] (fun e=>e.l.peer == p):=by
 refine ⟨fun _ _=>by kernel_rfl,fun e w hw=>?_⟩
 have hc:=cell_spot hw
 have hw:w.cell? ⟨c,0,none⟩=some (.int .i64 p):=hw
 have hlt:c < w.heap.size:=hc.2
 clear hc
 have hq:=beq_nat e.l.peer p
 show Calls Tryz.prog 113 #[.agg #[.int .i64 e.l.peer,.int .u64 e.l.id.toNat,.slice e.ia e.l.d.ins.length e.ic,.int .i64 e.l.d.outs,.int .i64 e.l.d.weight,.int .i64 e.l.d.fee],.pointer (some ⟨c,0,none⟩)] w _
 go_enter Tryz.func113,Tryz.ntmps113
 go_wp2
 go_ret
 exact ⟨rfl,kept_new _ _⟩
def RefL (w:World) (G:Nat→Prop) (R:Loc) (L:List LinkD):Prop:=∃ rs v,RefAt w G R rs v∧lOf rs=L
theorem ref_filtered (h:RefAt w G R rs v) {w2:World} (hb:Below w.heap.size w w') {q:LinkD→Bool} {a:Option Addr} {cap:Nat} (hb2:Below w'.heap.size w' w2) (ho:OwnR w2 w'.heap.size (.slice a (rs.filter fun e=>!q e.l).length cap) (rs.filter fun e=>!q e.l)) :
  ∃ G',RefL (w2.setCell ⟨R.b,2,none⟩ (.slice a (rs.filter fun e=>!q e.l).length cap)) G' R ((lOf rs).filter fun l=>!q l)∧Gain R.b G G' w (w2.setCell ⟨R.b,2,none⟩ (.slice a (rs.filter fun e=>!q e.l).length cap)):=by
 have hk:=kept_trans hb hb2
 have hs:=h.kept hk
 have ho':OwnR w2 w.heap.size (.slice a (rs.filter fun e=>!q e.l).length cap) (rs.filter fun e=>!q e.l):=⟨ho.1,ho.2.imp id fun ⟨g,c,cur,q1,q2,q3⟩=>⟨g,c,cur,q1,Nat.le_trans hb.size q2,q3⟩⟩
 obtain ⟨r1,r2⟩:=h.stored hk ho' (fun k hk=>hk) (fun k hk=>.inl hk) (fun e he=>hs.ins e (List.mem_filter.1 he).1)
 refine ⟨_,⟨_,_,r1,?_⟩,r2⟩
 unfold lOf
 rw [List.filter_map]
 rfl
set_option maxRecDepth 20000 in
theorem refRemove_is (x:UInt64) (r:Bool) (w:World) (h:RefAt w G R rs v) (hl:rs.length≤1000) (hr:(deedOf (lOf rs) x).isSome=r) :
  Calls Tryz.prog 129 #[.pointer (some ⟨R.b,2,none⟩),.int .u64 x.toNat] w fun e w'=>e=.returned (.bool r)∧∃ G',RefL w' G' R (removeL (lOf rs) x)∧Gain R.b G G' w w':=by
 have hk:=kept_new w (.cells #[.int .u64 x.toNat] 22)
 have H0:=Lib.hid h
 have H:=Lib.hid (h.kept hk)
 have HC:Hid (CellIs w.heap.size (.int .u64 x.toNat) (w.alloc (.cells #[.int .u64 x.toNat] 22))):=Lib.hid (cellIs_new _ _ _)
 have HK:=Lib.hid hk
 have HR:=Lib.hid hr
 clear h hk hr
 go_enter Tryz.func129,Tryz.ntmps129
 go_wp2_with fail
 with_reducible refine (refHas_is x r _ H.out hl HR.out).mono ?_
 rintro e w1 ⟨rfl,hb1⟩
 have H1:=H.out.kept hb1
 obtain ⟨a,cap,hv,hcap,hat,-⟩:=ownR_form H1.row
 have hlc:=H1.cell.1
 have hlt:=H1.lt
 rw [hv] at hlc
 have HAT:=Lib.hid hat
 have HC1:=Lib.hid (cellIs_kept _ _ _ _ HC.out hb1)
 have HB1:=Lib.hid (kept_trans HK.out hb1)
 have HH1:=Lib.hid H1
 clear hb1 H1 hat hv
 go_wp2_with fail
 refine (withoutR_any _ (cellIs_kept _ _) _ _ _ (picksR_remove w.heap.size x) rs _ _ _ HC1.out hl HAT.out).mono ?_
 rintro e w2 ⟨a2,c2,rfl,ho2,hb2⟩
 have H2:=HH1.out.kept hb2
 have j0:=H2.cell
 have j1:=H2.lt
 obtain ⟨j2,j3⟩:=j0
 have HE:=Lib.hid (ref_filtered (q:=fun l=>l.id == x) H0.out HB1.out hb2 ho2)
 clear H2 ho2 hb2
 go_wp2_with fail
 go_ret
 exact ⟨rfl,HE.out⟩
theorem refDrop_yes (p:Nat) (hp:p < 8) (w:World) (h:RefAt w G R rs v) (hl:rs.length≤1000) :
  Calls Tryz.prog 57 #[.pointer (some ⟨R.b,2,none⟩),.int .i64 p] w fun e w'=>e=.returned (.int .i64 0)∧∃ G',RefL w' G' R (dropL (lOf rs) p)∧Gain R.b G G' w w':=by
 have hk:=kept_new w (.cells #[.int .i64 p] 3)
 have H0:=Lib.hid h
 have H1:=h.kept hk
 have HC:Hid (CellIs w.heap.size (.int .i64 p) (w.alloc (.cells #[.int .i64 p] 3))):=Lib.hid (cellIs_new _ _ _)
 have HK:=Lib.hid hk
 obtain ⟨a,cap,hv,hcap,hat,-⟩:=ownR_form H1.row
 have hlc:=h.cell.1
 have hlt:=h.lt
 rw [hv] at hlc
 have HAT:=Lib.hid hat
 have HH1:=Lib.hid H1
 clear h hk H1 hat hv
 go_enter Tryz.func57,Tryz.ntmps57
 go_wp2_with fail
 with_reducible refine (badPeer_no p hp _).mono ?_
 rintro e w1 ⟨rfl,rfl⟩
 go_wp2_with fail
 refine (withoutR_any _ (cellIs_kept _ _) _ _ _ (picksR_drop w.heap.size p) rs _ _ _ HC.out hl HAT.out).mono ?_
 rintro e w2 ⟨a2,c2,rfl,ho2,hb2⟩
 have H2:=HH1.out.kept hb2
 obtain ⟨j2,j3⟩:=H2.cell
 have j1:=H2.lt
 have HE:=Lib.hid (ref_filtered (q:=fun l=>l.peer == p) H0.out HK.out hb2 ho2)
 clear H2 ho2 hb2
 go_wp2_with fail
 go_ret
 exact ⟨rfl,HE.out⟩
end Go.Proofs.YtlboemhbealnmaaGreat.Ho
namespace Go.Proofs.YtlboemhbealnmaaGreat.Ho
open Go.RowKit Go.Maps
variable {w w':World} {G:Nat→Prop} {R:Loc} {rs:List LR} {v:Value} {n:Nat}
theorem append_zeroR (b:Option Addr) (n cap:Nat) (hn:n≤cap) (a:Option Addr) (c:Nat) (ty:TypeId) (w:World):(Builtin.append_ #[44,44] ty #[.slice b n cap,.slice a 0 c]).run Tryz.prog w=.ok (.slice b n cap) w:=by
 obtain ⟨iE,hiE,_,hz1,_⟩:=info_parts info_linkR
 cases a with
 | none=>
  cases b with
  | none=>simp [Builtin.append_,run_underlying Tryz.underlying44,Builtin.lenOf,Builtin.firstCells,sizeOf,typeInfo,hiE,hn]
  | some bd=>simp [Builtin.append_,run_underlying Tryz.underlying44,Builtin.lenOf,Builtin.firstCells,sizeOf,typeInfo,hiE,hn,storeCells]
 | some ad=>
  cases b with
  | none=>simp [Builtin.append_,run_underlying Tryz.underlying44,Builtin.lenOf,Builtin.firstCells,sizeOf,typeInfo,hiE,loadCells,loadCellsFrom,hn]
  | some bd=>simp [Builtin.append_,run_underlying Tryz.underlying44,Builtin.lenOf,Builtin.firstCells,sizeOf,typeInfo,hiE,loadCells,loadCellsFrom,hn,storeCells]
theorem step_appendR {ops:Array Oper} {o:Oper} {a:Act} {K:Act→World→Prop} {Q:Exit→Act→World→Prop} {E:Prop} {w:World} (hgd:o.guard=none) (s x:Operand)
  (ho:o.op=.call { callee:=.builtin .append,args:=#[s,x],argTypes:=#[44,44] })
  (C:Nat) (v:Value) (d:List LR) (hs:a.eval s=v) (hown:OwnR w C v d) (ad:Option Addr) (m c:Nat) (l:List LR) (hm:l.length=m) (hx:a.eval x=.slice ad m c) (hl:LRsAt w ad l) (hlen:d.length+l.length≤1000) (hC:C≤w.heap.size)
  (h:∀ a' cap' w',OwnR w' C (.slice a' (d.length+l.length) cap') (d ++ l)→Below C w w'→K (a.put o.dst (.slice a' (d.length+l.length) cap')) w') :
  if Region.wanted o (yielded ops a.tmps)=true then Oper.wp Tryz.prog o a w K Q else E:=by
 subst hm
 by_cases hnil:l=[]
 ·subst hnil
  have hw:Region.wanted o (yielded ops a.tmps)=true:=by simp [Region.wanted,hgd]
  rw [if_pos hw]
  obtain ⟨va,vc,hv,hvc,-,-⟩:=ownR_form hown
  subst hv
  unfold Oper.wp
  simp only [List.length_nil] at hx
  simp [execOp,ho,resolve,invoke,builtin,hs,hx,append_zeroR va d.length vc hvc ad c,Result.andThen]
  have ht:K (a.put o.dst (.slice va d.length vc)) w:=by
   have:=h va vc w (by simpa using hown) (Below.refl _ _)
   simpa using this
  exact ht
 ·have hpos:0 < l.length:=List.length_pos_iff.2 hnil
  obtain ⟨bb,oo,rfl,_,_⟩:=hl 0 hpos
  obtain ⟨iE,hiE,hz0,hz1,hz2⟩:=info_parts info_linkR
  refine step_append_lies _ hgd s x 44 ho C 100 iE _ 6 64 Tryz.underlying44 hiE hz0 hz1 hz2 rfl (by decide) v d.length (lrsC d) hs hown ⟨bb,oo,none⟩ l.length c (lrsC l) hx (lrsC_length l) (lrs_cells hl) (lrsC_one l) hpos (by unfold maxLen;omega) (by omega) hC _ rfl ?_
  intro g cap w1 hown' hgrow _ _
  refine h (some ⟨g,0,none⟩) cap w1 ?_ ((Below.refl _ _).grown hgrow hC (fun j hj=>(hown.lt j hj).1))
  unfold OwnR
  rw [List.length_append,lrsC_append]
  exact hown'
theorem lrsAt_take {a:Option Addr} {l:List LR} (k:Nat) (h:LRsAt w a l):LRsAt w a (l.take k):=fun i hi=>by
 have hi':i < l.length:=by rw [List.length_take] at hi;omega
 obtain ⟨b,o,e,hb,hc⟩:=h i hi'
 refine ⟨b,o,e,hb,?_⟩
 rw [List.getElem_take]
 exact hc
theorem lrsAt_drop {g o:Nat} {l:List LR} (k:Nat) (h:LRsAt w (some ⟨g,o,none⟩) l):LRsAt w (some ⟨g,o+k * 6,none⟩) (l.drop k):=fun i hi=>by
 have hi':k+i < l.length:=by rw [List.length_drop] at hi;omega
 obtain ⟨b,o',e,hb,hc⟩:=h (k+i) hi'
 simp only [Option.some.injEq,Addr.mk.injEq,and_true] at e
 obtain ⟨rfl,rfl⟩:=e
 refine ⟨g,o+k * 6,rfl,hb,?_⟩
 rw [List.getElem_drop,show o+k * 6+i * 6=o+(k+i) * 6 by omega]
 exact hc
theorem eraseP_at {q:LR→Bool} {i:Nat} (h:rs.findIdx? q=some i):rs.eraseP q=rs.take i ++ rs.drop (i+1):=by
 obtain ⟨hi,h1,h2⟩:=List.findIdx?_eq_some_iff_getElem.1 h
 have key:∀ (l:List LR) (i:Nat) (hi:i < l.length),q l[i]=true→(∀ j (hj:j < i),¬ q (l[j]'(by omega))=true)→l.eraseP q=l.take i ++ l.drop (i+1):=by
  intro l
  induction l with
  | nil=>intro i hi;simp at hi
  | cons a r ih=>
   intro i hi h1 h2
   cases i with
   | zero=>
    rw [List.eraseP_cons_of_pos (by simpa using h1)]
    simp
   | succ i=>
    have h0:=h2 0 (by omega)
    rw [List.eraseP_cons_of_neg (by simpa using h0),ih i (by simpa using hi) (by simpa using h1) (fun j hj=>by have:=h2 (j+1) (by omega);simpa using this)]
    simp
 exact key rs i hi h1 (fun j hj=>h2 j hj)
theorem lOf_eraseP (q:LinkD→Bool):∀ (rs:List LR),(lOf rs).eraseP q=lOf (rs.eraseP fun e=>q e.l)
 | []=>rfl
 | a :: r=>by
  show (a.l :: lOf r).eraseP q=_
  cases hq:q a.l with
  | true=>rw [List.eraseP_cons_of_pos hq,List.eraseP_cons_of_pos (p:=fun e:LR=>q e.l) hq]
  | false=>
   rw [List.eraseP_cons_of_neg (by rw [hq];simp),List.eraseP_cons_of_neg (p:=fun e:LR=>q e.l) (by simp [hq]),lOf_eraseP q r]
   rfl
theorem ref_evicted (h:RefAt w G R rs v) {i:Nat} (hf:rs.findIdx? (fun e=>e.l.peer == worstL (lOf rs))=some i) {a:Option Addr} {k cap:Nat} (hb:Below w.heap.size w w') (ho:OwnR w' w.heap.size (.slice a k cap) (rs.take i ++ rs.drop (i+1))) :
  ∃ G',RefL (w'.setCell ⟨R.b,2,none⟩ (.slice a k cap)) G' R (evictL (lOf rs))∧Gain R.b G G' w (w'.setCell ⟨R.b,2,none⟩ (.slice a k cap)):=by
 have hs:=h.kept hb
 obtain ⟨r1,r2⟩:=h.stored hb ho (fun k hk=>hk) (fun k hk=>.inl hk) (fun e he=>hs.ins e (by
  rcases List.mem_append.1 he with he | he
  ·exact List.mem_of_mem_take he
  ·exact List.mem_of_mem_drop he))
 refine ⟨_,⟨_,_,r1,?_⟩,r2⟩
 unfold evictL
 rw [lOf_eraseP,eraseP_at hf]
theorem ref_added (h:RefAt w G R rs v) {y:LR} {a:Option Addr} {k cap:Nat} (hb:Below w.heap.size w w') (ho:OwnR w' w.heap.size (.slice a k cap) (rs ++ [y])) (hi:InsAt w' y.ia y.l.d.ins) (hn:∀ bb o,y.l.d.ins≠[]→y.ia=some ⟨bb,o,none⟩→w.heap.size≤bb∧bb < w'.heap.size) (hc:y.l.d.ins.length≤y.ic) :
  ∃ G',RefL (w'.setCell ⟨R.b,2,none⟩ (.slice a k cap)) G' R (lOf rs ++ [y.l])∧Gain R.b G G' w (w'.setCell ⟨R.b,2,none⟩ (.slice a k cap)):=by
 have hs:=h.kept hb
 obtain ⟨r1,r2⟩:=h.stored (G':=fun j=>G j∨∃ o,y.l.d.ins≠[]∧y.ia=some ⟨j,o,none⟩) hb ho (fun k hk=>.inl hk) (fun j hj=>by
  rcases hj with hj | ⟨o,hne,e⟩
  ·exact .inl hj
  ·exact .inr (hn j o hne e)) (fun e he=>by
  rcases List.mem_append.1 he with he | he
  ·exact ⟨(hs.ins e he).1,fun bb o hne ea=>⟨.inl ((hs.ins e he).2.1 bb o hne ea).1,((hs.ins e he).2.1 bb o hne ea).2⟩,(hs.ins e he).2.2⟩
  ·rw [List.mem_singleton.1 he]
   exact ⟨hi,fun bb o hne ea=>⟨.inr ⟨o,hne,ea⟩,by have:=(hn bb o hne ea).1;have:=h.lt;omega⟩,hc⟩)
 refine ⟨_,⟨_,_,r1,?_⟩,r2⟩
 simp [lOf]
def lenAtR (w:World) (B:Nat):Nat:=match w.cell? ⟨B,2,none⟩ with | some (.slice _ n _)=>n | _=>0
theorem RefL.lenAt {L:List LinkD} (h:RefL w G R L):lenAtR w R.b=L.length:=by
 obtain ⟨rs,v,h,rfl⟩:=h
 obtain ⟨a,cap,rfl,_,_,_⟩:=ownR_form h.row
 unfold lenAtR
 rw [h.cell.1,lOf_len]
def mostR (L:List LinkD) (k:Nat):Int:=if k=0 then -1 else burd (usageL L (wst (fun p=>burd (usageL L p)) k))
theorem mostR_step (L:List LinkD) (k:Nat) (h0:∀ p,0≤burd (usageL L p)):(burd (usageL L k) > mostR L k→wst (fun p=>burd (usageL L p)) (k+1)=k∧mostR L (k+1)=burd (usageL L k))∧(¬ burd (usageL L k) > mostR L k→wst (fun p=>burd (usageL L p)) (k+1)=wst (fun p=>burd (usageL L p)) k∧mostR L (k+1)=mostR L k):=by
 have hw:wst (fun p=>burd (usageL L p)) (k+1)=if burd (usageL L k) > burd (usageL L (wst (fun p=>burd (usageL L p)) k)) then k else wst (fun p=>burd (usageL L p)) k:=rfl
 cases k with
 | zero=>
  constructor
  ·intro _
   have e:wst (fun p=>burd (usageL L p)) (0+1)=0:=by
    rw [hw]
    split <;> rfl
   refine ⟨e,?_⟩
   unfold mostR
   rw [if_neg (by decide),e]
  ·intro h
   refine absurd ?_ h
   unfold mostR
   rw [if_pos rfl]
   have:=h0 0
   omega
 | succ k=>
  have hm:mostR L (k+1)=burd (usageL L (wst (fun p=>burd (usageL L p)) (k+1))):=by unfold mostR;rw [if_neg (by omega)]
  constructor
  ·intro h
   rw [hm] at h
   rw [if_pos h] at hw
   refine ⟨hw,?_⟩
   unfold mostR
   rw [if_neg (by omega),hw]
  ·intro h
   rw [hm] at h
   rw [if_neg h] at hw
   refine ⟨hw,?_⟩
   rw [hm]
   unfold mostR
   rw [if_neg (by omega),hw]
theorem burd_nonneg (L:List LinkD) (p:Nat):0≤burd (usageL L p):=by
 have:=usage_small L p
 unfold burd
 omega
end Go.Proofs.YtlboemhbealnmaaGreat.Ho
namespace Go.Proofs.YtlboemhbealnmaaGreat.Ho
open Go.RowKit Go.Maps
variable {w w':World} {G:Nat→Prop} {R:Loc} {rs:List LR} {v:Value} {n:Nat}
theorem refAdd_arg (p:Int) (hp:¬ goodP p) (x:UInt64) (d:DeedD) (a:Option Addr) (cap:Nat) (w:World) :
  Calls Tryz.prog 131 #[.pointer (some ⟨R.b,2,none⟩),.int .i64 p,.int .u64 x.toNat,.agg #[.slice a d.ins.length cap,.int .i64 d.outs,.int .i64 d.weight,.int .i64 d.fee]] w fun e w'=>e=.returned (.tuple #[.bool false,.int .i64 1])∧Below w.heap.size w w':=by
 have HP:=Lib.hid hp
 clear hp
 go_enter Tryz.func131,Tryz.ntmps131
 go_wp2_with fail
 with_reducible refine (badPeer_yes p HP.out _).mono ?_
 rintro e w1 ⟨rfl,rfl⟩
 go_wp2_with fail
 go_ret2
 exact ⟨rfl,kept_new _ _⟩
theorem refAdd_check (p:Nat) (hp:p < 8) (x:UInt64) (d:DeedD) (r:Int) (hr:checkD d=r) (hr0:r≠0) (a:Option Addr) (cap:Nat) (hc:d.ins.length≤cap) (w:World) (hi:InsAt w a d.ins) :
  Calls Tryz.prog 131 #[.pointer (some ⟨R.b,2,none⟩),.int .i64 p,.int .u64 x.toNat,.agg #[.slice a d.ins.length cap,.int .i64 d.outs,.int .i64 d.weight,.int .i64 d.fee]] w fun e w'=>e=.returned (.tuple #[.bool false,.int .i64 r])∧Below w.heap.size w w':=by
 have hk:=kept_new w (.cells #[.slice a d.ins.length cap,.int .i64 d.outs,.int .i64 d.weight,.int .i64 d.fee] 94)
 have HI:=Lib.hid (insAt_kept hk hi)
 have HR:=Lib.hid hr
 have hne:(r != 0)=true:=bne_iff_ne.2 hr0
 clear hi hr
 go_enter Tryz.func131,Tryz.ntmps131
 go_wp2_with fail
 with_reducible refine (badPeer_no p hp _).mono ?_
 rintro e w1 ⟨rfl,rfl⟩
 go_wp2_with fail
 with_reducible refine (refCheck_is d a cap _ r hc HI.out HR.out).mono ?_
 rintro e w1 ⟨rfl,hb1⟩
 go_wp2_with fail
 go_ret2
 exact ⟨rfl,kept_trans hk hb1⟩
set_option maxRecDepth 20000 in
set_option maxHeartbeats 2000000 in
theorem refAdd_twice (p:Nat) (hp:p < 8) (x:UInt64) (d:DeedD) (hd:checkD d=0) (ht:∃ l ∈ lOf rs,l.peer=p∧l.id=x) (a:Option Addr) (cap:Nat) (hc:d.ins.length≤cap) (w:World) (hi:InsAt w a d.ins) (h:RefAt w G R rs v) (hl:rs.length≤1000) :
  Calls Tryz.prog 131 #[.pointer (some ⟨R.b,2,none⟩),.int .i64 p,.int .u64 x.toNat,.agg #[.slice a d.ins.length cap,.int .i64 d.outs,.int .i64 d.weight,.int .i64 d.fee]] w fun e w'=>e=.returned (.tuple #[.bool false,.int .i64 6])∧Below w.heap.size w w':=by
 have hk:=kept_new w (.cells #[.slice a d.ins.length cap,.int .i64 d.outs,.int .i64 d.weight,.int .i64 d.fee] 94)
 have HI:=Lib.hid (insAt_kept hk hi)
 have HD:=Lib.hid hd
 have HK:=Lib.hid hk
 have H:=Lib.hid (h.kept hk)
 have HT:Hid (rs.any (fun e=>e.l.peer == p && e.l.id == x)=true):=Lib.hid (by
  obtain ⟨l,hl,e1,e2⟩:=ht
  obtain ⟨r,hr,rfl⟩:=List.mem_map.1 hl
  exact List.any_eq_true.2 ⟨r,hr,by simp [e1,e2]⟩)
 clear hi hd hk h ht
 go_enter Tryz.func131,Tryz.ntmps131
 go_wp2_with fail
 with_reducible refine (badPeer_no p hp _).mono ?_
 rintro e w1 ⟨rfl,rfl⟩
 go_wp2_with fail
 with_reducible refine (refCheck_is d a cap _ 0 hc HI.out HD.out).mono ?_
 rintro e w1 ⟨rfl,hb1⟩
 have H1:=H.out.kept hb1
 obtain ⟨la,lcap,rfl,_,hat,-⟩:=ownR_form H1.row
 have hlc:=H1.cell.1
 have hlt:=H1.lt
 have HAT:=Lib.hid hat
 have HB1:=Lib.hid (kept_trans HK.out hb1)
 clear hb1 H1 hat
 go_wp2_with fail
 go_loopw [35] (fun i wr=>∃ k:Nat,k≤rs.length∧i=.int .i64 k∧Hid ((rs.take k).any (fun e=>e.l.peer == p && e.l.id == x)=false)∧Hid (Below w1.heap.size w1 wr)) (fun i _=>rs.length - (intOf i).toNat)
 case atStart=>exact ⟨0,Nat.zero_le _,rfl,Lib.hid rfl,Lib.hid (Below.refl _ _)⟩
 case round=>
  obtain ⟨k,hk,rfl,NO,HB⟩:=hrel
  by_cases hkl:k < rs.length
  ·obtain ⟨g,o,rfl,hg,c0,c1,c2,c3,c4,c5⟩:=lrsAt_kept HB.out HAT.out k hkl
   have HST:Hid ((rs.take (k+1)).any (fun e=>e.l.peer == p && e.l.id == x)=((rs.take k).any (fun e=>e.l.peer == p && e.l.id == x) || (rs[k].l.peer == p && rs[k].l.id == x))):=Lib.hid (by rw [List.take_succ_eq_append_getElem hkl,List.any_append];simp)
   obtain ⟨e0,he0⟩:∃ e0,rs[k]=e0:=⟨_,rfl⟩
   rw [he0] at c0 c1 c2 c3 c4 c5 HST
   have hq1:=beq_nat e0.l.peer p
   have hq2:((e0.l.id.toNat:Int) == (x.toNat:Int))=(e0.l.id == x):=u64_beq _ _
   clear he0
   cases h1:e0.l.peer == p with
   | true=>
    cases h2:e0.l.id == x with
    | true=>
     rw [h1] at hq1
     rw [h2] at hq2
     clear h1 h2
     go_wp2_with fail
     go_ret2
     exact ⟨rfl,kept_trans HB1.out (kept_alloc HB.out _)⟩
    | false=>
     rw [h1] at hq1 HST
     rw [h2] at hq2 HST
     clear h1 h2
     go_wp2_with fail
     go_roundw
     case rel=>exact ⟨k+1,by omega,by go_num,Lib.hid (by rw [HST.out,NO.out];rfl),Lib.hid (kept_alloc HB.out _)⟩
     case measure=>simp [intOf];omega
   | false=>
    rw [h1] at hq1 HST
    clear h1
    go_wp2_with fail
    go_roundw
    case rel=>exact ⟨k+1,by omega,by go_num,Lib.hid (by rw [HST.out,NO.out];rfl),Lib.hid (kept_alloc HB.out _)⟩
    case measure=>simp [intOf];omega
  ·exfalso
   have:=NO.out
   rw [List.take_of_length_le (by omega),HT.out] at this
   cases this
end Go.Proofs.YtlboemhbealnmaaGreat.Ho
