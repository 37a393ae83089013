import Derived.Test.YtlboemhbealnmaaGreatP18
import Derived.Deep.AppendLies
import Derived.Deep.RegionLaw
import Derived.Test.YtlboemhbealnmaaGreatP2
import Derived.Test.YtlboemhbealnmaaGreatP17
set_option maxRecDepth 20000
namespace Go.Proofs.YtlboemhbealnmaaGreat.Ms
open Go.RowKit
theorem two_boxes {w wr:World} {u0 u1 u2 v0 v1 v2:Value} {t:TypeId} (h:Below ((w.alloc (.cells #[u0,u1,u2] t)).alloc (.cells #[v0,v1,v2] t)).heap.size ((w.alloc (.cells #[u0,u1,u2] t)).alloc (.cells #[v0,v1,v2] t)) wr) :
  (wr.cell? ⟨w.heap.size,0,none⟩=some u0∧wr.cell? ⟨w.heap.size,1,none⟩=some u1∧wr.cell? ⟨w.heap.size,2,none⟩=some u2) ∧
  (wr.frozen? ⟨w.heap.size,0,none⟩=false∧wr.frozen? ⟨w.heap.size,1,none⟩=false∧wr.frozen? ⟨w.heap.size,2,none⟩=false) ∧
  wr.cell? ⟨w.heap.size+1,0,none⟩=some v0∧wr.cell? ⟨w.heap.size+1,1,none⟩=some v1∧wr.cell? ⟨w.heap.size+1,2,none⟩=some v2:=by
 have hl:=kept_trans (kept_new _ _) h
 obtain ⟨a0,a1,a2,_⟩:=box_three hl
 obtain ⟨m0,m1,m2⟩:=box_marks3 hl
 obtain ⟨b0,b1,b2,_⟩:=box_three h
 have e:(w.alloc (.cells #[u0,u1,u2] t)).heap.size=w.heap.size+1:=by simp
 rw [e] at b0 b1 b2
 exact ⟨⟨a0,a1,a2⟩,⟨m0,m1,m2⟩,b0,b1,b2⟩
theorem rdecode_none (s:ByteArray) (w:World) (hs:s.size=0):Calls Tryz.prog 58 #[.string s] w (GaveM w zeroM 3):=by
 have hb:((s.size:Int) == 0)=true:=beq_iff_eq.2 (by omega)
 go_enter Tryz.func58,Tryz.ntmps58
 go_wp2_with fail
 exact bodyPost_ret (v:=.tuple #[.agg #[.int .i64 0,.slice none 0 0,.string ⟨#[]⟩],.int .i64 3]) (by simp [results,Tryz.results58,go_sem]) rfl (gaveM_zero rfl (kept_new _ _))
theorem rdecode_kind (s:ByteArray) (w:World) (hp:0 < s.size) (hk:within (s[0].toNat:Int) 1 4=false):Calls Tryz.prog 58 #[.string s] w (GaveM w zeroM 1):=by
 have hb:((s.size:Int) == 0)=false:=beq_eq_false_iff_ne.2 (by omega)
 have hlt:=s[0].toNat_lt
 have HK:=Lib.hid hk
 clear hk
 go_enter Tryz.func58,Tryz.ntmps58
 go_wp2_with fail
 with_reducible refine (outside_yes _ _ _ _ HK.out).mono ?_
 rintro e w' ⟨rfl,rfl⟩
 go_wp2_with fail
 exact bodyPost_ret (v:=.tuple #[.agg #[.int .i64 0,.slice none 0 0,.string ⟨#[]⟩],.int .i64 1]) (by simp [results,Tryz.results58,go_sem]) rfl (gaveM_zero rfl (kept_alloc (kept_new _ _) _))
theorem rdecode_bring (s:ByteArray) (r:Int) (M X:MsgD) (w:World) (hp:0 < s.size) (hk:(s[0].toNat:Int)=3) (hM:M=⟨3,[],s.extract 1 s.size⟩) (hc:checkM M=r) (hX:X=if r=0 then M else zeroM) :
  Calls Tryz.prog 58 #[.string s] w (GaveM w X r):=by
 have hb:((s.size:Int) == 0)=false:=beq_eq_false_iff_ne.2 (by omega)
 have z1:(1:Int)≤(s.size:Int):=by omega
 obtain ⟨R,hR⟩:∃ R,s.extract 1 s.size=R:=⟨_,rfl⟩
 rw [hR] at hM
 subst hM
 have hchk:=fun wx=>rcheck_is ⟨3,[],R⟩ none 0 wx r (Nat.le_refl _) (idsAt_nil _ _) hc
 have hchk':∀ wx,Calls Tryz.prog 115 #[.agg #[.int .i64 3,.slice none 0 0,.string R]] wx fun e w'=>e=.returned (.int .i64 r)∧Below wx.heap.size wx w':=hchk
 clear hchk hc
 by_cases hr:r=0
 ·have hX':X=⟨3,[],R⟩:=by rw [hX,if_pos hr]
  clear hX
  subst hX' hr
  go_enter Tryz.func58,Tryz.ntmps58
  go_wp2_with fail
  with_reducible refine (outside_no _ _ _ _ (by decide)).mono ?_
  rintro e w' ⟨rfl,rfl⟩
  go_wp2_with fail
  with_reducible refine (hchk' _).mono ?_
  rintro e w1 ⟨rfl,hb1⟩
  obtain ⟨⟨c0,c1,c2⟩,⟨m0,m1,m2⟩,d0,d1,d2⟩:=two_boxes hb1
  have hk:=kept_trans (kept_alloc (kept_new _ _) _) hb1
  go_wp2_with fail
  refine bodyPost_ret (v:=.tuple #[.agg #[.int .i64 3,.slice none 0 0,.string R],.int .i64 0]) (by simp [results,Tryz.results58,go_sem,c0,c1,c2]) rfl ?_
  exact ⟨none,0,rfl,Nat.le_refl _,idsAt_nil _ _,(fun _ _ _ e=>by cases e),below_three hk _ _ _⟩
 ·have hX':X=zeroM:=by rw [hX,if_neg hr]
  clear hX
  subst hX'
  have hrb:(r != 0)=true:=by simpa using hr
  go_enter Tryz.func58,Tryz.ntmps58
  go_wp2_with fail
  with_reducible refine (outside_no _ _ _ _ (by decide)).mono ?_
  rintro e w' ⟨rfl,rfl⟩
  go_wp2_with fail
  with_reducible refine (hchk' _).mono ?_
  rintro e w1 ⟨rfl,hb1⟩
  obtain ⟨⟨c0,c1,c2⟩,⟨m0,m1,m2⟩,d0,d1,d2⟩:=two_boxes hb1
  have hk:=kept_trans (kept_alloc (kept_new _ _) _) hb1
  go_wp2_with fail
  refine bodyPost_ret (v:=.tuple #[.agg #[.int .i64 0,.slice none 0 0,.string ⟨#[]⟩],.int .i64 r]) (by simp [results,Tryz.results58,go_sem,c0,c1,c2]) rfl ?_
  exact gaveM_zero rfl (below_three hk _ _ _)
theorem rdecode_one (s:ByteArray) (w:World) (hp:0 < s.size) (hs:s.size=1) (hw:within (s[0].toNat:Int) 1 4=true) (hk:(s[0].toNat:Int)≠3):Calls Tryz.prog 58 #[.string s] w (GaveM w zeroM 3):=by
 have hb:((s.size:Int) == 0)=false:=beq_eq_false_iff_ne.2 (by omega)
 have hb1:((s.size:Int) == 1)=true:=beq_iff_eq.2 (by omega)
 have hlt:=s[0].toNat_lt
 have hk3:((s[0].toNat:Int) == 3)=false:=beq_eq_false_iff_ne.2 hk
 have HK:=Lib.hid hw
 clear hk hw hs
 go_enter Tryz.func58,Tryz.ntmps58
 go_wp2_with fail
 with_reducible refine (outside_no _ _ _ _ HK.out).mono ?_
 rintro e w' ⟨rfl,rfl⟩
 go_wp2_with fail
 exact bodyPost_ret (v:=.tuple #[.agg #[.int .i64 0,.slice none 0 0,.string ⟨#[]⟩],.int .i64 3]) (by simp [results,Tryz.results58,go_sem]) rfl (gaveM_zero rfl (kept_alloc (kept_new _ _) _))
theorem quo8 (n k:Nat) (hn:2≤n):(((n:Int) - 2).tdiv 8 < (k:Int)) ↔ n < 2+8 * k:=by
 rw [Int.tdiv_eq_ediv_of_nonneg (by omega)]
 omega
theorem rdecode_short (s:ByteArray) (w:World) (hm:s.size≤maxLen) (hp:1 < s.size) (hw:within (s[0].toNat:Int) 1 4=true) (hk:(s[0].toNat:Int)≠3) (hl:s.size < 2+8 * s[1].toNat):Calls Tryz.prog 58 #[.string s] w (GaveM w zeroM 3):=by
 unfold maxLen at hm
 have hp0:0 < s.size:=by omega
 have hb:((s.size:Int) == 0)=false:=beq_eq_false_iff_ne.2 (by omega)
 have hb1:((s.size:Int) == 1)=false:=beq_eq_false_iff_ne.2 (by omega)
 have hlt:=s[0].toNat_lt
 have hlt1:=s[1].toNat_lt
 have hk3:((s[0].toNat:Int) == 3)=false:=beq_eq_false_iff_ne.2 hk
 have hq:=(quo8 s.size s[1].toNat (by omega)).2 hl
 have HK:=Lib.hid hw
 clear hk hw
 go_enter Tryz.func58,Tryz.ntmps58
 go_wp2_with fail
 with_reducible refine (outside_no _ _ _ _ HK.out).mono ?_
 rintro e w' ⟨rfl,rfl⟩
 go_wp2_with fail
 exact bodyPost_ret (v:=.tuple #[.agg #[.int .i64 0,.slice none 0 0,.string ⟨#[]⟩],.int .i64 3]) (by simp [results,Tryz.results58,go_sem]) rfl (gaveM_zero rfl (kept_alloc (kept_new _ _) _))
theorem rdecode_long (s:ByteArray) (w:World) (hm:s.size≤maxLen) (hp:1 < s.size) (hw:within (s[0].toNat:Int) 1 4=true) (hk:(s[0].toNat:Int)≠3) (hl:2+8 * s[1].toNat < s.size):Calls Tryz.prog 58 #[.string s] w (GaveM w zeroM 4):=by
 unfold maxLen at hm
 have hp0:0 < s.size:=by omega
 have hb:((s.size:Int) == 0)=false:=beq_eq_false_iff_ne.2 (by omega)
 have hb1:((s.size:Int) == 1)=false:=beq_eq_false_iff_ne.2 (by omega)
 have hlt:=s[0].toNat_lt
 have hlt1:=s[1].toNat_lt
 have hk3:((s[0].toNat:Int) == 3)=false:=beq_eq_false_iff_ne.2 hk
 have hq:¬ ((s.size:Int) - 2).tdiv 8 < (s[1].toNat:Int):=fun h=>by have:=(quo8 s.size s[1].toNat (by omega)).1 h;omega
 have hne:((s.size:Int) - 2 != 8 * (s[1].toNat:Int))=true:=by rw [bne_iff_ne];omega
 have HK:=Lib.hid hw
 clear hk hw
 go_enter Tryz.func58,Tryz.ntmps58
 go_wp2_with fail
 with_reducible refine (outside_no _ _ _ _ HK.out).mono ?_
 rintro e w' ⟨rfl,rfl⟩
 go_wp2_with fail
 exact bodyPost_ret (v:=.tuple #[.agg #[.int .i64 0,.slice none 0 0,.string ⟨#[]⟩],.int .i64 4]) (by simp [results,Tryz.results58,go_sem]) rfl (gaveM_zero rfl (kept_alloc (kept_new _ _) _))
end Go.Proofs.YtlboemhbealnmaaGreat.Ms
namespace Go.Proofs.YtlboemhbealnmaaGreat.Ms
open Go.RowKit
theorem row_below {w w':World} {b n:Nat} {t:TypeId} {f:Nat→Value} (h:w.rowIs b t n f) (hb:Below w.heap.size w w'):w'.rowIs b t n f:=h.of_block (hb.block b h.lt)
theorem row_grown {w w':World} {b n:Nat} {t:TypeId} {f:Nat→Value} {row:Option Nat} (h:w.rowIs b t n f) (hg:w.grownBy w' row) (hne:some b≠row):w'.rowIs b t n f:=h.of_block (hg.block b h.lt hne)
theorem own_far {w:World} {B size n b:Nat} {e:TypeId} {v:Value} {xs:List Value} (h:w.ownsRow B e size v n xs) (hb:b < B):some b≠v.ownBlock:=fun hh=>by
 have:=(h.lt _ hh.symm).1
 omega
theorem grown_set (w:World) (p:Addr) (u:Value):w.grownBy (w.setCell p u) (some p.block):=
 ⟨rfl,rfl,rfl,by simp,fun k _ hk=>Below.heap_setCell w p u k (fun e=>hk (by rw [e]))⟩
def boxM (k:Int) (v:Value) (i:Nat):Value:=(#[.int .i64 k,v,.string ⟨#[]⟩][i]?).getD undef
theorem boxM_made (w:World) (k:Int):(w.alloc (.cells #[.int .i64 k,.slice none 0 0,.string ⟨#[]⟩] 113)).rowIs w.heap.size 113 3 (boxM k (.slice none 0 0)):=
 World.rowIs_alloc w #[.int .i64 k,.slice none 0 0,.string ⟨#[]⟩] 113 _ (fun i hi=>by
  have:i < 3:=hi
  match i,this with
  | 0,_=>rfl
  | 1,_=>rfl
  | 2,_=>rfl)
theorem boxM_set {w:World} {b:Nat} {k:Int} {v u:Value} (h:w.rowIs b 113 3 (boxM k v)):(w.setCell ⟨b,1,none⟩ u).rowIs b 113 3 (boxM k u):=
 (h.set 1 u).congr fun i hi=>by
  match i,hi with
  | 0,_=>rfl
  | 1,_=>rfl
  | 2,_=>rfl
theorem boxM_cells {w:World} {b:Nat} {k:Int} {v:Value} (h:w.rowIs b 113 3 (boxM k v)) :
  (w.cell? ⟨b,0,none⟩=some (.int .i64 k)∧w.cell? ⟨b,1,none⟩=some v∧w.cell? ⟨b,2,none⟩=some (.string ⟨#[]⟩))∧w.frozen? ⟨b,0,none⟩=false∧w.frozen? ⟨b,1,none⟩=false∧w.frozen? ⟨b,2,none⟩=false:=
 ⟨⟨h.cell (i:=0) (by omega),h.cell (i:=1) (by omega),h.cell (i:=2) (by omega)⟩,h.frozen 0,h.frozen 1,h.frozen 2⟩
theorem mref_round {w wr w1 w3:World} {k:Nat} {kk:Int} {v nv u:Value} {xs ys:List Value} {o:Obj} (HA:wr.rowIs w.heap.size 113 3 (boxM 0 (.slice none 0 0))) (HO:wr.ownsRow (w.heap.size+2) 22 1 v k xs)
  (hbel:Below w.heap.size w wr) (hb1:Below wr.drew.heap.size wr.drew w1) (hg:(w1.alloc o).grownBy w3 v.ownBlock) (hr3:w3.rowIs (w.heap.size+1) 113 3 (boxM kk v)) (hown3:w3.ownsRow (w.heap.size+2) 22 1 nv (k+1) ys)
  (hws:w.heap.size+2≤wr.heap.size) :
  Hid ((w3.setCell ⟨w.heap.size+1,1,none⟩ u).rowIs w.heap.size 113 3 (boxM 0 (.slice none 0 0)))∧Hid ((w3.setCell ⟨w.heap.size+1,1,none⟩ u).rowIs (w.heap.size+1) 113 3 (boxM kk u)) ∧
  Hid ((w3.setCell ⟨w.heap.size+1,1,none⟩ u).ownsRow (w.heap.size+2) 22 1 nv (k+1) ys)∧w.heap.size+2≤(w3.setCell ⟨w.heap.size+1,1,none⟩ u).heap.size∧Below w.heap.size w (w3.setCell ⟨w.heap.size+1,1,none⟩ u):=by
 have far:=own_far HO (b:=w.heap.size) (by omega)
 have hs:=hg.size
 have hs1:=hb1.size
 simp at hs hs1
 have hbw:Below w.heap.size w w1:=kept_trans hbel.drew hb1
 have hb3:Below w.heap.size w w3:=(kept_alloc hbw o).grown hg (by have:=hbw.size;simp;omega) (fun j hj=>by have:=(HO.lt j hj).1;omega)
 refine ⟨Lib.hid ?_,Lib.hid (boxM_set hr3),Lib.hid ?_,by simp;omega,hb3.setCell (by simp) _⟩
 ·exact (row_grown ((row_below HA.drew hb1).alloc o) hg far).setOther (by simp) _
 ·refine hown3.kept (grown_set w3 ⟨w.heap.size+1,1,none⟩ u) (Or.inr fun e=>?_)
  have:=(hown3.lt _ e).1
  simp at this
theorem idsOf_take_succ {n k:Nat} (r:List UInt8) (h:k < n):(idsOf n r).take (k+1)=(idsOf n r).take k ++ [numU ((r.drop (8 * k)).take 8)]:=by
 rw [List.take_succ_eq_append_getElem (by rw [idsOf_length];exact h),idsOf_at]
set_option maxHeartbeats 4000000 in
theorem rdecode_ids (s:ByteArray) (n:Nat) (r:Int) (M X:MsgD) (w:World) (hp:1 < s.size) (hw:within (s[0].toNat:Int) 1 4=true) (hk:(s[0].toNat:Int)≠3) (hn:s[1].toNat=n) (hs:s.size=2+8 * n)
  (hM:M=⟨(s[0].toNat:Int),idsOf n (s.data.toList.drop 2),⟨#[]⟩⟩) (hc:checkM M=r) (hX:X=if r=0 then M else zeroM) :
  Calls Tryz.prog 58 #[.string s] w (GaveM w X r):=by
 obtain ⟨i0,hi0,hz0,hz1,hz2⟩:=info_parts info_u64
 have hp0:0 < s.size:=by omega
 have hn255:n≤255:=by have:=s[1].toNat_lt;omega
 have hb:((s.size:Int) == 0)=false:=beq_eq_false_iff_ne.2 (by omega)
 have hb1:((s.size:Int) == 1)=false:=beq_eq_false_iff_ne.2 (by omega)
 have hlt:=s[0].toNat_lt
 obtain ⟨K,hK⟩:∃ K:Int,(s[0].toNat:Int)=K:=⟨_,rfl⟩
 have hK0:0≤K∧K≤255:=by omega
 obtain ⟨hK1,hK2⟩:=hK0
 have hk3:(K == 3)=false:=beq_eq_false_iff_ne.2 (by rw [← hK];exact hk)
 have hq:decide (((s.size:Int) - 2) / 8 < (n:Int))=false:=decide_eq_false (by omega)
 have hne:((s.size:Int) - 2 != 8 * (n:Int))=false:=by rw [bne_eq_false_iff_eq];omega
 have hm:s.size≤3000:=by omega
 obtain ⟨l,hl⟩:∃ l,s.data.toList=l:=⟨_,rfl⟩
 rw [hl,hK] at hM
 rw [hK] at hw
 have HS:=Lib.hid hs
 have HM:=Lib.hid hM
 have HC:=Lib.hid hc
 have HX:=Lib.hid hX
 have HL:=Lib.hid hl
 have HK:=Lib.hid hw
 clear hM hc hX hs hl hw hk
 have HB0:=Lib.hid ((boxM_made w 0).alloc (.cells #[.int .i64 K,.slice none 0 0,.string ⟨#[]⟩] 113))
 have HB1:=boxM_made (w.alloc (.cells #[.int .i64 0,.slice none 0 0,.string ⟨#[]⟩] 113)) K
 have hw0:(w.alloc (.cells #[.int .i64 0,.slice none 0 0,.string ⟨#[]⟩] 113)).heap.size=w.heap.size+1:=by simp
 rw [hw0] at HB1
 replace HB1:=Lib.hid HB1
 clear hw0
 go_enter Tryz.func58,Tryz.ntmps58
 go_wp2_with fail
 with_reducible refine (outside_no _ _ _ _ HK.out).mono ?_
 rintro e w' ⟨rfl,rfl⟩
 go_wp2_with fail
 go_loopw [5] (fun i wr=>∃ (k q:Nat) (v:Value),k≤n∧i=.int .i64 (q:Int)∧Hid (q=2+8 * k)∧Hid (wr.rowIs w.heap.size 113 3 (boxM 0 (.slice none 0 0)))∧Hid (wr.rowIs (w.heap.size+1) 113 3 (boxM K v)) ∧
  Hid (wr.ownsRow (w.heap.size+2) 22 1 v k (((idsOf n (l.drop 2)).take k).map idV))∧w.heap.size+2≤wr.heap.size∧Below w.heap.size w wr) (fun i _=>2+8 * n - (intOf i).toNat)
 case atStart=>exact ⟨0,2,_,Nat.zero_le _,rfl,Lib.hid rfl,HB0,HB1,Lib.hid (World.ownsRow_nil _ _ _ _),by simp,kept_alloc (kept_new _ _) _⟩
 case round=>
  clear HB0 HB1
  obtain ⟨k,q,v,hk,rfl,HQ,HA,HB,HO,hws,hbel⟩:=hrel
  have hqq:=HQ.out
  by_cases hlt:k < n
  ·obtain ⟨x,hx⟩:∃ x,numU (((l.drop 2).drop (8 * k)).take 8)=x:=⟨_,rfl⟩
   have hsz:=HS.out
   have g1:q+8≤s.size:=by omega
   have e1:(s.extract q (q+8)).data.toList=((l.drop 2).drop (8 * k)).take 8:=by rw [extract_mid,HL.out,List.drop_drop,← hqq];congr 1;omega
   have HX1:Hid (numU (s.extract q (q+8)).data.toList=x):=Lib.hid (by rw [e1];exact hx)
   have hse:(s.extract q (q+8)).size≤maxLen:=by rw [ByteArray.size_extract];unfold maxLen;omega
   have HXX:=Lib.hid hx
   have z1:IntKind.i64.wrap ((q:Int)+8)=(q:Int)+8:=IntWalk.i64_in _ (by omega)
   have z2:((q:Int)+8).toNat=q+8:=by omega
   have z3:(q:Int)+8≤(s.size:Int):=by omega
   have z5:(0:Int)≤(q:Int)+8:=by omega
   have z6:(q:Int)≤(q:Int)+8:=by omega
   have y1:(q:Int) < (s.size:Int):=by omega
   have hc1:wr.cell? ⟨w.heap.size+1,1,none⟩=some v:=HB.out.cell (i:=1) (by omega)
   have hone:∀ u ∈ [Value.int .u64 x.toNat],u.oneCell'=true:=by simp [Value.oneCell']
   clear hx e1 hqq hsz
   go_wp2_with fail
   go_region_law (first
    | (go_simp;go_at_call 114;(with_reducible refine (refNumber_is _ x _ hse HX1.out).mono ?_);rintro e w1 ⟨rfl,hb1⟩;have ho1:=owns_below HO.out.drew hb1;have hr1:=row_below HB.out.drew hb1;have hd1:=hr1.cell (i:=1) (by omega);have hz1':=hr1.lt)
    | (refine step_append_lies _ (by rfl) _ _ _ (by rfl) (w.heap.size+2) 22 i0 _ 1 8 Tryz.underlying39 hi0 hz0 hz1 hz2 rfl (by omega) v k _ (by rfl) (ho1.alloc _) ⟨w1.heap.size,0,none⟩ 1 1 [.int .u64 x.toNat] (by rfl) (by rfl) (cells_new w1 _ _) hone (by omega) (by unfold maxLen;omega) (by omega) (by have:=hb1.size;simp at this ⊢;omega) _ rfl ?_;intro g cap w3 hown3 hgrow3 hat3 hlt3;have hr3:=row_grown (hr1.alloc _) hgrow3 (own_far ho1 (by omega));have s0:=hr3.cell (i:=1) (by omega);have s1:=hr3.frozen 1))
   all_goals
    go_wp2_with fail
    obtain ⟨t1,t2,t3,t4,t5⟩:=mref_round (u:=.slice (some ⟨g,0,none⟩) (k+1) cap) HA.out HO.out hbel hb1 hgrow3 hr3 hown3 hws
    go_roundw
    case rel=>
     refine ⟨k+1,q+8,_,by omega,by go_num,Lib.hid (by have:=HQ.out;omega),t1,t2,?_,t4,t5⟩
     rw [idsOf_take_succ _ hlt,List.map_append,HXX.out]
     exact t3
    case measure=>have:=HQ.out;simp [intOf];omega
  ·obtain rfl:k=n:=by omega
   have hsz:=HS.out
   have hq2:q=s.size:=by omega
   have y1:¬ (q:Int) < (s.size:Int):=by omega
   have hMM:=HM.out
   have hlen:M.ids.length=k:=by rw [hMM];exact idsOf_length _ _
   have hkd:M.kind=K:=by rw [hMM]
   have hbd:M.body=⟨#[]⟩:=by rw [hMM]
   have HO':=HO.out
   rw [List.take_of_length_le (by rw [idsOf_length];omega),show idsOf k (l.drop 2)=M.ids by rw [hMM],← hlen] at HO'
   obtain ⟨a,cap,hv,hcap,hia,hfr⟩:=owns_idsAt HO'
   have hchk:=fun wx hx=>rcheck_is M a cap wx r hcap hx HC.out
   rw [hkd,hbd,hlen] at hchk
   rw [hlen] at hv
   subst hv
   obtain ⟨⟨d0,d1,d2⟩,_⟩:=boxM_cells HB.out
   have hzz:=HB.out.lt
   have HDS:=Lib.hid (And.intro hlen (And.intro hkd hbd))
   clear hsz hq2 hqq hMM hlen hkd hbd HO'
   by_cases hr:r=0
   ·have hX:X=M:=by rw [HX.out,if_pos hr]
    subst hr
    go_wp2_with fail
    with_reducible refine (hchk _ hia).mono ?_
    rintro e w2 ⟨rfl,hb2⟩
    have hi2:=idsAt_kept hb2 hia
    have bel2:=kept_trans hbel hb2
    obtain ⟨⟨c0,c1,c2⟩,m0,m1,m2⟩:=boxM_cells (row_below HA.out hb2)
    clear d0 d1 d2
    obtain ⟨⟨d0,d1,d2⟩,_⟩:=boxM_cells (row_below HB.out hb2)
    have hz2:w.heap.size+1 < w2.heap.size:=Nat.lt_of_lt_of_le hzz hb2.size
    go_wp2_with fail
    refine bodyPost_ret (v:=.tuple #[.agg #[.int .i64 K,.slice a k cap,.string ⟨#[]⟩],.int .i64 0]) (by simp [results,Tryz.results58,go_sem,c0,c1,c2]) rfl ?_
    obtain ⟨e1,e2,e3⟩:=HDS.out
    rw [hX]
    exact ⟨a,cap,by rw [e1,e2,e3],hcap,idsAt_set (idsAt_set (idsAt_set hi2 hfr (by simp) _) hfr (by simp) _) hfr (by simp) _,fun b o sp e=>by have:=hfr b o sp e;omega,below_three bel2 _ _ _⟩
   ·have hX:X=zeroM:=by rw [HX.out,if_neg hr]
    have hrb:(r != 0)=true:=by simpa using hr
    go_wp2_with fail
    with_reducible refine (hchk _ hia).mono ?_
    rintro e w2 ⟨rfl,hb2⟩
    have bel2:=kept_trans hbel hb2
    obtain ⟨⟨c0,c1,c2⟩,m0,m1,m2⟩:=boxM_cells (row_below HA.out hb2)
    go_wp2_with fail
    refine bodyPost_ret (v:=.tuple #[.agg #[.int .i64 0,.slice none 0 0,.string ⟨#[]⟩],.int .i64 r]) (by simp [results,Tryz.results58,go_sem,c0,c1,c2]) rfl ?_
    rw [hX]
    exact gaveM_zero rfl (below_three bel2 _ _ _)
end Go.Proofs.YtlboemhbealnmaaGreat.Ms
namespace Go.Proofs.YtlboemhbealnmaaGreat.Ms
open Go.RowKit
theorem rencode_err (m:MsgD) (a:Option Addr) (cap:Nat) (w:World) (r:Int) (hc:m.ids.length≤cap) (hi:IdsAt w a m.ids) (h:checkM m=r) (hr:r≠0) :
  Calls Tryz.prog 120 #[.agg #[.int .i64 m.kind,.slice a m.ids.length cap,.string m.body]] w fun e w'=>e=.returned (.tuple #[.string ⟨#[]⟩,.int .i64 r])∧Below w.heap.size w w':=by
 have HR:=Lib.hid h
 clear h
 have hrb:(r != 0)=true:=by simpa using hr
 have hk:=kept_new w (msgBox a cap m)
 have hi0:=idsAt_kept hk hi
 go_enter Tryz.func120,Tryz.ntmps120
 go_wp2_with fail
 with_reducible refine (rcheck_is m _ _ _ r hc hi0 HR.out).mono ?_
 rintro e w1 ⟨rfl,hb1⟩
 go_wp2_with fail
 go_ret2
 exact ⟨rfl,kept_trans hk hb1⟩
theorem rencode_bring (m:MsgD) (a:Option Addr) (cap:Nat) (w:World) (E:ByteArray) (hc:m.ids.length≤cap) (hi:IdsAt w a m.ids) (h:checkM m=0) (h3:m.kind=3) (hE:str (encM m)=E) :
  Calls Tryz.prog 120 #[.agg #[.int .i64 m.kind,.slice a m.ids.length cap,.string m.body]] w fun e w'=>e=.returned (.tuple #[.string E,.int .i64 0])∧Below w.heap.size w w':=by
 have hs:m.body.size≤100:=by
  rcases (checkM_ok h).2 with ⟨_,_,_,h4⟩ | ⟨h4,_⟩
  ·exact h4
  ·exact absurd h3 h4
 obtain ⟨s1,hs1⟩:∃ s,s=str [UInt8.ofNat m.kind.toNat]:=⟨_,rfl⟩
 have hz1:s1.size=1:=by rw [hs1,str_size];rfl
 have hq1:¬ 9223372036854775807 < s1.size+m.body.size:=by omega
 have HE:Hid (s1 ++ m.body=E):=Lib.hid (by
  rw [← hE,hs1,encM_bring h3,str_append]
  congr 1)
 have hwr:IntKind.u64.wrap m.kind=m.kind:=by rw [h3];rfl
 have H1:=Lib.hid hs1
 have HR:=Lib.hid h
 have h3b:(m.kind == 3)=true:=beq_iff_eq.2 h3
 have hk0:0≤m.kind:=by omega
 have hk4:m.kind≤4:=by omega
 have hk:=kept_new w (msgBox a cap m)
 have hia:=idsAt_kept hk hi
 clear h hE h3 hi hs1 hz1
 go_enter Tryz.func120,Tryz.ntmps120
 go_wp2_with fail
 with_reducible refine (rcheck_is m _ _ _ 0 hc hia HR.out).mono ?_
 rintro e w1 ⟨rfl,hb1⟩
 obtain ⟨c0,c1,c2,hws⟩:=box_three hb1
 have hk1:=kept_trans hk hb1
 go_wp2_with fail
 with_reducible refine (digits1 _ s1 _ hk0 (by omega) H1.out).mono ?_
 rintro e w2 ⟨rfl,hb2⟩
 have d0:=kept_cell hb2 c0
 have d2:=kept_cell hb2 c2
 have hws2:w.heap.size < w2.heap.size:=Nat.lt_of_lt_of_le hws hb2.size
 go_wp2_with fail
 go_ret2
 exact ⟨by rw [HE.out];rfl,kept_trans hk1 hb2⟩
set_option maxHeartbeats 1000000 in
theorem rencode_ids (m:MsgD) (a:Option Addr) (cap:Nat) (w:World) (E:ByteArray) (hc:m.ids.length≤cap) (hi:IdsAt w a m.ids) (h:checkM m=0) (h3:m.kind≠3) (hE:str (encM m)=E) :
  Calls Tryz.prog 120 #[.agg #[.int .i64 m.kind,.slice a m.ids.length cap,.string m.body]] w fun e w'=>e=.returned (.tuple #[.string E,.int .i64 0])∧Below w.heap.size w w':=by
 obtain ⟨hwk,hl0,hl20⟩:within m.kind 1 4=true∧0 < m.ids.length∧m.ids.length≤20:=by
  rcases (checkM_ok h) with ⟨hw,⟨h4,_⟩ | ⟨_,_,h5,h6,_⟩⟩
  ·exact absurd h4 h3
  ·exact ⟨hw,h5,h6⟩
 have hkb:=within_known hwk
 obtain ⟨s1,hs1⟩:∃ s,s=str [UInt8.ofNat m.kind.toNat]:=⟨_,rfl⟩
 obtain ⟨s2,hs2⟩:∃ s,s=str [UInt8.ofNat (m.ids.length:Int).toNat]:=⟨_,rfl⟩
 have hz1:s1.size=1:=by rw [hs1,str_size];rfl
 have hz2:s2.size=1:=by rw [hs2,str_size];rfl
 have hq1:¬ 9223372036854775807 < s1.size+s2.size:=by omega
 have HP:Hid (s1 ++ s2=str ([UInt8.ofNat m.kind.toNat] ++ [UInt8.ofNat m.ids.length])):=Lib.hid (by
  rw [hs1,hs2,str_append,Int.toNat_natCast])
 have HE:Hid (str ([UInt8.ofNat m.kind.toNat] ++ [UInt8.ofNat m.ids.length] ++ encI m.ids)=E):=Lib.hid (by rw [← hE,encM_ids h3])
 have hwr:IntKind.u64.wrap m.kind=m.kind:=by rw [IntKind.wrap_u64];omega
 have H1:=Lib.hid hs1
 have H2:=Lib.hid hs2
 have HR:=Lib.hid h
 have h3b:(m.kind == 3)=false:=beq_eq_false_iff_ne.2 h3
 have hk0:0≤m.kind:=by omega
 have hk4:m.kind≤4:=by omega
 have hk:=kept_new w (msgBox a cap m)
 have hia:=idsAt_kept hk hi
 clear h hE h3 hi hs1 hs2 hz1 hz2 hkb hwk
 go_enter Tryz.func120,Tryz.ntmps120
 go_wp2_with fail
 with_reducible refine (rcheck_is m _ _ _ 0 hc hia HR.out).mono ?_
 rintro e w1 ⟨rfl,hb1⟩
 obtain ⟨c0,c1,c2,hws⟩:=box_three hb1
 have hk1:=kept_trans hk hb1
 have hi1:=idsAt_kept hb1 hia
 clear hk hb1 hia
 go_wp2_with fail
 with_reducible refine (digits1 _ s1 _ hk0 (by omega) H1.out).mono ?_
 rintro e w2 ⟨rfl,hb2⟩
 have d0:=kept_cell hb2 c0
 have d1:=kept_cell hb2 c1
 have hws2:w.heap.size < w2.heap.size:=Nat.lt_of_lt_of_le hws hb2.size
 clear c0 c1 c2
 go_wp2_with fail
 with_reducible refine (digits1 _ s2 _ (by omega) (by omega) H2.out).mono ?_
 rintro e w3 ⟨rfl,hb3⟩
 have f1:=kept_cell hb3 d1
 have hws3:w.heap.size < w3.heap.size:=Nat.lt_of_lt_of_le hws2 hb3.size
 have hi3:=idsAt_kept (kept_trans hb2 hb3) hi1
 have hk3:=kept_trans (kept_trans hk1 hb2) hb3
 clear d0 d1 hi1 hb2 hb3
 go_wp2_with fail
 go_loopw [5,34] (fun u i wr=>∃ (k:Nat) (S:ByteArray),k≤m.ids.length∧i=.int .i64 k∧u=.string S∧Hid (S=str ([UInt8.ofNat m.kind.toNat] ++ [UInt8.ofNat m.ids.length] ++ encI (m.ids.take k)))∧Below w3.heap.size w3 wr) (fun _ i _=>m.ids.length - (intOf i).toNat)
 case atStart=>exact ⟨0,_,Nat.zero_le _,rfl,rfl,Lib.hid (by rw [HP.out];simp [encI]),Below.refl _ _⟩
 case round=>
  obtain ⟨k,S,hk,rfl,rfl,HS,hbr⟩:=hrel
  have hSz:S.size≤200:=by rw [HS.out,str_size,List.length_append,encI_length,List.length_take];simp;omega
  by_cases hlt:k < m.ids.length
  ·obtain ⟨b,oo,rfl,hb,hd⟩:=idsAt_kept hbr hi3 k hlt
   obtain ⟨s8,hs8⟩:∃ s,s=str (be 8 m.ids[k].toNat):=⟨_,rfl⟩
   have hz8:s8.size=8:=by rw [hs8,str_size,be_length]
   have hq8:¬ 9223372036854775807 < S.size+s8.size:=by omega
   have HN:Hid (S ++ s8=str ([UInt8.ofNat m.kind.toNat] ++ [UInt8.ofNat m.ids.length] ++ encI (m.ids.take (k+1)))):=Lib.hid (by
    rw [encI_take hlt,HS.out,hs8,← str_append]
    simp)
   have H8:=Lib.hid hs8
   clear hs8 hz8 hSz
   go_wp2_with fail
   with_reducible refine (digits8 _ s8 _ H8.out).mono ?_
   rintro e w4 ⟨rfl,hb4⟩
   go_wp2_with fail
   go_roundw
   case rel=>exact ⟨k+1,_,by omega,by go_num,rfl,Lib.hid HN.out,kept_trans hbr hb4⟩
   case measure=>simp [intOf];omega
  ·have hS:S=E:=by rw [HS.out,List.take_of_length_le (by omega),HE.out]
   have HSE:=Lib.hid hS
   clear hS
   go_wp2_with fail
   go_ret2
   exact ⟨by rw [HSE.out];rfl,kept_trans hk3 hbr⟩
def ansE (m:MsgD):ByteArray:=if checkM m=0 then str (encM m) else ⟨#[]⟩
theorem ansE_ok {m:MsgD} (h:checkM m=0):ansE m=str (encM m):=if_pos h
theorem rencode_all (m:MsgD) (a:Option Addr) (cap:Nat) (w:World) (r:Int) (E:ByteArray) (hc:m.ids.length≤cap) (hi:IdsAt w a m.ids) (h:checkM m=r) (hE:ansE m=E) :
  Calls Tryz.prog 120 #[.agg #[.int .i64 m.kind,.slice a m.ids.length cap,.string m.body]] w fun e w'=>e=.returned (.tuple #[.string E,.int .i64 r])∧Below w.heap.size w w':=by
 unfold ansE at hE
 by_cases h0:checkM m=0
 ·rw [if_pos h0] at hE
  rw [h0] at h
  subst h
  by_cases h3:m.kind=3
  ·exact rencode_bring m a cap w E hc hi h0 h3 hE
  ·exact rencode_ids m a cap w E hc hi h0 h3 hE
 ·rw [if_neg h0] at hE
  subst hE
  exact rencode_err m a cap w r hc hi h (by rw [← h];exact h0)
end Go.Proofs.YtlboemhbealnmaaGreat.Ms
