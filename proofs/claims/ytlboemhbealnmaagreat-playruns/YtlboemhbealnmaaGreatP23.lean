import Derived.Test.YtlboemhbealnmaaGreatP22
set_option maxRecDepth 20000
namespace Go.Proofs.YtlboemhbealnmaaGreat.Ju
open Go.RowKit Go.Maps
variable {w w':World} {F:Nat→Prop} {R:Loc} {L:List DeedD}
def LedL (w:World) (F:Nat→Prop) (R:Loc) (L:List DeedD):Prop:=∃ b s n ev v,n≤8 * L.length∧LedAt w F R (findL L) (L.map idD) (insL L) b s n ev v
theorem LedL.same (h:LedL w F R L) (e:∀ k,k < w.heap.size→F k→w'.heap[k]?=w.heap[k]?) (hs:w.heap.size≤w'.heap.size):LedL w' F R L:=by
 obtain ⟨b,s,n,ev,v,hn,h⟩:=h
 exact ⟨b,s,n,ev,v,hn,h.same e hs⟩
theorem LedL.kept (h:LedL w F R L) (hb:Below w.heap.size w w'):LedL w' F R L:=h.same (fun k hk _=>hb.block k hk) hb.size
theorem LedL.there (h:LedL w F R L):There w F:=by
 obtain ⟨b,s,n,ev,v,hn,h⟩:=h
 exact h.there
theorem hasL_any (x:UInt64) (w:World) (h:LedL w F R L) (r:Bool) (hr:(findL L x).isSome=r) :
  Calls Tryz.prog 100 #[.pointer (some ⟨R.b,29,none⟩),.int .u64 x.toNat] w fun e w'=>e=.returned (.bool r)∧Below w.heap.size w w':=by
 obtain ⟨b,s,n,ev,v,hn,h⟩:=h
 exact hasJ_any x w h r hr
theorem deedL_any (x:UInt64) (w:World) (h:LedL w F R L):Calls Tryz.prog 94 #[.pointer (some ⟨R.b,29,none⟩),.int .u64 x.toNat] w (DeedAns w (findL L x)):=by
 obtain ⟨b,s,n,ev,v,hn,h⟩:=h
 exact deedJ_any x w h
theorem allL_any (w:World) (h:LedL w F R L) (hl:L.length≤10000000000000):Calls Tryz.prog 34 #[.pointer (some ⟨R.b,29,none⟩)] w (GaveIds w (L.map idD)):=by
 obtain ⟨b,s,n,ev,v,hn,h⟩:=h
 exact allJ_any w h (by simpa using hl)
theorem judgeL_any (d:DeedD) (a:Option Addr) (cap:Nat) (w:World) (h:LedL w F R L) (hi:InsAt w a d.ins) :
  Calls Tryz.prog 162 #[.pointer (some ⟨R.b,29,none⟩),.agg #[.slice a d.ins.length cap,.int .i64 d.outs,.int .i64 d.weight,.int .i64 d.fee]] w (GaveJ w (judgeL L d)):=by
 obtain ⟨b,s,n,ev,v,hn,h⟩:=h
 exact judge_any d a cap w h hi
theorem addL_any (d:DeedD) (a:Option Addr) (cap:Nat) (hl:L.length≤5000000000000) (hd:checkD d=0) (hx:findL L (idD d)=none) (w:World) (h:LedL w F R L) (hi:InsAt w a d.ins) (hout:∀ bb o,d.ins≠[]→a=some ⟨bb,o,none⟩→¬ F bb) :
  Calls Tryz.prog 208 #[.pointer (some ⟨R.b,29,none⟩),.int .u64 (idD d).toNat,.agg #[.slice a d.ins.length cap,.int .i64 d.outs,.int .i64 d.weight,.int .i64 d.fee]] w fun e w'=>e=.returned (.tuple #[])∧∃ F',LedL w' F' R (L ++ [d])∧Turn F F' w w':=by
 obtain ⟨b,s,n,ev,v,hn,h⟩:=h
 refine (add_any (idD d) d a cap (fun y hy=>findL_keys hy) (by simpa using hl) (by omega) hd w h hi hout).mono ?_
 rintro e w' ⟨rfl,F',ev',v',h1,h2⟩
 refine ⟨rfl,F',⟨b,s,n+d.ins.length,ev',v',?_,?_⟩,h2⟩
 rotate_left
 ·rw [findL_new hx,List.map_append,insL_snoc]
  exact h1
 ·have:=(check_ok hd).1
  rw [List.length_append]
  simp only [List.length_cons,List.length_nil]
  omega
set_option maxRecDepth 20000 in
theorem acceptL_any (d:DeedD) (a:Option Addr) (cap:Nat) (hl:L.length≤5000000000000) (w:World) (h:LedL w F R L) (hi:InsAt w a d.ins) (hout:∀ bb o,d.ins≠[]→a=some ⟨bb,o,none⟩→¬ F bb) (r:Int) (L':List DeedD) (hr:acceptL L d=(r,L')) :
  Calls Tryz.prog 190 #[.pointer (some ⟨R.b,29,none⟩),.agg #[.slice a d.ins.length cap,.int .i64 d.outs,.int .i64 d.weight,.int .i64 d.fee]] w fun e w'=>e=.returned (.int .i64 r)∧∃ F',LedL w' F' R L'∧Turn F F' w w':=by
 have hk0:=kept_new w (.cells #[.slice a d.ins.length cap,.int .i64 d.outs,.int .i64 d.weight,.int .i64 d.fee] 94)
 have H:=Lib.hid (h.kept hk0)
 have HI:=Lib.hid (insAt_kept hk0 hi)
 have HK:=Lib.hid hk0
 have HOUT:=Lib.hid hout
 unfold acceptL at hr
 clear h hi hk0 hout
 by_cases h0:checkD d=0
 ·rw [if_neg (not_not_intro h0)] at hr
  have HC:=Lib.hid h0
  cases hf:(findL L (idD d)).isSome with
  | true=>
   rw [if_pos hf] at hr
   simp only [Prod.mk.injEq] at hr
   obtain ⟨rfl,rfl⟩:=hr
   have HF:=Lib.hid hf
   clear hf h0
   go_enter Tryz.func190,Tryz.ntmps190
   go_wp2_with fail
   with_reducible refine (id_ok d _ _ _ HI.out HC.out).mono ?_
   rintro e w1 ⟨rfl,hb1⟩
   have H1:=Lib.hid (H.out.kept hb1)
   go_wp2_with fail
   with_reducible refine (hasL_any (idD d) _ H1.out true HF.out).mono ?_
   rintro e w2 ⟨rfl,hb2⟩
   go_wp2_with fail
   go_ret
   exact ⟨rfl,F,H1.out.kept hb2,Turn.of_below (kept_trans (kept_trans HK.out hb1) hb2)⟩
  | false=>
   rw [if_neg (by rw [hf];simp)] at hr
   have hfn:findL L (idD d)=none:=by cases hq:findL L (idD d) with | none=>rfl | some y=>rw [hq] at hf;cases hf
   have HFN:=Lib.hid hfn
   have HF:=Lib.hid hf
   obtain ⟨st,hst⟩:∃ st,stateL L d=st:=⟨_,rfl⟩
   have HJ:Hid (judgeL L d=(st,missL (findL L) d.ins,0)):=Lib.hid (by unfold judgeL;rw [if_neg (not_not_intro h0),hst])
   have hsb:st=0∨st=1∨st=2∨st=3:=by
    rw [← hst]
    unfold stateL stateM payI
    split
    ·simp
    ·split
     ·simp
     ·split <;> simp
   rw [hst] at hr
   clear hst hf hfn h0
   by_cases hge:st ≥ 2
   ·rw [if_pos hge] at hr
    simp only [Prod.mk.injEq] at hr
    obtain ⟨rfl,rfl⟩:=hr
    have hst:st=2∨st=3:=by omega
    clear hge hsb
    go_enter Tryz.func190,Tryz.ntmps190
    go_wp2_with fail
    with_reducible refine (id_ok d _ _ _ HI.out HC.out).mono ?_
    rintro e w1 ⟨rfl,hb1⟩
    have H1:=Lib.hid (H.out.kept hb1)
    go_wp2_with fail
    with_reducible refine (hasL_any (idD d) _ H1.out false HF.out).mono ?_
    rintro e w2 ⟨rfl,hb2⟩
    have hb12:=kept_trans hb1 hb2
    obtain ⟨c0,c1,c2,c3,hs1⟩:=box_four hb12
    have HI2:=Lib.hid (insAt_kept hb12 HI.out)
    have H2:=Lib.hid (H1.out.kept hb2)
    have HB2:=Lib.hid (kept_trans HK.out hb12)
    clear hb1 hb2 hb12
    go_wp2_with fail
    with_reducible refine (judgeL_any d a cap _ H2.out HI2.out).mono ?_
    rw [HJ.out]
    rintro e w3 ⟨a3,c3',rfl,ho3,hb3⟩
    have HB3:=Lib.hid (kept_trans HB2.out hb3)
    have H3:=Lib.hid (H2.out.kept hb3)
    clear ho3 hb3
    simp only
    rcases hst with rfl | rfl
    ·go_wp2_with fail
     go_ret
     exact ⟨rfl,F,H3.out,Turn.of_below HB3.out⟩
    ·go_wp2_with fail
     go_ret
     exact ⟨rfl,F,H3.out,Turn.of_below HB3.out⟩
   ·rw [if_neg hge] at hr
    simp only [Prod.mk.injEq] at hr
    obtain ⟨rfl,rfl⟩:=hr
    have hst:st=0∨st=1:=by omega
    clear hge hsb
    go_enter Tryz.func190,Tryz.ntmps190
    go_wp2_with fail
    with_reducible refine (id_ok d _ _ _ HI.out HC.out).mono ?_
    rintro e w1 ⟨rfl,hb1⟩
    have H1:=Lib.hid (H.out.kept hb1)
    go_wp2_with fail
    with_reducible refine (hasL_any (idD d) _ H1.out false HF.out).mono ?_
    rintro e w2 ⟨rfl,hb2⟩
    have hb12:=kept_trans hb1 hb2
    obtain ⟨c0,c1,c2,c3,hs1⟩:=box_four hb12
    have HI2:=Lib.hid (insAt_kept hb12 HI.out)
    have H2:=Lib.hid (H1.out.kept hb2)
    have HB2:=Lib.hid (kept_trans HK.out hb12)
    clear hb1 hb2 hb12
    go_wp2_with fail
    with_reducible refine (judgeL_any d a cap _ H2.out HI2.out).mono ?_
    rw [HJ.out]
    rintro e w3 ⟨a3,c3',rfl,ho3,hb3⟩
    have d0:=kept_cell hb3 c0
    have d1:=kept_cell hb3 c1
    have d2:=kept_cell hb3 c2
    have d3:=kept_cell hb3 c3
    have d4:=(cell_spot d0).2
    have HB3:=Lib.hid (kept_trans HB2.out hb3)
    have HI3:=Lib.hid (insAt_kept hb3 HI2.out)
    have H3:=Lib.hid (H2.out.kept hb3)
    clear ho3 hb3
    simp only
    rcases hst with rfl | rfl
    ·go_wp2_with fail
     with_reducible refine (addL_any d a cap hl HC.out HFN.out _ H3.out HI3.out HOUT.out).mono ?_
     rintro e w4 ⟨rfl,F4,h4,t4⟩
     have H4:=Lib.hid h4
     have T4:=Lib.hid t4
     clear h4 t4
     go_wp2_with fail
     go_ret
     exact ⟨rfl,F4,H4.out,(Turn.of_below HB3.out).trans T4.out⟩
    ·go_wp2_with fail
     with_reducible refine (addL_any d a cap hl HC.out HFN.out _ H3.out HI3.out HOUT.out).mono ?_
     rintro e w4 ⟨rfl,F4,h4,t4⟩
     have H4:=Lib.hid h4
     have T4:=Lib.hid t4
     clear h4 t4
     go_wp2_with fail
     go_ret
     exact ⟨rfl,F4,H4.out,(Turn.of_below HB3.out).trans T4.out⟩
 ·rw [if_pos h0] at hr
  simp only [Prod.mk.injEq] at hr
  obtain ⟨hr,rfl⟩:=hr
  rw [hr] at h0
  have HR:=Lib.hid hr
  have hrb:(r != 0)=true:=by simpa using h0
  clear hr
  go_enter Tryz.func190,Tryz.ntmps190
  go_wp2_with fail
  with_reducible refine (id_err d _ _ _ r HI.out HR.out h0).mono ?_
  rintro e w1 ⟨rfl,hb1⟩
  go_wp2_with fail
  go_ret
  exact ⟨rfl,F,H.out.kept hb1,Turn.of_below (kept_trans HK.out hb1)⟩
end Go.Proofs.YtlboemhbealnmaaGreat.Ju
namespace Go.Proofs.YtlboemhbealnmaaGreat.Ju
open Go.RowKit Go.Maps
theorem inFind_any (x:InD) (l:List InD) (a:Option Addr) (cp:Nat) (w:World) (hl:l.length≤1000) (hi:InsAt w a l) :
  Calls Tryz.prog 233 #[.slice a l.length cp,.agg #[.int .u64 x.1.toNat,.int .i64 x.2]] w fun e w'=>e=.returned (.int .i64 (firstAt (fun y=>x == y) l))∧Below w.heap.size w w':=by
 have hi0:=insAt_kept (kept_new w (.cells #[.int .u64 x.1.toNat,.int .i64 x.2] 180)) hi
 go_enter Tryz.func233,Tryz.ntmps233
 go_wp2
 go_loopw [8] (fun i wr=>∃ k:Nat,k≤l.length∧i=.int .i64 k∧Hid ((l.take k).findIdx? (fun y=>x == y)=none)∧Below (w.alloc (.cells #[.int .u64 x.1.toNat,.int .i64 x.2] 180)).heap.size (w.alloc (.cells #[.int .u64 x.1.toNat,.int .i64 x.2] 180)) wr) (fun i _=>l.length - (intOf i).toNat)
 case atStart=>exact ⟨0,Nat.zero_le _,rfl,Lib.hid rfl,Below.refl _ _⟩
 case round=>
  obtain ⟨k,hk,rfl,NO,hbel⟩:=hrel
  obtain ⟨hx0,hx1,hws⟩:=box_pair hbel
  have hkw:=kept_trans (kept_new _ _) hbel
  by_cases hlt:k < l.length
  ·obtain ⟨b,o,rfl,hb,c0,c1,_⟩:=insAt_kept hbel hi0 k hlt
   have hq:=fun wx=>run_eq_in x l[k] wx
   cases hx:(x == l[k]) with
   | true=>
    rw [hx] at hq
    have HX:=Lib.hid hx
    clear hx
    go_wp2_with fail
    go_quiet (fail)
    go_wp2
    go_ret
    exact ⟨ret_i64 (firstAt_hit hlt NO.out HX.out).symm,below_drewN hkw _⟩
   | false=>
    rw [hx] at hq
    have HX:=Lib.hid hx
    clear hx
    go_wp2_with fail
    go_quiet (fail)
    go_wp2
    go_roundw
    case rel=>exact ⟨k+1,by omega,by go_num,Lib.hid (firstAt_miss hlt NO.out HX.out),below_drewN hbel _⟩
    case measure=>simp [intOf];omega
  ·go_wp2
   go_ret
   refine ⟨ret_i64 ?_,hkw⟩
   have:=NO.out
   rw [List.take_of_length_le (by omega)] at this
   unfold firstAt
   rw [this]
theorem any_containsI (x:InD) (l:List InD):(l.any fun y=>x == y)=l.contains x:=by
 rw [Bool.eq_iff_iff,List.any_eq_true,List.contains_iff_mem]
 constructor
 ·rintro ⟨y,hy,e⟩
  rw [beq_iff_eq.1 e]
  exact hy
 ·exact fun h=>⟨x,h,by simp⟩
theorem inHas_any (x:InD) (l:List InD) (r:Bool) (hr:l.contains x=r) (a:Option Addr) (cp:Nat) (w:World) (hl:l.length≤1000) (hi:InsAt w a l) :
  Calls Tryz.prog 229 #[.slice a l.length cp,.agg #[.int .u64 x.1.toNat,.int .i64 x.2]] w fun e w'=>e=.returned (.bool r)∧Below w.heap.size w w':=by
 have HI:=Lib.hid (insAt_kept (kept_new w (.cells #[.int .u64 x.1.toNat,.int .i64 x.2] 180)) hi)
 have HR:=Lib.hid hr
 clear hi hr
 go_enter Tryz.func229,Tryz.ntmps229
 go_wp2_with fail
 refine (inFind_any x l _ _ _ hl HI.out).mono ?_
 rintro e w1 ⟨rfl,hb1⟩
 have e1:=firstAt_neg (fun y=>x == y) l
 rw [any_containsI,HR.out] at e1
 obtain ⟨i,hi⟩:∃ i,firstAt (fun y=>x == y) l=i:=⟨_,rfl⟩
 rw [hi] at e1 ⊢
 clear hi
 go_wp2
 go_ret
 exact ⟨rfl,kept_trans (kept_new _ _) hb1⟩
variable {w w':World} {F:Nat→Prop} {R:Loc} {L:List DeedD}
structure WithIs (F:Nat→Prop) (R:Loc) (L:List DeedD) (c1 c2 c3:Nat) (p:DeedD) (pa:Option Addr) (pc:Nat) (w:World):Prop where
 led:LedL w F R L
 q1:w.cell? ⟨c1,0,none⟩=some (.pointer (some ⟨R.b,29,none⟩))
 q2:w.cell? ⟨c2,0,none⟩=some (.int .u64 (idD p).toNat)
 p0:w.cell? ⟨c3,0,none⟩=some (.slice pa p.ins.length pc)
 p1:w.cell? ⟨c3,1,none⟩=some (.int .i64 p.outs)
 p2:w.cell? ⟨c3,2,none⟩=some (.int .i64 p.weight)
 p3:w.cell? ⟨c3,3,none⟩=some (.int .i64 p.fee)
 ins:InsAt w pa p.ins
theorem WithIs.kept {c1 c2 c3:Nat} {p:DeedD} {pa:Option Addr} {pc:Nat} (h:WithIs F R L c1 c2 c3 p pa pc w) (hb:Below w.heap.size w w'):WithIs F R L c1 c2 c3 p pa pc w':=
 ⟨h.led.kept hb,kept_cell hb h.q1,kept_cell hb h.q2,kept_cell hb h.p0,kept_cell hb h.p1,kept_cell hb h.p2,kept_cell hb h.p3,insAt_kept hb h.ins⟩
theorem findLL_any (x:UInt64) (w:World) (h:LedL w F R L):Calls Tryz.prog 152 #[.pointer (some ⟨R.b,29,none⟩),.int .u64 x.toNat] w (FindAns w (findL L x)):=by
 obtain ⟨b,s,n,ev,v,hn,h⟩:=h
 exact find_any x w h
theorem isSpentL_any (x:InD) (hx:inOk x) (r:Bool) (hr:spentL L x=r) (w:World) (h:LedL w F R L) :
  Calls Tryz.prog 188 #[.pointer (some ⟨R.b,29,none⟩),.agg #[.int .u64 x.1.toNat,.int .i64 x.2]] w fun e w'=>e=.returned (.bool r)∧Below w.heap.size w w':=by
 obtain ⟨b,s,n,ev,v,hn,h⟩:=h
 exact isSpent_any x hx r hr w h
theorem ins_not_box {w:World} {a:Option Addr} {l:List InD} (h:InsAt w a l) {n:Nat} {u:Option Addr} {k c:Nat} {x y z:Int} {t:TypeId} {fr:Nat × Nat} (hb:w.heap[n]?=some (.cells #[.slice u k c,.int .i64 x,.int .i64 y,.int .i64 z] t fr)):∀ bb o,l≠[]→a=some ⟨bb,o,none⟩→¬ bb=n:=fun bb o hne e en=>by
 obtain ⟨b',o',e',_,c0,_⟩:=h 0 (List.length_pos_iff.2 hne)
 rw [e] at e'
 cases e'
 rw [en,Nat.zero_mul,Nat.add_zero,head_cell hb o] at c0
 match o,c0 with
 | 0,c0=>simp at c0
 | 1,c0=>simp at c0
 | 2,c0=>simp at c0
 | 3,c0=>simp at c0
 | o+4,c0=>simp at c0
set_option maxRecDepth 20000 in
theorem with1_any (c1 c2 c3:Nat) (p:DeedD) (pa:Option Addr) (pc:Nat) (hp:p.ins.length≤8) (x:UInt64) (w:World) (h:WithIs F R L c1 c2 c3 p pa pc w) :
  Calls Tryz.prog 227 #[.int .u64 x.toNat,.pointer (some ⟨c1,0,none⟩),.pointer (some ⟨c2,0,none⟩),.pointer (some ⟨c3,0,none⟩)] w (FindAns w (findL (L ++ [p]) x)):=by
 have hk0:=kept_new w (.cells #[.slice none 0 0,.int .i64 0,.int .i64 0,.int .i64 0] 94)
 have z1:=(h.kept hk0).q1
 have t1:=(cell_spot h.q1).2
 have H:=Lib.hid (h.kept hk0)
 have HK:=Lib.hid hk0
 have HSN:=Lib.hid (findL_snoc L p x)
 obtain ⟨mm,hmm⟩:∃ m,findL (L ++ [p]) x=m:=⟨_,rfl⟩
 rw [hmm]
 have HMM:=Lib.hid hmm
 have hbe:((x.toNat:Int) == ((idD p).toNat:Int))=(x == idD p):=u64_beq x (idD p)
 obtain ⟨ix,hix⟩:∃ ix,idD p=ix:=⟨_,rfl⟩
 rw [hix] at hbe
 have HIX:=Lib.hid hix
 clear h hk0 hmm hix
 go_enter Tryz.func227,Tryz.ntmps227
 go_wp2_with fail
 with_reducible refine (findLL_any x _ H.out.led).mono ?_
 rintro e w1 ⟨a1,k1,rfl,hl1,hi1,hb1⟩
 have hB:=(hb1.block w.heap.size (by simp)).trans (heap_alloc_new w _)
 have e0:=(head_cell hB 0).trans rfl
 have e1:=(head_cell hB 1).trans rfl
 have e2:=(head_cell hB 2).trans rfl
 have e3:=(head_cell hB 3).trans rfl
 have f0:=frozen_of_row w1 _ 0 _ _ hB
 have f1:=frozen_of_row w1 _ 1 _ _ hB
 have f2:=frozen_of_row w1 _ 2 _ _ hB
 have f3:=frozen_of_row w1 _ 3 _ _ hB
 have hs:=(cell_spot e0).2
 have H1:=H.out.kept hb1
 have g2:=H1.q2
 rw [HIX.out] at g2
 have g3:=(cell_spot g2).2
 have y0:=H1.p0
 have y1:=H1.p1
 have y2:=H1.p2
 have y3:=H1.p3
 have y4:=(cell_spot y0).2
 have HIN:=Lib.hid H1.ins
 have HB1:=Lib.hid (kept_trans HK.out hb1)
 have HBX:=Lib.hid hB
 clear hB hb1 H1
 obtain ⟨dd,hdd⟩:∃ d,(findL L x).getD nod=d:=⟨_,rfl⟩
 rw [hdd] at hl1 hi1 ⊢
 have hk2:=kept_new w1 (.cells #[.slice a1 dd.ins.length k1,.int .i64 dd.outs,.int .i64 dd.weight,.int .i64 dd.fee] 94)
 have HI1:=Lib.hid hi1
 clear hi1 hk2
 cases hq:(findL L x).isSome with
 | true=>
  have hm:mm=some dd:=by
   rw [← HMM.out,HSN.out,if_pos hq,← hdd]
   cases hf:findL L x with
   | none=>rw [hf] at hq;cases hq
   | some y=>rfl
  subst hm
  clear hdd hq HSN HMM hbe
  obtain ⟨dl,dO,dg,df⟩:=dd
  simp only at hl1 HI1 ⊢
  go_wp2_with fail
  refine bodyPost_ret (v:=.tuple #[.agg #[.slice a1 dl.length k1,.int .i64 dO,.int .i64 dg,.int .i64 df],.bool true]) (by simp [results,Tryz.results227,go_sem,e0,e1,e2,e3,hs]) rfl ?_
  have ht:=turn_set4 w1 w.heap.size (.slice a1 dl.length k1) (.int .i64 dO) (.int .i64 dg) (.int .i64 df)
  have hi3:=insAt_turn HI1.out ht (ins_not_box HI1.out HBX.out)
  exact ⟨a1,k1,rfl,hl1,insAt_kept (kept_new _ _) hi3,kept_alloc (HB1.out.trans (ht.below (fun k hk=>by omega) HB1.out.size)) _⟩
 | false=>
  have hnone:findL L x=none:=by
   cases hf:findL L x with
   | none=>rfl
   | some y=>rw [hf] at hq;cases hq
  obtain rfl:nod=dd:=by rw [← hdd,hnone];rfl
  by_cases hx:x=ix
  ·rw [beq_iff_eq.2 hx] at hbe
   have hm:mm=some p:=by rw [← HMM.out,HSN.out,if_neg (by rw [hq];simp),if_pos (by rw [HIX.out,hx])]
   subst hm
   clear hdd hq hnone HSN HMM hx
   obtain ⟨pl,pO,pg,pf⟩:=p
   simp only at hp y0 y1 y2 y3 HIN ⊢
   simp only [nod,List.length_nil]
   go_wp2_with fail
   refine bodyPost_ret (v:=.tuple #[.agg #[.slice pa pl.length pc,.int .i64 pO,.int .i64 pg,.int .i64 pf],.bool true]) (by simp [results,Tryz.results227,go_sem,e0,e1,e2,e3,hs]) rfl ?_
   have ht:=turn_set4 w1 w.heap.size (.slice pa pl.length pc) (.int .i64 pO) (.int .i64 pg) (.int .i64 pf)
   have hi3:=insAt_turn HIN.out ht (ins_not_box HIN.out HBX.out)
   exact ⟨pa,pc,rfl,hp,insAt_kept (kept_new _ _) hi3,kept_alloc (HB1.out.trans (ht.below (fun k hk=>by omega) HB1.out.size)) _⟩
  ·rw [beq_eq_false_iff_ne.2 hx] at hbe
   have hm:mm=none:=by rw [← HMM.out,HSN.out,if_neg (by rw [hq];simp),if_neg (by rw [HIX.out];exact fun e=>hx e.symm)]
   subst hm
   clear hdd hq hnone HSN HMM hx
   simp only [nod,List.length_nil] at hl1 HI1 ⊢
   go_wp2_with fail
   refine bodyPost_ret (v:=.tuple #[.agg #[.slice a1 0 k1,.int .i64 0,.int .i64 0,.int .i64 0],.bool false]) (by simp [results,Tryz.results227,go_sem,e0,e1,e2,e3,hs]) rfl ?_
   have ht:=turn_set4 w1 w.heap.size (.slice a1 0 k1) (.int .i64 0) (.int .i64 0) (.int .i64 0)
   exact ⟨a1,k1,rfl,Nat.zero_le _,fun i hi=>absurd hi (by simp [nod]),kept_alloc (HB1.out.trans (ht.below (fun k hk=>by omega) HB1.out.size)) _⟩
set_option maxRecDepth 20000 in
theorem with2_any (c1 c2 c3:Nat) (p:DeedD) (pa:Option Addr) (pc:Nat) (hp:p.ins.length≤8) (x:InD) (hx:inOk x) (w:World) (h:WithIs F R L c1 c2 c3 p pa pc w) :
  Calls Tryz.prog 228 #[.agg #[.int .u64 x.1.toNat,.int .i64 x.2],.pointer (some ⟨c1,0,none⟩),.pointer (some ⟨c3,0,none⟩)] w fun e w'=>e=.returned (.bool (spentL (L ++ [p]) x))∧Below w.heap.size w w':=by
 have hk0:=kept_new w (.cells #[.int .u64 x.1.toNat,.int .i64 x.2] 180)
 have z1:=(h.kept hk0).q1
 have t1:=(cell_spot h.q1).2
 have H:=Lib.hid (h.kept hk0)
 have HK:=Lib.hid hk0
 have HX:=Lib.hid hx
 obtain ⟨r,hr⟩:∃ r,spentL (L ++ [p]) x=r:=⟨_,rfl⟩
 have hr2:r=(spentL L x || p.ins.contains x):=by
  rw [← hr]
  unfold spentL
  rw [insL_snoc]
  simp
 rw [hr]
 clear h hk0 hx hr
 obtain ⟨ex,ea⟩:=x
 simp only at z1 H HK HX hr2 ⊢
 cases hs:spentL L (ex,ea) with
 | true=>
  rw [hs,Bool.true_or] at hr2
  subst hr2
  have HS:=Lib.hid hs
  clear hs
  go_enter Tryz.func228,Tryz.ntmps228
  go_wp2_with fail
  with_reducible refine (isSpentL_any (ex,ea) HX.out true HS.out _ H.out.led).mono ?_
  rintro e w1 ⟨rfl,hb1⟩
  go_wp2_with fail
  go_ret
  exact ⟨rfl,kept_trans HK.out hb1⟩
 | false=>
  rw [hs,Bool.false_or] at hr2
  have HS:=Lib.hid hs
  have HR2:=Lib.hid hr2.symm
  clear hs hr2
  go_enter Tryz.func228,Tryz.ntmps228
  go_wp2_with fail
  with_reducible refine (isSpentL_any (ex,ea) HX.out false HS.out _ H.out.led).mono ?_
  rintro e w1 ⟨rfl,hb1⟩
  obtain ⟨d0,d1,hs1⟩:=box_pair hb1
  have H1:=H.out.kept hb1
  have y0:=H1.p0
  have y4:=(cell_spot y0).2
  have HIN:=Lib.hid H1.ins
  have HB1:=Lib.hid (kept_trans HK.out hb1)
  clear hb1 H1
  go_wp2_with fail
  with_reducible refine (inHas_any (ex,ea) p.ins r HR2.out pa pc _ (by omega) HIN.out).mono ?_
  rintro e w2 ⟨rfl,hb2⟩
  go_wp2_with fail
  go_ret
  exact ⟨rfl,kept_trans HB1.out hb2⟩
end Go.Proofs.YtlboemhbealnmaaGreat.Ju
namespace Go.Proofs.YtlboemhbealnmaaGreat.Ju
open Go.RowKit Go.Maps
variable {w w':World} {F:Nat→Prop} {R:Loc} {L:List DeedD}
def withL (L:List DeedD) (p c:DeedD):Int:=if missL (findL (L ++ [p])) c.ins≠[] then 2 else if wickedL (findL (L ++ [p])) (spentL (L ++ [p])) c.ins=true then 3 else payI (p.fee+c.fee) (p.weight+c.weight)
def pairL (L:List DeedD) (p c:DeedD):Int × Int:=if checkD p≠0 then (0,checkD p) else if checkD c≠0 then (0,checkD c) else if spendsD c (idD p)=false then (0,4) else if stateL L p≠1 then (stateL L p,0) else (withL L p c,0)
theorem finds_with (c1 c2 c3:Nat) (p:DeedD) (pa:Option Addr) (pc:Nat) (hp:p.ins.length≤8):FindsN (WithIs F R L c1 c2 c3 p pa pc) 227 #[] #[.pointer (some ⟨c1,0,none⟩),.pointer (some ⟨c2,0,none⟩),.pointer (some ⟨c3,0,none⟩)] (findL (L ++ [p])):=
 ⟨fun _ _=>by kernel_rfl,fun x w hw=>with1_any c1 c2 c3 p pa pc hp x w hw⟩
theorem spends_with (c1 c2 c3:Nat) (p:DeedD) (pa:Option Addr) (pc:Nat) (hp:p.ins.length≤8):SpendsN (WithIs F R L c1 c2 c3 p pa pc) 228 #[] #[.pointer (some ⟨c1,0,none⟩),.pointer (some ⟨c3,0,none⟩)] (spentL (L ++ [p])):=
 ⟨fun _ _=>by kernel_rfl,fun x w hx hw=>with2_any c1 c2 c3 p pa pc hp x hx w hw⟩
set_option maxRecDepth 20000 in
theorem judgeWith_any (p c:DeedD) (pa ca:Option Addr) (pc cc:Nat) (hp:checkD p=0) (hc:checkD c=0) (w:World) (h:LedL w F R L) (hpi:InsAt w pa p.ins) (hci:InsAt w ca c.ins) (ix:UInt64) (hix:idD p=ix) (r:Int) (hr:withL L p c=r) :
  Calls Tryz.prog 213 #[.pointer (some ⟨R.b,29,none⟩),.int .u64 ix.toNat,.agg #[.slice pa p.ins.length pc,.int .i64 p.outs,.int .i64 p.weight,.int .i64 p.fee],.agg #[.slice ca c.ins.length cc,.int .i64 c.outs,.int .i64 c.weight,.int .i64 c.fee]] w fun e w'=>e=.returned (.int .i64 r)∧Below w.heap.size w w':=by
 obtain ⟨w0,hw0⟩:∃ y,y=(((w.alloc (.cells #[.pointer (some ⟨R.b,29,none⟩)] 81)).alloc (.cells #[.int .u64 ix.toNat] 22)).alloc (.cells #[.slice pa p.ins.length pc,.int .i64 p.outs,.int .i64 p.weight,.int .i64 p.fee] 94)).alloc (.cells #[.slice ca c.ins.length cc,.int .i64 c.outs,.int .i64 c.weight,.int .i64 c.fee] 94):=⟨_,rfl⟩
 have hk0:Below w.heap.size w w0:=hw0▸kept_alloc (kept_alloc (kept_alloc (kept_new _ _) _) _) _
 have hW:WithIs F R L w.heap.size (w.heap.size+1) (w.heap.size+2) p pa pc w0:=⟨h.kept hk0,by rw [hw0];simp [go_sem],by rw [hw0,hix];simp [go_sem],by rw [hw0];simp [go_sem],by rw [hw0];simp [go_sem],by rw [hw0];simp [go_sem],by rw [hw0];simp [go_sem],insAt_kept hk0 hpi⟩
 have k0:w0.cell? ⟨w.heap.size+3,0,none⟩=some (.slice ca c.ins.length cc):=by rw [hw0];simp [go_sem]
 have k1:w0.cell? ⟨w.heap.size+3,1,none⟩=some (.int .i64 c.outs):=by rw [hw0];simp [go_sem]
 have k2:w0.cell? ⟨w.heap.size+3,2,none⟩=some (.int .i64 c.weight):=by rw [hw0];simp [go_sem]
 have k3:w0.cell? ⟨w.heap.size+3,3,none⟩=some (.int .i64 c.fee):=by rw [hw0];simp [go_sem]
 have k4:w.heap.size+3 < w0.heap.size:=(cell_spot k0).2
 have HW:=Lib.hid hW
 have HI:=Lib.hid (insAt_kept hk0 hci)
 have HK:=Lib.hid hk0
 have HW0:=Lib.hid hw0
 have HPC:=Lib.hid hp
 have HCC:=Lib.hid hc
 have hp8:=(check_ok hp).1
 have hc8:=(check_ok hc).1
 obtain ⟨m,hm⟩:∃ m,missL (findL (L ++ [p])) c.ins=m:=⟨_,rfl⟩
 have HM:=Lib.hid hm
 unfold withL at hr
 rw [hm] at hr
 have HR:=Lib.hid hr
 have HF:=Lib.hid (finds_with (F:=F) (R:=R) (L:=L) w.heap.size (w.heap.size+1) (w.heap.size+2) p pa pc hp8)
 have HS:=Lib.hid (spends_with (F:=F) (R:=R) (L:=L) w.heap.size (w.heap.size+1) (w.heap.size+2) p pa pc hp8)
 clear h hpi hci hk0 hW hw0 hp hc hm hix hr
 go_enter Tryz.func213,Tryz.ntmps213
 go_wp2_with fail
 rw [← HW0.out]
 refine (missing_any _ (fun _ _ h hb=>WithIs.kept h hb) _ _ _ _ HF.out c ca cc w0 HW.out hc8 HI.out).mono ?_
 rw [HM.out]
 rintro e w2 ⟨a2,cp2,rfl,ho2,hb2⟩
 obtain ⟨g0,g1,g2,g3⟩:_∧_∧_∧_:=⟨kept_cell hb2 k0,kept_cell hb2 k1,kept_cell hb2 k2,kept_cell hb2 k3⟩
 have hs2:=(cell_spot g0).2
 have HI2:=Lib.hid (insAt_kept hb2 HI.out)
 have H2:=Lib.hid (HW.out.kept hb2)
 have HB2:=Lib.hid (kept_trans HK.out hb2)
 clear hb2 ho2
 by_cases hne:m≠[]
 ·have hr:=HR.out
  rw [if_pos hne] at hr
  subst hr
  have hpos:0 < m.length:=List.length_pos_iff.2 hne
  clear hne HR
  go_wp2_with fail
  go_ret
  exact ⟨rfl,HB2.out⟩
 ·have hr:=HR.out
  rw [if_neg hne] at hr
  obtain rfl:m=[]:=Classical.not_not.1 hne
  clear hne HR
  cases hw:wickedL (findL (L ++ [p])) (spentL (L ++ [p])) c.ins with
  | true=>
   rw [if_pos hw] at hr
   subst hr
   have HWK:=Lib.hid hw
   clear hw
   go_wp2_with fail
   refine (isWicked_any _ (fun _ _ h hb=>WithIs.kept h hb) _ _ _ _ _ _ _ _ HF.out HS.out c ca cc _ H2.out hc8 HI2.out true HWK.out).mono ?_
   rintro e w3 ⟨rfl,hb3⟩
   go_wp2_with fail
   go_ret
   exact ⟨rfl,kept_trans HB2.out hb3⟩
  | false=>
   rw [if_neg (by rw [hw];simp)] at hr
   have HWK:=Lib.hid hw
   have HQ:=Lib.hid hr
   clear hw hr
   go_wp2_with fail
   refine (isWicked_any _ (fun _ _ h hb=>WithIs.kept h hb) _ _ _ _ _ _ _ _ HF.out HS.out c ca cc _ H2.out hc8 HI2.out false HWK.out).mono ?_
   rintro e w3 ⟨rfl,hb3⟩
   obtain ⟨r0,r1,r2,r3⟩:_∧_∧_∧_:=⟨kept_cell hb3 g0,kept_cell hb3 g1,kept_cell hb3 g2,kept_cell hb3 g3⟩
   have hs3:=(cell_spot r0).2
   have H3:=H2.out.kept hb3
   have p0:=H3.p0
   have p1:=H3.p1
   have p2:=H3.p2
   have p3:=H3.p3
   have p4:=(cell_spot p0).2
   have HROW:Hid (RowOf (w3.alloc (.cells #[.slice pa p.ins.length pc,.int .i64 p.outs,.int .i64 p.weight,.int .i64 p.fee,.slice ca c.ins.length cc,.int .i64 c.outs,.int .i64 c.weight,.int .i64 c.fee] 94)) (some ⟨w3.heap.size,0,none⟩) [⟨pa,pc,p⟩,⟨ca,cc,c⟩]):=Lib.hid fun i hi=>by
    have hi:i < 2:=hi
    refine ⟨w3.heap.size,0,rfl,by simp,?_⟩
    unfold DeedHCells
    match i,hi with
    | 0,_=>refine ⟨?_,?_,?_,?_⟩ <;> simp [go_sem]
    | 1,_=>refine ⟨?_,?_,?_,?_⟩ <;> simp [go_sem]
   have HB3:=Lib.hid (kept_alloc (kept_trans HB2.out hb3) (.cells #[.slice pa p.ins.length pc,.int .i64 p.outs,.int .i64 p.weight,.int .i64 p.fee,.slice ca c.ins.length cc,.int .i64 c.outs,.int .i64 c.weight,.int .i64 c.fee] 94))
   have HP:Hid (payI (feesL [⟨pa,pc,p⟩,⟨ca,cc,c⟩]) (weightsL [⟨pa,pc,p⟩,⟨ca,cc,c⟩])=r):=Lib.hid (by simpa [feesL,weightsL] using HQ.out)
   have HFI:Hid (∀ q ∈ [(⟨pa,pc,p⟩:DeedH),⟨ca,cc,c⟩],checkD q.d=0):=Lib.hid (fun q hq=>by
    rcases List.mem_cons.1 hq with rfl | hq
    ·exact HPC.out
    ·rw [List.mem_singleton.1 hq]
     exact HCC.out)
   clear hb3 H3
   go_wp2_with fail
   refine (payment_any [⟨pa,pc,p⟩,⟨ca,cc,c⟩] _ _ _ (by simp) HFI.out HROW.out r HP.out).mono ?_
   rintro e w4 ⟨rfl,hb4⟩
   go_wp2_with fail
   go_ret
   exact ⟨rfl,kept_trans HB3.out hb4⟩
set_option maxRecDepth 20000 in
theorem pairL_any (p c:DeedD) (pa ca:Option Addr) (pc cc:Nat) (w:World) (h:LedL w F R L) (hpi:InsAt w pa p.ins) (hci:InsAt w ca c.ins) (k r:Int) (hr:pairL L p c=(k,r)) :
  Calls Tryz.prog 194 #[.pointer (some ⟨R.b,29,none⟩),.agg #[.slice pa p.ins.length pc,.int .i64 p.outs,.int .i64 p.weight,.int .i64 p.fee],.agg #[.slice ca c.ins.length cc,.int .i64 c.outs,.int .i64 c.weight,.int .i64 c.fee]] w fun e w'=>e=.returned (.tuple #[.int .i64 k,.int .i64 r])∧Below w.heap.size w w':=by
 obtain ⟨w0,hw0⟩:∃ y,y=(w.alloc (.cells #[.slice pa p.ins.length pc,.int .i64 p.outs,.int .i64 p.weight,.int .i64 p.fee] 94)).alloc (.cells #[.slice ca c.ins.length cc,.int .i64 c.outs,.int .i64 c.weight,.int .i64 c.fee] 94):=⟨_,rfl⟩
 have hk0:Below w.heap.size w w0:=hw0▸kept_alloc (kept_new _ _) _
 have hbx:w0.heap[w.heap.size]?=some (.cells #[.slice pa p.ins.length pc,.int .i64 p.outs,.int .i64 p.weight,.int .i64 p.fee] 94 (0,0)):=hw0▸heap_alloc2_old _ _ _
 have hby:w0.heap[w.heap.size+1]?=some (.cells #[.slice ca c.ins.length cc,.int .i64 c.outs,.int .i64 c.weight,.int .i64 c.fee] 94 (0,0)):=hw0▸heap_alloc2_new _ _ _
 have hcell:∀ wx,Below w0.heap.size w0 wx→(wx.cell? ⟨w.heap.size,0,none⟩=some (.slice pa p.ins.length pc)∧wx.cell? ⟨w.heap.size,1,none⟩=some (.int .i64 p.outs)∧wx.cell? ⟨w.heap.size,2,none⟩=some (.int .i64 p.weight)∧wx.cell? ⟨w.heap.size,3,none⟩=some (.int .i64 p.fee)) ∧
   (wx.cell? ⟨w.heap.size+1,0,none⟩=some (.slice ca c.ins.length cc)∧wx.cell? ⟨w.heap.size+1,1,none⟩=some (.int .i64 c.outs)∧wx.cell? ⟨w.heap.size+1,2,none⟩=some (.int .i64 c.weight)∧wx.cell? ⟨w.heap.size+1,3,none⟩=some (.int .i64 c.fee))∧w.heap.size+1 < wx.heap.size:=fun wx hb=>
  ⟨⟨kept_cell hb (head_cell hbx 0),kept_cell hb (head_cell hbx 1),kept_cell hb (head_cell hbx 2),kept_cell hb (head_cell hbx 3)⟩,⟨kept_cell hb (head_cell hby 0),kept_cell hb (head_cell hby 1),kept_cell hb (head_cell hby 2),kept_cell hb (head_cell hby 3)⟩,(cell_spot (kept_cell hb (head_cell hby 0))).2⟩
 have HC:=Lib.hid hcell
 have H:=Lib.hid (h.kept hk0)
 have HP:=Lib.hid (insAt_kept hk0 hpi)
 have HI:=Lib.hid (insAt_kept hk0 hci)
 have HK:=Lib.hid hk0
 have HW0:=Lib.hid hw0
 unfold pairL at hr
 clear h hpi hci hk0 hw0 hbx hby hcell
 by_cases hp:checkD p=0
 ·rw [if_neg (not_not_intro hp)] at hr
  have HPC:=Lib.hid hp
  obtain ⟨ix,hix⟩:∃ ix,idD p=ix:=⟨_,rfl⟩
  rw [hix] at hr
  have HIX:=Lib.hid hix
  have HID:Hid (∀ wx,InsAt wx pa p.ins→Calls Tryz.prog 99 #[.agg #[.slice pa p.ins.length pc,.int .i64 p.outs,.int .i64 p.weight,.int .i64 p.fee]] wx fun e w'=>e=.returned (.tuple #[.int .u64 ix.toNat,.int .i64 0])∧Below wx.heap.size wx w'):=Lib.hid (fun wx hi=>hix▸id_ok p pa pc wx hi hp)
  clear hp hix
  by_cases hc:checkD c=0
  ·rw [if_neg (not_not_intro hc)] at hr
   have HCC:=Lib.hid hc
   have hc8:=(check_ok hc).1
   clear hc
   cases hsp:spendsD c ix with
   | false=>
    rw [if_pos hsp] at hr
    simp only [Prod.mk.injEq] at hr
    obtain ⟨rfl,rfl⟩:=hr
    have HSP:=Lib.hid hsp
    clear hsp
    go_enter Tryz.func194,Tryz.ntmps194
    go_wp2_with fail
    rw [← HW0.out]
    with_reducible refine (HID.out _ HP.out).mono ?_
    rintro e w1 ⟨rfl,hb1⟩
    obtain ⟨_,⟨c0,c1,c2,c3⟩,hs1⟩:=HC.out _ hb1
    have HB1:=Lib.hid hb1
    clear hb1
    go_wp2_with fail
    with_reducible refine (check_is c ca cc _ 0 (insAt_kept HB1.out HI.out) HCC.out).mono ?_
    rintro e w2 ⟨rfl,hb2⟩
    have HB2:=Lib.hid (kept_trans HB1.out hb2)
    obtain ⟨_,⟨d0,d1,d2,d3⟩,hs2⟩:=HC.out _ HB2.out
    clear hb2
    go_wp2_with fail
    refine (show Calls Tryz.prog 210 #[.agg #[.slice ca c.ins.length cc,.int .i64 c.outs,.int .i64 c.weight,.int .i64 c.fee],.int .u64 ix.toNat] w2 fun e w'=>e=.returned (.bool false)∧Below w2.heap.size w2 w' from HSP.out▸spends_any c ix ca cc w2 (by omega) (insAt_kept HB2.out HI.out)).mono ?_
    rintro e w3 ⟨rfl,hb3⟩
    go_wp2_with fail
    go_ret2
    exact ⟨rfl,kept_trans HK.out (kept_trans HB2.out hb3)⟩
   | true=>
    rw [if_neg (by rw [hsp];simp)] at hr
    have HSP:=Lib.hid hsp
    obtain ⟨st,hst⟩:∃ st,stateL L p=st:=⟨_,rfl⟩
    have HJ:Hid (judgeL L p=(st,missL (findL L) p.ins,0)):=Lib.hid (by unfold judgeL;rw [if_neg (not_not_intro HPC.out),hst])
    rw [hst] at hr
    clear hsp hst
    by_cases h1:st=1
    ·subst h1
     rw [if_neg (by simp)] at hr
     simp only [Prod.mk.injEq] at hr
     obtain ⟨hr,rfl⟩:=hr
     have HR:=Lib.hid hr
     clear hr
     go_enter Tryz.func194,Tryz.ntmps194
     go_wp2_with fail
     rw [← HW0.out]
     with_reducible refine (HID.out _ HP.out).mono ?_
     rintro e w1 ⟨rfl,hb1⟩
     obtain ⟨_,⟨c0,c1,c2,c3⟩,hs1⟩:=HC.out _ hb1
     have HB1:=Lib.hid hb1
     clear hb1
     go_wp2_with fail
     with_reducible refine (check_is c ca cc _ 0 (insAt_kept HB1.out HI.out) HCC.out).mono ?_
     rintro e w2 ⟨rfl,hb2⟩
     have HB2:=Lib.hid (kept_trans HB1.out hb2)
     obtain ⟨_,⟨d0,d1,d2,d3⟩,hs2⟩:=HC.out _ HB2.out
     clear hb2
     go_wp2_with fail
     refine (show Calls Tryz.prog 210 #[.agg #[.slice ca c.ins.length cc,.int .i64 c.outs,.int .i64 c.weight,.int .i64 c.fee],.int .u64 ix.toNat] w2 fun e w'=>e=.returned (.bool true)∧Below w2.heap.size w2 w' from HSP.out▸spends_any c ix ca cc w2 (by omega) (insAt_kept HB2.out HI.out)).mono ?_
     rintro e w3 ⟨rfl,hb3⟩
     have HB3:=Lib.hid (kept_trans HB2.out hb3)
     obtain ⟨⟨e0,e1,e2,e3⟩,_,hs3⟩:=HC.out _ HB3.out
     have hs3':w.heap.size < w3.heap.size:=by omega
     clear hb3
     go_wp2_with fail
     with_reducible refine (judgeL_any p pa pc _ (H.out.kept HB3.out) (insAt_kept HB3.out HP.out)).mono ?_
     rw [HJ.out]
     rintro e w4 ⟨a4,k4,rfl,_,hb4⟩
     have HB4:=Lib.hid (kept_trans HB3.out hb4)
     obtain ⟨⟨f0,f1,f2,f3⟩,⟨g0,g1,g2,g3⟩,hs4⟩:=HC.out _ HB4.out
     have hs4':w.heap.size < w4.heap.size:=by omega
     clear hb4
     simp only
     go_wp2_with fail
     with_reducible refine (judgeWith_any p c pa ca pc cc HPC.out HCC.out _ (H.out.kept HB4.out) (insAt_kept HB4.out HP.out) (insAt_kept HB4.out HI.out) ix HIX.out k HR.out).mono ?_
     rintro e w5 ⟨rfl,hb5⟩
     go_wp2_with fail
     go_ret2
     exact ⟨rfl,kept_trans HK.out (kept_trans HB4.out hb5)⟩
    ·rw [if_pos h1] at hr
     simp only [Prod.mk.injEq] at hr
     obtain ⟨rfl,rfl⟩:=hr
     have hb1':(st != 1)=true:=by simpa using h1
     clear h1
     go_enter Tryz.func194,Tryz.ntmps194
     go_wp2_with fail
     rw [← HW0.out]
     with_reducible refine (HID.out _ HP.out).mono ?_
     rintro e w1 ⟨rfl,hb1⟩
     obtain ⟨_,⟨c0,c1,c2,c3⟩,hs1⟩:=HC.out _ hb1
     have HB1:=Lib.hid hb1
     clear hb1
     go_wp2_with fail
     with_reducible refine (check_is c ca cc _ 0 (insAt_kept HB1.out HI.out) HCC.out).mono ?_
     rintro e w2 ⟨rfl,hb2⟩
     have HB2:=Lib.hid (kept_trans HB1.out hb2)
     obtain ⟨_,⟨d0,d1,d2,d3⟩,hs2⟩:=HC.out _ HB2.out
     clear hb2
     go_wp2_with fail
     refine (show Calls Tryz.prog 210 #[.agg #[.slice ca c.ins.length cc,.int .i64 c.outs,.int .i64 c.weight,.int .i64 c.fee],.int .u64 ix.toNat] w2 fun e w'=>e=.returned (.bool true)∧Below w2.heap.size w2 w' from HSP.out▸spends_any c ix ca cc w2 (by omega) (insAt_kept HB2.out HI.out)).mono ?_
     rintro e w3 ⟨rfl,hb3⟩
     have HB3:=Lib.hid (kept_trans HB2.out hb3)
     obtain ⟨⟨e0,e1,e2,e3⟩,_,hs3⟩:=HC.out _ HB3.out
     have hs3':w.heap.size < w3.heap.size:=by omega
     clear hb3
     go_wp2_with fail
     with_reducible refine (judgeL_any p pa pc _ (H.out.kept HB3.out) (insAt_kept HB3.out HP.out)).mono ?_
     rw [HJ.out]
     rintro e w4 ⟨a4,k4,rfl,_,hb4⟩
     simp only
     go_wp2_with fail
     go_ret2
     exact ⟨rfl,kept_trans HK.out (kept_trans HB3.out hb4)⟩
  ·rw [if_pos hc] at hr
   simp only [Prod.mk.injEq] at hr
   obtain ⟨rfl,hr⟩:=hr
   rw [hr] at hc
   have HR:=Lib.hid hr
   have hrb:(r != 0)=true:=by simpa using hc
   clear hr hc
   go_enter Tryz.func194,Tryz.ntmps194
   go_wp2_with fail
   rw [← HW0.out]
   with_reducible refine (HID.out _ HP.out).mono ?_
   rintro e w1 ⟨rfl,hb1⟩
   obtain ⟨_,⟨c0,c1,c2,c3⟩,hs1⟩:=HC.out _ hb1
   have HB1:=Lib.hid hb1
   clear hb1
   go_wp2_with fail
   with_reducible refine (check_is c ca cc _ r (insAt_kept HB1.out HI.out) HR.out).mono ?_
   rintro e w2 ⟨rfl,hb2⟩
   go_wp2_with fail
   go_ret2
   exact ⟨rfl,kept_trans HK.out (kept_trans HB1.out hb2)⟩
 ·rw [if_pos hp] at hr
  simp only [Prod.mk.injEq] at hr
  obtain ⟨rfl,hr⟩:=hr
  rw [hr] at hp
  have HR:=Lib.hid hr
  have HNZ:=Lib.hid hp
  have hrb:(r != 0)=true:=by simpa using hp
  clear hr hp
  go_enter Tryz.func194,Tryz.ntmps194
  go_wp2_with fail
  rw [← HW0.out]
  with_reducible refine (id_err p pa pc _ r HP.out HR.out HNZ.out).mono ?_
  rintro e w1 ⟨rfl,hb1⟩
  go_wp2_with fail
  go_ret2
  exact ⟨rfl,kept_trans HK.out hb1⟩
end Go.Proofs.YtlboemhbealnmaaGreat.Ju
