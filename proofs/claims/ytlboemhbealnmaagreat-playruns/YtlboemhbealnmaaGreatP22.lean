import Derived.Test.YtlboemhbealnmaaGreatP21
import Derived.Test.YtlboemhbealnmaaGreatP5
import Derived.Deep.RegionLaw
import Derived.RegionTactic
import Derived.BigRegion
import Derived.BigQuiet
import Derived.Deep.QuietTactic
set_option maxRecDepth 20000
namespace Go.Proofs.YtlboemhbealnmaaGreat.Ju
open Go.RowKit Go.Maps
variable {w w':World} {F:Nat→Prop} {R:Loc} {M:UInt64→Option DeedD} {os:List UInt64} {sp:List InD} {b s n:Nat} {ev:UInt64→Option Value} {v:Value}
def SpendsN (K:World→Prop) (f:FuncId) (pre cap:Array Value) (q:InD→Bool):Prop:=
 (∀ (args:Array Value) (w:World),(callFunc f args).run Tryz.prog w=.ok (.enter f args) w) ∧
 ∀ (x:InD) (w:World),inOk x→K w→Calls Tryz.prog f (pre.push (.agg #[.int .u64 x.1.toNat,.int .i64 x.2]) ++ cap) w fun e w'=>e=.returned (.bool (q x))∧Below w.heap.size w w'
theorem finds_led:FindsN (fun w=>LedAt w F R M os sp b s n ev v) 152 #[.pointer (some ⟨R.b,29,none⟩)] #[] M:=
 ⟨fun _ _=>by kernel_rfl,fun x w hw=>find_any x w hw⟩
theorem spends_led:SpendsN (fun w=>LedAt w F R M os sp b s n ev v) 188 #[.pointer (some ⟨R.b,29,none⟩)] #[] (fun e=>sp.contains e):=
 ⟨fun _ _=>by kernel_rfl,fun x w hx hw=>isSpent_any x hx _ rfl w hw⟩
def PicksO (K:World→Prop) (f:FuncId) (cap:Array Value) (q:InD→Bool):Prop:=
 (∀ (args:Array Value) (w:World),(callFunc f args).run Tryz.prog w=.ok (.enter f args) w) ∧
 ∀ (e:InD) (w:World),inOk e→K w→Calls Tryz.prog f (#[inV e] ++ cap) w fun x w'=>x=.returned (.bool (q e))∧Below w.heap.size w w'
theorem inIndexO_any (K:World→Prop) (hK:∀ a b,K a→Below a.heap.size a b→K b) (f:FuncId) (cap:Array Value) (q:InD→Bool) (hp:PicksO K f cap q) (l:List InD) (a:Option Addr) (cp:Nat) (w:World) (hw:K w) (hl:l.length≤1000) (hi:InsAt w a l) :
  Calls Tryz.prog 224 #[.slice a l.length cp,.func (.func f) #[] cap] w fun e w'=>e=.returned (.int .i64 (firstAt q l))∧Below w.heap.size w w':=by
 have hcf:=hp.1
 have HP:=Lib.hid hp.2
 have HK:=Lib.hid hK
 have HW:=Lib.hid hw
 clear hp hK hw
 go_enter Tryz.func224,Tryz.ntmps224
 go_wp2
 go_loopw [8] (fun i wr=>∃ k:Nat,k≤l.length∧i=.int .i64 k∧Hid ((l.take k).findIdx? q=none)∧Below w.heap.size w wr) (fun i _=>l.length - (intOf i).toNat)
 case atStart=>exact ⟨0,Nat.zero_le _,rfl,Lib.hid rfl,Below.refl _ _⟩
 case round=>
  obtain ⟨k,hk,rfl,NO,hbel⟩:=hrel
  by_cases hlt:k < l.length
  ·obtain ⟨b,o,rfl,hb,c0,c1,hok⟩:=insAt_kept hbel hi k hlt
   have HOK:Hid (inOk l[k]):=Lib.hid hok
   clear hok
   go_wp2_with fail
   refine (HP.out l[k] _ HOK.out (HK.out _ _ HW.out hbel)).mono ?_
   rintro e w1 ⟨rfl,hb1⟩
   cases hq:q l[k] with
   | true=>
    have HQ:=Lib.hid hq
    clear hq
    go_wp2
    go_ret
    refine ⟨ret_i64 ?_,kept_trans hbel hb1⟩
    exact (firstAt_hit hlt NO.out HQ.out).symm
   | false=>
    have HQ:=Lib.hid hq
    clear hq
    go_wp2
    go_roundw
    case rel=>exact ⟨k+1,by omega,by go_num,Lib.hid (firstAt_miss hlt NO.out HQ.out),kept_trans hbel hb1⟩
    case measure=>simp [intOf];omega
  ·go_wp2
   go_ret
   refine ⟨ret_i64 ?_,hbel⟩
   have:=NO.out
   rw [List.take_of_length_le (by omega)] at this
   unfold firstAt
   rw [this]
theorem inContainsO_any (K:World→Prop) (hK:∀ a b,K a→Below a.heap.size a b→K b) (f:FuncId) (fc:Array Value) (q:InD→Bool) (hp:PicksO K f fc q) (l:List InD) (a:Option Addr) (cp:Nat) (w:World) (hw:K w) (hl:l.length≤1000) (hi:InsAt w a l) :
  Calls Tryz.prog 206 #[.slice a l.length cp,.func (.func f) #[] fc] w fun e w'=>e=.returned (.bool (l.any q))∧Below w.heap.size w w':=by
 have HP:=Lib.hid hp
 have HK:=Lib.hid hK
 have HW:=Lib.hid hw
 have HI:=Lib.hid hi
 clear hp hK hw hi
 go_enter Tryz.func206,Tryz.ntmps206
 go_wp2_with fail
 refine (inIndexO_any K HK.out f fc q HP.out l _ _ w HW.out hl HI.out).mono ?_
 rintro e w1 ⟨rfl,hb1⟩
 have e1:=firstAt_neg q l
 obtain ⟨i,hi⟩:∃ i,firstAt q l=i:=⟨_,rfl⟩
 rw [hi] at e1 ⊢
 go_wp2
 go_ret
 exact ⟨rfl,hb1⟩
def Caught (c1 c2:Nat) (f1:FuncId) (p1 q1:Array Value) (f2:FuncId) (p2 q2:Array Value) (w:World):Prop:=w.cell? ⟨c1,0,none⟩=some (.func (.func f1) p1 q1)∧w.cell? ⟨c2,0,none⟩=some (.func (.func f2) p2 q2)
set_option maxRecDepth 20000 in
theorem wicked1_any (K:World→Prop) (hK:∀ a b,K a→Below a.heap.size a b→K b) (f1 f2:FuncId) (p1 q1 p2 q2:Array Value) (M:UInt64→Option DeedD) (q:InD→Bool) (h1:FindsN K f1 p1 q1 M) (h2:SpendsN K f2 p2 q2 q) (c1 c2:Nat) (e:InD) (he:inOk e) (w:World) (hw:K w) (hc:Caught c1 c2 f1 p1 q1 f2 p2 q2 w) (r:Bool) (hr:badIn M q e=r) :
  Calls Tryz.prog 207 #[.agg #[.int .u64 e.1.toNat,.int .i64 e.2],.pointer (some ⟨c1,0,none⟩),.pointer (some ⟨c2,0,none⟩)] w fun x w'=>x=.returned (.bool r)∧Below w.heap.size w w':=by
 have hf1:=h1.1
 have hf2:=h2.1
 have H1:=Lib.hid h1.2
 have H2:=Lib.hid h2.2
 have HK:=Lib.hid hK
 have hk0:=kept_new w (.cells #[.int .u64 e.1.toNat,.int .i64 e.2] 180)
 have HW:=Lib.hid (hK _ _ hw hk0)
 have z1:=kept_cell hk0 hc.1
 have z2:=kept_cell hk0 hc.2
 have s1:=(cell_spot hc.1).2
 have s2:=(cell_spot hc.2).2
 have HB0:=Lib.hid hk0
 have HE:=Lib.hid he
 have HR:=Lib.hid hr
 clear h1 h2 hK hw hc hk0 he hr
 obtain ⟨ex,ea⟩:=e
 simp only at HW z1 z2 HB0 HE HR ⊢
 go_enter Tryz.func207,Tryz.ntmps207
 go_wp2_with fail
 with_reducible refine (H1.out ex _ HW.out).mono ?_
 rintro x w1 ⟨a1,cc1,rfl,_,_,hb1⟩
 obtain ⟨d0,d1,hs1⟩:=box_pair hb1
 obtain ⟨dd,hdd⟩:∃ d,(M ex).getD nod=d:=⟨_,rfl⟩
 rw [hdd]
 have hbad:r=(decide (ea ≥ dd.outs) || q (ex,ea)):=by rw [← HR.out];unfold badIn;rw [hdd]
 obtain ⟨dl,dO,dg,df⟩:=dd
 simp only
 obtain ⟨rr,hrr⟩:∃ r,(M ex).isSome=r:=⟨_,rfl⟩
 rw [hrr]
 have hk3:=kept_new w1 (.cells #[.slice a1 dl.length cc1,.int .i64 dO,.int .i64 dg,.int .i64 df] 94)
 have HW3:=Lib.hid (HK.out _ _ HW.out (kept_trans hb1 hk3))
 have y2:=kept_cell hb1 z2
 have y3:=(cell_spot y2).2
 have HB3:=Lib.hid (kept_trans (kept_trans HB0.out hb1) hk3)
 clear hdd hrr hb1 hk3
 simp only at hbad
 by_cases hge:ea ≥ dO
 ·have hd:decide (ea ≥ dO)=true:=decide_eq_true hge
  rw [hd,Bool.true_or] at hbad
  have HQ:=Lib.hid hbad
  clear hge hbad
  go_wp2_with fail
  go_ret
  exact ⟨ret_bool HQ.out.symm,HB3.out⟩
 ·have hd:decide (ea ≥ dO)=false:=decide_eq_false hge
  rw [hd,Bool.false_or] at hbad
  have HQ:=Lib.hid hbad
  clear hge hbad
  go_wp2_with fail
  with_reducible refine (H2.out (ex,ea) _ HE.out HW3.out).mono ?_
  rintro x w4 ⟨rfl,hb4⟩
  go_wp2_with fail
  go_ret
  exact ⟨ret_bool HQ.out.symm,kept_trans HB3.out hb4⟩
theorem caught_kept {c1 c2:Nat} {f1 f2:FuncId} {p1 q1 p2 q2:Array Value} {a b:World} (h:Caught c1 c2 f1 p1 q1 f2 p2 q2 a) (hb:Below a.heap.size a b):Caught c1 c2 f1 p1 q1 f2 p2 q2 b:=⟨kept_cell hb h.1,kept_cell hb h.2⟩
set_option maxRecDepth 20000 in
theorem isWicked_any (K:World→Prop) (hK:∀ a b,K a→Below a.heap.size a b→K b) (f1 f2:FuncId) (p1 q1 p2 q2:Array Value) (M:UInt64→Option DeedD) (q:InD→Bool) (h1:FindsN K f1 p1 q1 M) (h2:SpendsN K f2 p2 q2 q) (d:DeedD) (a:Option Addr) (cp:Nat) (w:World) (hw:K w) (hl:d.ins.length≤8) (hi:InsAt w a d.ins) (r:Bool) (hr:wickedL M q d.ins=r) :
  Calls Tryz.prog 187 #[.agg #[.slice a d.ins.length cp,.int .i64 d.outs,.int .i64 d.weight,.int .i64 d.fee],.func (.func f1) p1 q1,.func (.func f2) p2 q2] w fun e w'=>e=.returned (.bool r)∧Below w.heap.size w w':=by
 obtain ⟨l,o,g,fe⟩:=d
 simp only at hl hi hr ⊢
 obtain ⟨w3,hw3⟩:∃ x,x=((w.alloc (.cells #[.slice a l.length cp,.int .i64 o,.int .i64 g,.int .i64 fe] 94)).alloc (.cells #[.func (.func f1) p1 q1] 128)).alloc (.cells #[.func (.func f2) p2 q2] 220):=⟨_,rfl⟩
 have hk3:Below w.heap.size w w3:=by rw [hw3];exact kept_alloc (kept_alloc (kept_new _ _) _) _
 have hcau:Caught (w.heap.size+1) (w.heap.size+2) f1 p1 q1 f2 p2 q2 w3:=by
  rw [hw3]
  constructor
  ·simp [go_sem]
  ·simp [go_sem]
 have HP:Hid (PicksO (fun w=>K w∧Caught (w3.heap.size - 2) (w3.heap.size - 1) f1 p1 q1 f2 p2 q2 w) 207 #[.pointer (some ⟨w.heap.size+1,0,none⟩),.pointer (some ⟨w.heap.size+2,0,none⟩)] (badIn M q)):=Lib.hid ⟨fun _ _=>by kernel_rfl,fun e we he hwe=>by
  have hz:w3.heap.size=w.heap.size+3:=by rw [hw3];simp
  rw [hz] at hwe
  exact wicked1_any K hK f1 f2 p1 q1 p2 q2 M q h1 h2 _ _ e he we hwe.1 hwe.2 _ rfl⟩
 have HW:Hid (K w3∧Caught (w3.heap.size - 2) (w3.heap.size - 1) f1 p1 q1 f2 p2 q2 w3):=Lib.hid ⟨hK _ _ hw hk3,by
  have hz:w3.heap.size=w.heap.size+3:=by rw [hw3];simp
  rw [hz]
  exact hcau⟩
 have HKK:Hid (∀ a b,(K a∧Caught (w3.heap.size - 2) (w3.heap.size - 1) f1 p1 q1 f2 p2 q2 a)→Below a.heap.size a b→(K b∧Caught (w3.heap.size - 2) (w3.heap.size - 1) f1 p1 q1 f2 p2 q2 b)):=Lib.hid fun a b h hb=>⟨hK a b h.1 hb,caught_kept h.2 hb⟩
 have HI:=Lib.hid (insAt_kept hk3 hi)
 have HB:=Lib.hid hk3
 have HW3:=Lib.hid hw3
 have HR:=Lib.hid hr
 clear hK h1 h2 hw hi hk3 hcau hw3 hr
 go_enter Tryz.func187,Tryz.ntmps187
 go_wp2_with fail
 rw [← HW3.out]
 refine (inContainsO_any _ HKK.out _ _ _ HP.out l _ _ _ HW.out (by omega) HI.out).mono ?_
 rintro e w4 ⟨rfl,hb4⟩
 rw [show l.any (badIn M q)=r from HR.out]
 go_wp2_with fail
 go_ret
 exact ⟨rfl,kept_trans HB.out hb4⟩
end Go.Proofs.YtlboemhbealnmaaGreat.Ju
namespace Go.Proofs.YtlboemhbealnmaaGreat.Ju
open Go.RowKit Go.Maps
variable {w w':World} {F:Nat→Prop} {R:Loc} {M:UInt64→Option DeedD} {os:List UInt64} {sp:List InD} {b s n:Nat} {ev:UInt64→Option Value} {v:Value}
def feesL (l:List DeedH):Int:=(l.map fun q=>q.d.fee).sum
def weightsL (l:List DeedH):Int:=(l.map fun q=>q.d.weight).sum
theorem feesL_step {l:List DeedH} {k:Nat} (h:k < l.length):feesL (l.take (k+1))=feesL (l.take k)+l[k].d.fee:=by unfold feesL;rw [List.take_succ_eq_append_getElem h,List.map_append,List.sum_append,List.map_cons,List.map_nil,List.sum_cons,List.sum_nil,Int.add_zero]
theorem weightsL_step {l:List DeedH} {k:Nat} (h:k < l.length):weightsL (l.take (k+1))=weightsL (l.take k)+l[k].d.weight:=by unfold weightsL;rw [List.take_succ_eq_append_getElem h,List.map_append,List.sum_append,List.map_cons,List.map_nil,List.sum_cons,List.sum_nil,Int.add_zero]
theorem sums_bound {l:List DeedH} (hf:∀ q ∈ l,checkD q.d=0):∀ k,k≤l.length→0≤feesL (l.take k)∧feesL (l.take k)≤1000 * k∧0≤weightsL (l.take k)∧weightsL (l.take k)≤1000 * k:=fun k=>by
 induction k with
 | zero=>intro _;simp [feesL,weightsL]
 | succ k ih=>
  intro hk
  have:=ih (by omega)
  obtain ⟨_,_,_,_,h5,h6⟩:=check_ok (hf _ (List.getElem_mem (show k < l.length by omega)))
  rw [feesL_step (by omega),weightsL_step (by omega)]
  omega
def RowOf (w:World) (a:Option Addr) (l:List DeedH):Prop:=∀ i (h:i < l.length),∃ b o,a=some ⟨b,o,none⟩∧b < w.heap.size∧DeedHCells w b (o+i * 4) l[i]
theorem deedH_kept {w w':World} {b o:Nat} {q:DeedH} (hb:Below w.heap.size w w') (h:DeedHCells w b o q):DeedHCells w' b o q:=⟨kept_cell hb h.1,kept_cell hb h.2.1,kept_cell hb h.2.2.1,kept_cell hb h.2.2.2⟩
theorem rowOf_kept {a:Option Addr} {l:List DeedH} (h:RowOf w a l) (hb:Below w.heap.size w w'):RowOf w' a l:=fun i hi=>by
 obtain ⟨b,o,e,hlt,hc⟩:=h i hi
 exact ⟨b,o,e,Nat.lt_of_lt_of_le hlt hb.size,deedH_kept hb hc⟩
set_option maxRecDepth 20000 in
theorem payment_any (l:List DeedH) (a:Option Addr) (cap:Nat) (w:World) (hl:l.length≤2) (hf:∀ q ∈ l,checkD q.d=0) (hi:RowOf w a l) (r:Int) (hr:payI (feesL l) (weightsL l)=r) :
  Calls Tryz.prog 189 #[.slice a l.length cap] w fun e w'=>e=.returned (.int .i64 r)∧Below w.heap.size w w':=by
 have HF:=Lib.hid (sums_bound hf)
 have HI:=Lib.hid hi
 have HR:=Lib.hid hr
 have HC:=Lib.hid hf
 clear hf hi hr
 go_enter Tryz.func189,Tryz.ntmps189
 go_wp2_with fail
 go_loopw [3,4,9] (fun x y i wr=>∃ k:Nat,k≤l.length∧i=.int .i64 k∧x=.int .i64 (feesL (l.take k))∧y=.int .i64 (weightsL (l.take k))∧Hid (Below w.heap.size w wr)) (fun _ _ i _=>l.length - (intOf i).toNat)
 case atStart=>exact ⟨0,Nat.zero_le _,rfl,rfl,rfl,Lib.hid (Below.refl _ _)⟩
 case round=>
  obtain ⟨k,hk,rfl,rfl,rfl,HB⟩:=hrel
  have hbd:=HF.out k hk
  by_cases hkl:k < l.length
  ·obtain ⟨bb,oo,rfl,hbb,c0,c1,c2,c3⟩:=rowOf_kept HI.out HB.out k hkl
   have e1:=feesL_step hkl
   have e2:=weightsL_step hkl
   obtain ⟨_,_,_,_,h5,h6⟩:=check_ok (HC.out _ (List.getElem_mem hkl))
   obtain ⟨⟨qa,qc,⟨ql,qo,qw,qf⟩⟩,hq⟩:∃ q,l[k]=q:=⟨_,rfl⟩
   rw [hq] at c0 c1 c2 c3 e1 e2 h5 h6
   simp only at c0 c1 c2 c3 e1 e2 h5 h6
   obtain ⟨X,hX⟩:∃ X,feesL (l.take k)=X:=⟨_,rfl⟩
   obtain ⟨Y,hY⟩:∃ Y,weightsL (l.take k)=Y:=⟨_,rfl⟩
   rw [hX] at e1 hbd ⊢
   rw [hY] at e2 hbd ⊢
   have E1:=Lib.hid e1
   have E2:=Lib.hid e2
   clear hX hY e1 e2 hq
   go_wp2_with fail
   go_roundw
   case rel=>exact ⟨k+1,by omega,by go_num,by rw [E1.out],by rw [E2.out],Lib.hid (kept_alloc HB.out _)⟩
   case measure=>simp [intOf];omega
  ·have he:l.take k=l:=List.take_of_length_le (by omega)
   rw [he] at hbd ⊢
   obtain ⟨X,hX⟩:∃ X,feesL l=X:=⟨_,rfl⟩
   obtain ⟨Y,hY⟩:∃ Y,weightsL l=Y:=⟨_,rfl⟩
   rw [hX,hY] at hbd ⊢
   have hr:=HR.out
   rw [hX,hY] at hr
   unfold payI at hr
   clear hX hY he
   by_cases hlt:10 * X < Y
   ·rw [if_pos hlt] at hr
    have HQ:=Lib.hid hr
    clear hr
    go_wp2_with fail
    go_ret
    exact ⟨ret_i64 HQ.out,HB.out⟩
   ·rw [if_neg hlt] at hr
    have HQ:=Lib.hid hr
    clear hr
    go_wp2_with fail
    go_ret
    exact ⟨ret_i64 HQ.out,HB.out⟩
def GaveJ (w:World) (q:Int × List UInt64 × Int) (e:Ending) (w':World):Prop:=∃ a cap,e=.returned (.tuple #[.int .i64 q.1,.slice a q.2.1.length cap,.int .i64 q.2.2])∧OwnIds w' w.heap.size (.slice a q.2.1.length cap) q.2.1∧Below w.heap.size w w'
def judgeM (M:UInt64→Option DeedD) (q:InD→Bool) (d:DeedD):Int × List UInt64 × Int:=if checkD d≠0 then (0,[],checkD d) else (stateM M q d,missL M d.ins,0)
set_option maxRecDepth 20000 in
theorem judge_err (d:DeedD) (a:Option Addr) (cap:Nat) (w:World) (hi:InsAt w a d.ins) (r:Int) (hr:checkD d=r) (h0:r≠0) :
  Calls Tryz.prog 162 #[.pointer (some ⟨R.b,29,none⟩),.agg #[.slice a d.ins.length cap,.int .i64 d.outs,.int .i64 d.weight,.int .i64 d.fee]] w (GaveJ w (0,[],r)):=by
 have hk0:=kept_new w (.cells #[.slice a d.ins.length cap,.int .i64 d.outs,.int .i64 d.weight,.int .i64 d.fee] 94)
 have HI:=Lib.hid (insAt_kept hk0 hi)
 have HR:=Lib.hid hr
 have hrb:(r != 0)=true:=by simpa using h0
 clear hi hr
 go_enter Tryz.func162,Tryz.ntmps162
 go_wp2_with fail
 with_reducible refine (check_is d _ _ _ r HI.out HR.out).mono ?_
 rintro e w1 ⟨rfl,hb1⟩
 go_wp2_with fail
 go_ret3
 exact ⟨none,0,rfl,ownIds_nil _ _,kept_trans hk0 hb1⟩
set_option maxRecDepth 20000 in
theorem judge_ok (d:DeedD) (a:Option Addr) (cap:Nat) (w:World) (h:LedAt w F R M os sp b s n ev v) (hi:InsAt w a d.ins) (hd:checkD d=0) :
  Calls Tryz.prog 162 #[.pointer (some ⟨R.b,29,none⟩),.agg #[.slice a d.ins.length cap,.int .i64 d.outs,.int .i64 d.weight,.int .i64 d.fee]] w (GaveJ w (stateM M (fun e=>sp.contains e) d,missL M d.ins,0)):=by
 have hk0:=kept_new w (.cells #[.slice a d.ins.length cap,.int .i64 d.outs,.int .i64 d.weight,.int .i64 d.fee] 94)
 have HI:=Lib.hid (insAt_kept hk0 hi)
 have H:=Lib.hid (h.kept hk0)
 have HD:=Lib.hid hd
 have HK:=Lib.hid hk0
 have hl:=(check_ok hd).1
 obtain ⟨m,hm⟩:∃ m,missL M d.ins=m:=⟨_,rfl⟩
 obtain ⟨st,hst⟩:∃ st,stateM M (fun e=>sp.contains e) d=st:=⟨_,rfl⟩
 have hml:=missL_length M d.ins
 rw [hm] at hml
 have HM:=Lib.hid hm
 have HST:=Lib.hid hst
 rw [hm,hst]
 unfold stateM at hst
 rw [hm] at hst
 clear h hi hd hk0 hm
 go_enter Tryz.func162,Tryz.ntmps162
 go_wp2_with fail
 with_reducible refine (check_is d _ _ _ 0 HI.out HD.out).mono ?_
 rintro e w1 ⟨rfl,hb1⟩
 obtain ⟨c0,c1,c2,c3,hs1⟩:=box_four hb1
 have HI1:=Lib.hid (insAt_kept hb1 HI.out)
 have H1:=Lib.hid (H.out.kept hb1)
 have HB1:=Lib.hid (kept_trans HK.out hb1)
 clear hb1
 go_wp2_with fail
 with_reducible refine (missing_any _ (fun _ _ h hb=>h.kept hb) _ _ _ M finds_led d a cap _ H1.out hl HI1.out).mono ?_
 rw [HM.out]
 rintro e w2 ⟨a2,cp2,rfl,ho2,hb2⟩
 obtain ⟨g0,g1,g2,g3⟩:_∧_∧_∧_:=⟨kept_cell hb2 c0,kept_cell hb2 c1,kept_cell hb2 c2,kept_cell hb2 c3⟩
 have hs2:=(cell_spot g0).2
 have HI2:=Lib.hid (insAt_kept hb2 HI1.out)
 have H2:=Lib.hid (H1.out.kept hb2)
 have HB2:=Lib.hid (kept_trans HB1.out hb2)
 have HO2:=Lib.hid (own_mono ho2 HB1.out.size)
 clear hb2 ho2
 by_cases hne:m≠[]
 ·rw [if_pos hne] at hst
  have hpos:0 < m.length:=List.length_pos_iff.2 hne
  subst hst
  clear hne HST
  go_wp2_with fail
  go_ret3
  exact ⟨a2,cp2,rfl,HO2.out,HB2.out⟩
 ·rw [if_neg hne] at hst
  obtain rfl:m=[]:=Classical.not_not.1 hne
  clear hne
  cases hw:wickedL M (fun e=>sp.contains e) d.ins with
  | true=>
   rw [if_pos hw] at hst
   subst hst
   have HWK:=Lib.hid hw
   clear hw HST
   go_wp2_with fail
   with_reducible refine (isWicked_any _ (fun _ _ h hb=>h.kept hb) _ _ _ _ _ _ M _ finds_led spends_led d a cap _ H2.out hl HI2.out true HWK.out).mono ?_
   rintro e w3 ⟨rfl,hb3⟩
   go_wp2_with fail
   go_ret3
   exact ⟨none,0,rfl,ownIds_nil _ _,kept_trans HB2.out hb3⟩
  | false=>
   rw [if_neg (by rw [hw];simp)] at hst
   have HWK:=Lib.hid hw
   have HQ:=Lib.hid hst
   clear hw HST hst
   go_wp2_with fail
   with_reducible refine (isWicked_any _ (fun _ _ h hb=>h.kept hb) _ _ _ _ _ _ M _ finds_led spends_led d a cap _ H2.out hl HI2.out false HWK.out).mono ?_
   rintro e w3 ⟨rfl,hb3⟩
   obtain ⟨r0,r1,r2,r3⟩:_∧_∧_∧_:=⟨kept_cell hb3 g0,kept_cell hb3 g1,kept_cell hb3 g2,kept_cell hb3 g3⟩
   have hs3:=(cell_spot r0).2
   have HROW:Hid (RowOf (w3.alloc (.cells #[.slice a d.ins.length cap,.int .i64 d.outs,.int .i64 d.weight,.int .i64 d.fee] 94)) (some ⟨w3.heap.size,0,none⟩) [⟨a,cap,d⟩]):=Lib.hid fun i hi=>by
    have hi:i < 1:=hi
    obtain rfl:i=0:=by omega
    refine ⟨w3.heap.size,0,rfl,by simp,?_⟩
    unfold DeedHCells
    refine ⟨?_,?_,?_,?_⟩ <;> simp [go_sem]
   have HB3:=Lib.hid (kept_alloc (kept_trans HB2.out hb3) (.cells #[.slice a d.ins.length cap,.int .i64 d.outs,.int .i64 d.weight,.int .i64 d.fee] 94))
   have HP:Hid (payI (feesL [⟨a,cap,d⟩]) (weightsL [⟨a,cap,d⟩])=st):=Lib.hid (by simpa [feesL,weightsL] using HQ.out)
   have HF:Hid (∀ q ∈ [(⟨a,cap,d⟩:DeedH)],checkD q.d=0):=Lib.hid (fun q hq=>by rw [List.mem_singleton.1 hq];exact HD.out)
   clear hb3
   go_wp2_with fail
   refine (payment_any [⟨a,cap,d⟩] _ _ _ (by simp) HF.out HROW.out st HP.out).mono ?_
   rintro e w4 ⟨rfl,hb4⟩
   go_wp2_with fail
   go_ret3
   exact ⟨none,0,rfl,ownIds_nil _ _,kept_trans HB3.out hb4⟩
theorem judge_any (d:DeedD) (a:Option Addr) (cap:Nat) (w:World) (h:LedAt w F R M os sp b s n ev v) (hi:InsAt w a d.ins) :
  Calls Tryz.prog 162 #[.pointer (some ⟨R.b,29,none⟩),.agg #[.slice a d.ins.length cap,.int .i64 d.outs,.int .i64 d.weight,.int .i64 d.fee]] w (GaveJ w (judgeM M (fun e=>sp.contains e) d)):=by
 unfold judgeM
 by_cases h0:checkD d=0
 ·rw [if_neg (not_not_intro h0)]
  exact judge_ok d a cap w h hi h0
 ·rw [if_pos h0]
  exact judge_err d a cap w hi _ rfl h0
end Go.Proofs.YtlboemhbealnmaaGreat.Ju
namespace Go.Proofs.YtlboemhbealnmaaGreat.Ju
open Go.RowKit Go.Maps
variable {w w':World} {F:Nat→Prop} {R:Loc} {M:UInt64→Option DeedD} {os:List UInt64} {sp:List InD} {b s n:Nat} {ev:UInt64→Option Value} {v:Value}
set_option maxRecDepth 20000 in
theorem deedJ_none (x:UInt64) (w:World) (h:LedAt w F R M os sp b s n ev v) (hx:M x=none) :
  Calls Tryz.prog 94 #[.pointer (some ⟨R.b,29,none⟩),.int .u64 x.toNat] w (DeedAns w none):=by
 have H:=Lib.hid (h.kept (kept_new w (.cells #[.slice none 0 0,.int .i64 0,.int .i64 0,.int .i64 0] 94)))
 have HX:=Lib.hid hx
 clear h hx
 go_enter Tryz.func94,Tryz.ntmps94
 go_wp2_with fail
 with_reducible refine (find_any x _ H.out).mono ?_
 rw [HX.out]
 rintro e w1 ⟨a1,c1,rfl,_,_,hb1⟩
 simp only [Option.getD_none,Option.isSome_none]
 have hB:=(hb1.block w.heap.size (by simp)).trans (heap_alloc_new w _)
 have k0:=(head_cell hB 0).trans rfl
 have k1:=(head_cell hB 1).trans rfl
 have k2:=(head_cell hB 2).trans rfl
 have k3:=(head_cell hB 3).trans rfl
 have f0:=frozen_of_row w1 _ 0 _ _ hB
 have f1:=frozen_of_row w1 _ 1 _ _ hB
 have f2:=frozen_of_row w1 _ 2 _ _ hB
 have f3:=frozen_of_row w1 _ 3 _ _ hB
 have hs:=(cell_spot k0).2
 have HB:=Lib.hid (kept_trans (kept_new _ _) hb1)
 clear hB hb1
 simp only [nod,List.length_nil]
 go_wp2_with fail
 refine bodyPost_ret (v:=.tuple #[.agg #[.slice none 0 0,.int .i64 0,.int .i64 0,.int .i64 0],.int .i64 5]) (by simp [results,Tryz.results94,go_sem,k0,k1,k2,k3,hs]) rfl ?_
 have ht:=turn_set4 w1 w.heap.size (.slice none 0 0) (.int .i64 0) (.int .i64 0) (.int .i64 0)
 exact ⟨none,0,rfl,Nat.zero_le _,Nat.zero_le _,fun i hi=>absurd hi (by simp [nod]),kept_alloc (HB.out.trans (ht.below (fun k hk=>by omega) HB.out.size)) _⟩
set_option maxRecDepth 20000 in
theorem deedJ_some (x:UInt64) (d:DeedD) (w:World) (h:LedAt w F R M os sp b s n ev v) (hx:M x=some d) :
  Calls Tryz.prog 94 #[.pointer (some ⟨R.b,29,none⟩),.int .u64 x.toNat] w (DeedAns w (some d)):=by
 have H:=Lib.hid (h.kept (kept_new w (.cells #[.slice none 0 0,.int .i64 0,.int .i64 0,.int .i64 0] 94)))
 have HX:=Lib.hid hx
 have HF:=Lib.hid (h.fine x d hx)
 clear h hx
 go_enter Tryz.func94,Tryz.ntmps94
 go_wp2_with fail
 with_reducible refine (find_any x _ H.out).mono ?_
 rw [HX.out]
 rintro e w1 ⟨a1,c1,rfl,hl1,hi1,hb1⟩
 simp only [Option.getD_some,Option.isSome_some] at hl1 hi1 ⊢
 obtain ⟨dl,dO,dg,df⟩:=d
 simp only at hl1 hi1 ⊢
 have hk:=kept_new w1 (.cells #[.slice a1 dl.length c1,.int .i64 dO,.int .i64 dg,.int .i64 df] 94)
 have hB1:=(hk.block w.heap.size (by have:=hb1.size;simp at this;omega)).trans ((hb1.block w.heap.size (by simp)).trans (heap_alloc_new w _))
 have HB1:=Lib.hid hB1
 have HI1:=Lib.hid (insAt_kept hk hi1)
 have HB:=Lib.hid (kept_trans (kept_trans (kept_new _ _) hb1) hk)
 have HS1:Hid (w.heap.size < w1.heap.size):=Lib.hid (by have:=hb1.size;simp at this;omega)
 clear hB1 hb1 hk hi1
 go_wp2_with fail
 with_reducible refine (clone_any ⟨dl,dO,dg,df⟩ a1 c1 _ hl1 HI1.out).mono ?_
 rintro e w2 ⟨v2,rfl,a2,k2,rfl,ho2,hb2⟩
 have hB:=(hb2.block w.heap.size (cell_spot (head_cell HB1.out 0)).2).trans HB1.out
 have c0:=(head_cell hB 0).trans rfl
 have c1:=(head_cell hB 1).trans rfl
 have c2:=(head_cell hB 2).trans rfl
 have c3:=(head_cell hB 3).trans rfl
 have f0:=frozen_of_row w2 _ 0 _ _ hB
 have f1:=frozen_of_row w2 _ 1 _ _ hB
 have f2:=frozen_of_row w2 _ 2 _ _ hB
 have f3:=frozen_of_row w2 _ 3 _ _ hB
 have hs:=(cell_spot c0).2
 have HO:=Lib.hid ho2
 have HB2:=Lib.hid (kept_trans HB.out hb2)
 clear hB hb2 ho2
 simp only
 go_wp2_with fail
 refine bodyPost_ret (v:=.tuple #[.agg #[.slice a2 dl.length k2,.int .i64 dO,.int .i64 dg,.int .i64 df],.int .i64 0]) (by simp [results,Tryz.results94,go_sem,c0,c1,c2,c3]) rfl ?_
 have ht:=turn_set4 w2 w.heap.size (.slice a2 dl.length k2) (.int .i64 dO) (.int .i64 dg) (.int .i64 df)
 have ho3:=own_turn HO.out ht (fun k hk e=>by have h1:=(HO.out.lt k hk).1;have:=HS1.out;simp at h1;omega)
 have ho4:OwnIns _ _ dl:=⟨ho3.1,ho3.2.imp id fun ⟨g,cap,cur,q1,_,q3⟩=>⟨g,cap,cur,q1,Nat.zero_le _,q3⟩⟩
 obtain ⟨_,hc4,hi4⟩:=ownIns_slice ho4 (ins_ok HF.out)
 exact ⟨a2,k2,rfl,hl1,hc4,hi4,HB2.out.trans (ht.below (fun k hk=>by omega) HB2.out.size)⟩
theorem deedJ_any (x:UInt64) (w:World) (h:LedAt w F R M os sp b s n ev v) :
  Calls Tryz.prog 94 #[.pointer (some ⟨R.b,29,none⟩),.int .u64 x.toNat] w (DeedAns w (M x)):=by
 cases hx:M x with
 | none=>exact deedJ_none x w h hx
 | some d=>exact deedJ_some x d w h hx
theorem append_noneI (a:Option Addr) (cap:Nat) (ty:TypeId) (w:World):(Builtin.append_ #[39,39] ty #[.slice none 0 0,.slice a 0 cap]).run Tryz.prog w=.ok (.slice none 0 0) w:=by
 obtain ⟨iE,hiE,_,hz1,_⟩:=info_parts info_u64
 cases a with
 | none=>simp [Builtin.append_,run_underlying Tryz.underlying39,Builtin.lenOf,Builtin.firstCells,sizeOf,typeInfo,hiE]
 | some ad=>simp [Builtin.append_,run_underlying Tryz.underlying39,Builtin.lenOf,Builtin.firstCells,sizeOf,typeInfo,hiE,loadCells,loadCellsFrom]
theorem step_append_noneI {ops:Array Oper} {rest:List Oper} {o:Oper} {a:Act} {Q:Exit→Act→World→Prop} {w:World} (hgd:o.guard=none) (s x:Operand) (ho:o.op=.call { callee:=.builtin .append,args:=#[s,x],argTypes:=#[39,39] })
  (ad:Option Addr) (cap:Nat) (hs:a.eval s=.slice none 0 0) (hx:a.eval x=.slice ad 0 cap) (h:wpList Tryz.prog ops Q rest (a.put o.dst (.slice none 0 0)) w):wpList Tryz.prog ops Q (o :: rest) a w:=by
 refine wpList_plain hgd fun K' hK'=>?_
 unfold Oper.wp
 simp [execOp,ho,resolve,invoke,builtin,hs,hx,append_noneI,Result.andThen]
 exact hK' _ _ h
theorem idV_one (l:List UInt64):∀ u ∈ l.map idV,u.oneCell'=true:=fun u hu=>by
 obtain ⟨x,_,rfl⟩:=List.mem_map.1 hu
 rfl
set_option maxRecDepth 20000 in
theorem allJ_any (w:World) (h:LedAt w F R M os sp b s n ev v) (hl:os.length≤10000000000000) :
  Calls Tryz.prog 34 #[.pointer (some ⟨R.b,29,none⟩)] w (GaveIds w os):=by
 have hoc:=h.orderc.1
 have hlt:=h.lt
 have HO:=Lib.hid h.order
 clear h
 obtain ⟨ia,icap,rfl,_,hids,_⟩:=owns_idsAt HO.out
 by_cases hnil:os=[]
 ·subst hnil
  simp only [List.length_nil] at hoc ⊢
  clear hids
  go_enter Tryz.func34,Tryz.ntmps34
  go_wp2_with (at_builtin;refine step_append_noneI rfl _ _ rfl ia icap rfl rfl ?_)
  go_ret
  exact ⟨none,0,rfl,ownIds_nil _ _,Below.refl _ _⟩
 ·have hpos:0 < os.length:=List.length_pos_iff.2 hnil
  obtain ⟨iE,hiE,hz0,hz1,hz2⟩:=info_parts info_u64
  obtain ⟨gg,oo,rfl,_,_⟩:=hids 0 hpos
  have HN:Hid (∀ j u,(os.map idV)[j]?=some u→w.cell? ((⟨gg,oo,none⟩:Addr).add j)=some u):=Lib.hid fun j u hj=>by
   obtain ⟨hj',e⟩:=List.getElem?_eq_some_iff.1 hj
   rw [List.getElem_map] at e
   have hj2:j < os.length:=by simpa using hj'
   obtain ⟨b',o',e',_,c⟩:=hids j hj2
   cases e'
   have f0:(⟨gg,oo,none⟩:Addr).add j=⟨gg,oo+j,none⟩:=by unfold Addr.add;split <;> simp_all
   rw [f0,c,← e]
   rfl
  have HL:=Lib.hid hl
  clear hids hnil
  go_enter Tryz.func34,Tryz.ntmps34
  go_wp2_with (at_builtin;refine wpList_append_lies _ rfl _ _ 39 rfl w.heap.size 22 iE _ 1 8 Tryz.underlying39 hiE hz0 hz1 hz2 rfl (by decide) (.slice none 0 0) 0 [] rfl (World.ownsRow_nil _ _ _ _) ⟨gg,oo,none⟩ os.length icap (os.map idV) rfl (by simp) HN.out (idV_one os) hpos (by have:=HL.out;unfold maxLen;omega) (by have:=HL.out;omega) (Nat.le_refl _) _ rfl ?_;intro g2 cap2 w2 hown2 hgrow2 _ _)
  have HE:Hid (OwnIds w2 w.heap.size (.slice (some ⟨g2,0,none⟩) os.length cap2) os):=Lib.hid (by rw [Nat.zero_add] at hown2;exact hown2)
  have HB:=Lib.hid (grown_below hgrow2)
  clear hown2 hgrow2
  go_wp2_with fail
  go_ret
  exact ⟨_,_,rfl,HE.out,HB.out⟩
theorem append_idN {ops:Array Oper} {rest:List Oper} {o:Oper} {a:Act} {Q:Exit→Act→World→Prop} {w:World} (hgd:o.guard=none) (s x:Operand) (ho:o.op=.call { callee:=.builtin .append,args:=#[s,x],argTypes:=#[39,39] })
  {B:Nat} {v:Value} {d:List UInt64} (y:UInt64) (hs:a.eval s=v) (hx:a.eval x=.slice (some ⟨w.heap.size,0,none⟩) 1 1) (hown:OwnIds w B v d) (hlen:d.length≤10000000000000) (hB:B≤w.heap.size)
  (h:∀ g cap w',OwnIds w' B (.slice (some ⟨g,0,none⟩) (d.length+1) cap) (d ++ [y])→w.grownBy w' v.ownBlock→(v.ownBlock=some g∨w.heap.size≤g)→wpList Tryz.prog ops Q rest (a.put o.dst (.slice (some ⟨g,0,none⟩) (d.length+1) cap)) w') :
  wpList Tryz.prog ops Q (o :: rest) a (w.alloc (.cells #[.int .u64 y.toNat] 22)):=by
 obtain ⟨i0,hi0,hz0,hz1,hz2⟩:=info_parts info_u64
 refine wpList_append_lies _ hgd s x 39 ho B 22 i0 (.int .u64 0) 1 8 Tryz.underlying39 hi0 hz0 hz1 hz2 rfl (by decide) v d.length (d.map idV) hs (hown.alloc _) ⟨w.heap.size,0,none⟩ 1 1 [.int .u64 y.toNat] hx rfl (cells_new w _ _) (by simp [Value.oneCell']) (by decide) (by unfold maxLen;omega) (by omega) (by simp;omega) _ rfl ?_
 intro g cap w1 hown' hgrow hat _
 refine h g cap w1 ?_ ((World.grownBy_alloc w _ _).trans hgrow) (hat.imp id (fun e=>by rw [e];simp))
 unfold OwnIds
 rw [List.length_append,List.map_append]
 exact hown'
end Go.Proofs.YtlboemhbealnmaaGreat.Ju
namespace Go.Proofs.YtlboemhbealnmaaGreat.Ju
open Go.RowKit Go.Maps
variable {w w':World} {F:Nat→Prop} {R:Loc} {M:UInt64→Option DeedD} {os:List UInt64} {sp:List InD} {b s n:Nat} {ev:UInt64→Option Value} {v:Value}
set_option maxRecDepth 20000 in
set_option maxHeartbeats 1000000 in
theorem add_any (x:UInt64) (d:DeedD) (a:Option Addr) (cap:Nat) (hos:∀ y,(M y).isSome=true→y ∈ os) (hol:os.length≤5000000000000) (hn:n≤100000000000000) (hd:checkD d=0) (w:World) (h:LedAt w F R M os sp b s n ev v) (hi:InsAt w a d.ins) (hout:∀ bb o,d.ins≠[]→a=some ⟨bb,o,none⟩→¬ F bb) :
  Calls Tryz.prog 208 #[.pointer (some ⟨R.b,29,none⟩),.int .u64 x.toNat,.agg #[.slice a d.ins.length cap,.int .i64 d.outs,.int .i64 d.weight,.int .i64 d.fee]] w fun e w'=>e=.returned (.tuple #[])∧∃ F' ev' v',LedAt w' F' R (upd M x (some d)) (os ++ [x]) (sp ++ d.ins) b s (n+d.ins.length) ev' v'∧Turn F F' w w':=by
 obtain ⟨l,o,g,f⟩:=d
 simp only at hi hout ⊢
 obtain ⟨w0,hw0⟩:∃ x,x=w.alloc (.cells #[.slice a l.length cap,.int .i64 o,.int .i64 g,.int .i64 f] 94):=⟨_,rfl⟩
 have hk0:Below w.heap.size w w0:=hw0▸kept_new _ _
 have hbox0:w0.heap[w.heap.size]?=some (.cells #[.slice a l.length cap,.int .i64 o,.int .i64 g,.int .i64 f] 94 (0,0)):=hw0▸heap_alloc_new _ _
 have hmc:=h.mapc
 have hlt:=h.lt
 have hnn:=map_not_nil
 have HD:=Lib.hid (h.kept hk0.drew)
 have HI:=Lib.hid (insAt_kept hk0.drew hi)
 have hl:=(check_ok hd).1
 have HC:=Lib.hid hd
 have HOS:=Lib.hid hos
 have HTD:Hid (Turn F F w w0.drew):=Lib.hid (Turn.of_below hk0.drew)
 have HNB:Hid (∀ k,F k→k < w.heap.size):=Lib.hid h.there
 have HOUT:=Lib.hid hout
 have HBOX:Hid (w0.drew.heap[w.heap.size]?=some (.cells #[.slice a l.length cap,.int .i64 o,.int .i64 g,.int .i64 f] 94 (0,0))):=Lib.hid hbox0
 have HW0:=Lib.hid hw0
 have HBI:Hid (∀ bb oo,l≠[]→a=some ⟨bb,oo,none⟩→bb < w.heap.size):=Lib.hid (fun bb oo hne e=>by
  obtain ⟨b',o',e',hb',_⟩:=hi 0 (List.length_pos_iff.2 hne)
  rw [e] at e'
  cases e'
  exact hb')
 simp only at hl
 clear h hi hos hd hout hw0 hbox0 hk0
 go_enter Tryz.func208,Tryz.ntmps208
 go_wp2_with fail
 rw [← HW0.out]
 have hmc0:w0.cell? ⟨R.b,29,none⟩=some (.map (some b)):=HD.out.mapc
 have hlt0:R.b < w0.heap.size:=HD.out.lt
 have c0:w0.cell? ⟨w.heap.size,0,none⟩=some (.slice a l.length cap):=head_cell HBOX.out 0
 have c1:w0.cell? ⟨w.heap.size,1,none⟩=some (.int .i64 o):=head_cell HBOX.out 1
 have c2:w0.cell? ⟨w.heap.size,2,none⟩=some (.int .i64 g):=head_cell HBOX.out 2
 have c3:w0.cell? ⟨w.heap.size,3,none⟩=some (.int .i64 f):=head_cell HBOX.out 3
 have hs0:w.heap.size < w0.heap.size:=(cell_spot c0).2
 go_region_law (first
  | (go_simp;go_at_call 153;(with_reducible refine (clone_any ⟨l,o,g,f⟩ a cap _ hl HI.out).mono ?_);rintro e w1 ⟨v1,rfl,a1,kk,rfl,ho1,hb1⟩;obtain ⟨w2,hput,F2,h2,t2⟩:=HD.out.put os HOS.out (by omega) x HC.out hb1 ho1;have j0:=(HD.out.kept hb1).mapc;have j1:=(HD.out.kept hb1).lt;have H2:=Lib.hid h2;have T2:=Lib.hid t2;unfold deedV at hput;clear h2 t2 ho1 hb1))
 all_goals
  have hbx:∀ k,k < w0.heap.size→¬ F k→¬ F2 k:=fun k hk hn hf=>(T2.out.own k hf).elim hn (fun hle=>by have:w0.heap.size≤k:=hle;omega)
  have hbx2:w2.heap[w.heap.size]?=some (.cells #[.slice a l.length cap,.int .i64 o,.int .i64 g,.int .i64 f] 94 (0,0)):=(T2.out.block _ hs0 (fun hf=>by have:=HNB.out _ hf;omega)).trans HBOX.out
  have HBX2:=Lib.hid hbx2
  have HI2:=Lib.hid (insAt_turn HI.out T2.out HOUT.out)
  have hoc:=H2.out.orderc
  have hlt2:=H2.out.lt
  have HNF:=Lib.hid hbx
  have HT2:=Lib.hid (HTD.out.trans T2.out)
  have HO2:=Lib.hid H2.out.order
  clear hbx hbx2 hput
  go_wp2_with (at_builtin;refine append_idN rfl _ _ rfl x rfl rfl HO2.out (by omega) (Nat.zero_le _) ?_;intro g3 cap3 w3 ho3 hg3 hat3;refine Hid.out ?_)
  refine Lib.hid ?_
  have ht3:Turn (fun k=>v.ownBlock=some k) (fun k=>v.ownBlock=some k) w2 w3:=Turn.of_grown hg3 (fun k hk=>hk)
  have hR3:=(ht3.block R.b hlt2 (fun hg=>(H2.out.v_ne hg).1 rfl)).trans H2.out.head
  have k1:w3.cell? ⟨R.b,30,none⟩=some v:=(head_cell hR3 30).trans rfl
  have k2:=frozen_of_row w3 R.b 30 _ _ hR3
  have k3:=(cell_spot k1).2
  obtain ⟨h4,t4⟩:=H2.out.setOrder (u:=.slice (some ⟨g3,0,none⟩) (os.length+1) cap3) (fun k hk=>hk) ht3 ho3 (fun k hk=>by
   have hk:g3=k:=by simpa [Value.ownBlock] using hk
   rw [← hk]
   exact hat3)
  obtain ⟨w4,hw4⟩:∃ x,x=w3.setCell ⟨R.b,30,none⟩ (.slice (some ⟨g3,0,none⟩) (os.length+1) cap3):=⟨_,rfl⟩
  rw [← hw4] at h4 t4
  obtain ⟨F4,hF4⟩:∃ F4,F4=(fun k=>F2 k∨(Value.slice (some ⟨g3,0,none⟩) (os.length+1) cap3).ownBlock=some k):=⟨_,rfl⟩
  rw [← hF4] at h4 t4
  have hnb:¬ F2 w.heap.size:=HNF.out _ hs0 (fun hf=>by have:=HNB.out _ hf;omega)
  have hbx4:w4.heap[w.heap.size]?=some (.cells #[.slice a l.length cap,.int .i64 o,.int .i64 g,.int .i64 f] 94 (0,0)):=(t4.block _ (cell_spot (head_cell HBX2.out 0)).2 hnb).trans HBX2.out
  have HI4:=Lib.hid (insAt_turn HI2.out t4 (fun bb oo hne e=>HNF.out bb (by have:=HBI.out bb oo hne e;omega) (HOUT.out bb oo hne e)))
  have HT4:=Lib.hid (HT2.out.trans t4)
  have HN4:Hid (∀ bb oo,l≠[]→a=some ⟨bb,oo,none⟩→¬ F4 bb):=Lib.hid (fun bb oo hne e hf=>(t4.own bb hf).elim (HNF.out bb (by have:=HBI.out bb oo hne e;omega) (HOUT.out bb oo hne e)) (fun hle=>by
   have h1:=HBI.out bb oo hne e
   have h2:=T2.out.size
   have h3:w0.drew.heap.size=w0.heap.size:=rfl
   omega))
  have H4:=Lib.hid h4
  have d0:w4.cell? ⟨w.heap.size,0,none⟩=some (.slice a l.length cap):=head_cell hbx4 0
  have d1:=(cell_spot d0).2
  have HW4:=Lib.hid hw4
  rw [hw4] at d0 d1
  clear h4 t4 hw4 hF4 hbx4 hnb ho3 hg3 hat3 ht3 hR3 HI2 HO2 HBX2 HT2 HI HBOX
  go_wp2_with fail
  rw [← HW4.out] at d0 d1 ⊢
  go_loopw [38] (fun i wr=>∃ k:Nat,k≤l.length∧i=.int .i64 k∧Hid (LedAt wr F4 R (upd M x (some ⟨l,o,g,f⟩)) (os ++ [x]) (sp ++ l.take k) b s (n+k) (upd ev x (some (deedV a1 kk ⟨l,o,g,f⟩))) (.slice (some ⟨g3,0,none⟩) (os.length+1) cap3))∧Hid (Turn F4 F4 w4 wr)) (fun i _=>l.length - (intOf i).toNat)
  case atStart=>exact ⟨0,Nat.zero_le _,rfl,Lib.hid (by rw [List.take_zero,List.append_nil,Nat.add_zero];exact H4.out),Lib.hid (Turn.refl _ _)⟩
  case round=>
   obtain ⟨k,hk,rfl,H5,T5⟩:=hrel
   by_cases hkl:k < l.length
   ·have hi5:=insAt_turn HI4.out T5.out HN4.out
    obtain ⟨bb,oo,rfl,hbb,p0,p1,hok⟩:=hi5 k hkl
    obtain ⟨⟨ix,ia⟩,hix⟩:∃ q,l[k]=q:=⟨_,rfl⟩
    have hts:sp ++ l.take (k+1)=(sp ++ l.take k) ++ [(ix,ia)]:=by rw [List.take_succ_eq_append_getElem hkl,hix,List.append_assoc]
    rw [hix] at p0 p1 hok
    simp only at p0 p1 hok
    obtain ⟨wd,hwd⟩:∃ wd,(wr.alloc (.cells #[.int .u64 ix.toNat,.int .i64 ia] 180)).drew=wd:=⟨_,rfl⟩
    have hbd:Below wr.heap.size wr wd:=hwd▸(kept_new _ _).drew
    have h6:=H5.out.kept hbd
    have q0:wd.cell? ⟨wr.heap.size,0,none⟩=some (.int .u64 ix.toNat):=by rw [← hwd];show (wr.alloc _).cell? _=_;simp [go_sem]
    have q1:wd.cell? ⟨wr.heap.size,1,none⟩=some (.int .i64 ia):=by rw [← hwd];show (wr.alloc _).cell? _=_;simp [go_sem]
    have q2:=(cell_spot q0).2
    have q3:=h6.spentc
    have q4:=h6.lt
    obtain ⟨w7,hput,h7,t7⟩:=h6.spend (ix,ia) hok (by omega)
    have H7:=Lib.hid h7
    have T7:=Lib.hid ((T5.out.trans (Turn.of_below hbd)).trans t7)
    have HWD:=Lib.hid hwd
    have HTS:=Lib.hid hts
    clear hi5 hix hts hwd hbd h6 h7 t7 hok
    simp only at hput
    go_wp2_with fail
    refine region_tail 5 (by kernel_rfl) (by kernel_rfl) HWD.out ?_
    simp only [List.take_succ_cons,List.take_zero,List.drop_succ_cons,List.drop_zero]
    repeat still_step
    refine wpStill_nil ?_
    go_wp2_with fail
    go_roundw
    case rel=>exact ⟨k+1,by omega,by go_num,Lib.hid (by rw [HTS.out,← Nat.add_assoc];exact H7.out),T7⟩
    case measure=>simp [intOf];omega
   ·have he:l.take k=l:=List.take_of_length_le (by omega)
    obtain rfl:k=l.length:=by omega
    have H5':=H5.out
    rw [he] at H5'
    have HE:=Lib.hid H5'
    clear H5' he
    go_wp2_with fail
    go_end0
    exact ⟨rfl,F4,_,_,HE.out,HT4.out.trans T5.out⟩
end Go.Proofs.YtlboemhbealnmaaGreat.Ju
