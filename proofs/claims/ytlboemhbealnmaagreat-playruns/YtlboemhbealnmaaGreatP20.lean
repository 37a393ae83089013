import Derived.Test.YtlboemhbealnmaaGreatP2
import Derived.Test.YtlboemhbealnmaaGreatP5
import Derived.Deep.OwnRows
import Derived.Lib.Strings
import Derived.Deep.AppendLies
import Derived.Deep.RegionLaw
set_option maxRecDepth 20000
namespace Go.Proofs.YtlboemhbealnmaaGreat.De
open Go.RowKit
theorem checkSize_any (s:ByteArray) (w:World) (hs:s.size≤maxLen) :
  Calls Tryz.prog 96 #[.string s] w fun e w'=>e=.returned (.int .i64 (formD s.data.toList))∧w=w':=by
 unfold maxLen at hs
 have hlen:s.data.toList.length=s.size:=by simp
 by_cases h0:s.size=0
 ·have HF:Hid (formD s.data.toList=3):=Lib.hid (by unfold formD;rw [hlen,if_pos h0])
  have he:=empty_yes h0
  clear hlen
  go_enter Tryz.func96,Tryz.ntmps96
  go_wp2
  go_ret
  exact ⟨ret_i64 HF.out.symm,rfl⟩
 ·have he:=empty_no h0
  have g0:=getD_at s 0 (by omega)
  have hp:0 < s.size:=by omega
  by_cases h1:s[0]=68
  ·by_cases h2:s.size < 2
   ·have HF:Hid (formD s.data.toList=3):=Lib.hid (by unfold formD;rw [hlen,if_neg h0,g0,if_neg (by simp [h1]),if_pos h2])
    clear hlen g0
    go_enter Tryz.func96,Tryz.ntmps96
    go_wp2
    go_ret
    exact ⟨ret_i64 HF.out.symm,rfl⟩
   ·have g1:=getD_at s 1 (by omega)
    have hp1:1 < s.size:=by omega
    have hb:=s[1].toNat_lt
    have base:formD s.data.toList=if s.size < 7+9 * s[1].toNat then 3 else if 7+9 * s[1].toNat < s.size then 4 else 0:=by
     unfold formD;rw [hlen,if_neg h0,g0,if_neg (by simp [h1]),if_neg h2,g1]
    by_cases h3:s.size < 7+9 * s[1].toNat
    ·have HF:=Lib.hid (base.trans (if_pos h3))
     clear hlen g0 g1 base
     go_enter Tryz.func96,Tryz.ntmps96
     go_wp2_with fail
     with_reducible refine (size_any _ _ (by omega)).mono ?_
     rintro e w' ⟨rfl,rfl⟩
     go_wp2_with fail
     go_ret
     exact ⟨ret_i64 HF.out.symm,rfl⟩
    ·by_cases h4:7+9 * s[1].toNat < s.size
     ·have HF:=Lib.hid (base.trans ((if_neg h3).trans (if_pos h4)))
      clear hlen g0 g1 base
      go_enter Tryz.func96,Tryz.ntmps96
      go_wp2_with fail
      with_reducible refine (size_any _ _ (by omega)).mono ?_
      rintro e w' ⟨rfl,rfl⟩
      go_wp2_with fail
      go_ret
      exact ⟨ret_i64 HF.out.symm,rfl⟩
     ·have HF:=Lib.hid (base.trans ((if_neg h3).trans (if_neg h4)))
      clear hlen g0 g1 base
      go_enter Tryz.func96,Tryz.ntmps96
      go_wp2_with fail
      with_reducible refine (size_any _ _ (by omega)).mono ?_
      rintro e w' ⟨rfl,rfl⟩
      go_wp2_with fail
      go_ret
      exact ⟨ret_i64 HF.out.symm,rfl⟩
  ·have hb:((s[0].toNat:Int) != 68)=true:=by
    rw [bne_iff_ne]
    intro e
    exact h1 (UInt8.toNat_inj.1 (by simp;omega))
   have HF:Hid (formD s.data.toList=4):=Lib.hid (by unfold formD;rw [hlen,if_neg h0,g0,if_pos h1])
   clear hlen g0
   go_enter Tryz.func96,Tryz.ntmps96
   go_wp2
   go_ret
   exact ⟨ret_i64 HF.out.symm,rfl⟩
end Go.Proofs.YtlboemhbealnmaaGreat.De
namespace Go.Proofs.YtlboemhbealnmaaGreat.De
open Go.RowKit
theorem info_in:(Tryz.prog.info? 180).map (fun i=>(i.zero,i.size,i.bytes))=some (some (.agg #[.int .u64 0,.int .i64 0]),2,16):=by kernel_rfl
theorem make_ins (n:Nat) (hn:n≤1000) (w:World):(Instr.makeSlice 92 (.int .i64 (n:Int)) (.int .i64 (n:Int))).run Tryz.prog w=.ok (.slice (some ⟨w.heap.size,0,none⟩) n n) (w.alloc (.cells (madeCells #[.int .u64 0,.int .i64 0] (n * 2)) 180)):=by
 obtain ⟨i,hi,hz,hs,hb⟩:=info_parts info_in
 have:=run_make (P:=Tryz.prog) w 92 180 i _ Tryz.underlying92 hi hz .i64 .i64 n n (by omega) (Int.le_refl _) (by rw [hb];omega) (by omega)
 rw [hs] at this
 exact this
def inCells (f:Nat→InD) (k j:Nat):Value:=
 if j / 2 < k then (if j % 2=0 then .int .u64 (f (j / 2)).1.toNat else .int .i64 (f (j / 2)).2) else (if j % 2=0 then .int .u64 0 else .int .i64 0)
theorem made_ins (w:World) (f:Nat→InD) (n:Nat):(w.alloc (.cells (madeCells #[.int .u64 0,.int .i64 0] (n * 2)) 180)).rowIs w.heap.size 180 (n * 2) (inCells f 0):=by
 refine ⟨_,heap_alloc_new _ _,size_madeCells _ _,fun i hi=>?_⟩
 unfold inCells madeCells
 rcases Nat.mod_two_eq_zero_or_one i with h | h <;> simp [hi,h]
theorem row_step {w:World} {b n k:Nat} {f:Nat→InD} (h:w.rowIs b 180 (n * 2) (inCells f k)) :
  ((w.setCell ⟨b,k * 2,none⟩ (.int .u64 (f k).1.toNat)).setCell ⟨b,k * 2+1,none⟩ (.int .i64 (f k).2)).rowIs b 180 (n * 2) (inCells f (k+1)):=by
 refine ((h.set (k * 2) _).set (k * 2+1) _).congr fun j hj=>?_
 by_cases e1:j=k * 2+1
 ·subst e1
  have a1:(k * 2+1) / 2=k:=by omega
  have a2:(k * 2+1) % 2=1:=by omega
  simp [inCells,a1,a2]
 ·by_cases e2:j=k * 2
  ·subst e2
   have a1:(k * 2) / 2=k:=by omega
   have a2:(k * 2) % 2=0:=by omega
   simp [inCells,a1,a2]
  ·rw [if_neg e1,if_neg e2]
   unfold inCells
   by_cases h3:j / 2 < k
   ·have h4:j / 2 < k+1:=by omega
    simp [h3,h4]
   ·have h4:¬ j / 2 < k+1:=by omega
    simp [h3,h4]
theorem row_insAt {w:World} {b n:Nat} {f:Nat→InD} (hok:∀ i,(Lit.int .i64 (f i).2).wf=true) (h:w.rowIs b 180 (n * 2) (inCells f n)):InsAt w (some ⟨b,0,none⟩) ((List.range n).map f):=fun i hi=>by
 have hi':i < n:=by simpa using hi
 refine ⟨b,0,rfl,h.lt,?_,?_,?_⟩
 ·have:=h.cell (i:=i * 2) (by omega)
  have a1:(i * 2) / 2=i:=by omega
  simpa [inCells,a1,hi'] using this
 ·have:=h.cell (i:=i * 2+1) (by omega)
  have a1:(i * 2+1) / 2=i:=by omega
  simpa [inCells,a1,hi'] using this
 ·simpa using hok i
theorem num2_le (l:List UInt8) (h:l.length≤2):((numU l).toNat:Int)≤65535:=by
 have h1:=numN_lt l
 have h2:256 ^ l.length≤256 ^ 2:=Nat.pow_le_pow_right (by decide) h
 rw [numU_short l (by omega)]
 omega
theorem insAt_set {w:World} {a:Option Addr} {l:List InD} {n:Nat} {p:Addr} (h:InsAt w a l) (hf:Fresh n a) (hp:p.block < n) (v:Value):InsAt (w.setCell p v) a l:=fun i hi=>by
 obtain ⟨b,o,e,hb,c0,c1,c2⟩:=h i hi
 have hn:b≠p.block:=by have:=hf b o none e;omega
 have hs:∀ oo,(w.setCell p v).cell? ⟨b,oo,none⟩=w.cell? ⟨b,oo,none⟩:=fun oo=>World.cell?_of_block (w:=w) (a:=⟨b,oo,none⟩) (Below.heap_setCell w p v b hn)
 exact ⟨b,o,e,by simpa using hb,by rw [hs];exact c0,by rw [hs];exact c1,c2⟩
def GaveDeed (w:World) (d:DeedD) (e:Ending) (w':World):Prop:=
 ∃ (a:Option Addr) (cap:Nat),e=.returned (.agg #[.slice a d.ins.length cap,.int .i64 d.outs,.int .i64 d.weight,.int .i64 d.fee])∧d.ins.length≤cap∧InsAt w' a d.ins∧Fresh w.heap.size a∧Below w.heap.size w w'
theorem inOf_ok (r:List UInt8):(Lit.int .i64 (inOf r).2).wf=true:=by
 have:=(r.getD 8 0).toNat_lt
 exact WalkArith.wf_i64 (by show _≤((r.getD 8 0).toNat:Int)∧((r.getD 8 0).toNat:Int)≤_;omega)
set_option maxHeartbeats 1000000 in
theorem read_any (s:ByteArray) (n:Nat) (w:World) (hp:1 < s.size) (hn:s[1].toNat=n) (hs:s.size=7+9 * n) :
  Calls Tryz.prog 97 #[.string s] w (GaveDeed w (readD s.data.toList)):=by
 have hn255:n≤255:=by have:=s[1].toNat_lt;omega
 have hmk:=fun wx=>make_ins n (by omega) wx
 have HSZ:=Lib.hid hs
 have h2:2≤s.size:=by omega
 have HN:Hid ((s.data.toList.getD 1 0).toNat=n):=Lib.hid (by rw [getD_at s 1 hp];exact hn)
 obtain ⟨l,hl⟩:∃ l,s.data.toList=l:=⟨_,rfl⟩
 have HL:=Lib.hid hl
 obtain ⟨f,hf⟩:∃ f:Nat→InD,f=fun i=>inOf ((l.drop 2).drop (9 * i)):=⟨_,rfl⟩
 have HF:=Lib.hid hf
 have hw0:(w.alloc (.cells #[.slice none 0 0,.int .i64 0,.int .i64 0,.int .i64 0] 94)).heap.size=w.heap.size+1:=by simp
 have hrow:=made_ins (w.alloc (.cells #[.slice none 0 0,.int .i64 0,.int .i64 0,.int .i64 0] 94)) f n
 have hbox:=World.rowIs_alloc w #[.slice none 0 0,.int .i64 0,.int .i64 0,.int .i64 0] 94 (fun i=>(#[Value.slice none 0 0,.int .i64 0,.int .i64 0,.int .i64 0][i]?).getD undef) (fun i hi=>by
  have:i < 4:=hi
  match i,this with
  | 0,_=>rfl
  | 1,_=>rfl
  | 2,_=>rfl
  | 3,_=>rfl)
 rw [hw0] at hrow
 have HROW:=Lib.hid hrow
 have HBOX:=Lib.hid hbox
 clear hl hf hrow hbox hw0
 go_enter Tryz.func97,Tryz.ntmps97
 go_wp2_with fail
 go_loopw [4,14] (fun u i wr=>∃ (k:Nat) (R:ByteArray),k≤n∧i=.int .i64 k∧u=.string R∧Hid (R.data.toList=l.drop (2+9 * k))∧Hid (wr.rowIs (w.heap.size+1) 180 (n * 2) (inCells f k)) ∧
  Hid (wr.rowIs w.heap.size 94 4 (fun i=>(#[Value.slice none 0 0,.int .i64 0,.int .i64 0,.int .i64 0][i]?).getD undef))∧Below w.heap.size w wr) (fun _ i _=>n - (intOf i).toNat)
 case atStart=>
  refine ⟨0,_,Nat.zero_le _,rfl,rfl,Lib.hid ?_,HROW,Lib.hid (HBOX.out.alloc _),kept_alloc (kept_new _ _) _⟩
  rw [extract_end _ _ _ HSZ.out.symm,HL.out]
 case round=>
  clear HROW HBOX
  obtain ⟨k,R,hk,rfl,rfl,HR,HW,HB,hbel⟩:=hrel
  have hRs:R.size=5+9 * (n - k):=by
   have e1:R.data.toList.length=R.size:=by simp
   have e2:s.data.toList.length=s.size:=by simp
   rw [← e1,HR.out,List.length_drop,← HL.out,e2,HSZ.out]
   omega
  by_cases hlt:k < n
  ·obtain ⟨x,hx⟩:∃ x,f k=x:=⟨_,rfl⟩
   have h8:8 < R.size:=by omega
   have h9:9≤R.size:=by omega
   have hRm:R.size≤10000:=by omega
   have hxx:x=inOf R.data.toList:=by rw [← hx,HF.out,HR.out];simp only [List.drop_drop]
   have HX1:Hid (numU (R.extract 0 8).data.toList=x.1):=Lib.hid (by rw [hxx,extract_take];rfl)
   have hx2:(R[8].toNat:Int)=x.2:=by rw [hxx];show _=((R.data.toList.getD 8 0).toNat:Int);rw [getD_at R 8 h8]
   have hx3:0≤x.2∧x.2≤255:=by have:=R[8].toNat_lt;omega
   obtain ⟨hx4,hx5⟩:=hx3
   have HNX:Hid ((R.extract 9 R.size).data.toList=l.drop (2+9 * (k+1))):=Lib.hid (by rw [extract_end _ _ _ rfl,HR.out,List.drop_drop];congr 1)
   have hsz8:(R.extract 0 8).size≤maxLen:=by rw [ByteArray.size_extract];unfold maxLen;omega
   obtain ⟨w2,hw2⟩:∃ w2,wr.drew=w2:=⟨_,rfl⟩
   have hrow2:w2.rowIs (w.heap.size+1) 180 (n * 2) (inCells f k):=hw2▸HW.out.drew
   have hbox2:w2.rowIs w.heap.size 94 4 (fun i=>(#[Value.slice none 0 0,.int .i64 0,.int .i64 0,.int .i64 0][i]?).getD undef):=hw2▸HB.out.drew
   have hbel2:Below w.heap.size w w2:=hw2▸hbel.drew
   have q0:=hrow2.cell (i:=k * 2) (by omega)
   have q1:=hrow2.cell (i:=k * 2+1) (by omega)
   have q2:=hrow2.frozen (k * 2)
   have q3:=hrow2.frozen (k * 2+1)
   have HW2:=Lib.hid hw2
   have H1:=Lib.hid hrow2
   have H2:=Lib.hid hbox2
   have HXX:=Lib.hid hx
   have z1:(8:Int)≤(R.size:Int):=by omega
   have z2:(8:Int) < (R.size:Int):=by omega
   have z3:(9:Int)≤(R.size:Int):=by omega
   have z4:(k:Int) < (n:Int):=by omega
   clear hw2 hrow2 hbox2 hxx hx hRs
   go_wp2_with fail
   refine region_tail 10 (by kernel_rfl) (by kernel_rfl) HW2.out ?_
   simp only [List.take_succ_cons,List.take_zero,List.drop_succ_cons,List.drop_zero]
   repeat still_step
   still_call (decodeID_still _ x.1 w2 hsz8 HX1.out)
   repeat still_step
   refine wpStill_nil ?_
   go_wp2_with fail
   go_roundw
   case rel=>
    refine ⟨k+1,_,by omega,by go_num,rfl,Lib.hid HNX.out,Lib.hid ?_,Lib.hid ((H2.out.setOther (by simp) _).setOther (by simp) _),(hbel2.setCell (by simp) _).setCell (by simp) _⟩
    have:=row_step H1.out
    rw [HXX.out] at this
    exact this
   case measure=>simp [intOf];omega
  ·obtain rfl:k=n:=by omega
   have h0:0 < R.size:=by omega
   have hRm:R.size=5:=by omega
   obtain ⟨p,hp1⟩:∃ p,numU (R.extract 1 3).data.toList=p:=⟨_,rfl⟩
   obtain ⟨q,hq1⟩:∃ q,numU (R.extract 3 5).data.toList=q:=⟨_,rfl⟩
   have e1:(R.extract 1 3).data.toList=(R.data.toList.drop 1).take 2:=extract_mid R 1 3
   have e2:(R.extract 3 5).data.toList=(R.data.toList.drop 3).take 2:=extract_mid R 3 5
   have hpb:(p.toNat:Int)≤65535:=by rw [← hp1];exact num2_le _ (by rw [e1,List.length_take];omega)
   have hqb:(q.toNat:Int)≤65535:=by rw [← hq1];exact num2_le _ (by rw [e2,List.length_take];omega)
   have hs1:(R.extract 1 3).size≤maxLen:=by rw [ByteArray.size_extract];unfold maxLen;omega
   have hs2:(R.extract 3 5).size≤maxLen:=by rw [ByteArray.size_extract];unfold maxLen;omega
   obtain ⟨D,hD⟩:∃ D,readD s.data.toList=D:=⟨_,rfl⟩
   have hl:s.data.toList=l:=HL.out
   have hD1:D.ins=(List.range k).map f:=by
    rw [← hD]
    show insOf (s.data.toList.getD 1 0).toNat (s.data.toList.drop 2)=_
    rw [HN.out,hl,HF.out]
    rfl
   have hD2:D.outs=(R[0].toNat:Int):=by
    rw [← hD]
    show (((s.data.toList.drop (2+9 * (s.data.toList.getD 1 0).toNat)).getD 0 0).toNat:Int)=_
    rw [HN.out,hl,← HR.out,getD_at R 0 h0]
   have hD3:D.weight=(p.toNat:Int):=by
    rw [← hD,← hp1,e1]
    show ((numU (((s.data.toList.drop (2+9 * (s.data.toList.getD 1 0).toNat)).drop 1).take 2)).toNat:Int)=_
    rw [HN.out,hl,← HR.out]
   have hD4:D.fee=(q.toNat:Int):=by
    rw [← hD,← hq1,e2]
    show ((numU (((s.data.toList.drop (2+9 * (s.data.toList.getD 1 0).toNat)).drop 3).take 2)).toNat:Int)=_
    rw [HN.out,hl,← HR.out]
   have HDD:=Lib.hid hD
   have hb0:(R[0].toNat:Int)≤255:=by have:=R[0].toNat_lt;omega
   obtain ⟨w2,hw2⟩:∃ w2,wr.drew=w2:=⟨_,rfl⟩
   have hrow2:w2.rowIs (w.heap.size+1) 180 (k * 2) (inCells f k):=hw2▸HW.out.drew
   have hbox2:w2.rowIs w.heap.size 94 4 (fun i=>(#[Value.slice none 0 0,.int .i64 0,.int .i64 0,.int .i64 0][i]?).getD undef):=hw2▸HB.out.drew
   have hbel2:Below w.heap.size w w2:=hw2▸hbel.drew
   have q0:=hbox2.cell (i:=0) (by omega)
   have q1:=hbox2.cell (i:=1) (by omega)
   have q2:=hbox2.cell (i:=2) (by omega)
   have q3:=hbox2.cell (i:=3) (by omega)
   have r0:=hbox2.frozen 0
   have r1:=hbox2.frozen 1
   have r2:=hbox2.frozen 2
   have r3:=hbox2.frozen 3
   simp at q0 q1 q2 q3
   have HW2:=Lib.hid hw2
   have H1:=Lib.hid hrow2
   have HDS:=Lib.hid (And.intro hD1 (And.intro hD2 (And.intro hD3 hD4)))
   have HP:=Lib.hid hp1
   have HQ:=Lib.hid hq1
   have z0:(0:Int) < (R.size:Int):=by omega
   have z1:(3:Int)≤(R.size:Int):=by omega
   have z2:(5:Int)≤(R.size:Int):=by omega
   clear hw2 hrow2 hbox2 hRs hRm hD1 hD2 hD3 hD4 hD hl e1 e2 hp1 hq1
   go_wp2_with fail
   refine region_tail 13 (by kernel_rfl) (by kernel_rfl) HW2.out ?_
   simp only [List.take_succ_cons,List.take_zero,List.drop_succ_cons,List.drop_zero]
   repeat still_step
   still_call (number_still _ p w2 hs1 HP.out)
   repeat still_step
   still_call (number_still _ q w2 hs2 HQ.out)
   repeat still_step
   refine wpStill_nil ?_
   go_wp2_with fail
   obtain ⟨d1,d2,d3,d4⟩:=HDS.out
   refine bodyPost_ret (v:=.agg #[.slice (some ⟨w.heap.size+1,0,none⟩) k k,.int .i64 (R[0].toNat:Int),.int .i64 (p.toNat:Int),.int .i64 (q.toNat:Int)]) (by simp [results,Tryz.results97,go_sem,q0,q1,q2,q3]) rfl ?_
   rw [HDD.out]
   have hlen:D.ins.length=k:=by rw [d1];simp
   refine ⟨some ⟨w.heap.size+1,0,none⟩,k,by rw [hlen,d2,d3,d4],by omega,?_,fun b o sp e=>by cases e;omega,?_⟩
   ·rw [d1]
    exact row_insAt (fun i=>by rw [HF.out];exact inOf_ok _) ((((H1.out.setOther (by simp) _).setOther (by simp) _).setOther (by simp) _).setOther (by simp) _)
   ·exact (((hbel2.setCell (by simp) _).setCell (by simp) _).setCell (by simp) _).setCell (by simp) _
end Go.Proofs.YtlboemhbealnmaaGreat.De
namespace Go.Proofs.YtlboemhbealnmaaGreat.De
open Go.RowKit
def GaveBoth (w:World) (d:DeedD) (r:Int) (e:Ending) (w':World):Prop:=
 ∃ (a:Option Addr) (cap:Nat),e=.returned (.tuple #[.agg #[.slice a d.ins.length cap,.int .i64 d.outs,.int .i64 d.weight,.int .i64 d.fee],.int .i64 r])∧d.ins.length≤cap∧InsAt w' a d.ins∧Fresh w.heap.size a∧Below w.heap.size w w'
def zeroD:DeedD:=⟨[],0,0,0⟩
theorem insAt_none (w:World) (a:Option Addr):InsAt w a []:=fun i hi=>absurd hi (by simp)
theorem gave_zero {w w':World} {r:Int} {e:Ending} (he:e=.returned (.tuple #[.agg #[.slice none 0 0,.int .i64 0,.int .i64 0,.int .i64 0],.int .i64 r])) (h:Below w.heap.size w w'):GaveBoth w zeroD r e w':=
 ⟨none,0,he,Nat.le_refl _,insAt_none _ _,(fun _ _ _ e=>by cases e),h⟩
theorem checkSize_is (s:ByteArray) (r:Int) (w:World) (hs:s.size≤maxLen) (h:formD s.data.toList=r) :
  Calls Tryz.prog 96 #[.string s] w fun e w'=>e=.returned (.int .i64 r)∧w=w':=h▸checkSize_any s w hs
theorem box_marks {w wr:World} {u v x y:Value} {t:TypeId} (h:Below (w.alloc (.cells #[u,v,x,y] t)).heap.size (w.alloc (.cells #[u,v,x,y] t)) wr) :
  wr.frozen? ⟨w.heap.size,0,none⟩=false∧wr.frozen? ⟨w.heap.size,1,none⟩=false∧wr.frozen? ⟨w.heap.size,2,none⟩=false∧wr.frozen? ⟨w.heap.size,3,none⟩=false:=by
 refine ⟨?_,?_,?_,?_⟩ <;> (rw [h.frozen (by simp)];simp [go_sem])
theorem decode_form (s:ByteArray) (r:Int) (w:World) (hs:s.size≤maxLen) (h:formD s.data.toList=r) (hr:r≠0):Calls Tryz.prog 50 #[.string s] w (GaveBoth w zeroD r):=by
 have HR:=Lib.hid h
 have hrb:(r != 0)=true:=by simpa using hr
 clear h
 go_enter Tryz.func50,Tryz.ntmps50
 go_wp2_with fail
 with_reducible refine (checkSize_is s r _ hs HR.out).mono ?_
 rintro e w' ⟨rfl,rfl⟩
 go_wp2_with fail
 exact bodyPost_ret (v:=.tuple #[.agg #[.slice none 0 0,.int .i64 0,.int .i64 0,.int .i64 0],.int .i64 r]) (by simp [results,Tryz.results50,go_sem]) rfl (gave_zero rfl (kept_new _ _))
theorem decode_check (s:ByteArray) (r:Int) (w:World) (hs:s.size≤maxLen) (h:formD s.data.toList=0) (hc:checkD (readD s.data.toList)=r) (hr:r≠0):Calls Tryz.prog 50 #[.string s] w (GaveBoth w zeroD r):=by
 obtain ⟨_,hsz⟩:=form_zero h
 have hln:s.data.toList.length=s.size:=by simp
 have hp:1 < s.size:=by omega
 rw [getD_at s 1 hp,hln] at hsz
 obtain ⟨n,hn⟩:∃ n,s[1].toNat=n:=⟨_,rfl⟩
 rw [hn] at hsz
 obtain ⟨D,hD⟩:∃ D,readD s.data.toList=D:=⟨_,rfl⟩
 have hrd:=fun wx=>read_any s n wx hp hn hsz
 rw [hD] at hrd hc
 have hrb:(r != 0)=true:=by simpa using hr
 have HR:=Lib.hid h
 have HC:=Lib.hid hc
 clear h hc hD hn hsz hln
 go_enter Tryz.func50,Tryz.ntmps50
 go_wp2_with fail
 with_reducible refine (checkSize_is s 0 _ hs HR.out).mono ?_
 rintro e w' ⟨rfl,rfl⟩
 go_wp2_with fail
 with_reducible refine (hrd _).mono ?_
 rintro e w1 ⟨a,cap,rfl,hcap,hi1,hfr,hb1⟩
 have hk1:=kept_new w1 (.cells #[.slice a D.ins.length cap,.int .i64 D.outs,.int .i64 D.weight,.int .i64 D.fee] 94)
 go_wp2_with fail
 with_reducible refine (check_is D _ _ _ r (insAt_kept hk1 hi1) HC.out).mono ?_
 rintro e w2 ⟨rfl,hb2⟩
 have hb12:=kept_trans hb1 (kept_trans hk1 hb2)
 obtain ⟨c0,c1,c2,c3,hws⟩:=box_four hb12
 obtain ⟨m0,m1,m2,m3⟩:=box_marks hb12
 go_wp2_with fail
 refine bodyPost_ret (v:=.tuple #[.agg #[.slice none 0 0,.int .i64 0,.int .i64 0,.int .i64 0],.int .i64 r]) (by simp [results,Tryz.results50,go_sem,c0,c1,c2,c3]) rfl (gave_zero rfl ?_)
 have hk:=kept_trans (kept_new _ _) hb12
 exact (((hk.setCell (by simp) _).setCell (by simp) _).setCell (by simp) _).setCell (by simp) _
theorem decode_ok (s:ByteArray) (w:World) (hs:s.size≤maxLen) (h:formD s.data.toList=0) (hc:checkD (readD s.data.toList)=0):Calls Tryz.prog 50 #[.string s] w (GaveBoth w (readD s.data.toList) 0):=by
 obtain ⟨_,hsz⟩:=form_zero h
 have hln:s.data.toList.length=s.size:=by simp
 have hp:1 < s.size:=by omega
 rw [getD_at s 1 hp,hln] at hsz
 obtain ⟨n,hn⟩:∃ n,s[1].toNat=n:=⟨_,rfl⟩
 rw [hn] at hsz
 obtain ⟨D,hD⟩:∃ D,readD s.data.toList=D:=⟨_,rfl⟩
 have hrd:=fun wx=>read_any s n wx hp hn hsz
 rw [hD] at hrd hc ⊢
 have HR:=Lib.hid h
 have HC:=Lib.hid hc
 clear h hc hD hn hsz hln
 go_enter Tryz.func50,Tryz.ntmps50
 go_wp2_with fail
 with_reducible refine (checkSize_is s 0 _ hs HR.out).mono ?_
 rintro e w' ⟨rfl,rfl⟩
 go_wp2_with fail
 with_reducible refine (hrd _).mono ?_
 rintro e w1 ⟨a,cap,rfl,hcap,hi1,hfr,hb1⟩
 have hk1:=kept_new w1 (.cells #[.slice a D.ins.length cap,.int .i64 D.outs,.int .i64 D.weight,.int .i64 D.fee] 94)
 go_wp2_with fail
 with_reducible refine (check_is D _ _ _ 0 (insAt_kept hk1 hi1) HC.out).mono ?_
 rintro e w2 ⟨rfl,hb2⟩
 have hb12:=kept_trans hb1 (kept_trans hk1 hb2)
 obtain ⟨c0,c1,c2,c3,hws⟩:=box_four hb12
 obtain ⟨m0,m1,m2,m3⟩:=box_marks hb12
 obtain ⟨d0,d1,d2,d3,hws1⟩:=box_four hb2
 have hi2:=insAt_kept (kept_trans hk1 hb2) hi1
 have hfr':Fresh (w.heap.size+1) a:=by simpa using hfr
 go_wp2_with fail
 refine bodyPost_ret (v:=.tuple #[.agg #[.slice a D.ins.length cap,.int .i64 D.outs,.int .i64 D.weight,.int .i64 D.fee],.int .i64 0]) (by simp [results,Tryz.results50,go_sem,c0,c1,c2,c3]) rfl ?_
 refine ⟨a,cap,rfl,hcap,?_,fun b o sp e=>by have:=hfr' b o sp e;omega,?_⟩
 ·exact insAt_set (insAt_set (insAt_set (insAt_set hi2 hfr' (by simp) _) hfr' (by simp) _) hfr' (by simp) _) hfr' (by simp) _
 ·have hk:=kept_trans (kept_new _ _) hb12
  exact (((hk.setCell (by simp) _).setCell (by simp) _).setCell (by simp) _).setCell (by simp) _
end Go.Proofs.YtlboemhbealnmaaGreat.De
namespace Go.Proofs.YtlboemhbealnmaaGreat.De
open Go.RowKit
theorem refDecode_form (s:ByteArray) (r:Int) (w:World) (hs:s.size≤maxLen) (h:formD s.data.toList=r) (hr:r≠0):Calls Tryz.prog 66 #[.string s] w (GaveBoth w zeroD r):=by
 unfold maxLen at hs
 have hlen:s.data.toList.length=s.size:=by simp
 by_cases h0:s.size=0
 ·have e:formD s.data.toList=3:=by unfold formD;rw [hlen,if_pos h0]
  rw [e] at h
  subst h
  clear hlen e
  have hb:((s.size:Int) == 0)=true:=by rw [beq_iff_eq];omega
  go_enter Tryz.func66,Tryz.ntmps66
  go_wp2_with fail
  exact bodyPost_ret (v:=.tuple #[.agg #[.slice none 0 0,.int .i64 0,.int .i64 0,.int .i64 0],.int .i64 3]) (by simp [results,Tryz.results66,go_sem]) rfl (gave_zero rfl (kept_new _ _))
 ·have g0:=getD_at s 0 (by omega)
  have hp:0 < s.size:=by omega
  have hb0:((s.size:Int) == 0)=false:=by rw [beq_eq_false_iff_ne];omega
  by_cases h1:s[0]=68
  ·by_cases h2:s.size < 2
   ·have e:formD s.data.toList=3:=by unfold formD;rw [hlen,if_neg h0,g0,if_neg (by simp [h1]),if_pos h2]
    rw [e] at h
    subst h
    have hb1:((s.size:Int) == 1)=true:=by rw [beq_iff_eq];omega
    clear hlen g0 e
    go_enter Tryz.func66,Tryz.ntmps66
    go_wp2_with fail
    exact bodyPost_ret (v:=.tuple #[.agg #[.slice none 0 0,.int .i64 0,.int .i64 0,.int .i64 0],.int .i64 3]) (by simp [results,Tryz.results66,go_sem]) rfl (gave_zero rfl (kept_new _ _))
   ·have g1:=getD_at s 1 (by omega)
    have hp1:1 < s.size:=by omega
    have hb:=s[1].toNat_lt
    have hb1:((s.size:Int) == 1)=false:=by rw [beq_eq_false_iff_ne];omega
    have base:formD s.data.toList=if s.size < 7+9 * s[1].toNat then 3 else if 7+9 * s[1].toNat < s.size then 4 else 0:=by
     unfold formD;rw [hlen,if_neg h0,g0,if_neg (by simp [h1]),if_neg h2,g1]
    by_cases h3:s.size < 7+9 * s[1].toNat
    ·have e:=base.trans (if_pos h3)
     rw [e] at h
     subst h
     have h3i:(s.size:Int) < 7+9 * (s[1].toNat:Int):=by omega
     clear hlen g0 g1 base e
     go_enter Tryz.func66,Tryz.ntmps66
     go_wp2_with fail
     exact bodyPost_ret (v:=.tuple #[.agg #[.slice none 0 0,.int .i64 0,.int .i64 0,.int .i64 0],.int .i64 3]) (by simp [results,Tryz.results66,go_sem]) rfl (gave_zero rfl (kept_new _ _))
    ·by_cases h4:7+9 * s[1].toNat < s.size
     ·have e:=base.trans ((if_neg h3).trans (if_pos h4))
      rw [e] at h
      subst h
      have h3i:¬ (s.size:Int) < 7+9 * (s[1].toNat:Int):=by omega
      have h4i:7+9 * (s[1].toNat:Int) < (s.size:Int):=by omega
      clear hlen g0 g1 base e
      go_enter Tryz.func66,Tryz.ntmps66
      go_wp2_with fail
      exact bodyPost_ret (v:=.tuple #[.agg #[.slice none 0 0,.int .i64 0,.int .i64 0,.int .i64 0],.int .i64 4]) (by simp [results,Tryz.results66,go_sem]) rfl (gave_zero rfl (kept_new _ _))
     ·exact absurd ((base.trans ((if_neg h3).trans (if_neg h4))).symm.trans h).symm hr
  ·have hb:((s[0].toNat:Int) != 68)=true:=by
    rw [bne_iff_ne]
    intro e
    exact h1 (UInt8.toNat_inj.1 (by simp;omega))
   have e:formD s.data.toList=4:=by unfold formD;rw [hlen,if_neg h0,g0,if_pos h1]
   rw [e] at h
   subst h
   clear hlen g0 e
   go_enter Tryz.func66,Tryz.ntmps66
   go_wp2_with fail
   exact bodyPost_ret (v:=.tuple #[.agg #[.slice none 0 0,.int .i64 0,.int .i64 0,.int .i64 0],.int .i64 4]) (by simp [results,Tryz.results66,go_sem]) rfl (gave_zero rfl (kept_new _ _))
end Go.Proofs.YtlboemhbealnmaaGreat.De
set_option maxRecDepth 20000
namespace Go.Proofs.YtlboemhbealnmaaGreat.De
open Go.RowKit
def insCells (l:List InD):List Value:=l.flatMap fun x=>[.int .u64 x.1.toNat,.int .i64 x.2]
theorem insCells_snoc (l:List InD) (x:InD):insCells (l ++ [x])=insCells l ++ [.int .u64 x.1.toNat,.int .i64 x.2]:=by simp [insCells]
theorem insCells_at:∀ (l:List InD) (i:Nat) (h:i < l.length),(insCells l)[i * 2]?=some (.int .u64 l[i].1.toNat)∧(insCells l)[i * 2+1]?=some (.int .i64 l[i].2)
 | x :: r,0,_=>by simp [insCells]
 | x :: r,i+1,h=>by
  have:=insCells_at r i (by simpa using h)
  have e:insCells (x :: r)=.int .u64 x.1.toNat :: .int .i64 x.2 :: insCells r:=by simp [insCells]
  rw [e,show (i+1) * 2=i * 2+2 by omega]
  simpa using this
theorem row_below {w w':World} {b n:Nat} {t:TypeId} {f:Nat→Value} (h:w.rowIs b t n f) (hb:Below w.heap.size w w'):w'.rowIs b t n f:=h.of_block (hb.block b h.lt)
def boxF (v:Value) (i:Nat):Value:=(#[v,.int .i64 0,.int .i64 0,.int .i64 0][i]?).getD undef
theorem box_made (w:World):(w.alloc (.cells #[.slice none 0 0,.int .i64 0,.int .i64 0,.int .i64 0] 94)).rowIs w.heap.size 94 4 (boxF (.slice none 0 0)):=
 World.rowIs_alloc w #[.slice none 0 0,.int .i64 0,.int .i64 0,.int .i64 0] 94 _ (fun i hi=>by
  have:i < 4:=hi
  match i,this with
  | 0,_=>rfl
  | 1,_=>rfl
  | 2,_=>rfl
  | 3,_=>rfl)
def boxG (v:Value) (o g f:Int) (i:Nat):Value:=(#[v,.int .i64 o,.int .i64 g,.int .i64 f][i]?).getD undef
theorem boxG_1 {w:World} {b:Nat} {v:Value} {o:Int} (h:w.rowIs b 94 4 (boxF v)):(w.setCell ⟨b,1,none⟩ (.int .i64 o)).rowIs b 94 4 (boxG v o 0 0):=
 (h.set 1 _).congr fun i hi=>by
  match i,hi with
  | 0,_=>rfl
  | 1,_=>rfl
  | 2,_=>rfl
  | 3,_=>rfl
theorem boxG_2 {w:World} {b:Nat} {v:Value} {o g:Int} (h:w.rowIs b 94 4 (boxG v o 0 0)):(w.setCell ⟨b,2,none⟩ (.int .i64 g)).rowIs b 94 4 (boxG v o g 0):=
 (h.set 2 _).congr fun i hi=>by
  match i,hi with
  | 0,_=>rfl
  | 1,_=>rfl
  | 2,_=>rfl
  | 3,_=>rfl
theorem boxG_3 {w:World} {b:Nat} {v:Value} {o g f:Int} (h:w.rowIs b 94 4 (boxG v o g 0)):(w.setCell ⟨b,3,none⟩ (.int .i64 f)).rowIs b 94 4 (boxG v o g f):=
 (h.set 3 _).congr fun i hi=>by
  match i,hi with
  | 0,_=>rfl
  | 1,_=>rfl
  | 2,_=>rfl
  | 3,_=>rfl
theorem four_cells {w:World} {b:Nat} {v:Value} {o g f:Int} (h:w.rowIs b 94 4 (boxG v o g f)) :
  (w.cell? ⟨b,0,none⟩=some v∧w.cell? ⟨b,1,none⟩=some (.int .i64 o)∧w.cell? ⟨b,2,none⟩=some (.int .i64 g)∧w.cell? ⟨b,3,none⟩=some (.int .i64 f)) ∧
  w.frozen? ⟨b,0,none⟩=false∧w.frozen? ⟨b,1,none⟩=false∧w.frozen? ⟨b,2,none⟩=false∧w.frozen? ⟨b,3,none⟩=false:=
 ⟨⟨h.cell (i:=0) (by omega),h.cell (i:=1) (by omega),h.cell (i:=2) (by omega),h.cell (i:=3) (by omega)⟩,h.frozen 0,h.frozen 1,h.frozen 2,h.frozen 3⟩
theorem box_set {w:World} {b:Nat} {v u:Value} (h:w.rowIs b 94 4 (boxF v)):(w.setCell ⟨b,0,none⟩ u).rowIs b 94 4 (boxF u):=
 (h.set 0 u).congr fun i hi=>by
  match i,hi with
  | 0,_=>rfl
  | 1,_=>rfl
  | 2,_=>rfl
  | 3,_=>rfl
theorem owns_insAt {w:World} {B:Nat} {v:Value} {l:List InD} (hok:∀ i (h:i < l.length),(Lit.int .i64 l[i].2).wf=true) (h:w.ownsRow B 180 2 v l.length (insCells l)) :
  ∃ a cap,v=.slice a l.length cap∧l.length≤cap∧InsAt w a l∧Fresh B a:=by
 rcases h.2 with ⟨hv,hn⟩ | ⟨g,cap,cur,hv,hB,hg,hc,_,_,_⟩
 ·refine ⟨none,0,by rw [hn];exact hv,by omega,fun i hi=>absurd hi (by omega),fun _ _ _ e=>by cases e⟩
 ·refine ⟨some ⟨g,0,none⟩,cap,hv,hc,fun i hi=>?_,fun b o sp e=>by cases e;exact hB⟩
  obtain ⟨e0,e1⟩:=insCells_at l i hi
  have a0:=h.cells (g:=g) (by rw [hv];rfl) _ _ e0
  have a1:=h.cells (g:=g) (by rw [hv];rfl) _ _ e1
  have f0:(⟨g,0,none⟩:Addr).add (i * 2)=⟨g,0+i * 2,none⟩:=by unfold Addr.add;split <;> simp_all
  have f1:(⟨g,0,none⟩:Addr).add (i * 2+1)=⟨g,0+i * 2+1,none⟩:=by unfold Addr.add;split <;> simp_all
  rw [f0] at a0
  rw [f1] at a1
  exact ⟨g,0,rfl,(Array.getElem?_eq_some_iff.1 hg).1,a0,a1,hok i hi⟩
theorem row_grown {w w':World} {b n:Nat} {t:TypeId} {f:Nat→Value} {row:Option Nat} (h:w.rowIs b t n f) (hg:w.grownBy w' row) (hne:some b≠row):w'.rowIs b t n f:=h.of_block (hg.block b h.lt hne)
theorem own_far {w:World} {B size n b:Nat} {e:TypeId} {v:Value} {xs:List Value} (h:w.ownsRow B e size v n xs) (hb:b < B):some b≠v.ownBlock:=fun hh=>by
 have:=(h.lt _ hh.symm).1
 omega
theorem grown_set (w:World) (p:Addr) (u:Value):w.grownBy (w.setCell p u) (some p.block):=
 ⟨rfl,rfl,rfl,by simp,fun k _ hk=>Below.heap_setCell w p u k (fun e=>hk (by rw [e]))⟩
theorem ref_round {w wr w1 w3:World} {k:Nat} {v nv u:Value} {xs ys:List Value} {o:Obj} (HA:wr.rowIs w.heap.size 94 4 (boxF (.slice none 0 0))) (HO:wr.ownsRow (w.heap.size+2) 180 2 v k xs)
  (hbel:Below w.heap.size w wr) (hb1:Below wr.drew.heap.size wr.drew w1) (hg:(w1.alloc o).grownBy w3 v.ownBlock) (hr3:w3.rowIs (w.heap.size+1) 94 4 (boxF v)) (hown3:w3.ownsRow (w.heap.size+2) 180 2 nv (k+1) ys)
  (hws:w.heap.size+2≤wr.heap.size) :
  Hid ((w3.setCell ⟨w.heap.size+1,0,none⟩ u).rowIs w.heap.size 94 4 (boxF (.slice none 0 0)))∧Hid ((w3.setCell ⟨w.heap.size+1,0,none⟩ u).rowIs (w.heap.size+1) 94 4 (boxF u)) ∧
  Hid ((w3.setCell ⟨w.heap.size+1,0,none⟩ u).ownsRow (w.heap.size+2) 180 2 nv (k+1) ys)∧w.heap.size+2≤(w3.setCell ⟨w.heap.size+1,0,none⟩ u).heap.size∧Below w.heap.size w (w3.setCell ⟨w.heap.size+1,0,none⟩ u):=by
 have far:=own_far HO (b:=w.heap.size) (by omega)
 have hs:=hg.size
 have hs1:=hb1.size
 simp at hs hs1
 have hbw:Below w.heap.size w w1:=kept_trans hbel.drew hb1
 have hb3:Below w.heap.size w w3:=(kept_alloc hbw o).grown hg (by have:=hbw.size;simp;omega) (fun j hj=>by have:=(HO.lt j hj).1;omega)
 refine ⟨Lib.hid ?_,Lib.hid (box_set hr3),Lib.hid ?_,by simp;omega,hb3.setCell (by simp) _⟩
 ·exact (row_grown ((row_below HA.drew hb1).alloc o) hg far).setOther (by simp) _
 ·refine hown3.kept (grown_set w3 ⟨w.heap.size+1,0,none⟩ u) (Or.inr fun e=>?_)
  have:=(hown3.lt _ e).1
  simp at this
theorem insOf_take_succ {n k:Nat} (r:List UInt8) (h:k < n):(insOf n r).take (k+1)=(insOf n r).take k ++ [inOf (r.drop (9 * k))]:=by
 rw [List.take_succ_eq_append_getElem (by rw [insOf_length];exact h),insOf_at]
set_option maxHeartbeats 4000000 in
theorem refDecode_read (s:ByteArray) (n:Nat) (D:DeedD) (r:Int) (w:World) (hp:1 < s.size) (hs0:s[0]=68) (hn:s[1].toNat=n) (hs:s.size=7+9 * n) (hD:readD s.data.toList=D) (hc:checkD D=r) (X:DeedD) (hX:X=if r=0 then D else zeroD) :
  Calls Tryz.prog 66 #[.string s] w (GaveBoth w X r):=by
 obtain ⟨i0,hi0,hz0,hz1,hz2⟩:=info_parts info_in
 have hn255:n≤255:=by have:=s[1].toNat_lt;omega
 have hb0:((s.size:Int) == 0)=false:=by rw [beq_eq_false_iff_ne];omega
 have hb1:((s.size:Int) == 1)=false:=by rw [beq_eq_false_iff_ne];omega
 have h0:0 < s.size:=by omega
 have hd1:decide ((s.size:Int) < 7+9 * (n:Int))=false:=decide_eq_false (by omega)
 have hd2:decide (7+9 * (n:Int) < (s.size:Int))=false:=decide_eq_false (by omega)
 obtain ⟨l,hl⟩:∃ l,s.data.toList=l:=⟨_,rfl⟩
 have hll:l.length=s.size:=by rw [← hl];simp
 have HS:=Lib.hid hs
 have HN:=Lib.hid hn
 have HD:=Lib.hid hD
 have HC:=Lib.hid hc
 have HX:=Lib.hid hX
 have HL:=Lib.hid hl
 have HLL:=Lib.hid hll
 clear hD hc hX hs hl hll
 have B0:=box_made w
 have B1:=box_made (w.alloc (.cells #[.slice none 0 0,.int .i64 0,.int .i64 0,.int .i64 0] 94))
 have hw0:(w.alloc (.cells #[.slice none 0 0,.int .i64 0,.int .i64 0,.int .i64 0] 94)).heap.size=w.heap.size+1:=by simp
 rw [hw0] at B1
 have HB0:=Lib.hid (B0.alloc (.cells #[.slice none 0 0,.int .i64 0,.int .i64 0,.int .i64 0] 94))
 have HB1:=Lib.hid B1
 clear B0 B1 hw0
 go_enter Tryz.func66,Tryz.ntmps66
 go_wp2_with fail
 go_loopw [6] (fun i wr=>∃ (k q:Nat) (v:Value),k≤n∧i=.int .i64 (q:Int)∧Hid (q=2+9 * k)∧Hid (wr.rowIs w.heap.size 94 4 (boxF (.slice none 0 0)))∧Hid (wr.rowIs (w.heap.size+1) 94 4 (boxF v)) ∧
  Hid (wr.ownsRow (w.heap.size+2) 180 2 v k (insCells ((insOf n (l.drop 2)).take k)))∧w.heap.size+2≤wr.heap.size∧Below w.heap.size w wr) (fun i _=>7+9 * n - (intOf i).toNat)
 case atStart=>exact ⟨0,2,_,Nat.zero_le _,rfl,Lib.hid rfl,HB0,HB1,Lib.hid (World.ownsRow_nil _ _ _ _),by simp,kept_alloc (kept_new _ _) _⟩
 case round=>
  clear HB0 HB1
  obtain ⟨k,q,v,hk,rfl,HQ,HA,HB,HO,hws,hbel⟩:=hrel
  have hq:=HQ.out
  by_cases hlt:k < n
  ·obtain ⟨x,hx⟩:∃ x,inOf ((l.drop 2).drop (9 * k))=x:=⟨_,rfl⟩
   have hsz:=HS.out
   have g1:q+8 < s.size:=by omega
   have e1:(s.extract q (q+8)).data.toList=((l.drop 2).drop (9 * k)).take 8:=by rw [extract_mid,HL.out,List.drop_drop,← hq];congr 1;omega
   have HX1:Hid (numU (s.extract q (q+8)).data.toList=x.1):=Lib.hid (by rw [e1,← hx];rfl)
   have hx2:(s[q+8].toNat:Int)=x.2:=by
    rw [← hx,← getD_at s (q+8) g1,HL.out]
    show _=((((l.drop 2).drop (9 * k)).getD 8 0).toNat:Int)
    rw [List.drop_drop,← hq,List.getD_eq_getElem?_getD,List.getD_eq_getElem?_getD,List.getElem?_drop]
   have hx3:0≤x.2∧x.2≤255:=by have:=s[q+8].toNat_lt;omega
   have hse:(s.extract q (q+8)).size≤maxLen:=by rw [ByteArray.size_extract];unfold maxLen;omega
   have HXX:=Lib.hid hx
   have z1:IntKind.i64.wrap ((q:Int)+8)=(q:Int)+8:=IntWalk.i64_in _ (by omega)
   have z2:((q:Int)+8).toNat=q+8:=by omega
   have z3:(q:Int)+8≤(s.size:Int):=by omega
   have z4:(q:Int)+8 < (s.size:Int):=by omega
   have z5:(0:Int)≤(q:Int)+8:=by omega
   have z6:(q:Int)≤(q:Int)+8:=by omega
   have z7:IntKind.i64.wrap x.2=x.2:=IntWalk.i64_in _ (by omega)
   have y1:(q:Int) < 7+9 * (n:Int) - 5:=by omega
   have hc0:wr.cell? ⟨w.heap.size+1,0,none⟩=some v:=HB.out.cell (i:=0) (by omega)
   have hone:∀ u ∈ [Value.int .u64 x.1.toNat,.int .i64 x.2],u.oneCell'=true:=by simp [Value.oneCell']
   clear hx e1 hq hsz
   go_wp2_with fail
   go_region_law (first
    | (go_simp;go_at_call 114;(with_reducible refine (refNumber_is _ x.1 _ hse HX1.out).mono ?_);rintro e w1 ⟨rfl,hb1⟩;have ho1:=owns_below HO.out.drew hb1;have hr1:=row_below HB.out.drew hb1;have hc1:=hr1.cell (i:=0) (by omega);have hz1':=hr1.lt)
    | (refine step_append_lies _ (by rfl) _ _ _ (by rfl) (w.heap.size+2) 180 i0 _ 2 16 Tryz.underlying92 hi0 hz0 hz1 hz2 rfl (by omega) v k _ (by rfl) (ho1.alloc _) ⟨w1.heap.size,0,none⟩ 1 1 [.int .u64 x.1.toNat,.int .i64 x.2] (by rfl) (by rfl) (cells_new w1 _ _) hone (by omega) (by unfold maxLen;omega) (by omega) (by have:=hb1.size;simp at this ⊢;omega) _ rfl ?_;intro g cap w3 hown3 hgrow3 hat3 hlt3;have hr3:=row_grown (hr1.alloc _) hgrow3 (own_far ho1 (by omega));have s0:=hr3.cell (i:=0) (by omega);have s1:=hr3.frozen 0))
   all_goals
    go_wp2_with fail
    obtain ⟨t1,t2,t3,t4,t5⟩:=ref_round (u:=.slice (some ⟨g,0,none⟩) (k+1) cap) HA.out HO.out hbel hb1 hgrow3 hr3 hown3 hws
    go_roundw
    case rel=>
     refine ⟨k+1,q+9,_,by omega,by go_num,Lib.hid (by have:=HQ.out;omega),t1,t2,?_,t4,t5⟩
     rw [insOf_take_succ _ hlt,insCells_snoc,HXX.out]
     exact t3
    case measure=>have:=HQ.out;simp [intOf];omega
  ·obtain rfl:k=n:=by omega
   have hsz:=HS.out
   have hq:=HQ.out
   subst hq
   have hlo:7+9 * (k:Int)≤(s.size:Int):=by omega
   have hhi:(s.size:Int)≤7+9 * (k:Int):=by omega
   have hlo':7+9 * k≤s.size:=by omega
   have z0:7+9 * k - 5 < s.size:=by omega
   obtain ⟨o,ho⟩:∃ o:Int,(s[7+9 * k - 5].toNat:Int)=o:=⟨_,rfl⟩
   have hbo:0≤o∧o≤255:=by have:=s[7+9 * k - 5].toNat_lt;omega
   obtain ⟨hbo1,hbo2⟩:=hbo
   obtain ⟨p,hp1⟩:∃ p,numU (s.extract (7+9 * k - 4) (7+9 * k - 2)).data.toList=p:=⟨_,rfl⟩
   obtain ⟨u,hu1⟩:∃ u,numU (s.extract (7+9 * k - 2) s.size).data.toList=u:=⟨_,rfl⟩
   have e1:(s.extract (7+9 * k - 4) (7+9 * k - 2)).data.toList=(l.drop (3+9 * k)).take 2:=by rw [extract_mid,HL.out];congr 1 <;> first | omega | (congr 1;omega)
   have e2:(s.extract (7+9 * k - 2) s.size).data.toList=(l.drop (5+9 * k)).take 2:=by
    rw [extract_end _ _ _ rfl,HL.out,show 7+9 * k - 2=5+9 * k by omega,List.take_of_length_le (by rw [List.length_drop,HLL.out];omega)]
   have hpb:(p.toNat:Int)≤65535:=by rw [← hp1];exact num2_le _ (by rw [e1,List.length_take];omega)
   have hub:(u.toNat:Int)≤65535:=by rw [← hu1];exact num2_le _ (by rw [e2,List.length_take];omega)
   have hs1:(s.extract (7+9 * k - 4) (7+9 * k - 2)).size≤maxLen:=by rw [ByteArray.size_extract];unfold maxLen;omega
   have hs2:(s.extract (7+9 * k - 2) s.size).size≤maxLen:=by rw [ByteArray.size_extract];unfold maxLen;omega
   have hDD:=HD.out
   rw [HL.out] at hDD
   have hn1:(l.getD 1 0).toNat=k:=by rw [← HL.out,getD_at s 1 hp];exact HN.out
   have hD1:D.ins=insOf k (l.drop 2):=by
    rw [← hDD]
    show insOf (l.getD 1 0).toNat (l.drop 2)=_
    rw [hn1]
   have hD2:D.outs=o:=by
    rw [← hDD,← ho,← getD_at s _ z0,HL.out]
    show (((l.drop (2+9 * (l.getD 1 0).toNat)).getD 0 0).toNat:Int)=_
    rw [hn1,List.getD_eq_getElem?_getD,List.getD_eq_getElem?_getD,List.getElem?_drop,show 2+9 * k+0=7+9 * k - 5 by omega]
   have hD3:D.weight=(p.toNat:Int):=by
    rw [← hDD,← hp1,e1]
    show ((numU (((l.drop (2+9 * (l.getD 1 0).toNat)).drop 1).take 2)).toNat:Int)=_
    rw [hn1,List.drop_drop,show 2+9 * k+1=3+9 * k by omega]
   have hD4:D.fee=(u.toNat:Int):=by
    rw [← hDD,← hu1,e2]
    show ((numU (((l.drop (2+9 * (l.getD 1 0).toNat)).drop 3).take 2)).toNat:Int)=_
    rw [hn1,List.drop_drop,show 2+9 * k+3=5+9 * k by omega]
   have hlen:D.ins.length=k:=by rw [hD1,insOf_length]
   have HO':=HO.out
   rw [List.take_of_length_le (by rw [insOf_length];omega),← hD1] at HO'
   rw [← hlen] at HO'
   obtain ⟨a,cap,hv,hcap,hia,hfr⟩:=owns_insAt (fun i hi=>by
    have hi':i < (insOf k (l.drop 2)).length:=by rw [← hD1];exact hi
    have:D.ins[i]=(insOf k (l.drop 2))[i]:=by simp only [hD1]
    rw [this,insOf_at]
    exact inOf_ok _) HO'
   have hchk:=fun wx hx=>refCheck_is D a cap wx r hcap hx HC.out
   rw [hlen] at hv
   subst hv
   rw [hlen,hD2,hD3,hD4] at hchk
   have box1:=boxG_1 (o:=o) HB.out
   have res1:=HA.out.setOther (a:=⟨w.heap.size+1,1,none⟩) (by simp) (.int .i64 o)
   have ia1:=insAt_set (p:=⟨w.heap.size+1,1,none⟩) hia hfr (by simp) (.int .i64 o)
   have bel1:=hbel.setCell (p:=⟨w.heap.size+1,1,none⟩) (by simp) (.int .i64 o)
   have c1:wr.cell? ⟨w.heap.size+1,1,none⟩=some (.int .i64 0):=HB.out.cell (i:=1) (by omega)
   have m1:=HB.out.frozen 1
   have hd3:decide (2+9 * (k:Int) < 7+9 * (k:Int) - 5)=false:=decide_eq_false (by omega)
   have HP:=Lib.hid hp1
   have HU:=Lib.hid hu1
   have HDS:=Lib.hid (And.intro hlen (And.intro hD2 (And.intro hD3 hD4)))
   clear hsz hp1 hu1 e1 e2 hDD hn1 hD1 hD2 hD3 hD4 HO' hia hlen
   by_cases hr:r=0
   ·have hX:X=D:=by rw [HX.out,if_pos hr]
    subst hr
    subst hX
    go_wp2_with fail
    with_reducible refine (refNumber_is _ p _ hs1 HP.out).mono ?_
    rintro e w2 ⟨rfl,hb2⟩
    have box2:=row_below box1 hb2
    have res2:=row_below res1 hb2
    have ia2:=insAt_kept hb2 ia1
    have bel2:=kept_trans bel1 hb2
    obtain ⟨⟨a0,a1,a2,a3⟩,n0,n1,n2,n3⟩:=four_cells box2
    have box3:=boxG_2 (g:=(p.toNat:Int)) box2
    have res3:=res2.setOther (a:=⟨w.heap.size+1,2,none⟩) (by simp) (.int .i64 (p.toNat:Int))
    have ia3:=insAt_set (p:=⟨w.heap.size+1,2,none⟩) ia2 hfr (by simp) (.int .i64 (p.toNat:Int))
    have bel3:=bel2.setCell (p:=⟨w.heap.size+1,2,none⟩) (by simp) (.int .i64 (p.toNat:Int))
    clear box1 res1 ia1 bel1 hb2 box2 res2 ia2 bel2
    go_wp2_with fail
    with_reducible refine (refNumber_is _ u _ hs2 HU.out).mono ?_
    rintro e w4 ⟨rfl,hb4⟩
    have box4:=row_below box3 hb4
    have res4:=row_below res3 hb4
    have ia4:=insAt_kept hb4 ia3
    have bel4:=kept_trans bel3 hb4
    clear a0 a1 a2 a3 n0 n1 n2 n3
    obtain ⟨⟨a0,a1,a2,a3⟩,n0,n1,n2,n3⟩:=four_cells box4
    have box5:=boxG_3 (f:=(u.toNat:Int)) box4
    have res5:=res4.setOther (a:=⟨w.heap.size+1,3,none⟩) (by simp) (.int .i64 (u.toNat:Int))
    have ia5:=insAt_set (p:=⟨w.heap.size+1,3,none⟩) ia4 hfr (by simp) (.int .i64 (u.toNat:Int))
    have bel5:=bel4.setCell (p:=⟨w.heap.size+1,3,none⟩) (by simp) (.int .i64 (u.toNat:Int))
    clear box3 res3 ia3 bel3 hb4 box4 res4 ia4 bel4
    go_wp2_with fail
    with_reducible refine (hchk _ ia5).mono ?_
    rintro e w6 ⟨rfl,hb6⟩
    have box6:=row_below box5 hb6
    have res6:=row_below res5 hb6
    have ia6:=insAt_kept hb6 ia5
    have bel6:=kept_trans bel5 hb6
    clear a0 a1 a2 a3 n0 n1 n2 n3
    obtain ⟨⟨a0,a1,a2,a3⟩,n0,n1,n2,n3⟩:=four_cells box6
    obtain ⟨⟨r0,r1,r2,r3⟩,k0,k1,k2,k3⟩:=four_cells (o:=0) (g:=0) (f:=0) res6
    clear box5 res5 ia5 bel5 hb6 box6
    go_wp2_with fail
    refine bodyPost_ret (v:=.tuple #[.agg #[.slice a k cap,.int .i64 o,.int .i64 (p.toNat:Int),.int .i64 (u.toNat:Int)],.int .i64 0]) (by simp [results,Tryz.results66,go_sem,r0,r1,r2,r3]) rfl ?_
    obtain ⟨hlen,d2,d3,d4⟩:=HDS.out
    refine ⟨a,cap,by rw [hlen,d2,d3,d4],hcap,?_,fun b o sp e=>by have:=hfr b o sp e;omega,?_⟩
    ·exact insAt_set (insAt_set (insAt_set (insAt_set ia6 hfr (by simp) _) hfr (by simp) _) hfr (by simp) _) hfr (by simp) _
    ·exact (((bel6.setCell (by simp) _).setCell (by simp) _).setCell (by simp) _).setCell (by simp) _
   ·have hX:X=zeroD:=by rw [HX.out,if_neg hr]
    subst hX
    have hrb:(r != 0)=true:=by simpa using hr
    go_wp2_with fail
    with_reducible refine (refNumber_is _ p _ hs1 HP.out).mono ?_
    rintro e w2 ⟨rfl,hb2⟩
    have box2:=row_below box1 hb2
    have res2:=row_below res1 hb2
    have ia2:=insAt_kept hb2 ia1
    have bel2:=kept_trans bel1 hb2
    obtain ⟨⟨a0,a1,a2,a3⟩,n0,n1,n2,n3⟩:=four_cells box2
    have box3:=boxG_2 (g:=(p.toNat:Int)) box2
    have res3:=res2.setOther (a:=⟨w.heap.size+1,2,none⟩) (by simp) (.int .i64 (p.toNat:Int))
    have ia3:=insAt_set (p:=⟨w.heap.size+1,2,none⟩) ia2 hfr (by simp) (.int .i64 (p.toNat:Int))
    have bel3:=bel2.setCell (p:=⟨w.heap.size+1,2,none⟩) (by simp) (.int .i64 (p.toNat:Int))
    clear box1 res1 ia1 bel1 hb2 box2 res2 ia2 bel2
    go_wp2_with fail
    with_reducible refine (refNumber_is _ u _ hs2 HU.out).mono ?_
    rintro e w4 ⟨rfl,hb4⟩
    have box4:=row_below box3 hb4
    have res4:=row_below res3 hb4
    have ia4:=insAt_kept hb4 ia3
    have bel4:=kept_trans bel3 hb4
    clear a0 a1 a2 a3 n0 n1 n2 n3
    obtain ⟨⟨a0,a1,a2,a3⟩,n0,n1,n2,n3⟩:=four_cells box4
    have box5:=boxG_3 (f:=(u.toNat:Int)) box4
    have res5:=res4.setOther (a:=⟨w.heap.size+1,3,none⟩) (by simp) (.int .i64 (u.toNat:Int))
    have ia5:=insAt_set (p:=⟨w.heap.size+1,3,none⟩) ia4 hfr (by simp) (.int .i64 (u.toNat:Int))
    have bel5:=bel4.setCell (p:=⟨w.heap.size+1,3,none⟩) (by simp) (.int .i64 (u.toNat:Int))
    clear box3 res3 ia3 bel3 hb4 box4 res4 ia4 bel4
    go_wp2_with fail
    with_reducible refine (hchk _ ia5).mono ?_
    rintro e w6 ⟨rfl,hb6⟩
    have box6:=row_below box5 hb6
    have res6:=row_below res5 hb6
    have ia6:=insAt_kept hb6 ia5
    have bel6:=kept_trans bel5 hb6
    clear a0 a1 a2 a3 n0 n1 n2 n3
    obtain ⟨⟨a0,a1,a2,a3⟩,n0,n1,n2,n3⟩:=four_cells box6
    obtain ⟨⟨r0,r1,r2,r3⟩,k0,k1,k2,k3⟩:=four_cells (o:=0) (g:=0) (f:=0) res6
    clear box5 res5 ia5 bel5 hb6 box6
    go_wp2_with fail
    refine bodyPost_ret (v:=.tuple #[.agg #[.slice none 0 0,.int .i64 0,.int .i64 0,.int .i64 0],.int .i64 r]) (by simp [results,Tryz.results66,go_sem,r0,r1,r2,r3]) rfl (gave_zero rfl ?_)
    exact (((bel6.setCell (by simp) _).setCell (by simp) _).setCell (by simp) _).setCell (by simp) _
end Go.Proofs.YtlboemhbealnmaaGreat.De
