import Derived.Test.YtlboemhbealnmaaGreatP17
import Derived.Deep.OwnRows
import Derived.Deep.QuietTactic
import Derived.BigQuiet
import Derived.Test.YtlboemhbealnmaaGreatP1
import Derived.Lib.BufferWrite
import Derived.Lib.UnsafeStr
import Derived.Laws.MakeOwn
set_option maxRecDepth 20000
namespace Go.Proofs.YtlboemhbealnmaaGreat.Ms
open Go.RowKit
theorem info_u64:(Tryz.prog.info? 22).map (fun i=>(i.zero,i.size,i.bytes))=some (some (.int .u64 0),1,8):=by kernel_rfl
theorem make_ids (n:Nat) (hn:n≤1000) (w:World):(Instr.makeSlice 39 (.int .i64 (n:Int)) (.int .i64 (n:Int))).run Tryz.prog w=.ok (.slice (some ⟨w.heap.size,0,none⟩) n n) (w.alloc (.cells (madeCells #[.int .u64 0] n) 22)):=by
 obtain ⟨i,hi,hz,hs,hb⟩:=info_parts info_u64
 have:=run_make (P:=Tryz.prog) w 39 22 i _ Tryz.underlying39 hi hz .i64 .i64 n n (by omega) (Int.le_refl _) (by rw [hb];omega) (by omega)
 rw [hs,Nat.mul_one] at this
 exact this
def idCells (f:Nat→UInt64) (k j:Nat):Value:=if j < k then .int .u64 (f j).toNat else .int .u64 0
theorem made_ids (w:World) (f:Nat→UInt64) (n:Nat):(w.alloc (.cells (madeCells #[.int .u64 0] n) 22)).rowIs w.heap.size 22 n (idCells f 0):=by
 refine ⟨_,heap_alloc_new _ _,size_madeCells _ _,fun i hi=>?_⟩
 unfold idCells madeCells
 simp [hi,Nat.mod_one]
theorem id_step {w:World} {b n k:Nat} {f:Nat→UInt64} (h:w.rowIs b 22 n (idCells f k)) :
  (w.setCell ⟨b,k,none⟩ (.int .u64 (f k).toNat)).rowIs b 22 n (idCells f (k+1)):=by
 refine (h.set k _).congr fun j hj=>?_
 by_cases e1:j=k
 ·subst e1
  simp [idCells]
 ·rw [if_neg e1]
  unfold idCells
  by_cases h3:j < k
  ·rw [if_pos h3,if_pos (by omega)]
  ·rw [if_neg h3,if_neg (by omega)]
theorem row_idsAt {w:World} {b n:Nat} {f:Nat→UInt64} (h:w.rowIs b 22 n (idCells f n)):IdsAt w (some ⟨b,0,none⟩) ((List.range n).map f):=fun i hi=>by
 have hi':i < n:=by simpa using hi
 refine ⟨b,0,rfl,h.lt,?_⟩
 have:=h.cell (i:=i) (by omega)
 simpa [idCells,hi'] using this
def GaveI (w:World) (l:List UInt64) (r:Int) (e:Ending) (w':World):Prop:=
 ∃ (a:Option Addr) (cap:Nat),e=.returned (.tuple #[.slice a l.length cap,.int .i64 r])∧l.length≤cap∧IdsAt w' a l∧Fresh w.heap.size a∧Below w.heap.size w w'
theorem gaveI_nil {w w':World} {r:Int} {e:Ending} (he:e=.returned (.tuple #[.slice none 0 0,.int .i64 r])) (h:Below w.heap.size w w'):GaveI w [] r e w':=
 ⟨none,0,he,Nat.le_refl _,idsAt_nil _ _,(fun _ _ _ e=>by cases e),h⟩
theorem readIDs_none (s:ByteArray) (w:World) (hs:s.size=0):Calls Tryz.prog 146 #[.string s] w (GaveI w [] 3):=by
 have he:=empty_yes hs
 go_enter Tryz.func146,Tryz.ntmps146
 go_wp2_with fail
 go_ret2
 exact gaveI_nil rfl (Below.refl _ _)
theorem readIDs_short (s:ByteArray) (w:World) (hp:0 < s.size) (hl:s.size < 1+8 * s[0].toNat):Calls Tryz.prog 146 #[.string s] w (GaveI w [] 3):=by
 have he:=empty_no (s:=s) (by omega)
 have hb:=s[0].toNat_lt
 have hz:(s.extract 1 s.size).size=s.size - 1:=by rw [ByteArray.size_extract];omega
 obtain ⟨R,hR⟩:∃ R,s.extract 1 s.size=R:=⟨_,rfl⟩
 rw [hR] at hz
 have z0:(0:Int) < (s.size:Int):=by omega
 have z1:(1:Int)≤(s.size:Int):=by omega
 have hlt:(R.size:Int) < (s[0].toNat:Int) * 8:=by omega
 clear hz hl
 go_enter Tryz.func146,Tryz.ntmps146
 go_wp2_with fail
 go_quiet (fail)
 generalize hw2:World.drewN w nq=w2
 have hb2:Below w.heap.size w w2:=hw2▸below_drewN (Below.refl _ _) _
 clear hw2
 go_wp2_with fail
 go_ret2
 exact gaveI_nil rfl hb2
theorem readIDs_long (s:ByteArray) (w:World) (hm:s.size≤maxLen) (hp:0 < s.size) (hl:1+8 * s[0].toNat < s.size):Calls Tryz.prog 146 #[.string s] w (GaveI w [] 4):=by
 unfold maxLen at hm
 have he:=empty_no (s:=s) (by omega)
 have hb:=s[0].toNat_lt
 have hz:(s.extract 1 s.size).size=s.size - 1:=by rw [ByteArray.size_extract];omega
 obtain ⟨R,hR⟩:∃ R,s.extract 1 s.size=R:=⟨_,rfl⟩
 rw [hR] at hz
 have z0:(0:Int) < (s.size:Int):=by omega
 have z1:(1:Int)≤(s.size:Int):=by omega
 have hlt:(s[0].toNat:Int) * 8 < (R.size:Int):=by omega
 clear hz hl
 go_enter Tryz.func146,Tryz.ntmps146
 go_wp2_with fail
 go_quiet (fail)
 generalize hw2:World.drewN w nq=w2
 have hb2:Below w.heap.size w w2:=hw2▸below_drewN (Below.refl _ _) _
 clear hw2
 go_wp2_with fail
 go_ret2
 exact gaveI_nil rfl hb2
set_option maxHeartbeats 1000000 in
theorem readIDs_ok (s:ByteArray) (n:Nat) (w:World) (hp:0 < s.size) (hn:s[0].toNat=n) (hs:s.size=1+8 * n) :
  Calls Tryz.prog 146 #[.string s] w (GaveI w (idsOf n (s.data.toList.drop 1)) 0):=by
 have he:=empty_no (s:=s) (by omega)
 have hn255:n≤255:=by have:=s[0].toNat_lt;omega
 have hmk:=fun wx=>make_ids n (by omega) wx
 obtain ⟨l,hl⟩:∃ l,s.data.toList.drop 1=l:=⟨_,rfl⟩
 obtain ⟨R,hR⟩:∃ R,s.extract 1 s.size=R:=⟨_,rfl⟩
 have hRl:R.data.toList=l:=by rw [← hR,extract_end _ _ _ rfl,hl]
 have hlen:l.length=8 * n:=by rw [← hl,List.length_drop,Array.length_toList];show s.size - 1=_;omega
 have hRs:R.size=8 * n:=by rw [← hlen,← hRl];simp
 obtain ⟨f,hf⟩:∃ f:Nat→UInt64,f=fun i=>numU ((l.drop (8 * i)).take 8):=⟨_,rfl⟩
 have HF:=Lib.hid hf
 have HR:=Lib.hid hRl
 have HLEN:=Lib.hid hlen
 rw [hl]
 have z0:(0:Int) < (s.size:Int):=by omega
 have z1:(1:Int)≤(s.size:Int):=by omega
 have hd1:decide ((R.size:Int) < (n:Int) * 8)=false:=decide_eq_false (by omega)
 have hd2:decide ((n:Int) * 8 < (R.size:Int))=false:=decide_eq_false (by omega)
 clear hl hf hRl hs hlen
 go_enter Tryz.func146,Tryz.ntmps146
 go_wp2_with fail
 go_quiet (fail)
 generalize hw2:World.drewN w nq=w2
 have hb2:Below w.heap.size w w2:=hw2▸below_drewN (Below.refl _ _) _
 have HROW:=Lib.hid (made_ids w2 f n)
 clear hw2
 go_wp2_with fail
 go_loopw [5,30] (fun u i wr=>∃ (k:Nat) (T:ByteArray),k≤n∧i=.int .i64 k∧u=.string T∧Hid (T.data.toList=l.drop (8 * k))∧Hid (wr.rowIs w2.heap.size 22 n (idCells f k))∧Below w2.heap.size w2 wr) (fun _ i _=>n - (intOf i).toNat)
 case atStart=>exact ⟨0,R,Nat.zero_le _,rfl,rfl,Lib.hid HR.out,HROW,kept_new _ _⟩
 case round=>
  clear HROW hRs
  obtain ⟨k,T,hk,rfl,rfl,HT,HW,hbel⟩:=hrel
  have hTs:T.size=8 * (n - k):=by
   have e1:T.data.toList.length=T.size:=by simp
   rw [← e1,HT.out,List.length_drop,HLEN.out]
   omega
  by_cases hlt:k < n
  ·obtain ⟨x,hx⟩:∃ x,f k=x:=⟨_,rfl⟩
   have h8:8≤T.size:=by omega
   have hTm:T.size≤10000:=by omega
   have HX1:Hid (numU (T.extract 0 8).data.toList=x):=Lib.hid (by rw [extract_take,HT.out,← hx,HF.out])
   have HNX:Hid ((T.extract 8 T.size).data.toList=l.drop (8 * (k+1))):=Lib.hid (by rw [extract_end _ _ _ rfl,HT.out,List.drop_drop];congr 1)
   have hsz8:(T.extract 0 8).size≤maxLen:=by rw [ByteArray.size_extract];unfold maxLen;omega
   have q0:=HW.out.cell (i:=k) (by omega)
   have q1:=HW.out.frozen k
   have z2:(8:Int)≤(T.size:Int):=by omega
   have z4:(k:Int) < (n:Int):=by omega
   have HXX:=Lib.hid hx
   clear hx hTs
   go_wp2_with fail
   with_reducible refine (decodeID_still _ x _ hsz8 HX1.out).mono ?_
   rintro e w' ⟨rfl,rfl⟩
   go_wp2_with fail
   go_roundw
   case rel=>
    refine ⟨k+1,_,by omega,by go_num,rfl,Lib.hid HNX.out,Lib.hid ?_,hbel.setCell (by simp) _⟩
    have:=id_step HW.out
    rw [HXX.out] at this
    exact this
   case measure=>simp [intOf];omega
  ·obtain rfl:k=n:=by omega
   have hids:idsOf k l=(List.range k).map f:=by rw [HF.out];rfl
   have hia:=row_idsAt HW.out
   rw [← hids] at hia
   have HI:=Lib.hid hia
   clear hia hids
   go_wp2_with fail
   go_ret2
   refine ⟨some ⟨w2.heap.size,0,none⟩,k,by rw [idsOf_length];rfl,by rw [idsOf_length];exact Nat.le_refl _,HI.out,fun b o sp e=>by cases e;exact hb2.size,kept_trans hb2 hbel⟩
def GaveM (w:World) (m:MsgD) (r:Int) (e:Ending) (w':World):Prop:=
 ∃ (a:Option Addr) (cap:Nat),e=.returned (.tuple #[.agg #[.int .i64 m.kind,.slice a m.ids.length cap,.string m.body],.int .i64 r])∧m.ids.length≤cap∧IdsAt w' a m.ids∧Fresh w.heap.size a∧Below w.heap.size w w'
theorem gaveM_zero {w w':World} {r:Int} {e:Ending} (he:e=.returned (.tuple #[.agg #[.int .i64 0,.slice none 0 0,.string ⟨#[]⟩],.int .i64 r])) (h:Below w.heap.size w w'):GaveM w zeroM r e w':=
 ⟨none,0,he,Nat.le_refl _,idsAt_nil _ _,(fun _ _ _ e=>by cases e),h⟩
theorem box_marks3 {w wr:World} {u v x:Value} {t:TypeId} (h:Below (w.alloc (.cells #[u,v,x] t)).heap.size (w.alloc (.cells #[u,v,x] t)) wr) :
  wr.frozen? ⟨w.heap.size,0,none⟩=false∧wr.frozen? ⟨w.heap.size,1,none⟩=false∧wr.frozen? ⟨w.heap.size,2,none⟩=false:=by
 refine ⟨?_,?_,?_⟩ <;> (rw [h.frozen (by simp)];simp [go_sem])
end Go.Proofs.YtlboemhbealnmaaGreat.Ms
namespace Go.Proofs.YtlboemhbealnmaaGreat.Ms
open Go.RowKit
theorem made_bytes (n:Nat) (hn:n≤1000):∃ M:Array Value,M.size=n∧∀ w:World,(Instr.makeSlice 189 (.int .i64 (n:Int)) (.int .i64 (n:Int))).run Tryz.prog w=.ok (.slice (some ⟨w.heap.size,0,none⟩) n n) (w.alloc (.cells M 5)):=by
 obtain ⟨i,hi,hz,hs,hb⟩:=info_parts info_u8
 refine ⟨madeCells (Value.int .u8 0).cells (n * i.size),by rw [size_madeCells,hs];simp,fun w=>?_⟩
 exact run_make (P:=Tryz.prog) w 189 5 i _ Tryz.underlying189 hi hz .i64 .i64 n n (by omega) (Int.le_refl _) (by rw [hb];omega) (by omega)
theorem cells_u8:Tryz.prog.cellsOf 5=1:=by kernel_rfl
theorem info_u8_size:(Tryz.prog.info? 5).map (·.size)=some 1:=by kernel_rfl
set_option maxHeartbeats 1000000 in
theorem sliteClone_any (s:ByteArray) (w:World) (hs:s.size≤1000) :
  Calls Tryz.prog 148 #[.string s] w fun e w'=>e=.returned (.string s)∧Below w.heap.size w w':=by
 by_cases h0:s.size=0
 ·have he:s=⟨#[]⟩:=by
   apply ByteArray.ext
   exact Array.eq_empty_of_size_eq_zero h0
  subst he
  go_enter Tryz.func148,Tryz.ntmps148
  go_wp2
  go_ret
  exact ⟨rfl,Below.refl _ _⟩
 ·obtain ⟨M,hM,hmk⟩:=made_bytes s.size hs
  have hl:s.data.toList.length=s.size:=by simp
  obtain ⟨Y,hY⟩:∃ Y,(M.toList.take 0 ++ Lib.byteCells s.data.toList ++ M.toList.drop (0+s.size)).toArray=Y:=⟨_,rfl⟩
  have hcp:=Lib.run_copy_row_string (P:=Tryz.prog) (w.alloc (.cells M 5)) 189 9 3 5 w.heap.size 0 s.size s.size s M 5 Tryz.underlying189 info_u8_size (heap_alloc_new w _) (Nat.le_refl _) (by omega)
  rw [hY] at hcp
  have hYl:Y.toList=Lib.byteCells s.data.toList:=by
   rw [← hY,List.toList_toArray,List.take_zero,List.nil_append,List.drop_of_length_le (by rw [Array.length_toList];omega),List.append_nil]
  have hYs:Y.size=s.size:=by rw [← Array.length_toList,hYl,Lib.byteCells_length,hl]
  have hrow:((w.alloc (.cells M 5)).setRow w.heap.size Y).heap[w.heap.size]?=some (.cells Y 5 (0,0)):=setRow_heap _ _ M _ 5 (0,0) (heap_alloc_new w _)
  have hus:=Lib.run_unsafeString_row (P:=Tryz.prog) ((w.alloc (.cells M 5)).setRow w.heap.size Y) 216 3 9 5 Tryz.underlying216 cells_u8 w.heap.size Y.size (by unfold World.shape?;rw [hrow]) s.data.toList
   (fun e=>h0 (by rw [← hl,e];rfl)) (by omega) (by omega)
   (fun j x hx=>Lib.cells_of_row hrow Y.size j _ (by rw [List.take_of_length_le (by rw [Array.length_toList];exact Nat.le_refl _),hYl];simp [Lib.byteCells,hx]))
  rw [hl] at hus
  have hbel:Below w.heap.size w ((w.alloc (.cells M 5)).setRow w.heap.size Y):=(kept_new w _).trans ⟨rfl,rfl,rfl,by simp,fun k hk=>setRow_other _ _ _ _ (by omega)⟩
  have hs0:((s.size:Int) == 0)=false:=beq_eq_false_iff_ne.2 (by omega)
  clear hY hl
  go_enter Tryz.func148,Tryz.ntmps148
  go_wp2
  go_ret
  exact ⟨rfl,Lib.below_freeze hbel (p:=⟨w.heap.size,0,none⟩) (Nat.le_refl _) _⟩
theorem clone_any (s:ByteArray) (w:World) (hs:s.size≤1000) :
  Calls Tryz.prog 89 #[.string s] w fun e w'=>e=.returned (.string s)∧Below w.heap.size w w':=by
 go_enter Tryz.func89,Tryz.ntmps89
 go_wp2_with fail
 with_reducible refine (sliteClone_any s _ hs).mono ?_
 rintro e w1 ⟨rfl,hb1⟩
 go_wp2_with fail
 go_ret
 exact ⟨rfl,hb1⟩
end Go.Proofs.YtlboemhbealnmaaGreat.Ms
namespace Go.Proofs.YtlboemhbealnmaaGreat.Ms
open Go.RowKit
theorem kind_at (s:ByteArray) (hp:0 < s.size):kindOf s.data.toList=(s[0].toNat:Int):=by unfold kindOf;rw [getD_at s 0 hp]
theorem len_eq (s:ByteArray):s.data.toList.length=s.size:=by simp
theorem mread_none (s:ByteArray) (w:World) (hs:s.size=0):Calls Tryz.prog 87 #[.string s] w (GaveM w zeroM 3):=by
 have he:=empty_yes hs
 go_enter Tryz.func87,Tryz.ntmps87
 go_wp2_with fail
 exact bodyPost_ret (v:=.tuple #[.agg #[.int .i64 0,.slice none 0 0,.string ⟨#[]⟩],.int .i64 3]) (by simp [results,Tryz.results87,go_sem]) rfl (gaveM_zero rfl (kept_new _ _))
theorem box_drewN {w w2:World} {n:Nat} {u v x:Value} {t:TypeId} (h:(w.alloc (.cells #[u,v,x] t)).drewN n=w2):Below (w.alloc (.cells #[u,v,x] t)).heap.size (w.alloc (.cells #[u,v,x] t)) w2:=h▸below_drewN (Below.refl _ _) _
theorem below_three {w w2:World} (h:Below w.heap.size w w2) (u v x:Value):Below w.heap.size w (((w2.setCell ⟨w.heap.size,0,none⟩ u).setCell ⟨w.heap.size,1,none⟩ v).setCell ⟨w.heap.size,2,none⟩ x):=
 ((h.setCell (by simp) _).setCell (by simp) _).setCell (by simp) _
theorem mread_kind (s:ByteArray) (w:World) (hp:0 < s.size) (hk:within (s[0].toNat:Int) 1 4=false):Calls Tryz.prog 87 #[.string s] w (GaveM w zeroM 1):=by
 have he:=empty_no (s:=s) (by omega)
 have hb:=s[0].toNat_lt
 have HK:=Lib.hid hk
 have z0:(0:Int) < (s.size:Int):=by omega
 have z1:(1:Int)≤(s.size:Int):=by omega
 clear hk
 go_enter Tryz.func87,Tryz.ntmps87
 go_wp2_with fail
 go_quiet (fail)
 generalize hw2:World.drewN (w.alloc (.cells #[.int .i64 0,.slice none 0 0,.string ⟨#[]⟩] 113)) nq=w2
 have hb2:=box_drewN hw2
 obtain ⟨c0,c1,c2,hws⟩:=box_three hb2
 obtain ⟨m0,m1,m2⟩:=box_marks3 hb2
 clear hw2
 go_wp2_with fail
 with_reducible refine (known_no _ _ HK.out).mono ?_
 rintro e w' ⟨rfl,rfl⟩
 go_wp2_with fail
 exact bodyPost_ret (v:=.tuple #[.agg #[.int .i64 0,.slice none 0 0,.string ⟨#[]⟩],.int .i64 1]) (by simp [results,Tryz.results87,go_sem,c0,c1,c2]) rfl (gaveM_zero rfl (below_three (kept_trans (kept_new _ _) hb2) _ _ _))
theorem mread_bring (s:ByteArray) (w:World) (hp:0 < s.size) (hk:(s[0].toNat:Int)=3):Calls Tryz.prog 87 #[.string s] w (GaveM w ⟨3,[],s.extract 1 s.size⟩ 0):=by
 have he:=empty_no (s:=s) (by omega)
 have z0:(0:Int) < (s.size:Int):=by omega
 have z1:(1:Int)≤(s.size:Int):=by omega
 obtain ⟨R,hR⟩:∃ R,s.extract 1 s.size=R:=⟨_,rfl⟩
 rw [hR]
 go_enter Tryz.func87,Tryz.ntmps87
 go_wp2_with fail
 go_quiet (fail)
 generalize hw2:World.drewN (w.alloc (.cells #[.int .i64 0,.slice none 0 0,.string ⟨#[]⟩] 113)) nq=w2
 have hb2:=box_drewN hw2
 obtain ⟨c0,c1,c2,hws⟩:=box_three hb2
 obtain ⟨m0,m1,m2⟩:=box_marks3 hb2
 clear hw2
 go_wp2_with fail
 with_reducible refine (known_yes _ _ (by decide)).mono ?_
 rintro e w' ⟨rfl,rfl⟩
 go_wp2_with fail
 refine bodyPost_ret (v:=.tuple #[.agg #[.int .i64 3,.slice none 0 0,.string R],.int .i64 0]) (by simp [results,Tryz.results87,go_sem,c0,c1,c2]) rfl ?_
 exact ⟨none,0,rfl,Nat.le_refl _,idsAt_nil _ _,(fun _ _ _ e=>by cases e),below_three (kept_trans (kept_new _ _) hb2) _ _ _⟩
theorem mread_ids (s R:ByteArray) (l:List UInt64) (r:Int) (w:World) (hp:0 < s.size) (hw:within (s[0].toNat:Int) 1 4=true) (hk:(s[0].toNat:Int)≠3) (hR:s.extract 1 s.size=R)
  (hids:∀ wx,Calls Tryz.prog 146 #[.string R] wx (GaveI wx l r)):Calls Tryz.prog 87 #[.string s] w (GaveM w ⟨(s[0].toNat:Int),l,⟨#[]⟩⟩ r):=by
 have he:=empty_no (s:=s) (by omega)
 have hb:=s[0].toNat_lt
 have z0:(0:Int) < (s.size:Int):=by omega
 have z1:(1:Int)≤(s.size:Int):=by omega
 have hk3:((s[0].toNat:Int) == 3)=false:=beq_eq_false_iff_ne.2 hk
 have HW:=Lib.hid hw
 clear hw hk
 go_enter Tryz.func87,Tryz.ntmps87
 go_wp2_with fail
 go_quiet (fail)
 generalize hw2:World.drewN (w.alloc (.cells #[.int .i64 0,.slice none 0 0,.string ⟨#[]⟩] 113)) nq=w2
 have hb2:=box_drewN hw2
 clear hw2
 go_wp2_with fail
 with_reducible refine (known_yes _ _ HW.out).mono ?_
 rintro e w' ⟨rfl,rfl⟩
 go_wp2_with fail
 with_reducible refine (hids _).mono ?_
 rintro e w3 ⟨a,cap,rfl,hcap,hia,hfr,hb3⟩
 have hb23:=kept_trans hb2 hb3
 obtain ⟨c0,c1,c2,hws⟩:=box_three hb23
 obtain ⟨m0,m1,m2⟩:=box_marks3 hb23
 have hfr':Fresh (w.heap.size+1) a:=fun b o sp e=>Nat.le_trans (by have:=hb2.size;simpa using this) (hfr b o sp e)
 go_wp2_with fail
 refine bodyPost_ret (v:=.tuple #[.agg #[.int .i64 (s[0].toNat:Int),.slice a l.length cap,.string ⟨#[]⟩],.int .i64 r]) (by simp [results,Tryz.results87,go_sem,c0,c1,c2]) rfl ?_
 exact ⟨a,cap,rfl,hcap,idsAt_set (idsAt_set (idsAt_set hia hfr' (by simp) _) hfr' (by simp) _) hfr' (by simp) _,fun b o sp e=>by have:=hfr' b o sp e;omega,below_three (kept_trans (kept_new _ _) hb23) _ _ _⟩
theorem mread_bad (s:ByteArray) (r:Int) (w:World) (hs:s.size≤maxLen) (h:formM s.data.toList=r) (hr:r≠0):Calls Tryz.prog 87 #[.string s] w fun e w'=>∃ m,GaveM w m r e w':=by
 have hlen:=len_eq s
 by_cases h0:s.size=0
 ·have:r=3:=by rw [← h];unfold formM;rw [hlen,if_pos h0]
  subst this
  exact (mread_none s w h0).mono fun _ _ h=>⟨_,h⟩
 ·have hp:0 < s.size:=by omega
  have hk:=kind_at s hp
  unfold formM at h
  rw [hlen,if_neg h0,hk] at h
  by_cases hw:within (s[0].toNat:Int) 1 4=false
  ·rw [if_pos hw] at h
   subst h
   exact (mread_kind s w hp hw).mono fun _ _ h=>⟨_,h⟩
  ·rw [if_neg hw] at h
   rw [Bool.not_eq_false] at hw
   by_cases h3:(s[0].toNat:Int)=3
   ·rw [if_pos h3] at h
    exact absurd h.symm hr
   ·rw [if_neg h3] at h
    obtain ⟨R,hR⟩:∃ R,s.extract 1 s.size=R:=⟨_,rfl⟩
    have hRs:R.size=s.size - 1:=by rw [← hR,ByteArray.size_extract];omega
    have hRm:R.size≤maxLen:=by omega
    by_cases h2:s.size < 2
    ·rw [if_pos h2] at h
     subst h
     exact (mread_ids s R [] 3 w hp hw h3 hR (fun wx=>readIDs_none R wx (by omega))).mono fun _ _ h=>⟨_,h⟩
    ·rw [if_neg h2] at h
     have hRp:0 < R.size:=by omega
     have hR0:R[0]=s[1]:=by subst hR;simp [ByteArray.getElem_extract]
     rw [getD_at s 1 (by omega)] at h
     by_cases h4:s.size < 2+8 * s[1].toNat
     ·rw [if_pos h4] at h
      subst h
      exact (mread_ids s R [] 3 w hp hw h3 hR (fun wx=>readIDs_short R wx hRp (by rw [hR0];omega))).mono fun _ _ h=>⟨_,h⟩
     ·rw [if_neg h4] at h
      by_cases h5:2+8 * s[1].toNat < s.size
      ·rw [if_pos h5] at h
       subst h
       exact (mread_ids s R [] 4 w hp hw h3 hR (fun wx=>readIDs_long R wx hRm hRp (by rw [hR0];omega))).mono fun _ _ h=>⟨_,h⟩
      ·rw [if_neg h5] at h
       exact absurd h.symm hr
theorem mread_good (s:ByteArray) (w:World) (h:formM s.data.toList=0):Calls Tryz.prog 87 #[.string s] w (GaveM w (readM s.data.toList) 0):=by
 obtain ⟨h0,h1,h2⟩:=formM_zero h
 have hlen:=len_eq s
 have hp:0 < s.size:=by omega
 have hk:=kind_at s hp
 rw [hk] at h1 h2
 by_cases h3:(s[0].toNat:Int)=3
 ·have e:readM s.data.toList=⟨3,[],s.extract 1 s.size⟩:=by
   unfold readM
   rw [hk,if_pos h3]
   congr 1
   apply ByteArray.ext
   apply Array.toList_inj.1
   rw [extract_end _ _ _ rfl]
  rw [e]
  exact mread_bring s w hp h3
 ·have hl:=h2 h3
  rw [hlen] at hl
  have hp1:1 < s.size:=by omega
  rw [getD_at s 1 hp1] at hl
  obtain ⟨R,hR⟩:∃ R,s.extract 1 s.size=R:=⟨_,rfl⟩
  have hRs:R.size=s.size - 1:=by rw [← hR,ByteArray.size_extract];omega
  have hRp:0 < R.size:=by omega
  have hR0:R[0]=s[1]:=by subst hR;simp [ByteArray.getElem_extract]
  have e:readM s.data.toList=⟨(s[0].toNat:Int),idsOf s[1].toNat (R.data.toList.drop 1),⟨#[]⟩⟩:=by
   unfold readM
   rw [hk,if_neg h3,getD_at s 1 hp1,← hR,extract_end _ _ _ rfl,List.drop_drop]
  rw [e]
  exact mread_ids s R _ 0 w hp h1 h3 hR (fun wx=>readIDs_ok R s[1].toNat wx hRp (by rw [hR0]) (by omega))
end Go.Proofs.YtlboemhbealnmaaGreat.Ms
namespace Go.Proofs.YtlboemhbealnmaaGreat.Ms
open Go.RowKit
theorem idsAt_young {w0 w:World} {a:Option Addr} {l:List UInt64} {p:Addr} (h0:IdsAt w0 a l) (h:IdsAt w a l) (hp:w0.heap.size≤p.block) (v:Value):IdsAt (w.setCell p v) a l:=fun i hi=>by
 obtain ⟨b,o,e,hb,c0⟩:=h i hi
 obtain ⟨b',o',e',hb',_⟩:=h0 i hi
 have hbb:b=b':=by rw [e] at e';cases e';rfl
 have hn:b≠p.block:=by omega
 have hs:∀ oo,(w.setCell p v).cell? ⟨b,oo,none⟩=w.cell? ⟨b,oo,none⟩:=fun oo=>World.cell?_of_block (w:=w) (a:=⟨b,oo,none⟩) (Below.heap_setCell w p v b hn)
 exact ⟨b,o,e,by simpa using hb,by rw [hs];exact c0⟩
theorem mdecode_form (s:ByteArray) (r:Int) (w:World) (hs:s.size≤maxLen) (h:formM s.data.toList=r) (hr:r≠0):Calls Tryz.prog 46 #[.string s] w (GaveM w zeroM r):=by
 have HR:=Lib.hid h
 have hrb:(r == 0)=false:=by simpa using hr
 have hrn:(r != 0)=true:=by simpa using hr
 clear h
 go_enter Tryz.func46,Tryz.ntmps46
 go_wp2_with fail
 with_reducible refine (mread_bad s r _ hs HR.out hr).mono ?_
 rintro e w1 ⟨M,a,cap,rfl,hcap,hi1,hfr,hb1⟩
 obtain ⟨c0,c1,c2,hws⟩:=box_three hb1
 obtain ⟨m0,m1,m2⟩:=box_marks3 hb1
 go_wp2_with fail
 refine bodyPost_ret (v:=.tuple #[.agg #[.int .i64 0,.slice none 0 0,.string ⟨#[]⟩],.int .i64 r]) (by simp [results,Tryz.results46,go_sem,c0,c1,c2,hws]) rfl ?_
 exact gaveM_zero rfl (kept_alloc (below_three (kept_trans (kept_new _ _) hb1) _ _ _) _)
theorem mdecode_check (s:ByteArray) (r:Int) (w:World) (h:formM s.data.toList=0) (hc:checkM (readM s.data.toList)=r) (hr:r≠0):Calls Tryz.prog 46 #[.string s] w (GaveM w zeroM r):=by
 obtain ⟨M,hM⟩:∃ M,readM s.data.toList=M:=⟨_,rfl⟩
 have hrd:=fun wx=>mread_good s wx h
 rw [hM] at hrd hc
 have HC:=Lib.hid hc
 have hrn:(r != 0)=true:=by simpa using hr
 clear h hc hM
 go_enter Tryz.func46,Tryz.ntmps46
 go_wp2_with fail
 with_reducible refine (hrd _).mono ?_
 rintro e w1 ⟨a,cap,rfl,hcap,hi1,hfr,hb1⟩
 have hk1:=kept_new w1 (msgBox a cap M)
 go_wp2_with fail
 with_reducible refine (mcheck_is M _ _ _ r (idsAt_kept hk1 hi1) HC.out).mono ?_
 rintro e w2 ⟨rfl,hb2⟩
 have hb12:=kept_trans hb1 (kept_trans hk1 hb2)
 obtain ⟨c0,c1,c2,hws⟩:=box_three hb12
 obtain ⟨m0,m1,m2⟩:=box_marks3 hb12
 go_wp2_with fail
 refine bodyPost_ret (v:=.tuple #[.agg #[.int .i64 0,.slice none 0 0,.string ⟨#[]⟩],.int .i64 r]) (by simp [results,Tryz.results46,go_sem,c0,c1,c2]) rfl ?_
 exact gaveM_zero rfl (below_three (kept_trans (kept_new _ _) hb12) _ _ _)
theorem check_body {m:MsgD} (h:checkM m=0):m.body.size≤100:=by
 rcases (checkM_ok h).2 with ⟨_,_,_,h4⟩ | ⟨_,h5,_⟩ <;> omega
theorem mdecode_ok (s:ByteArray) (w:World) (h:formM s.data.toList=0) (hc:checkM (readM s.data.toList)=0):Calls Tryz.prog 46 #[.string s] w (GaveM w (readM s.data.toList) 0):=by
 obtain ⟨M,hM⟩:∃ M,readM s.data.toList=M:=⟨_,rfl⟩
 have hrd:=fun wx=>mread_good s wx h
 rw [hM] at hrd hc ⊢
 have hbody:=check_body hc
 have HC:=Lib.hid hc
 clear h hc hM
 go_enter Tryz.func46,Tryz.ntmps46
 go_wp2_with fail
 with_reducible refine (hrd _).mono ?_
 rintro e w1 ⟨a,cap,rfl,hcap,hi1,hfr,hb1⟩
 have hk1:=kept_new w1 (msgBox a cap M)
 go_wp2_with fail
 with_reducible refine (mcheck_is M _ _ _ 0 (idsAt_kept hk1 hi1) HC.out).mono ?_
 rintro e w2 ⟨rfl,hb2⟩
 obtain ⟨d0,d1,d2,hws1⟩:=box_three hb2
 go_wp2_with fail
 with_reducible refine (clone_any M.body _ (by omega)).mono ?_
 rintro e w3 ⟨rfl,hb3⟩
 have hb13:=kept_trans (kept_trans hk1 hb2) hb3
 have hb03:=kept_trans hb1 hb13
 clear d0 d1 d2 hws1
 obtain ⟨d0,d1,d2,hws1⟩:=box_three (kept_trans hb2 hb3)
 obtain ⟨n0,n1,n2⟩:=box_marks3 (kept_trans hb2 hb3)
 obtain ⟨c0,c1,c2,hws⟩:=box_three hb03
 obtain ⟨m0,m1,m2⟩:=box_marks3 hb03
 have hi3:=idsAt_kept hb13 hi1
 have hw01:w.heap.size < w1.heap.size:=by have:=hb1.size;simp at this;omega
 have hfr':Fresh (w.heap.size+1) a:=by simpa using hfr
 go_wp2_with fail
 refine bodyPost_ret (v:=.tuple #[.agg #[.int .i64 M.kind,.slice a M.ids.length cap,.string M.body],.int .i64 0]) (by simp [results,Tryz.results46,go_sem,c0,c1,c2]) rfl ?_
 refine ⟨a,cap,rfl,hcap,?_,fun b o sp e=>by have:=hfr' b o sp e;omega,below_three ((kept_trans (kept_new _ _) hb03).setCell (by simp;omega) _) _ _ _⟩
 exact idsAt_set (idsAt_set (idsAt_set (idsAt_young hi1 hi3 (Nat.le_refl _) _) hfr' (by simp) _) hfr' (by simp) _) hfr' (by simp) _
theorem mdecode_all (s:ByteArray) (r:Int) (X:MsgD) (w:World) (hs:s.size≤maxLen) (h:errM s.data.toList=r) (hX:ansM s.data.toList=X):Calls Tryz.prog 46 #[.string s] w (GaveM w X r):=by
 unfold ansM at hX
 by_cases h0:errM s.data.toList=0
 ·rw [if_pos h0] at hX
  rw [h0] at h
  subst h hX
  obtain ⟨h1,h2⟩:=errM_zero h0
  exact mdecode_ok s w h1 h2
 ·rw [if_neg h0] at hX
  subst hX
  have hr:r≠0:=by rw [← h];exact h0
  unfold errM at h
  split at h
  ·exact mdecode_form s r w hs h hr
  ·rename_i h1
   exact mdecode_check s r w (by simpa using h1) h hr
end Go.Proofs.YtlboemhbealnmaaGreat.Ms
namespace Go.Proofs.YtlboemhbealnmaaGreat.Ms
open Go.RowKit
theorem rcheck_kind (k:Int) (n:Nat) (s:ByteArray) (a:Option Addr) (cap:Nat) (w:World) (h:within k 1 4=false) :
  Calls Tryz.prog 115 #[.agg #[.int .i64 k,.slice a n cap,.string s]] w fun e w'=>e=.returned (.int .i64 1)∧Below w.heap.size w w':=by
 have HW:=Lib.hid h
 clear h
 go_enter Tryz.func115,Tryz.ntmps115
 go_wp2_with fail
 with_reducible refine (outside_yes _ _ _ _ HW.out).mono ?_
 rintro e w' ⟨rfl,rfl⟩
 go_wp2_with fail
 go_ret
 exact ⟨rfl,kept_new _ _⟩
theorem rcheck_ids (n:Nat) (s:ByteArray) (a:Option Addr) (cap:Nat) (w:World) (hn:0 < n) :
  Calls Tryz.prog 115 #[.agg #[.int .i64 3,.slice a n cap,.string s]] w fun e w'=>e=.returned (.int .i64 4)∧Below w.heap.size w w':=by
 go_enter Tryz.func115,Tryz.ntmps115
 go_wp2_with fail
 with_reducible refine (outside_no _ _ _ _ (by decide)).mono ?_
 rintro e w' ⟨rfl,rfl⟩
 go_wp2_with fail
 go_ret
 exact ⟨rfl,kept_new _ _⟩
theorem rcheck_body (k:Int) (n:Nat) (s:ByteArray) (a:Option Addr) (cap:Nat) (w:World) (h:within k 1 4=true) (hk:k≠3) (hs:0 < s.size) :
  Calls Tryz.prog 115 #[.agg #[.int .i64 k,.slice a n cap,.string s]] w fun e w'=>e=.returned (.int .i64 4)∧Below w.heap.size w w':=by
 have HW:=Lib.hid h
 clear h
 have hk3:(k == 3)=false:=beq_eq_false_iff_ne.2 hk
 have hk4:(k != 3)=true:=by rw [bne,hk3];rfl
 go_enter Tryz.func115,Tryz.ntmps115
 go_wp2_with fail
 with_reducible refine (outside_no _ _ _ _ HW.out).mono ?_
 rintro e w' ⟨rfl,rfl⟩
 go_wp2_with fail
 go_ret
 exact ⟨rfl,kept_new _ _⟩
theorem rcheck_bring_large (s:ByteArray) (a:Option Addr) (cap:Nat) (w:World) (hs:100 < s.size) :
  Calls Tryz.prog 115 #[.agg #[.int .i64 3,.slice a 0 cap,.string s]] w fun e w'=>e=.returned (.int .i64 2)∧Below w.heap.size w w':=by
 go_enter Tryz.func115,Tryz.ntmps115
 go_wp2_with fail
 with_reducible refine (outside_no _ _ _ _ (by decide)).mono ?_
 rintro e w' ⟨rfl,rfl⟩
 go_wp2_with fail
 go_ret
 exact ⟨rfl,kept_new _ _⟩
theorem rcheck_bring_none (s:ByteArray) (a:Option Addr) (cap:Nat) (w:World) (hs:s.size=0) :
  Calls Tryz.prog 115 #[.agg #[.int .i64 3,.slice a 0 cap,.string s]] w fun e w'=>e=.returned (.int .i64 4)∧Below w.heap.size w w':=by
 have he:((s.size:Int) == 0)=true:=beq_iff_eq.2 (by omega)
 go_enter Tryz.func115,Tryz.ntmps115
 go_wp2_with fail
 with_reducible refine (outside_no _ _ _ _ (by decide)).mono ?_
 rintro e w' ⟨rfl,rfl⟩
 go_wp2_with fail
 go_ret
 exact ⟨rfl,kept_new _ _⟩
theorem rcheck_large (k:Int) (n:Nat) (s:ByteArray) (a:Option Addr) (cap:Nat) (w:World) (h:within k 1 4=true) (hk:k≠3) (hs:s.size=0) (hn:20 < n) :
  Calls Tryz.prog 115 #[.agg #[.int .i64 k,.slice a n cap,.string s]] w fun e w'=>e=.returned (.int .i64 2)∧Below w.heap.size w w':=by
 have HW:=Lib.hid h
 clear h
 have hk3:(k == 3)=false:=beq_eq_false_iff_ne.2 hk
 have hk4:(k != 3)=true:=by rw [bne,hk3];rfl
 go_enter Tryz.func115,Tryz.ntmps115
 go_wp2_with fail
 with_reducible refine (outside_no _ _ _ _ HW.out).mono ?_
 rintro e w' ⟨rfl,rfl⟩
 go_wp2_with fail
 go_ret
 exact ⟨rfl,kept_new _ _⟩
theorem rcheck_none (k:Int) (s:ByteArray) (a:Option Addr) (cap:Nat) (w:World) (h:within k 1 4=true) (hk:k≠3) (hs:s.size=0) :
  Calls Tryz.prog 115 #[.agg #[.int .i64 k,.slice a 0 cap,.string s]] w fun e w'=>e=.returned (.int .i64 4)∧Below w.heap.size w w':=by
 have HW:=Lib.hid h
 clear h
 have hk3:(k == 3)=false:=beq_eq_false_iff_ne.2 hk
 have hk4:(k != 3)=true:=by rw [bne,hk3];rfl
 have he:((s.size:Int) == 0)=true:=beq_iff_eq.2 (by omega)
 go_enter Tryz.func115,Tryz.ntmps115
 go_wp2_with fail
 with_reducible refine (outside_no _ _ _ _ HW.out).mono ?_
 rintro e w' ⟨rfl,rfl⟩
 go_wp2_with fail
 go_ret
 exact ⟨rfl,kept_new _ _⟩
theorem rcheck_bring_ok (s:ByteArray) (a:Option Addr) (cap:Nat) (w:World) (hs0:s.size≠0) (hs:s.size≤100) :
  Calls Tryz.prog 115 #[.agg #[.int .i64 3,.slice a 0 cap,.string s]] w fun e w'=>e=.returned (.int .i64 0)∧Below w.heap.size w w':=by
 have he:((s.size:Int) == 0)=false:=beq_eq_false_iff_ne.2 (by omega)
 go_enter Tryz.func115,Tryz.ntmps115
 go_wp2_with fail
 with_reducible refine (outside_no _ _ _ _ (by decide)).mono ?_
 rintro e w' ⟨rfl,rfl⟩
 go_wp2_with fail
 go_loop [51] (fun i=>i=.int .i64 0) (fun _=>0)
 case atStart=>rfl
 case round=>
  subst hrel
  go_wp2
  go_ret
  exact ⟨rfl,kept_new _ _⟩
theorem rcheck_ids_rest (k:Int) (l:List UInt64) (s:ByteArray) (a:Option Addr) (cap:Nat) (w:World) (h:within k 1 4=true) (hk:k≠3) (hs:s.size=0) (h0:l.length≠0) (hl:l.length≤20) (hc:l.length≤cap) (hi:IdsAt w a l) (r:Int) (HR:Hid ((if l.Nodup then 0 else 6)=r)) :
  Calls Tryz.prog 115 #[.agg #[.int .i64 k,.slice a l.length cap,.string s]] w fun e w'=>e=.returned (.int .i64 r)∧Below w.heap.size w w':=by
 have HW:=Lib.hid h
 clear h
 have hk3:(k == 3)=false:=beq_eq_false_iff_ne.2 hk
 have hk4:(k != 3)=true:=by rw [bne,hk3];rfl
 have he:((s.size:Int) == 0)=true:=beq_iff_eq.2 (by omega)
 have hl0:((l.length:Int) == 0)=false:=beq_eq_false_iff_ne.2 (by omega)
 have hi0:=idsAt_kept (kept_new w (.cells #[.int .i64 k,.slice a l.length cap,.string s] 113)) hi
 go_enter Tryz.func115,Tryz.ntmps115
 go_wp2_with fail
 with_reducible refine (outside_no _ _ _ _ HW.out).mono ?_
 rintro e w' ⟨rfl,rfl⟩
 go_wp2_with fail
 go_loop [51] (fun i=>∃ j:Nat,j≤l.length∧i=.int .i64 j∧Hid ((l.take j).Nodup)) (fun i=>l.length - (intOf i).toNat)
 case atStart=>exact ⟨0,Nat.zero_le _,rfl,Lib.hid (by simp)⟩
 case round=>
  obtain ⟨j,hj,rfl,NO⟩:=hrel
  by_cases hlt:j < l.length
  ·have hi1:=hi0
   obtain ⟨b,o,rfl,hb,hd⟩:=hi0 j hlt
   have hjc:j≤cap:=by omega
   by_cases hx:(l.take j).contains l[j]=true
   ·have HX:=Lib.hid hx
    clear hx
    go_wp2_with fail
    with_reducible refine (hasID_take l j true l[j] _ _ _ (by omega) (by unfold maxLen;omega) hi1 HX.out).mono ?_
    rintro e w' ⟨rfl,rfl⟩
    go_wp2_with fail
    go_ret
    exact ⟨ret_i64 (by rw [← HR.out,if_neg (not_nodup hlt HX.out)]),kept_new _ _⟩
   ·rw [Bool.not_eq_true] at hx
    have HX:=Lib.hid hx
    clear hx
    go_wp2_with fail
    with_reducible refine (hasID_take l j false l[j] _ _ _ (by omega) (by unfold maxLen;omega) hi1 HX.out).mono ?_
    rintro e w' ⟨rfl,rfl⟩
    go_wp2_with fail
    go_round
    case rel=>exact ⟨j+1,by omega,by go_num,Lib.hid ((nodup_snoc hlt).2 ⟨NO.out,HX.out⟩)⟩
    case measure=>simp [intOf];omega
  ·have hn:=NO.out
   rw [List.take_of_length_le (by omega)] at hn
   have HN:=Lib.hid hn
   clear hn
   go_wp2
   go_ret
   exact ⟨ret_i64 (by rw [← HR.out,if_pos HN.out]),kept_new _ _⟩
theorem rcheck_is (m:MsgD) (a:Option Addr) (cap:Nat) (w:World) (r:Int) (hc:m.ids.length≤cap) (hi:IdsAt w a m.ids) (h:checkM m=r) :
  Calls Tryz.prog 115 #[.agg #[.int .i64 m.kind,.slice a m.ids.length cap,.string m.body]] w fun e w'=>e=.returned (.int .i64 r)∧Below w.heap.size w w':=by
 subst h
 obtain ⟨k,l,s⟩:=m
 by_cases hw:within k 1 4=true
 ·by_cases hk:k=3
  ·subst hk
   by_cases hl:0 < l.length
   ·rw [checkM_form hw (.inl ⟨rfl,hl⟩)]
    exact rcheck_ids l.length s a cap w hl
   ·obtain rfl:l=[]:=List.eq_nil_of_length_eq_zero (by omega)
    have h1:¬ (((3:Int)=3∧0 < ([]:List UInt64).length)∨((3:Int)≠3∧0 < s.size)):=by simp
    by_cases hs:100 < s.size
    ·rw [checkM_large hw h1 (.inr hs)]
     exact rcheck_bring_large s a cap w hs
    ·have h2:¬ (20 < ([]:List UInt64).length∨100 < s.size):=by simp;omega
     by_cases hs0:s.size=0
     ·rw [checkM_none hw h1 h2 ⟨rfl,hs0⟩]
      exact rcheck_bring_none s a cap w hs0
     ·rw [checkM_rest hw h1 h2 (fun h=>hs0 h.2),if_pos (by simp)]
      exact rcheck_bring_ok s a cap w hs0 (by omega)
  ·by_cases hs:0 < s.size
   ·rw [checkM_form hw (.inr ⟨hk,hs⟩)]
    exact rcheck_body k l.length s a cap w hw hk hs
   ·have hs0:s.size=0:=by omega
    have h1:¬ ((k=3∧0 < l.length)∨(k≠3∧0 < s.size)):=by omega
    by_cases hl:20 < l.length
    ·rw [checkM_large hw h1 (.inl hl)]
     exact rcheck_large k l.length s a cap w hw hk hs0 hl
    ·have h2:¬ (20 < l.length∨100 < s.size):=by omega
     by_cases hl0:l.length=0
     ·rw [checkM_none hw h1 h2 ⟨hl0,hs0⟩]
      obtain rfl:l=[]:=List.eq_nil_of_length_eq_zero hl0
      exact rcheck_none k s a cap w hw hk hs0
     ·rw [checkM_rest hw h1 h2 (fun h=>hl0 h.1)]
      exact rcheck_ids_rest k l s a cap w hw hk hs0 hl0 (by omega) hc hi _ (Lib.hid rfl)
 ·rw [checkM_kind (by simpa using hw)]
  exact rcheck_kind k l.length s a cap w (by simpa using hw)
end Go.Proofs.YtlboemhbealnmaaGreat.Ms
