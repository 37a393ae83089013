import Derived.Test.YtlboemhbealnmaaGreatP3
import Derived.Deep.AppendLies
import Derived.Shelf.SlMaps.Clone
import Derived.Test.YtlboemhbealnmaaGreatP2
import Derived.Test.YtlboemhbealnmaaGreatP1
import Derived.Deep.RegionHeld3
import Derived.RegionTactic
import Derived.BigRegion
import Derived.Deep.RegionWith
import Derived.Laws.Bits64b
import Derived.Lib.AppendStr
set_option maxRecDepth 20000
namespace Go.Proofs.YtlboemhbealnmaaGreat
open Go.RowKit
def upd {α β:Type} [DecidableEq α] (f:α→β) (a:α) (v:β):α→β:=fun x=>if x=a then v else f x
theorem upd_same {α β:Type} [DecidableEq α] (f:α→β) (a:α) (v:β):upd f a v a=v:=if_pos rfl
theorem upd_other {α β:Type} [DecidableEq α] (f:α→β) {a x:α} (v:β) (h:x≠a):upd f a v x=f x:=if_neg h
def nod:DeedD:=⟨[],0,0,0⟩
theorem own_at {w:World} {B:Nat} {e:TypeId} {size n:Nat} {v:Value} {xs:List Value} {g:Nat} (h:w.ownsRow B e size v n xs) (hg:v.ownBlock=some g):∃ cur,w.heap[g]?=some (.cells cur e (0,0)):=by
 rcases h.2 with ⟨hv,_⟩ | ⟨g',cap,cur,hv,_,hh,_⟩
 ·rw [hv] at hg;cases hg
 ·rw [hv] at hg
  simp only [Value.ownBlock,Option.some.injEq] at hg
  subst hg
  exact ⟨cur,hh⟩
theorem own_same {w w':World} {B:Nat} {e:TypeId} {size n:Nat} {v:Value} {xs:List Value} (h:w.ownsRow B e size v n xs) (hs:∀ g,v.ownBlock=some g→w'.heap[g]?=w.heap[g]?):w'.ownsRow B e size v n xs:=by
 refine ⟨h.1,?_⟩
 rcases h.2 with hv | ⟨g,cap,cur,hv,hb,hh,r⟩
 ·exact .inl hv
 ·exact .inr ⟨g,cap,cur,hv,hb,(hs g (by rw [hv];rfl)).trans hh,r⟩
theorem own_turn {w w':World} {G G':Nat→Prop} {B:Nat} {e:TypeId} {size n:Nat} {v:Value} {xs:List Value} (h:w.ownsRow B e size v n xs) (ht:Turn G G' w w') (hn:∀ g,v.ownBlock=some g→¬ G g):w'.ownsRow B e size v n xs:=
 own_same h fun g hg=>ht.block g ((h.lt g hg).2) (hn g hg)
theorem head_cell {w:World} {R:Nat} {cs:Array Value} {t:TypeId} {fr:Nat × Nat} (h:w.heap[R]?=some (.cells cs t fr)) (j:Nat):w.cell? ⟨R,j,none⟩=cs[j]?:=by simp [World.cell?,h]
theorem ins_ok {d:DeedD} (h:checkD d=0):∀ z ∈ d.ins,inOk z:=fun z hz=>by
 obtain ⟨k,hk,rfl⟩:=List.getElem_of_mem hz
 have:=(check_ok h).2.1 k hk
 unfold inOk
 simp only [Lit.wf,Bool.and_eq_true,decide_eq_true_eq]
 exact ⟨by show (-9223372036854775808:Int)≤_;omega,by show _≤(9223372036854775807:Int);omega⟩
theorem insAt_turn {w w':World} {G G':Nat→Prop} {a:Option Addr} {l:List InD} (h:InsAt w a l) (ht:Turn G G' w w') (hn:∀ bb o,l≠[]→a=some ⟨bb,o,none⟩→¬ G bb):InsAt w' a l:=fun i hi=>by
 obtain ⟨bb,o,e,hb,c0,c1,c2⟩:=h i hi
 have hG:=hn bb o (fun e=>by rw [e] at hi;simp at hi) e
 have hs:=ht.block bb hb hG
 exact ⟨bb,o,e,Nat.lt_of_lt_of_le hb ht.size,(World.cell?_of_block (a:=⟨bb,o+i * 2,none⟩) hs).trans c0,(World.cell?_of_block (a:=⟨bb,o+i * 2+1,none⟩) hs).trans c1,c2⟩
theorem turn_set4 (w:World) (n:Nat) (u0 u1 u2 u3:Value):Turn (fun k=>k=n) (fun k=>k=n) w ((((w.setCell ⟨n,0,none⟩ u0).setCell ⟨n,1,none⟩ u1).setCell ⟨n,2,none⟩ u2).setCell ⟨n,3,none⟩ u3):=
 (((Turn.set (F:=fun k=>k=n) w ⟨n,0,none⟩ u0 rfl).trans (Turn.set _ ⟨n,1,none⟩ u1 rfl)).trans (Turn.set _ ⟨n,2,none⟩ u2 rfl)).trans (Turn.set _ ⟨n,3,none⟩ u3 rfl)
def DeedAns (w:World) (m:Option DeedD) (e:Ending) (w':World):Prop:=
 ∃ a c,e=.returned (.tuple #[.agg #[.slice a (m.getD nod).ins.length c,.int .i64 (m.getD nod).outs,.int .i64 (m.getD nod).weight,.int .i64 (m.getD nod).fee],.int .i64 (if m.isSome then 0 else 5)])∧(m.getD nod).ins.length≤8∧(m.getD nod).ins.length≤c∧InsAt w' a (m.getD nod).ins∧Below w.heap.size w w'
end Go.Proofs.YtlboemhbealnmaaGreat
namespace Go.Proofs.YtlboemhbealnmaaGreat
open Go.RowKit
theorem info_in:(Tryz.prog.info? 180).map (fun i=>(i.zero,i.size,i.bytes))=some (some (.agg #[.int .u64 0,.int .i64 0]),2,16):=by kernel_rfl
theorem insC_one (l:List InD):∀ u ∈ insC l,u.oneCell'=true:=fun u hu=>by
 unfold insC at hu
 obtain ⟨x,_,hx⟩:=List.mem_flatMap.1 hu
 simp only [inC,List.mem_cons,List.not_mem_nil,or_false] at hx
 rcases hx with rfl | rfl <;> rfl
theorem ins_cells {w:World} {bb o:Nat} {l:List InD} (h:InsAt w (some ⟨bb,o,none⟩) l):∀ j u,(insC l)[j]?=some u→w.cell? ((⟨bb,o,none⟩:Addr).add j)=some u:=fun j u hj=>by
 have hl:j < (insC l).length:=(List.getElem?_eq_some_iff.1 hj).1
 rw [insC_length] at hl
 have hi:j / 2 < l.length:=by omega
 have e2:=insC_at l (j / 2) hi (j % 2) (by omega)
 rw [show j / 2 * 2+j % 2=j by omega,hj] at e2
 obtain ⟨b',o',e,_,c0,c1,_⟩:=h (j / 2) hi
 simp only [Option.some.injEq,Addr.mk.injEq,and_true] at e
 obtain ⟨rfl,rfl⟩:=e
 have e3:(⟨bb,o,none⟩:Addr).add j=⟨bb,o+j,none⟩:=by unfold Addr.add;split <;> simp_all
 rw [e3]
 have hm:j % 2=0∨j % 2=1:=by omega
 rcases hm with hm | hm
 ·rw [hm] at e2
  rw [show o+j=o+j / 2 * 2 by omega,c0,e2]
  rfl
 ·rw [hm] at e2
  rw [show o+j=o+j / 2 * 2+1 by omega,c1,e2]
  rfl
theorem append_none (a:Option Addr) (cap:Nat) (ty:TypeId) (w:World):(Builtin.append_ #[92,92] ty #[.slice none 0 0,.slice a 0 cap]).run Tryz.prog w=.ok (.slice none 0 0) w:=by
 obtain ⟨iE,hiE,_,hz1,_⟩:=info_parts info_in
 cases a with
 | none=>simp [Builtin.append_,run_underlying Tryz.underlying92,Builtin.lenOf,Builtin.firstCells,sizeOf,typeInfo,hiE]
 | some ad=>simp [Builtin.append_,run_underlying Tryz.underlying92,Builtin.lenOf,Builtin.firstCells,sizeOf,typeInfo,hiE,loadCells,loadCellsFrom]
theorem step_append_none {ops:Array Oper} {rest:List Oper} {o:Oper} {a:Act} {Q:Exit→Act→World→Prop} {w:World} (hgd:o.guard=none) (s x:Operand) (ho:o.op=.call { callee:=.builtin .append,args:=#[s,x],argTypes:=#[92,92] })
  (ad:Option Addr) (cap:Nat) (hs:a.eval s=.slice none 0 0) (hx:a.eval x=.slice ad 0 cap) (h:wpList Tryz.prog ops Q rest (a.put o.dst (.slice none 0 0)) w):wpList Tryz.prog ops Q (o :: rest) a w:=by
 refine wpList_plain hgd fun K' hK'=>?_
 unfold Oper.wp
 simp [execOp,ho,resolve,invoke,builtin,hs,hx,append_none,Result.andThen]
 exact hK' _ _ h
def Cloned (w:World) (d:DeedD) (v:Value) (w':World):Prop:=∃ a c,v=.agg #[.slice a d.ins.length c,.int .i64 d.outs,.int .i64 d.weight,.int .i64 d.fee]∧w'.ownsRow w.heap.size 180 2 (.slice a d.ins.length c) d.ins.length (insC d.ins)∧Below w.heap.size w w'
set_option maxRecDepth 20000 in
theorem clone_any (d:DeedD) (a:Option Addr) (cap:Nat) (w:World) (hl:d.ins.length≤8) (hi:InsAt w a d.ins) :
  Calls Tryz.prog 153 #[.agg #[.slice a d.ins.length cap,.int .i64 d.outs,.int .i64 d.weight,.int .i64 d.fee]] w fun e w'=>∃ v,e=.returned v∧Cloned w d v w':=by
 obtain ⟨l,o,g,f⟩:=d
 simp only at hl hi ⊢
 by_cases hnil:l=[]
 ·subst hnil
  have HE:∀ w2,Below w.heap.size w w2→Cloned w ⟨[],o,g,f⟩ (.agg #[.slice none 0 0,.int .i64 o,.int .i64 g,.int .i64 f]) w2:=fun w2 hb=>⟨none,0,rfl,World.ownsRow_nil _ _ _ _,hb⟩
  have HE:=Lib.hid HE
  clear hl hi
  simp only [List.length_nil]
  go_enter Tryz.func153,Tryz.ntmps153
  go_wp2_with (at_builtin;refine step_append_none rfl _ _ rfl a cap rfl rfl ?_)
  refine bodyPost_ret (v:=.agg #[.slice none 0 0,.int .i64 o,.int .i64 g,.int .i64 f]) (by simp [results,Tryz.results153,go_sem]) rfl ?_
  exact ⟨_,rfl,HE.out _ (kept_alloc (kept_new _ _) _)⟩
 ·have hpos:0 < l.length:=List.length_pos_iff.2 hnil
  obtain ⟨bb,oo,rfl,hbl,_,_,_⟩:=hi 0 hpos
  obtain ⟨iE,hiE,hz0,hz1,hz2⟩:=info_parts info_in
  have hk:Below w.heap.size w ((w.alloc (.cells #[.slice (some ⟨bb,oo,none⟩) l.length cap,.int .i64 o,.int .i64 g,.int .i64 f] 94)).alloc (.cells #[.slice none 0 0,.int .i64 0,.int .i64 0,.int .i64 0] 94)):=kept_alloc (kept_new _ _) _
  have HN:=Lib.hid (ins_cells (insAt_kept hk hi))
  have HL:=Lib.hid hl
  clear hnil hi
  go_enter Tryz.func153,Tryz.ntmps153
  go_wp2_with (at_builtin;refine wpList_append_lies _ rfl _ _ 92 rfl w.heap.size 180 iE _ 2 16 Tryz.underlying92 hiE hz0 hz1 hz2 rfl (by decide) (.slice none 0 0) 0 [] rfl (World.ownsRow_nil _ _ _ _) ⟨bb,oo,none⟩ l.length cap (insC l) rfl (insC_length l) HN.out (insC_one l) hpos (by have:=HL.out;unfold maxLen;omega) (by have:=HL.out;omega) (by simp;omega) _ rfl ?_;intro g2 cap2 w2 hown2 hgrow2 hat2 hlt2;refine Hid.out ?_)
  refine Lib.hid ?_
  have hb2:=grown_below hgrow2
  have hB1:w2.heap[w.heap.size]?=some (.cells #[.slice (some ⟨bb,oo,none⟩) l.length cap,.int .i64 o,.int .i64 g,.int .i64 f] 94 (0,0)):=(hb2.block _ (by simp;omega)).trans (heap_alloc2_old _ _ _)
  have hB2:w2.heap[w.heap.size+1]?=some (.cells #[.slice none 0 0,.int .i64 0,.int .i64 0,.int .i64 0] 94 (0,0)):=(hb2.block _ (by simp)).trans (heap_alloc2_new _ _ _)
  have c0:w2.cell? ⟨w.heap.size,0,none⟩=some (.slice (some ⟨bb,oo,none⟩) l.length cap):=head_cell hB1 0
  have c1:w2.cell? ⟨w.heap.size,1,none⟩=some (.int .i64 o):=head_cell hB1 1
  have c2:w2.cell? ⟨w.heap.size,2,none⟩=some (.int .i64 g):=head_cell hB1 2
  have c3:w2.cell? ⟨w.heap.size,3,none⟩=some (.int .i64 f):=head_cell hB1 3
  have d0:w2.cell? ⟨w.heap.size+1,0,none⟩=some (.slice none 0 0):=head_cell hB2 0
  have d1:w2.cell? ⟨w.heap.size+1,1,none⟩=some (.int .i64 0):=head_cell hB2 1
  have d2:w2.cell? ⟨w.heap.size+1,2,none⟩=some (.int .i64 0):=head_cell hB2 2
  have d3:w2.cell? ⟨w.heap.size+1,3,none⟩=some (.int .i64 0):=head_cell hB2 3
  have e0:=frozen_of_row w2 _ 0 _ _ hB1
  have f0:=frozen_of_row w2 _ 0 _ _ hB2
  have f1:=frozen_of_row w2 _ 1 _ _ hB2
  have f2:=frozen_of_row w2 _ 2 _ _ hB2
  have f3:=frozen_of_row w2 _ 3 _ _ hB2
  have hs2:w.heap.size+1 < w2.heap.size:=by have:=hb2.size;simp at this;omega
  have hg2:g2=w.heap.size+2:=by
   rcases hat2 with h | h
   ·cases h
   ·rw [h];simp
  have HO:Hid (w2.ownsRow w.heap.size 180 2 (.slice (some ⟨g2,0,none⟩) l.length cap2) l.length (insC l)):=Lib.hid (by rw [Nat.zero_add] at hown2;exact hown2)
  have HB:=Lib.hid (kept_trans hk hb2)
  have HG:=Lib.hid hg2
  clear hown2 hgrow2 hat2 hlt2 hB1 hB2 hb2 hg2
  go_wp2
  refine bodyPost_ret (v:=.agg #[.slice (some ⟨g2,0,none⟩) l.length cap2,.int .i64 o,.int .i64 g,.int .i64 f]) (by simp [results,Tryz.results153,go_sem,d0,d1,d2,d3]) rfl ?_
  have ht:Turn (fun k=>k=w.heap.size∨k=w.heap.size+1) (fun k=>k=w.heap.size∨k=w.heap.size+1) w2 _:=((((Turn.set w2 ⟨w.heap.size,0,none⟩ (.slice (some ⟨g2,0,none⟩) l.length cap2) (.inl rfl)).trans (Turn.set _ ⟨w.heap.size+1,0,none⟩ (.slice (some ⟨g2,0,none⟩) l.length cap2) (.inr rfl))).trans (Turn.set _ ⟨w.heap.size+1,1,none⟩ (.int .i64 o) (.inr rfl))).trans (Turn.set _ ⟨w.heap.size+1,2,none⟩ (.int .i64 g) (.inr rfl))).trans (Turn.set _ ⟨w.heap.size+1,3,none⟩ (.int .i64 f) (.inr rfl))
  refine ⟨_,rfl,_,_,rfl,own_turn HO.out ht (fun k hk=>?_),HB.out.trans (ht.below (fun k hk=>by omega) HB.out.size)⟩
  have hk:g2=k:=by simpa [Value.ownBlock] using hk
  have:=HG.out
  omega
theorem map_not_nil (w:World) (b:Nat):(binOp .eql 72 (.map (some b)) (.map none)).run Tryz.prog w=.ok (.bool false) w:=run_eql_map_nil_sl (P:=Tryz.prog) w 72 _ _ (some b) Tryz.underlying72
end Go.Proofs.YtlboemhbealnmaaGreat
namespace Go.Proofs.YtlboemhbealnmaaGreat
open Go.RowKit
def PicksI (K:World→Prop) (f:FuncId) (cap:Array Value) (q:UInt64→Bool):Prop:=
 (∀ (args:Array Value) (w:World),(callFunc f args).run Tryz.prog w=.ok (.enter f args) w) ∧
 ∀ (x:UInt64) (w:World),K w→Calls Tryz.prog f (#[.int .u64 x.toNat] ++ cap) w fun e w'=>e=.returned (.bool (q x))∧Below w.heap.size w w'
set_option maxRecDepth 20000 in
theorem indexId_any (K:World→Prop) (hK:∀ a b,K a→Below a.heap.size a b→K b) (f:FuncId) (cap:Array Value) (q:UInt64→Bool) (hp:PicksI K f cap q) (l:List UInt64) (a:Option Addr) (cp:Nat) (w:World) (hw:K w) (hl:l.length≤1000) (hi:IdsAt w a l) :
  Calls Tryz.prog 205 #[.slice a l.length cp,.func (.func f) #[] cap] w fun e w'=>e=.returned (.int .i64 (firstAt q l))∧Below w.heap.size w w':=by
 have hcf:=hp.1
 have HP:=Lib.hid hp.2
 have HK:=Lib.hid hK
 have HW:=Lib.hid hw
 clear hp hK hw
 go_enter Tryz.func205,Tryz.ntmps205
 go_wp2
 go_loopw [8] (fun i wr=>∃ k:Nat,k≤l.length∧i=.int .i64 k∧Hid ((l.take k).findIdx? q=none)∧Below w.heap.size w wr) (fun i _=>l.length - (intOf i).toNat)
 case atStart=>exact ⟨0,Nat.zero_le _,rfl,Lib.hid rfl,Below.refl _ _⟩
 case round=>
  obtain ⟨k,hk,rfl,NO,hbel⟩:=hrel
  by_cases hlt:k < l.length
  ·obtain ⟨b,o,rfl,hb,c0⟩:=idsAt_kept hbel hi k hlt
   go_wp2_with fail
   refine (HP.out l[k] _ (HK.out _ _ HW.out hbel)).mono ?_
   rintro e w1 ⟨rfl,hb1⟩
   cases hq:q l[k] with
   | true=>
    have HQ:=Lib.hid hq
    clear hq
    go_wp2
    go_ret
    refine ⟨ret_i64 ?_,kept_trans hbel hb1⟩
    exact (firstAt_hit hlt NO.out HQ.out).symm
   | false=>
    have HQ:=Lib.hid hq
    clear hq
    go_wp2
    go_roundw
    case rel=>exact ⟨k+1,by omega,by go_num,Lib.hid (firstAt_miss hlt NO.out HQ.out),kept_trans hbel hb1⟩
    case measure=>simp [intOf];omega
  ·go_wp2
   go_ret
   refine ⟨ret_i64 ?_,hbel⟩
   have:=NO.out
   rw [List.take_of_length_le (by omega)] at this
   unfold firstAt
   rw [this]
theorem zero_u64 (w:World):(zeroValue 22).run Tryz.prog w=.ok (.int .u64 0) w:=by kernel_rfl
theorem ids_clear {w:World} {g cap i n:Nat} {m:List UInt64} (hi:i < n) (hn:m.length=n) (ho:OwnIds w 0 (.slice (some ⟨g,0,none⟩) n cap) m) :
  ∃ w',(∀ ty,(Builtin.clear_ #[39] ty #[.slice (some ⟨g,i,none⟩) (n - i) (cap - i)]).run Tryz.prog w=.ok (.tuple #[]) w')∧OwnIds w' 0 (.slice (some ⟨g,0,none⟩) i cap) (m.take i)∧Turn (fun k=>k=g) (fun k=>k=g) w w':=by
 subst hn
 obtain ⟨w',h1,h2,h3⟩:=clear_row (t:=39) (size:=1) _ Tryz.underlying39 zero_u64 rfl (by decide) (by decide) hi ho
 simp only [Nat.mul_one] at h1 h2
 refine ⟨w',h1,?_,h3⟩
 unfold OwnIds
 rw [List.map_take,List.length_take,Nat.min_eq_left (Nat.le_of_lt hi)]
 exact h2
theorem id_stored {w:World} {g cap n:Nat} {m:List UInt64} (ho:OwnIds w 0 (.slice (some ⟨g,0,none⟩) n cap) m) (hn:m.length=n) (i:Nat) (x:UInt64):OwnIds (w.setCell ⟨g,i,none⟩ (.int .u64 x.toNat)) 0 (.slice (some ⟨g,0,none⟩) n cap) (m.set i x)∧Turn (fun k=>k=g) (fun k=>k=g) w (w.setCell ⟨g,i,none⟩ (.int .u64 x.toNat)):=by
 subst hn
 refine ⟨?_,Turn.set (F:=fun k=>k=g) w ⟨g,i,none⟩ _ rfl⟩
 unfold OwnIds
 rw [List.map_set,List.length_set]
 exact (ho.stored i _).1
theorem ownIds_some {w:World} {g cap n:Nat} {l:List UInt64} (h:OwnIds w 0 (.slice (some ⟨g,0,none⟩) n cap) l) (i:Nat) (hi:i < l.length):w.cell? ⟨g,i,none⟩=some (.int .u64 l[i].toNat)∧w.frozen? ⟨g,i,none⟩=false∧g < w.heap.size:=by
 obtain ⟨a,c,e,_,hat,_⟩:=owns_idsAt h
 simp only [Value.slice.injEq] at e
 obtain ⟨rfl,rfl,rfl⟩:=e
 obtain ⟨b,o,e,hb,hc⟩:=hat i hi
 simp only [Option.some.injEq,Addr.mk.injEq,and_true] at e
 obtain ⟨rfl,rfl⟩:=e
 rw [Nat.zero_add] at hc
 exact ⟨hc,h.frozenAt i,hb⟩
set_option maxRecDepth 20000 in
theorem deleteId_any (K:World→Prop) (hK:∀ a b,K a→Below a.heap.size a b→K b) (f:FuncId) (fc:Array Value) (q:UInt64→Bool) (hp:PicksI K f fc q) (l:List UInt64) (g cap:Nat) (w:World) (hw:K w) (hKs:∀ a j u,K a→K (a.setCell ⟨g,j,none⟩ u)) (hl:l.length≤1000)
  (ho:OwnIds w 0 (.slice (some ⟨g,0,none⟩) l.length cap) l) :
  Calls Tryz.prog 183 #[.slice (some ⟨g,0,none⟩) l.length cap,.func (.func f) #[] fc] w fun e w'=>∃ n c,e=.returned (.slice (some ⟨g,0,none⟩) n c)∧OwnIds w' 0 (.slice (some ⟨g,0,none⟩) n c) (l.filter fun e=>!q e)∧Turn (fun k=>k=g) (fun k=>k=g) w w':=by
 have hcf:=hp.1
 have HPP:=Lib.hid hp
 have HP:=Lib.hid hp.2
 have HK:=Lib.hid hK
 have HKs:=Lib.hid hKs
 have HW:=Lib.hid hw
 clear hp hK hw hKs
 obtain ⟨a0,c0,e0,hc0,hat,_⟩:=owns_idsAt ho
 simp only [Value.slice.injEq,true_and] at e0
 obtain ⟨rfl,rfl⟩:=e0
 have HO:=Lib.hid ho
 clear ho
 go_enter Tryz.func183,Tryz.ntmps183
 go_wp2_with fail
 refine (indexId_any K HK.out f fc q HPP.out l _ _ w HW.out hl hat).mono ?_
 rintro e w1 ⟨rfl,hb1⟩
 cases hx:l.findIdx? q with
 | none=>
  have e1:firstAt q l=-1:=by unfold firstAt;rw [hx]
  have HX:=Lib.hid hx
  rw [e1]
  clear hx e1
  go_wp2
  go_ret
  exact ⟨_,_,rfl,by rw [filter_none HX.out];exact owns_below HO.out hb1,Turn.of_below hb1⟩
 | some i0=>
  have e1:firstAt q l=(i0:Int):=by unfold firstAt;rw [hx]
  have hi0:i0 < l.length:=by have:=List.findIdx?_eq_some_iff_getElem.1 hx;exact this.1
  have HX:=Lib.hid hx
  have hne:((i0:Int) == -1)=false:=by rw [beq_eq_false_iff_ne];omega
  rw [e1]
  clear hx e1
  go_wp2
  go_loopw [5,6] (fun vi vj wr=>∃ (i j:Nat) (m:List UInt64),vi=.int .i64 i∧vj=.int .i64 j∧i < j∧j≤l.length∧m.length=l.length∧Hid (OwnIds wr 0 (.slice (some ⟨g,0,none⟩) l.length cap) m) ∧
   Hid (m.take i=(l.take j).filter (fun e=>!q e))∧Hid (m.drop j=l.drop j)∧Hid (Turn (fun k=>k=g) (fun k=>k=g) w wr)∧Hid (K wr)) (fun _ j _=>l.length - (intOf j).toNat)
  case atStart=>exact ⟨i0,i0+1,l,rfl,by go_num,by omega,by omega,rfl,Lib.hid (owns_below HO.out hb1),Lib.hid (take_filter_start HX.out),Lib.hid rfl,Lib.hid (Turn.of_below hb1),Lib.hid (HK.out _ _ HW.out hb1)⟩
  case round=>
   obtain ⟨i,j,m,rfl,rfl,hij,hj,hml,HO,HT,HD,HU,HKw⟩:=hrel
   by_cases hlt:j < l.length
   ·obtain ⟨c0,_,hgl⟩:=ownIds_some HO.out j (by omega)
    go_wp2_with fail
    refine (HP.out m[j] _ HKw.out).mono ?_
    rintro e w2 ⟨rfl,hb3⟩
    cases hq:q m[j] with
    | true=>
     have HQ:=Lib.hid hq
     clear hq
     go_wp2
     go_roundw
     case rel=>
      obtain ⟨hm1,hm2⟩:=drop_at HD.out (by omega) hlt
      exact ⟨i,j+1,m,rfl,by go_num,by omega,by omega,hml,Lib.hid (owns_below HO.out hb3),Lib.hid (take_filter_out hlt HT.out (by rw [← hm1,HQ.out];rfl)),Lib.hid hm2,Lib.hid (HU.out.trans (Turn.of_below hb3)),Lib.hid (HK.out _ _ HKw.out hb3)⟩
     case measure=>simp [intOf];omega
    | false=>
     have HQ:=Lib.hid hq
     clear hq
     obtain ⟨k0,f0,hgl2⟩:=ownIds_some (owns_below HO.out hb3) i (by omega)
     go_wp2
     go_roundw
     case rel=>
      obtain ⟨hm1,hm2⟩:=drop_at HD.out (by omega) hlt
      obtain ⟨r1,r2⟩:=id_stored (owns_below HO.out hb3) hml i m[j]
      exact ⟨i+1,j+1,m.set i m[j],by go_num,by go_num,by omega,by omega,by simpa using hml,Lib.hid r1,Lib.hid (by rw [hm1];exact take_filter_in (by omega) hlt HT.out (by rw [← hm1,HQ.out];rfl)),Lib.hid (by rw [drop_set _ (by omega)];exact hm2),Lib.hid ((HU.out.trans (Turn.of_below hb3)).trans r2),Lib.hid (HKs.out _ _ _ (HK.out _ _ HKw.out hb3))⟩
     case measure=>simp [intOf];omega
   ·obtain ⟨w3,hcl,ho3,ht3⟩:=ids_clear (i:=i) (by omega) hml HO.out
    have HO3:=Lib.hid ho3
    have HT3:=Lib.hid ht3
    clear ho3 ht3
    go_wp2_with fail
    go_ret
    have hj':j=l.length:=by omega
    have h4:=HT.out
    rw [hj',List.take_of_length_le (Nat.le_refl _)] at h4
    exact ⟨_,_,rfl,by rw [← h4];exact HO3.out,HU.out.trans HT3.out⟩
theorem deleteId_nil (K:World→Prop) (hK:∀ a b,K a→Below a.heap.size a b→K b) (f:FuncId) (fc:Array Value) (q:UInt64→Bool) (hp:PicksI K f fc q) (w:World) (hw:K w) :
  Calls Tryz.prog 183 #[.slice none 0 0,.func (.func f) #[] fc] w fun e w'=>e=.returned (.slice none 0 0)∧Below w.heap.size w w':=by
 have HP:=Lib.hid hp
 have HK:=Lib.hid hK
 have HW:=Lib.hid hw
 clear hp hK hw
 go_enter Tryz.func183,Tryz.ntmps183
 go_wp2_with fail
 refine (indexId_any K HK.out f fc q HP.out [] none 0 w HW.out (by decide) (idsAt_nil _ _)).mono ?_
 rintro e w1 ⟨rfl,hb1⟩
 have e1:firstAt q []=-1:=rfl
 rw [e1]
 clear e1
 go_wp2
 go_ret
 exact ⟨rfl,hb1⟩
theorem deleteId_own (K:World→Prop) (hK:∀ a b,K a→Below a.heap.size a b→K b) (f:FuncId) (fc:Array Value) (q:UInt64→Bool) (hp:PicksI K f fc q) (l:List UInt64) (v:Value) (w:World) (hw:K w) (hKs:∀ g,v.ownBlock=some g→∀ a j u,K a→K (a.setCell ⟨g,j,none⟩ u)) (hl:l.length≤1000) (ho:OwnIds w 0 v l) :
  Calls Tryz.prog 183 #[v,.func (.func f) #[] fc] w fun e w'=>∃ a n c,e=.returned (.slice a n c)∧OwnIds w' 0 (.slice a n c) (l.filter fun e=>!q e)∧(Value.slice a n c).ownBlock=v.ownBlock∧Turn (fun k=>v.ownBlock=some k) (fun k=>v.ownBlock=some k) w w':=by
 rcases ho.2 with ⟨rfl,hn⟩ | ⟨g,cap,cur,rfl,_,_,_,_,_,_⟩
 ·obtain rfl:l=[]:=List.eq_nil_of_length_eq_zero hn
  exact (deleteId_nil K hK f fc q hp w hw).mono fun e w' ⟨he,hb⟩=>⟨none,0,0,he,World.ownsRow_nil _ _ _ _,rfl,Turn.of_below hb⟩
 ·refine (deleteId_any K hK f fc q hp l g cap w hw (hKs g rfl) hl ho).mono fun e w' ⟨n,c,he,h1,h2⟩=>⟨_,n,c,he,h1,rfl,?_⟩
  have e1:(fun k=>Value.ownBlock (.slice (some ⟨g,0,none⟩) l.length cap)=some k)=fun k=>k=g:=by
   funext k
   simp [Value.ownBlock,eq_comm]
  rw [e1]
  exact h2
theorem idFind_any (x:UInt64) (l:List UInt64) (a:Option Addr) (cp:Nat) (w:World) (hl:l.length≤1000) (hi:IdsAt w a l) :
  Calls Tryz.prog 134 #[.slice a l.length cp,.int .u64 x.toNat] w fun e w'=>e=.returned (.int .i64 (firstAt (fun y=>x == y) l))∧Below w.heap.size w w':=by
 go_enter Tryz.func134,Tryz.ntmps134
 go_wp2
 go_loopw [8] (fun i wr=>∃ k:Nat,k≤l.length∧i=.int .i64 k∧Hid ((l.take k).findIdx? (fun y=>x == y)=none)∧Below w.heap.size w wr) (fun i _=>l.length - (intOf i).toNat)
 case atStart=>exact ⟨0,Nat.zero_le _,rfl,Lib.hid rfl,Below.refl _ _⟩
 case round=>
  obtain ⟨k,hk,rfl,NO,hbel⟩:=hrel
  by_cases hlt:k < l.length
  ·obtain ⟨b,o,rfl,hb,c0⟩:=idsAt_kept hbel hi k hlt
   have hxb:((x.toNat:Int) == (l[k].toNat:Int))=(x == l[k]):=u64_beq x l[k]
   cases hx:x == l[k] with
   | true=>
    rw [hx] at hxb
    have HX:=Lib.hid hx
    clear hx
    go_wp2
    go_ret
    exact ⟨ret_i64 (firstAt_hit hlt NO.out HX.out).symm,hbel⟩
   | false=>
    rw [hx] at hxb
    have HX:=Lib.hid hx
    clear hx
    go_wp2
    go_roundw
    case rel=>exact ⟨k+1,by omega,by go_num,Lib.hid (firstAt_miss hlt NO.out HX.out),hbel⟩
    case measure=>simp [intOf];omega
  ·go_wp2
   go_ret
   refine ⟨ret_i64 ?_,hbel⟩
   have:=NO.out
   rw [List.take_of_length_le (by omega)] at this
   unfold firstAt
   rw [this]
theorem any_contains (x:UInt64) (l:List UInt64):(l.any fun y=>x == y)=l.contains x:=by
 rw [Bool.eq_iff_iff,List.any_eq_true,List.contains_iff_mem]
 constructor
 ·rintro ⟨y,hy,e⟩
  rw [beq_iff_eq.1 e]
  exact hy
 ·exact fun h=>⟨x,h,by simp⟩
theorem idHas_any (x:UInt64) (l:List UInt64) (r:Bool) (hr:l.contains x=r) (a:Option Addr) (cp:Nat) (w:World) (hl:l.length≤1000) (hi:IdsAt w a l) :
  Calls Tryz.prog 73 #[.slice a l.length cp,.int .u64 x.toNat] w fun e w'=>e=.returned (.bool r)∧Below w.heap.size w w':=by
 have HI:=Lib.hid hi
 have HR:=Lib.hid hr
 clear hi hr
 go_enter Tryz.func73,Tryz.ntmps73
 go_wp2_with fail
 refine (idFind_any x l _ _ _ hl HI.out).mono ?_
 rintro e w1 ⟨rfl,hb1⟩
 have e1:=firstAt_neg (fun y=>x == y) l
 rw [any_contains,HR.out] at e1
 obtain ⟨i,hi⟩:∃ i,firstAt (fun y=>x == y) l=i:=⟨_,rfl⟩
 rw [hi] at e1 ⊢
 clear hi
 go_wp2
 go_ret
 exact ⟨rfl,hb1⟩
end Go.Proofs.YtlboemhbealnmaaGreat
namespace Go.Proofs.YtlboemhbealnmaaGreat
open Go.RowKit
variable {w w':World}
theorem owns_low {w:World} {B:Nat} {e:TypeId} {size n:Nat} {v:Value} {xs:List Value} (h:w.ownsRow B e size v n xs):w.ownsRow 0 e size v n xs:=
 ⟨h.1,h.2.imp id fun ⟨g,cap,cur,q1,_,q3⟩=>⟨g,cap,cur,q1,Nat.zero_le _,q3⟩⟩
def GaveIds (w:World) (l:List UInt64) (e:Ending) (w':World):Prop:=∃ a cap,e=.returned (.slice a l.length cap)∧OwnIds w' w.heap.size (.slice a l.length cap) l∧Below w.heap.size w w'
end Go.Proofs.YtlboemhbealnmaaGreat
namespace Go.Proofs.YtlboemhbealnmaaGreat
open Go.RowKit
theorem appendNumber_any (x:UInt64) (n B:Nat) (v:Value) (l:List UInt8) (w:World) (hn:n≤8) (hl:l.length≤1000) (hB:B≤w.heap.size) (hown:Bytes w B v l) :
  Calls Tryz.prog 156 #[v,.int .u64 x.toNat,.int .i64 n] w (Put B w v (l ++ be n x.toNat)):=by
 obtain ⟨i0,hi0,hz0,hz1,hz2⟩:=info_parts info_u8
 have hx:=u64_bd x
 go_enter Tryz.func156,Tryz.ntmps156
 go_wp2
 go_loopw [0,7] (fun u i wr=>∃ k:Nat,k≤n∧i=.int .i64 ((k:Int) - 1)∧Hid (Buf 5 B w v wr u (l ++ be (n - k) (x.toNat / 256 ^ k)))) (fun _ i _=>((intOf i)+1).toNat)
 case atStart=>exact ⟨n,Nat.le_refl _,rfl,Lib.hid (by simpa [be] using buf_refl hown)⟩
 case round=>
  obtain ⟨k,hk,rfl,HB⟩:=hrel
  by_cases hlt:0 < k
  ·obtain ⟨j,rfl⟩:∃ j,k=j+1:=⟨k - 1,by omega⟩
   have hbd:=buf_below hown hB HB.out
   have hBr:B≤wr.heap.size:=Nat.le_trans hB hbd.size
   have hlen:(l ++ be (n - (j+1)) (x.toNat / 256 ^ (j+1))).length+1≤1000000:=by simp [be_length];omega
   clear hbd
   go_wp2_with (at_builtin;refine wpList_append_bytes Tryz.underlying189 hi0 hz0 hz1 hz2 rfl _ _ rfl (B:=B) (l:=l ++ be (n - (j+1)) (x.toNat / 256 ^ (j+1))) (news:=[UInt8.ofNat (x.toNat / 256 ^ j)]) rfl rfl (by rw [shr_byte];rfl) HB.out.own hlen hBr ?_;intro v1 w1 hb1)
   go_roundw
   case rel=>
    refine ⟨j,by omega,by go_num,Lib.hid ?_⟩
    have:=buf_trans HB.out hb1
    rw [List.append_assoc,be_step n j _ (by omega)] at this
    exact this
   case measure=>simp [intOf]
  ·obtain rfl:k=0:=by omega
   go_wp2
   go_ret
   exact ⟨_,rfl,by simpa using HB.out⟩
theorem appendNumber_int (x:Int) (n B:Nat) (v:Value) (l:List UInt8) (w:World) (h0:0≤x) (h1:x≤18446744073709551615) (hn:n≤8) (hl:l.length≤1000) (hB:B≤w.heap.size) (hown:Bytes w B v l) :
  Calls Tryz.prog 156 #[v,.int .u64 x,.int .i64 n] w (Put B w v (l ++ be n x.toNat)):=by
 obtain ⟨u,rfl⟩:=u64_of x h0 (by omega)
 have:=appendNumber_any u n B v l w hn hl hB hown
 simpa using this
theorem appendNumber8 (x:UInt64) (B:Nat) (v:Value) (l:List UInt8) (w:World) (hl:l.length≤1000) (hB:B≤w.heap.size) (hown:Bytes w B v l) :
  Calls Tryz.prog 156 #[v,.int .u64 x.toNat,.int .i64 8] w (Put B w v (l ++ be 8 x.toNat)):=appendNumber_any x 8 B v l w (by omega) hl hB hown
theorem appendNumber2 (x:Int) (B:Nat) (v:Value) (l:List UInt8) (w:World) (h0:0≤x) (h1:x≤18446744073709551615) (hl:l.length≤1000) (hB:B≤w.heap.size) (hown:Bytes w B v l) :
  Calls Tryz.prog 156 #[v,.int .u64 x,.int .i64 2] w (Put B w v (l ++ be 2 x.toNat)):=appendNumber_int x 2 B v l w h0 h1 (by omega) hl hB hown
theorem numU_take (s:ByteArray) (k:Nat) (h:k < s.size):numU (s.data.toList.take (k+1))=256 * numU (s.data.toList.take k)+s[k].toUInt64:=by
 rw [List.take_succ_eq_append_getElem (by simpa using h),numU_snoc];rfl
theorem num_step (x:UInt64) (c:UInt8):bits .or .u64 (IntKind.u64.wrap ((x.toNat:Int) * 256)) (IntKind.u64.wrap (c.toNat:Int))=((256 * x+c.toUInt64).toNat:Int):=by
 have h1:IntKind.u64.wrap ((x.toNat:Int) * 256)=((x * 256).toNat:Int):=wrap_mul_u64 x 256
 have hc:c.toUInt64.toNat=c.toNat:=UInt8.toNat_toUInt64 c
 have hcl:=c.toNat_lt
 rw [h1,wrap_byte_u64,bits_or_u64_nat _ _ (u64_lt _) (u64_lt _)]
 have e:(x * 256).toNat=(x.toNat % 72057594037927936) <<< 8:=by
  rw [UInt64.toNat_mul,Nat.shiftLeft_eq]
  show x.toNat * 256 % 18446744073709551616=_
  omega
 rw [e,← Nat.shiftLeft_add_eq_or_of_lt (by rw [hc];omega),← e,UInt64.toNat_add,UInt64.toNat_mul,UInt64.toNat_mul,hc]
 show ((x.toNat * 256 % 18446744073709551616+c.toNat:Nat):Int)=((256 * x.toNat % 18446744073709551616+c.toNat) % 18446744073709551616:Nat)
 omega
theorem number_any (s:ByteArray) (w:World) (hs:s.size≤maxLen) :
  Calls Tryz.prog 158 #[.string s] w fun e w'=>e=.returned (.int .u64 (numU s.data.toList).toNat)∧w=w':=by
 unfold maxLen at hs
 go_enter Tryz.func158,Tryz.ntmps158
 go_wp2
 go_loop [3,7] (fun x i=>∃ k:Nat,k≤s.size∧i=.int .i64 k∧x=.int .u64 (numU (s.data.toList.take k)).toNat) (fun _ i=>s.size - (intOf i).toNat)
 case atStart=>exact ⟨0,Nat.zero_le _,rfl,rfl⟩
 case round=>
  obtain ⟨k,hk,rfl,rfl⟩:=hrel
  by_cases hlt:k < s.size
  ·have HS:=Lib.hid (numU_take s k hlt)
   go_wp2
   go_round
   case rel=>
    refine ⟨k+1,by omega,by go_num,?_⟩
    rw [HS.out,num_step]
   case measure=>simp [intOf];omega
  ·go_wp2
   go_ret
   exact ⟨by rw [List.take_of_length_le (by simp;omega)];rfl,rfl⟩
theorem number_is (s:ByteArray) (x:UInt64) (w:World) (hs:s.size≤maxLen) (h:numU s.data.toList=x) :
  Calls Tryz.prog 158 #[.string s] w fun e w'=>e=.returned (.int .u64 x.toNat)∧w=w':=h▸number_any s w hs
theorem number_still (s:ByteArray) (x:UInt64) (w:World) (hs:s.size≤maxLen) (h:numU s.data.toList=x) :
  Calls Tryz.prog 158 #[.string s] w fun e w'=>e=.returned (.int .u64 x.toNat)∧w'=w:=(number_is s x w hs h).mono fun _ _ ⟨a,b⟩=>⟨a,b.symm⟩
theorem conv_one (b:UInt8) (g:Nat) (w:World) (h:w.cell? ⟨g,0,none⟩=some (.int .u8 b.toNat)):(convert 189 9 (.slice (some ⟨g,0,none⟩) 1 1)).run Tryz.prog w=.ok (.string ⟨#[b]⟩) w:=
 run_convert_bytes_back w 189 9 5 ⟨g,0,none⟩ 1 [b] Tryz.underlying189 Tryz.underlying5 Tryz.underlying9 fun j hj=>by
  have e:j=0:=by simp at hj;exact hj
  subst e
  exact h
theorem one_kept {w w1:World} {v:Value} {t:TypeId} (h:Below (w.alloc (.cells #[v] t)).drew.heap.size (w.alloc (.cells #[v] t)).drew w1):w1.cell? ⟨w.heap.size,0,none⟩=some v:=
 kept_cell h (by simp [go_sem])
theorem one_kept' {w w1:World} {v:Value} {t:TypeId} (h:Below (w.alloc (.cells #[v] t)).heap.size (w.alloc (.cells #[v] t)) w1):w1.cell? ⟨w.heap.size,0,none⟩=some v:=
 kept_cell h (by simp [go_sem])
theorem digits_zero (x:UInt64) (w:World):Calls Tryz.prog 121 #[.int .u64 x.toNat,.int .i64 0] w fun e w'=>e=.returned (.string ⟨#[]⟩)∧Below w.heap.size w w':=by
 go_enter Tryz.func121,Tryz.ntmps121
 go_wp2_with fail
 go_ret
 exact ⟨rfl,Below.refl _ _⟩
theorem digits_any:∀ (n:Nat) (x:UInt64) (w:World),n≤8→Calls Tryz.prog 121 #[.int .u64 x.toNat,.int .i64 n] w fun e w'=>e=.returned (.string ⟨(be n x.toNat).toArray⟩)∧Below w.heap.size w w'
 | 0,x,w,_=>digits_zero x w
 | n+1,x,w,hn=>by
  have hx:=u64_bd x
  have hn0:(((n:Int)+1) == 0)=false:=by rw [beq_eq_false_iff_ne];omega
  obtain ⟨y,hy⟩:∃ y:UInt64,y=x / 256:=⟨_,rfl⟩
  have hyn:y.toNat=x.toNat / 256:=by rw [hy,UInt64.toNat_div];rfl
  obtain ⟨b,hb⟩:∃ b:UInt8,b=UInt8.ofNat x.toNat:=⟨_,rfl⟩
  have h1:IntKind.u64.wrap ((x.toNat:Int) / 256)=(y.toNat:Int):=by
   rw [show ((x.toNat:Int) / 256)=(y.toNat:Int) by rw [hyn];omega];exact wrap_self_u64 y
  have h2:IntKind.i64.wrap (n:Int)=(n:Int):=IntWalk.i64_in _ (by omega)
  have h3:IntKind.u8.wrap ((x.toNat:Int).tmod 256)=(b.toNat:Int):=by
   rw [hb,UInt8.toNat_ofNat',Int.tmod_eq_emod_of_nonneg (by omega),show IntKind.u8.wrap ((x.toNat:Int) % 256)=((x.toNat:Int) % 256) % 256 from by rw [IntKind.wrap_u8]]
   omega
  obtain ⟨t,ht⟩:∃ t:ByteArray,t=⟨#[b]⟩:=⟨_,rfl⟩
  obtain ⟨s,hs⟩:∃ s:ByteArray,s=⟨(be n y.toNat).toArray⟩:=⟨_,rfl⟩
  have hst:¬ 9223372036854775807 < s.size+t.size:=by
   have e1:s.size=n:=by rw [hs];show ((be n y.toNat).toArray).size=n;simp [be_length]
   have e2:t.size=1:=by rw [ht];rfl
   omega
  have hcv:∀ (wx:World) (g:Nat),wx.cell? ⟨g,0,none⟩=some (.int .u8 b.toNat)→(convert 189 9 (.slice (some ⟨g,0,none⟩) 1 1)).run Tryz.prog wx=.ok (.string t) wx:=fun wx g h=>by
   rw [ht];exact conv_one b g wx h
  have HE:Hid ((⟨(be (n+1) x.toNat).toArray⟩:ByteArray)=s ++ t):=Lib.hid (by
   rw [be,← hyn,← hb,hs,ht]
   apply ByteArray.ext
   simp)
  have IH:=fun wx=>digits_any n y wx (by omega)
  rw [← hs] at IH
  clear hy hyn hb hs ht
  go_enter Tryz.func121,Tryz.ntmps121
  go_wp2_with fail
  go_region_with ((go_at_call 121;(with_reducible refine (IH _).mono ?_);rintro e w1 ⟨rfl,hb1⟩;(first | have hcc:=one_kept hb1 | have hcc:=one_kept' hb1 | skip)))
  all_goals (go_wp2_with fail;go_ret)
  all_goals (refine ⟨by rw [HE.out];rfl,?_⟩;first | exact kept_alloc (kept_trans (Below.refl _ _).drew hb1) _ | exact kept_trans ((kept_new _ _).drew) hb1)
theorem digits8 (x:UInt64) (s:ByteArray) (w:World) (hs:s=str (be 8 x.toNat)):Calls Tryz.prog 121 #[.int .u64 x.toNat,.int .i64 8] w fun e w'=>e=.returned (.string s)∧Below w.heap.size w w':=
 hs▸digits_any 8 x w (by omega)
theorem digits_int (n:Nat) (x:Int) (s:ByteArray) (w:World) (hn:n≤8) (h0:0≤x) (h1:x≤18446744073709551615) (hs:s=str (be n x.toNat)) :
  Calls Tryz.prog 121 #[.int .u64 x,.int .i64 n] w fun e w'=>e=.returned (.string s)∧Below w.heap.size w w':=by
 obtain ⟨u,rfl⟩:=u64_of x h0 (by omega)
 have:=digits_any n u w hn
 rw [hs]
 simpa [str] using this
theorem digits1 (x:Int) (s:ByteArray) (w:World) (h0:0≤x) (h1:x≤255) (hs:s=str [UInt8.ofNat x.toNat]) :
  Calls Tryz.prog 121 #[.int .u64 x,.int .i64 1] w fun e w'=>e=.returned (.string s)∧Below w.heap.size w w':=digits_int 1 x s w (by omega) h0 (by omega) hs
theorem digits2 (x:Int) (s:ByteArray) (w:World) (h0:0≤x) (h1:x≤18446744073709551615) (hs:s=str (be 2 x.toNat)) :
  Calls Tryz.prog 121 #[.int .u64 x,.int .i64 2] w fun e w'=>e=.returned (.string s)∧Below w.heap.size w w':=digits_int 2 x s w (by omega) h0 h1 hs
theorem num_ref (x:UInt64) (c:UInt8):IntKind.u64.wrap (IntKind.u64.wrap (256 * (x.toNat:Int))+IntKind.u64.wrap (c.toNat:Int))=((256 * x+c.toUInt64).toNat:Int):=by
 have h1:IntKind.u64.wrap (256 * (x.toNat:Int))=((256 * x).toNat:Int):=wrap_mul_u64 256 x
 rw [h1,wrap_byte_u64,wrap_add_u64]
theorem refNumber_any (s:ByteArray) (w:World) (hs:s.size≤maxLen) :
  Calls Tryz.prog 114 #[.string s] w fun e w'=>e=.returned (.int .u64 (numU s.data.toList).toNat)∧Below w.heap.size w w':=by
 unfold maxLen at hs
 have hcv:=fun w=>Lib.run_convert_string_bytes (P:=Tryz.prog) w 9 189 5 s Tryz.underlying9 Tryz.underlying189 Tryz.underlying5
 go_enter Tryz.func114,Tryz.ntmps114
 go_wp2
 have hcell:=Lib.bytesWorld_cell w 5 s
 go_loop [3,9] (fun x i=>∃ k:Nat,k≤s.size∧i=.int .i64 k∧x=.int .u64 (numU (s.data.toList.take k)).toNat) (fun _ i=>s.size - (intOf i).toNat)
 case atStart=>exact ⟨0,Nat.zero_le _,rfl,rfl⟩
 case round=>
  obtain ⟨k,hk,rfl,rfl⟩:=hrel
  by_cases hlt:k < s.size
  ·have HS:=Lib.hid (numU_take s k hlt)
   have hc:=hcell k hlt
   go_wp2
   go_round
   case rel=>
    refine ⟨k+1,by omega,by go_num,?_⟩
    rw [HS.out]
    rw [num_ref]
    rfl
   case measure=>simp [intOf];omega
  ·go_wp2
   go_ret
   exact ⟨ret_u64 (by rw [List.take_of_length_le (by simp;omega)]),bytesWorld_below w _ s⟩
theorem refNumber_is (s:ByteArray) (x:UInt64) (w:World) (hs:s.size≤maxLen) (h:numU s.data.toList=x) :
  Calls Tryz.prog 114 #[.string s] w fun e w'=>e=.returned (.int .u64 x.toNat)∧Below w.heap.size w w':=h▸refNumber_any s w hs
theorem encodeID_any (x:UInt64) (w:World):Calls Tryz.prog 155 #[.int .u64 x.toNat] w fun e w'=>e=.returned (.string (str (be 8 x.toNat)))∧Below w.heap.size w w':=by
 have hnil:=bytes_nil 5 w w.heap.size
 go_enter Tryz.func155,Tryz.ntmps155
 go_wp2_with fail
 with_reducible refine (appendNumber8 x w.heap.size _ [] _ (by simp) (Nat.le_refl _) hnil).mono ?_
 rintro e w1 ⟨v1,rfl,hb1⟩
 have hbel:=buf_below hnil (Nat.le_refl _) hb1
 have hown:=hb1.own
 rw [List.nil_append] at hown
 have hconv:(convert 189 9 v1).run Tryz.prog w1=.ok (.string (str (be 8 x.toNat))) w1:=
  conv_bytes 189 9 Tryz.underlying189 Tryz.underlying5 Tryz.underlying9 hown (fun h=>by have:=be_length 8 x.toNat;rw [h] at this;simp at this)
 clear hown hb1
 go_wp2_with fail
 go_ret
 exact ⟨rfl,hbel⟩
theorem encodeID_is (x:UInt64) (E:ByteArray) (w:World) (h:str (be 8 x.toNat)=E):Calls Tryz.prog 155 #[.int .u64 x.toNat] w fun e w'=>e=.returned (.string E)∧Below w.heap.size w w':=h▸encodeID_any x w
theorem decodeID_still (s:ByteArray) (x:UInt64) (w:World) (hs:s.size≤maxLen) (h:numU s.data.toList=x) :
  Calls Tryz.prog 157 #[.string s] w fun e w'=>e=.returned (.int .u64 x.toNat)∧w'=w:=by
 go_enter Tryz.func157,Tryz.ntmps157
 go_wp2_with fail
 with_reducible refine (number_still s x _ hs h).mono ?_
 rintro e w' ⟨rfl,rfl⟩
 go_wp2_with fail
 go_ret
 exact ⟨rfl,rfl⟩
end Go.Proofs.YtlboemhbealnmaaGreat
