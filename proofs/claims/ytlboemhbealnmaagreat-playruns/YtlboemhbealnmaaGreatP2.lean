import Derived.Test.YtlboemhbealnmaaGreatP1
import Derived.Lib.SliceRun
import Derived.Deep.AppendLies
import Derived.Laws.OwnMore
import Derived.ProofKit
import Derived.OpenShut
import Derived.ShutString
import Derived.ChangeOld
import Derived.Below
import Derived.Carry
import Derived.SizedLaws
import Derived.Deep.RegionHeld3
import Derived.RegionTactic
import Derived.BigRegion
import Derived.Deep.RegionWith
import Derived.Laws.Bits64b
import Derived.Lib.AppendStr
set_option maxRecDepth 20000
namespace Go.Proofs.YtlboemhbealnmaaGreat
open Go.RowKit
theorem setCells_row (g:Nat) (e:TypeId):∀ (vs:List Value) (o:Nat) (w:World) (cur:Array Value),w.heap[g]?=some (.cells cur e (0,0)) →
  ∃ cur',(w.setCells g o vs).heap[g]?=some (.cells cur' e (0,0))∧cur'.size=cur.size∧cur'.toList.take o=cur.toList.take o
 | [],o,w,cur,h=>⟨cur,h,rfl,rfl⟩
 | v :: r,o,w,cur,h=>by
  obtain ⟨cur',h1,h2,h3⟩:=setCells_row g e r (o+1) (w.setCell ⟨g,o,none⟩ v) (cur.setIfInBounds o v) (heap_setCell_same w g o cur e v h)
  refine ⟨cur',h1,by simpa using h2,?_⟩
  have h4:=congrArg (List.take o) h3
  rw [List.take_take,List.take_take,Nat.min_eq_left (by omega),Array.toList_setIfInBounds,List.take_set_of_le (Nat.le_refl o)] at h4
  exact h4
theorem setCells_turn (g:Nat) {F:Nat→Prop} (hg:F g):∀ (vs:List Value) (o:Nat) (w:World),Turn F F w (w.setCells g o vs)
 | [],_,_=>Turn.refl _ _
 | v :: r,o,w=>(Turn.set w ⟨g,o,none⟩ v hg).trans (setCells_turn g hg r (o+1) (w.setCell ⟨g,o,none⟩ v))
theorem row_cell {w:World} {e:TypeId} {size:Nat} {g cap n:Nat} {xs:List Value} (h:w.ownsRow 0 e size (.slice (some ⟨g,0,none⟩) n cap) n xs) (j:Nat) (hj:j < n * size):(w.cell? ⟨g,j,none⟩).isSome=true:=by
 rw [h.cellAt j hj,List.getElem?_eq_getElem (by rw [h.1];exact hj)]
 rfl
theorem row_cut {w:World} {e:TypeId} {size:Nat} {g cap n:Nat} {xs:List Value} (h:w.ownsRow 0 e size (.slice (some ⟨g,0,none⟩) n cap) n xs) (i:Nat) (hi:i≤n):w.ownsRow 0 e size (.slice (some ⟨g,0,none⟩) i cap) i (xs.take (i * size)):=by
 have hle:i * size≤n * size:=Nat.mul_le_mul_right _ hi
 rcases h.2 with ⟨h',_⟩ | ⟨g',cap',cur,h',hb,hg,hnc,hcm,hcs,htake⟩
 ·simp at h'
 ·simp only [Value.slice.injEq,Option.some.injEq,Addr.mk.injEq,and_true,true_and] at h'
  obtain ⟨rfl,rfl⟩:=h'
  refine ⟨by rw [List.length_take,h.1];omega,.inr ⟨g,cap,cur,rfl,hb,hg,by omega,hcm,hcs,?_⟩⟩
  rw [← htake,List.take_take,Nat.min_eq_left hle]
theorem clear_row {t e:TypeId} {size:Nat} (z:Value) (ht:Tryz.prog.underlying t=some (.slice e)) (hv:∀ w,(zeroValue e).run Tryz.prog w=.ok z w) (hzs:z.cells.size=size) (hsz:0 < size) (h1:∀ v ∈ z.cells.toList,v.oneCell'=true) {w:World} {g cap i n:Nat} {xs:List Value} (hi:i < n)
  (ho:w.ownsRow 0 e size (.slice (some ⟨g,0,none⟩) n cap) n xs):∃ w',(∀ ty,(Builtin.clear_ #[t] ty #[.slice (some ⟨g,i * size,none⟩) (n - i) (cap - i)]).run Tryz.prog w=.ok (.tuple #[]) w') ∧
   w'.ownsRow 0 e size (.slice (some ⟨g,0,none⟩) i cap) i (xs.take (i * size))∧Turn (fun k=>k=g) (fun k=>k=g) w w':=by
 have hzl:(Builtin.zeroCells z.cells (n - i)).toList.length=(n - i) * size:=by simp [Builtin.zeroCells,hzs]
 have hz1:∀ v ∈ (Builtin.zeroCells z.cells (n - i)).toList,v.oneCell'=true:=by
  intro v hv
  simp only [Builtin.zeroCells,Array.toList_map,List.mem_map] at hv
  obtain ⟨j,_,rfl⟩:=hv
  have hj:j % z.cells.size < z.cells.size:=Nat.mod_lt _ (by omega)
  rw [getElem!_pos z.cells _ hj]
  exact h1 _ (by simp)
 have hmul:i * size+(n - i) * size=n * size:=by rw [← Nat.add_mul,Nat.add_sub_cancel' (Nat.le_of_lt hi)]
 have hst:=run_storeCells_cells (P:=Tryz.prog) g (i * size) (Builtin.zeroCells z.cells (n - i)).toList 0 w (fun j hj=>row_cell ho _ (by omega)) (fun j hj=>ho.frozenAt _) hz1
 simp only [Nat.add_zero] at hst
 refine ⟨w.setCells g (i * size) (Builtin.zeroCells z.cells (n - i)).toList,fun ty=>?_,?_,setCells_turn g (F:=fun k=>k=g) rfl _ _ _⟩
 ·obtain ⟨m,hm⟩:∃ m,n - i=m+1:=⟨n - i - 1,by omega⟩
  rw [hm] at hst ⊢
  simp [Builtin.clear_,run_underlying ht,hv,hst]
 ·have hc:=row_cut ho i (by omega)
  rcases hc.2 with ⟨h',_⟩ | ⟨g',cap',cur,h',hb,hg,hnc,hcm,hcs,htake⟩
  ·simp at h'
  ·simp only [Value.slice.injEq,Option.some.injEq,Addr.mk.injEq,and_true,true_and] at h'
   obtain ⟨rfl,rfl⟩:=h'
   obtain ⟨cur',q1,q2,q3⟩:=setCells_row g e (Builtin.zeroCells z.cells (n - i)).toList (i * size) w cur hg
   exact ⟨hc.1,.inr ⟨g,cap,cur',rfl,hb,q1,hnc,hcm,by rw [q2];exact hcs,by rw [q3];exact htake⟩⟩
theorem drop_at {α:Type} {m l:List α} {j:Nat} (h:m.drop j=l.drop j) (hm:j < m.length) (hl:j < l.length):m[j]=l[j]∧m.drop (j+1)=l.drop (j+1):=by
 rw [List.drop_eq_getElem_cons hm,List.drop_eq_getElem_cons hl] at h
 exact List.cons.inj h
theorem take_filter_out {α:Type} {q:α→Bool} {m l:List α} {i j:Nat} (hl:j < l.length) (h:m.take i=(l.take j).filter q) (hq:q l[j]=false):m.take i=(l.take (j+1)).filter q:=by
 rw [List.take_succ_eq_append_getElem hl,List.filter_append,List.filter_cons_of_neg (by rw [hq];simp),List.filter_nil,List.append_nil]
 exact h
theorem take_filter_in {α:Type} {q:α→Bool} {m l:List α} {i j:Nat} (hi:i < m.length) (hl:j < l.length) (h:m.take i=(l.take j).filter q) (hq:q l[j]=true):(m.set i l[j]).take (i+1)=(l.take (j+1)).filter q:=by
 rw [List.take_succ_eq_append_getElem hl,List.filter_append,List.filter_cons_of_pos hq,List.filter_nil,List.take_succ_eq_append_getElem (by simpa using hi),List.take_set_of_le (Nat.le_refl i),h]
 simp
theorem drop_set {α:Type} {m:List α} {i j:Nat} (x:α) (h:i < j):(m.set i x).drop j=m.drop j:=by rw [List.drop_set_of_lt h]
theorem take_filter_start {α:Type} {q:α→Bool} {l:List α} {i:Nat} (h:l.findIdx? q=some i):l.take i=(l.take (i+1)).filter (fun e=>!q e):=by
 obtain ⟨hi,h1,h2⟩:=List.findIdx?_eq_some_iff_getElem.1 h
 refine take_filter_out hi ?_ (by rw [h1];rfl)
 rw [List.filter_eq_self.2]
 intro x hx
 obtain ⟨j,hj,rfl⟩:=List.mem_take_iff_getElem.1 hx
 have:=h2 j (by omega)
 simpa using this
theorem filter_none {α:Type} {q:α→Bool} {l:List α} (h:l.findIdx? q=none):l.filter (fun e=>!q e)=l:=by
 rw [List.filter_eq_self]
 intro x hx
 rw [List.findIdx?_eq_none_iff.1 h x hx]
 rfl
end Go.Proofs.YtlboemhbealnmaaGreat
namespace Go.Proofs.YtlboemhbealnmaaGreat
open Go.RowKit
def IdsAt (w:World) (a:Option Addr) (l:List UInt64):Prop:=
 ∀ i (h:i < l.length),∃ b o,a=some ⟨b,o,none⟩∧b < w.heap.size∧w.cell? ⟨b,o+i,none⟩=some (.int .u64 l[i].toNat)
theorem idsAt_kept {a b:World} {x:Option Addr} {l:List UInt64} (h:Below a.heap.size a b) (hi:IdsAt a x l):IdsAt b x l:=fun i hl=>by
 obtain ⟨bb,o,e,hb,c0⟩:=hi i hl
 exact ⟨bb,o,e,Nat.lt_of_lt_of_le hb h.size,kept_cell h c0⟩
theorem idsAt_nil (w:World) (a:Option Addr):IdsAt w a []:=fun i hi=>absurd hi (by simp)
theorem idsAt_take {w:World} {a:Option Addr} {l:List UInt64} (k:Nat) (h:IdsAt w a l):IdsAt w a (l.take k):=fun i hi=>by
 have h1:i < l.length:=by rw [List.length_take] at hi;omega
 rw [List.getElem_take]
 exact h i h1
theorem idsAt_set {w:World} {a:Option Addr} {l:List UInt64} {n:Nat} {p:Addr} (h:IdsAt w a l) (hf:Fresh n a) (hp:p.block < n) (v:Value):IdsAt (w.setCell p v) a l:=fun i hi=>by
 obtain ⟨b,o,e,hb,c0⟩:=h i hi
 have hn:b≠p.block:=by have:=hf b o none e;omega
 have hs:∀ oo,(w.setCell p v).cell? ⟨b,oo,none⟩=w.cell? ⟨b,oo,none⟩:=fun oo=>World.cell?_of_block (w:=w) (a:=⟨b,oo,none⟩) (Below.heap_setCell w p v b hn)
 exact ⟨b,o,e,by simpa using hb,by rw [hs];exact c0⟩
theorem contains_id {l:List UInt64} {x:UInt64} {k:Nat} (h:k < l.length) (e:x=l[k]):l.contains x=true:=by
 rw [List.contains_iff_mem];rw [e];exact List.getElem_mem h
theorem take_contains_id {l:List UInt64} {x:UInt64} {k:Nat} (h:k < l.length) (n:(l.take k).contains x=false) (e:x≠l[k]):(l.take (k+1)).contains x=false:=by
 rw [List.take_succ_eq_append_getElem h,← Bool.not_eq_true,List.contains_iff_mem,List.mem_append,not_or]
 refine ⟨by rw [← List.contains_iff_mem,n];simp,by simpa using e⟩
theorem hasID_any (l:List UInt64) (x:UInt64) (r:Bool) (HR:Hid (l.contains x=r)) (a:Option Addr) (cap:Nat) (w:World) (hl:l.length≤maxLen) (hi:IdsAt w a l) :
  Calls Tryz.prog 116 #[.slice a l.length cap,.int .u64 x.toNat] w fun e w'=>e=.returned (.bool r)∧w=w':=by
 unfold maxLen at hl
 go_enter Tryz.func116,Tryz.ntmps116
 go_wp2
 go_loop [9] (fun i=>∃ k:Nat,k≤l.length∧i=.int .i64 k∧Hid ((l.take k).contains x=false)) (fun i=>l.length - (intOf i).toNat)
 case atStart=>exact ⟨0,Nat.zero_le _,rfl,Lib.hid rfl⟩
 case round=>
  obtain ⟨k,hk,rfl,NO⟩:=hrel
  by_cases hlt:k < l.length
  ·obtain ⟨b,o,rfl,hb,hd⟩:=hi k hlt
   by_cases hx:x=l[k]
   ·have hxb:((x.toNat:Int) == (l[k].toNat:Int))=true:=by rw [u64_beq];exact beq_iff_eq.2 hx
    have HX:=Lib.hid hx
    clear hx
    go_wp2
    go_ret
    exact ⟨ret_bool ((contains_id hlt HX.out).symm.trans HR.out),rfl⟩
   ·have hxb:((x.toNat:Int) == (l[k].toNat:Int))=false:=by rw [u64_beq];exact beq_eq_false_iff_ne.2 hx
    have HX:=Lib.hid hx
    clear hx
    go_wp2
    go_round
    case rel=>exact ⟨k+1,by omega,by go_num,Lib.hid (take_contains_id hlt NO.out HX.out)⟩
    case measure=>simp [intOf];omega
  ·go_wp2
   go_ret
   refine ⟨ret_bool ?_,rfl⟩
   have:=NO.out
   rw [List.take_of_length_le (by omega)] at this
   exact this.symm.trans HR.out
theorem hasID_take (l:List UInt64) (k:Nat) (r:Bool) (x:UInt64) (a:Option Addr) (cap:Nat) (w:World) (hk:k≤l.length) (hl:l.length≤maxLen) (hi:IdsAt w a l) (h:(l.take k).contains x=r) :
  Calls Tryz.prog 116 #[.slice a k cap,.int .u64 x.toNat] w fun e w'=>e=.returned (.bool r)∧w=w':=by
 have:=hasID_any (l.take k) x r (Lib.hid h) a cap w (by rw [List.length_take];omega) (idsAt_take k hi)
 rw [List.length_take,Nat.min_eq_left hk] at this
 exact this
end Go.Proofs.YtlboemhbealnmaaGreat
namespace Go.Proofs.YtlboemhbealnmaaGreat
open Go.RowKit
def idV (x:UInt64):Value:=.int .u64 x.toNat
theorem owns_idsAt {w:World} {B:Nat} {v:Value} {l:List UInt64} (h:w.ownsRow B 22 1 v l.length (l.map idV)):∃ a cap,v=.slice a l.length cap∧l.length≤cap∧IdsAt w a l∧Fresh B a:=by
 rcases h.2 with ⟨hv,hn⟩ | ⟨g,cap,cur,hv,hB,hg,hc,_,_,_⟩
 ·refine ⟨none,0,by rw [hn];exact hv,by omega,fun i hi=>absurd hi (by omega),fun _ _ _ e=>by cases e⟩
 ·refine ⟨some ⟨g,0,none⟩,cap,hv,hc,fun i hi=>?_,fun b o sp e=>by cases e;exact hB⟩
  have a0:=h.cells (g:=g) (by rw [hv];rfl) i (idV l[i]) (by rw [List.getElem?_map,List.getElem?_eq_getElem hi];rfl)
  have f0:(⟨g,0,none⟩:Addr).add i=⟨g,0+i,none⟩:=by unfold Addr.add;split <;> simp_all
  rw [f0] at a0
  exact ⟨g,0,rfl,(Array.getElem?_eq_some_iff.1 hg).1,a0⟩
abbrev OwnIds (w:World) (B:Nat) (v:Value) (d:List UInt64):Prop:=w.ownsRow B 22 1 v d.length (d.map idV)
theorem ownIds_nil (w:World) (B:Nat):OwnIds w B (.slice none 0 0) []:=World.ownsRow_nil w B _ 1
theorem ownIds_below {w w':World} {B:Nat} {v:Value} {d:List UInt64} (h:OwnIds w B v d) (hb:Below w.heap.size w w'):OwnIds w' B v d:=owns_below h hb
theorem ownIds_block {w:World} {B:Nat} {v:Value} {d:List UInt64} (h:OwnIds w B v d):∀ k,v.ownBlock=some k→B≤k∧k < w.heap.size:=fun k hk=>h.lt k hk
theorem info_u64:(Tryz.prog.info? 22).map (fun i=>(i.zero,i.size,i.bytes))=some (some (.int .u64 0),1,8):=by kernel_rfl
theorem append_id {ops:Array Oper} {rest:List Oper} {o:Oper} {a:Act} {Q:Exit→Act→World→Prop} {w:World} (hgd:o.guard=none) (s x:Operand) (ho:o.op=.call { callee:=.builtin .append,args:=#[s,x],argTypes:=#[39,39] })
  {B:Nat} {v:Value} {d:List UInt64} (y:UInt64) (hs:a.eval s=v) (hx:a.eval x=.slice (some ⟨w.heap.size,0,none⟩) 1 1) (hown:OwnIds w B v d) (hlen:d.length≤1000000) (hB:B≤w.heap.size)
  (h:∀ g cap w',OwnIds w' B (.slice (some ⟨g,0,none⟩) (d.length+1) cap) (d ++ [y])→(w.alloc (.cells #[.int .u64 y.toNat] 22)).grownBy w' v.ownBlock→w.grownBy w' v.ownBlock→wpList Tryz.prog ops Q rest (a.put o.dst (.slice (some ⟨g,0,none⟩) (d.length+1) cap)) w') :
  wpList Tryz.prog ops Q (o :: rest) a (w.alloc (.cells #[.int .u64 y.toNat] 22)):=by
 obtain ⟨i0,hi0,hz0,hz1,hz2⟩:=info_parts info_u64
 refine wpList_append_lies _ hgd s x 39 ho B 22 i0 (.int .u64 0) 1 8 Tryz.underlying39 hi0 hz0 hz1 hz2 rfl (by decide) v d.length (d.map idV) hs (hown.alloc _) ⟨w.heap.size,0,none⟩ 1 1 [.int .u64 y.toNat] hx rfl (cells_new w _ _) (by simp [Value.oneCell']) (by decide) (by unfold maxLen;omega) (by omega) (by simp;omega) _ rfl ?_
 intro g cap w1 hown' hgrow _ _
 refine h g cap w1 ?_ hgrow ((World.grownBy_alloc w _ _).trans hgrow)
 unfold OwnIds
 rw [List.length_append,List.map_append]
 exact hown'
end Go.Proofs.YtlboemhbealnmaaGreat
namespace Go.Proofs.YtlboemhbealnmaaGreat
open Go.ChangeShapes Go.WideShapes Go.ChangeAt Go.RowKit
theorem wf_u64 {x:Int} (h:(Lit.int .u64 x).wf=true):∃ u:UInt64,x=(u.toNat:Int):=by
 have b:=bounds_u64 h
 refine ⟨UInt64.ofNat x.toNat,?_⟩
 rw [UInt64.toNat_ofNat_of_lt' (by show x.toNat < 18446744073709551616;omega)]
 omega
end Go.Proofs.YtlboemhbealnmaaGreat
namespace Go.Proofs.YtlboemhbealnmaaGreat
open Go.RowKit
structure Loc where
 b:Nat
 oc:Nat→Value
end Go.Proofs.YtlboemhbealnmaaGreat
namespace Go.Proofs.YtlboemhbealnmaaGreat
open Go.RowKit
def firstAt {α:Type} (q:α→Bool) (l:List α):Int:=match l.findIdx? q with | some k=>(k:Int) | none=>-1
theorem firstAt_hit {α:Type} {q:α→Bool} {l:List α} {k:Nat} (h:k < l.length) (n:(l.take k).findIdx? q=none) (e:q l[k]=true):firstAt q l=(k:Int):=by
 unfold firstAt
 have:l.findIdx? q=some k:=by
  rw [List.findIdx?_eq_some_iff_getElem]
  refine ⟨h,e,fun j hj=>?_⟩
  have h2:=List.findIdx?_eq_none_iff.1 n l[j] (List.mem_take_iff_getElem.2 ⟨j,by omega,rfl⟩)
  simpa using h2
 rw [this]
theorem firstAt_miss {α:Type} {q:α→Bool} {l:List α} {k:Nat} (h:k < l.length) (n:(l.take k).findIdx? q=none) (e:q l[k]=false):(l.take (k+1)).findIdx? q=none:=by
 rw [List.findIdx?_eq_none_iff] at n ⊢
 rw [List.take_succ_eq_append_getElem h]
 intro x hx
 rcases List.mem_append.1 hx with hx | hx
 ·exact n x hx
 ·rw [List.mem_singleton.1 hx];exact e
def CellIs (c:Nat) (v:Value) (w:World):Prop:=w.cell? ⟨c,0,none⟩=some v
theorem cellIs_kept (c:Nat) (v:Value) (a b:World) (h:CellIs c v a) (hb:Below a.heap.size a b):CellIs c v b:=kept_cell hb h
theorem cellIs_set {c g:Nat} (v:Value) (hc:c≠g) (a:World) (j:Nat) (u:Value) (h:CellIs c v a):CellIs c v (a.setCell ⟨g,j,none⟩ u):=(World.cell?_of_block (a:=⟨c,0,none⟩) (Below.heap_setCell a ⟨g,j,none⟩ u c hc)).trans h
theorem cellIs_new (w:World) (v:Value) (t:TypeId):CellIs w.heap.size v (w.alloc (.cells #[v] t)):=by simp [CellIs,go_sem]
theorem beq_nat (a b:Nat):((a:Int) == (b:Int))=(a == b):=by
 rw [Bool.eq_iff_iff,beq_iff_eq,beq_iff_eq]
 omega
theorem firstAt_neg {α:Type} (q:α→Bool) (l:List α):decide (firstAt q l ≥ 0)=l.any q:=by
 unfold firstAt
 cases h:l.findIdx? q with
 | none=>
  have:=List.findIdx?_eq_none_iff.1 h
  rw [show l.any q=false by rw [List.any_eq_false];intro x hx;rw [this x hx];simp]
  simp
 | some k=>
  obtain ⟨hk,h1,_⟩:=List.findIdx?_eq_some_iff_getElem.1 h
  rw [show l.any q=true from List.any_eq_true.2 ⟨_,List.getElem_mem hk,h1⟩]
  simp
end Go.Proofs.YtlboemhbealnmaaGreat
namespace Go.Proofs.YtlboemhbealnmaaGreat
open Go.RowKit
def inV (x:InD):Value:=.agg #[.int .u64 x.1.toNat,.int .i64 x.2]
def InsAt (w:World) (a:Option Addr) (l:List InD):Prop:=
 ∀ i (h:i < l.length),∃ b o,a=some ⟨b,o,none⟩∧b < w.heap.size∧w.cell? ⟨b,o+i * 2,none⟩=some (.int .u64 l[i].1.toNat)∧w.cell? ⟨b,o+i * 2+1,none⟩=some (.int .i64 l[i].2)∧(Lit.int .i64 l[i].2).wf=true
theorem insAt_kept {a b:World} {x:Option Addr} {l:List InD} (h:Below a.heap.size a b) (hi:InsAt a x l):InsAt b x l:=fun i hl=>by
 obtain ⟨bb,o,e,hb,c0,c1,c2⟩:=hi i hl
 exact ⟨bb,o,e,Nat.lt_of_lt_of_le hb h.size,kept_cell h c0,kept_cell h c1,c2⟩
theorem in_eq {x y:InD} (h:(x.1.toNat:Int)=y.1.toNat) (h2:x.2=y.2):x=y:=Prod.ext (UInt64.toNat_inj.1 (by omega)) h2
theorem run_eq_in (x y:InD) (w:World):(binOp .eql 180 (.agg #[.int .u64 x.1.toNat,.int .i64 x.2]) (.agg #[.int .u64 y.1.toNat,.int .i64 y.2])).run Tryz.prog w=.ok (.bool (x == y)) w:=by
 by_cases h1:(x.1.toNat:Int)=y.1.toNat
 ·by_cases h2:x.2=y.2
  ·have e:=in_eq h1 h2
   subst e
   simp [go_sem]
  ·have e:(x == y)=false:=beq_eq_false_iff_ne.2 fun e=>h2 (by rw [e])
   rw [e]
   simp [go_sem,h1,h2]
 ·have e:(x == y)=false:=beq_eq_false_iff_ne.2 fun e=>h1 (by rw [e])
  rw [e]
  simp [go_sem,h1]
theorem contains_at {l:List InD} {x:InD} {k:Nat} (h:k < l.length) (e:x=l[k]):l.contains x=true:=by
 rw [List.contains_iff_mem];rw [e];exact List.getElem_mem h
theorem take_contains {l:List InD} {x:InD} {k:Nat} (h:k < l.length) (n:(l.take k).contains x=false) (e:x≠l[k]):(l.take (k+1)).contains x=false:=by
 rw [List.take_succ_eq_append_getElem h,← Bool.not_eq_true,List.contains_iff_mem,List.mem_append,not_or]
 refine ⟨by rw [← List.contains_iff_mem,n];simp,by simpa using e⟩
theorem has_any (l:List InD) (x:InD) (a:Option Addr) (cap:Nat) (w:World) (hl:l.length≤maxLen) (hi:InsAt w a l) :
  Calls Tryz.prog 173 #[.slice a l.length cap,inV x] w fun e w'=>e=.returned (.bool (l.contains x))∧Below w.heap.size w w':=by
 unfold maxLen at hl
 unfold inV
 have hi0:=insAt_kept (kept_new w (.cells #[.int .u64 x.1.toNat,.int .i64 x.2] 180)) hi
 go_enter Tryz.func173,Tryz.ntmps173
 go_wp2
 go_loopw [9] (fun i wr=>∃ k:Nat,k≤l.length∧i=.int .i64 k∧Hid ((l.take k).contains x=false)∧Below (w.alloc (.cells #[.int .u64 x.1.toNat,.int .i64 x.2] 180)).heap.size (w.alloc (.cells #[.int .u64 x.1.toNat,.int .i64 x.2] 180)) wr) (fun i _=>l.length - (intOf i).toNat)
 case atStart=>
  exact ⟨0,Nat.zero_le _,rfl,Lib.hid rfl,Below.refl _ _⟩
 case round=>
  obtain ⟨k,hk,rfl,NO,hbel⟩:=hrel
  obtain ⟨hx0,hx1,hws⟩:=box_pair hbel
  have hkw:=kept_trans (kept_new _ _) hbel
  by_cases hlt:k < l.length
  ·obtain ⟨b,o,rfl,hb,hd0,hd1,_⟩:=insAt_kept hbel hi0 k hlt
   have hq:=fun wx=>run_eq_in x l[k] wx
   by_cases hx:x=l[k]
   ·have hxb:(x == l[k])=true:=beq_iff_eq.2 hx
    have HX:=Lib.hid hx
    clear hx
    go_wp2
    go_ret
    exact ⟨ret_bool (contains_at hlt HX.out).symm,kept_alloc hkw _⟩
   ·have hxb:(x == l[k])=false:=beq_eq_false_iff_ne.2 hx
    go_wp2
    go_roundw
    case rel=>exact ⟨k+1,by omega,by go_num,Lib.hid (take_contains hlt NO.out hx),kept_alloc hbel _⟩
    case measure=>simp [intOf];omega
  ·go_wp2
   go_ret
   refine ⟨ret_bool ?_,hkw⟩
   have:=NO.out
   rw [List.take_of_length_le (by omega)] at this
   exact this.symm
def inKey (x:InD):Lit:=.string (keyBytes [.int .u64 x.1.toNat,.int .i64 x.2])
def inOk (x:InD):Prop:=(Lit.int .i64 x.2).wf=true
theorem in_keyed:Maps.Keyed Tryz.prog 180:=Maps.Keyed.of_law (deep_law_laid laid (m:=2) (by omega) (of_decide_eq_true (by kernel_rfl)) (by kernel_rfl) (by kernel_rfl))
theorem in_key (x:InD) (h:inOk x):keyOf Tryz.prog 180 (.agg #[.int .u64 x.1.toNat,.int .i64 x.2])=some (inKey x):=
 keyOf_struct2 Tryz.underlying180 (by kernel_rfl) (by kernel_rfl) (by kernel_rfl) rfl rfl Tryz.underlying22 Tryz.underlying3 (by kernel_rfl) (by kernel_rfl) (m:=Tryz.prog.types.size - 1) (by kernel_rfl) (wf_u64_of _) h
theorem inKey_inj {x y:InD} (hx:inOk x) (hy:inOk y) (h:inKey x=inKey y):x=y:=by
 have e:=in_keyed.inj (in_key x hx) (h▸in_key y hy)
 simp only [Value.agg.injEq,Array.mk.injEq,List.cons.injEq,Value.int.injEq,true_and,and_true] at e
 exact in_eq e.1 e.2
end Go.Proofs.YtlboemhbealnmaaGreat
namespace Go.Proofs.YtlboemhbealnmaaGreat
def numN (l:List UInt8):Nat:=l.foldl (fun n c=>n * 256+c.toNat) 0
def numU (l:List UInt8):UInt64:=l.foldl (fun x c=>256 * x+c.toUInt64) 0
theorem numN_snoc (l:List UInt8) (c:UInt8):numN (l ++ [c])=numN l * 256+c.toNat:=by simp [numN]
theorem numU_snoc (l:List UInt8) (c:UInt8):numU (l ++ [c])=256 * numU l+c.toUInt64:=by simp [numU]
theorem snocInduction {α:Type} {p:List α→Prop} (h0:p []) (h1:∀ l a,p l→p (l ++ [a])):∀ l,p l:=by
 intro l
 have h:∀ n (l:List α),l.length=n→p l:=by
  intro n
  induction n with
  | zero=>intro l hl;rw [List.eq_nil_of_length_eq_zero hl];exact h0
  | succ n ih=>
   intro l hl
   have hne:l≠[]:=fun e=>by rw [e] at hl;cases hl
   rw [← List.dropLast_concat_getLast hne]
   exact h1 _ _ (ih _ (by simp [hl]))
 exact h _ l rfl
theorem numN_lt:∀ l:List UInt8,numN l < 256 ^ l.length:=by
 refine snocInduction (by decide) fun l c ih=>?_
 have:=c.toNat_lt
 rw [numN_snoc,List.length_append,List.length_singleton,Nat.pow_succ]
 omega
theorem numU_toNat:∀ l:List UInt8,(numU l).toNat=numN l % 18446744073709551616:=by
 refine snocInduction (by decide) fun l c ih=>?_
 have:=c.toNat_lt
 rw [numU_snoc,numN_snoc,UInt64.toNat_add,UInt64.toNat_mul,ih]
 simp
 omega
theorem numU_short (l:List UInt8) (h:l.length≤8):(numU l).toNat=numN l:=by
 rw [numU_toNat,Nat.mod_eq_of_lt]
 have h1:=numN_lt l
 have h2:256 ^ l.length≤256 ^ 8:=Nat.pow_le_pow_right (by decide) h
 have h3:256 ^ 8=18446744073709551616:=by decide
 omega
def formD (l:List UInt8):Int:=
 if l.length=0 then 3 else if l.getD 0 0≠68 then 4 else if l.length < 2 then 3 else if l.length < 7+9 * (l.getD 1 0).toNat then 3 else if 7+9 * (l.getD 1 0).toNat < l.length then 4 else 0
def inOf (r:List UInt8):InD:=(numU (r.take 8),((r.getD 8 0).toNat:Int))
def insOf (n:Nat) (r:List UInt8):List InD:=(List.range n).map fun i=>inOf (r.drop (9 * i))
def readD (l:List UInt8):DeedD:=
 let n:=(l.getD 1 0).toNat
 let r:=l.drop (2+9 * n)
 ⟨insOf n (l.drop 2),((r.getD 0 0).toNat:Int),((numU ((r.drop 1).take 2)).toNat:Int),((numU ((r.drop 3).take 2)).toNat:Int)⟩
def errD (l:List UInt8):Int:=if formD l≠0 then formD l else checkD (readD l)
theorem insOf_length (n:Nat) (r:List UInt8):(insOf n r).length=n:=by simp [insOf]
theorem insOf_at (n:Nat) (r:List UInt8) (k:Nat) (h:k < (insOf n r).length):(insOf n r)[k]=inOf (r.drop (9 * k)):=by simp [insOf]
theorem form_zero {l:List UInt8} (h:formD l=0):l.getD 0 0=68∧l.length=7+9 * (l.getD 1 0).toNat:=by
 unfold formD at h
 split at h
 ·cases h
 ·split at h
  ·cases h
  ·split at h
   ·cases h
   ·split at h
    ·cases h
    ·split at h
     ·cases h
     ·rename_i h2 _ _ _
      exact ⟨by simpa using h2,by omega⟩
end Go.Proofs.YtlboemhbealnmaaGreat
namespace Go.Proofs.YtlboemhbealnmaaGreat
open Go.RowKit
end Go.Proofs.YtlboemhbealnmaaGreat
namespace Go.Proofs.YtlboemhbealnmaaGreat
open Go.RowKit
theorem outside_yes (n lo hi:Int) (w:World) (h:within n lo hi=false):Calls Tryz.prog 76 #[.int .i64 n,.int .i64 lo,.int .i64 hi] w fun e w'=>e=.returned (.bool true)∧w=w':=by
 unfold within at h
 have h:=of_decide_eq_false h
 by_cases h1:n < lo
 ·clear h
  go_enter Tryz.func76,Tryz.ntmps76
  go_wp2
  go_ret
  exact ⟨rfl,rfl⟩
 ·have h2:hi < n:=by omega
  clear h
  go_enter Tryz.func76,Tryz.ntmps76
  go_wp2
  go_ret
  exact ⟨rfl,rfl⟩
theorem outside_no (n lo hi:Int) (w:World) (h:within n lo hi=true):Calls Tryz.prog 76 #[.int .i64 n,.int .i64 lo,.int .i64 hi] w fun e w'=>e=.returned (.bool false)∧w=w':=by
 unfold within at h
 have h:=of_decide_eq_true h
 have h1:¬ n < lo:=by omega
 have h2:¬ hi < n:=by omega
 clear h
 go_enter Tryz.func76,Tryz.ntmps76
 go_wp2
 go_ret
 exact ⟨rfl,rfl⟩
end Go.Proofs.YtlboemhbealnmaaGreat
