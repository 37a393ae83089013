import Derived.Test.YtlboemhbealnmaaGreatK1
import Derived.Test.YtlboemhbealnmaaGreatK2
import Derived.Maps.OwnOps
import Derived.Maps.OwnSet
import Derived.Maps.RangeWalk
set_option maxRecDepth 20000
namespace Go.Proofs.YtlboemhbealnmaaGreat.Tr
open Go.RowKit
structure TEnt where
 peer:Nat
 id:UInt64
 pref:Bool
 st:Nat
 till:Int
deriving DecidableEq
instance : Inhabited TEnt:=⟨⟨0,0,false,0,0⟩⟩
def entV (e:TEnt):Value:=.agg #[.int .i64 e.peer,.int .u64 e.id.toNat,.bool e.pref,.int .i64 e.st,.int .i64 e.till]
def entC (e:TEnt):List Value:=[.int .i64 e.peer,.int .u64 e.id.toNat,.bool e.pref,.int .i64 e.st,.int .i64 e.till]
def EntAt (w:World) (b o:Nat) (e:TEnt):Prop:=
 w.cell? ⟨b,o,none⟩=some (.int .i64 e.peer)∧w.cell? ⟨b,o+1,none⟩=some (.int .u64 e.id.toNat)∧w.cell? ⟨b,o+2,none⟩=some (.bool e.pref)∧w.cell? ⟨b,o+3,none⟩=some (.int .i64 e.st)∧w.cell? ⟨b,o+4,none⟩=some (.int .i64 e.till)
def EntsAt (w:World) (a:Option Addr) (l:List TEnt):Prop:=∀ i (h:i < l.length),∃ b o,a=some ⟨b,o,none⟩∧b < w.heap.size∧EntAt w b (o+i * 5) l[i]
theorem entAt_kept {w w':World} {b o:Nat} {e:TEnt} (hb:Below w.heap.size w w') (h:EntAt w b o e):EntAt w' b o e:=by
 obtain ⟨c0,c1,c2,c3,c4⟩:=h
 exact ⟨kept_cell hb c0,kept_cell hb c1,kept_cell hb c2,kept_cell hb c3,kept_cell hb c4⟩
theorem entsAt_kept {w w':World} {a:Option Addr} {l:List TEnt} (hb:Below w.heap.size w w') (h:EntsAt w a l):EntsAt w' a l:=fun i hi=>by
 obtain ⟨b,o,e,hlt,c⟩:=h i hi
 exact ⟨b,o,e,Nat.lt_of_lt_of_le hlt hb.size,entAt_kept hb c⟩
theorem entsAt_nil (w:World) (a:Option Addr):EntsAt w a []:=fun i hi=>absurd hi (by simp)
def Picks (K:World→Prop) (f:FuncId) (cap:Array Value) (q:TEnt→Bool):Prop:=
 (∀ (args:Array Value) (w:World),(callFunc f args).run Tryz.prog w=.ok (.enter f args) w) ∧
 ∀ (e:TEnt) (w:World),K w→Calls Tryz.prog f (#[entV e] ++ cap) w fun x w'=>x=.returned (.bool (q e))∧Below w.heap.size w w'
def firstAt {α:Type} (q:α→Bool) (l:List α):Int:=match l.findIdx? q with | some k=>(k:Int) | none=>-1
theorem firstAt_hit {α:Type} {q:α→Bool} {l:List α} {k:Nat} (h:k < l.length) (n:(l.take k).findIdx? q=none) (e:q l[k]=true):firstAt q l=(k:Int):=by
 unfold firstAt
 have:l.findIdx? q=some k:=by
  rw [List.findIdx?_eq_some_iff_getElem]
  refine ⟨h,e,fun j hj=>?_⟩
  have h2:=List.findIdx?_eq_none_iff.1 n l[j] (List.mem_take_iff_getElem.2 ⟨j,by omega,rfl⟩)
  simpa using h2
 rw [this]
theorem firstAt_miss {α:Type} {q:α→Bool} {l:List α} {k:Nat} (h:k < l.length) (n:(l.take k).findIdx? q=none) (e:q l[k]=false):(l.take (k+1)).findIdx? q=none:=by
 rw [List.findIdx?_eq_none_iff] at n ⊢
 rw [List.take_succ_eq_append_getElem h]
 intro x hx
 rcases List.mem_append.1 hx with hx | hx
 ·exact n x hx
 ·rw [List.mem_singleton.1 hx];exact e
set_option maxRecDepth 20000 in
theorem indexFunc_any (K:World→Prop) (hK:∀ a b,K a→Below a.heap.size a b→K b) (f:FuncId) (cap:Array Value) (q:TEnt→Bool) (hp:Picks K f cap q) (l:List TEnt) (a:Option Addr) (cp:Nat) (w:World) (hw:K w) (hl:l.length≤8) (hi:EntsAt w a l) :
  Calls Tryz.prog 137 #[.slice a l.length cp,.func (.func f) #[] cap] w fun e w'=>e=.returned (.int .i64 (firstAt q l))∧Below w.heap.size w w':=by
 have hcf:=hp.1
 have HP:=Lib.hid hp.2
 have HK:=Lib.hid hK
 have HW:=Lib.hid hw
 clear hp hK hw
 go_enter Tryz.func137,Tryz.ntmps137
 go_wp2
 go_loopw [8] (fun i wr=>∃ k:Nat,k≤l.length∧i=.int .i64 k∧Hid ((l.take k).findIdx? q=none)∧Below w.heap.size w wr) (fun i _=>l.length - (intOf i).toNat)
 case atStart=>exact ⟨0,Nat.zero_le _,rfl,Lib.hid rfl,Below.refl _ _⟩
 case round=>
  obtain ⟨k,hk,rfl,NO,hbel⟩:=hrel
  by_cases hlt:k < l.length
  ·obtain ⟨b,o,rfl,hb,c0,c1,c2,c3,c4⟩:=entsAt_kept hbel hi k hlt
   go_wp2_with fail
   refine (HP.out l[k] _ (HK.out _ _ HW.out hbel)).mono ?_
   rintro e w1 ⟨rfl,hb1⟩
   cases hq:q l[k] with
   | true=>
    have HQ:=Lib.hid hq
    clear hq
    go_wp2
    go_ret
    refine ⟨ret_i64 ?_,kept_trans hbel hb1⟩
    exact (firstAt_hit hlt NO.out HQ.out).symm
   | false=>
    have HQ:=Lib.hid hq
    clear hq
    go_wp2
    go_roundw
    case rel=>exact ⟨k+1,by omega,by go_num,Lib.hid (firstAt_miss hlt NO.out HQ.out),kept_trans hbel hb1⟩
    case measure=>simp [intOf];omega
  ·go_wp2
   go_ret
   refine ⟨ret_i64 ?_,hbel⟩
   have:=NO.out
   rw [List.take_of_length_le (by omega)] at this
   unfold firstAt
   rw [this]
end Go.Proofs.YtlboemhbealnmaaGreat.Tr
namespace Go.Proofs.YtlboemhbealnmaaGreat.Tr
open Go.RowKit
def entsC (l:List TEnt):List Value:=l.flatMap entC
theorem entC_length (e:TEnt):(entC e).length=5:=rfl
theorem entsC_length (l:List TEnt):(entsC l).length=l.length * 5:=by
 induction l with
 | nil=>rfl
 | cons a r ih=>simp only [entsC,List.flatMap_cons,List.length_append,entC_length,List.length_cons] at ih ⊢;omega
theorem entsC_append (a b:List TEnt):entsC (a ++ b)=entsC a ++ entsC b:=by simp [entsC]
theorem entsC_at:∀ (l:List TEnt) (i:Nat) (h:i < l.length) (j:Nat),j < 5→(entsC l)[i * 5+j]?=(entC l[i])[j]?
 | [],i,h,_,_=>absurd h (by simp)
 | a :: r,0,_,j,hj=>by
  show (entC a ++ entsC r)[0 * 5+j]?=_
  rw [List.getElem?_append_left (by rw [entC_length];omega)]
  simp
 | a :: r,i+1,h,j,hj=>by
  show (entC a ++ entsC r)[(i+1) * 5+j]?=_
  rw [List.getElem?_append_right (by rw [entC_length];omega),entC_length,show (i+1) * 5+j - 5=i * 5+j by omega,entsC_at r i (by simpa using h) j hj]
  rfl
theorem entsC_take:∀ (l:List TEnt) (i:Nat),entsC (l.take i)=(entsC l).take (i * 5)
 | [],i=>by simp [entsC]
 | a :: r,0=>by simp [entsC]
 | a :: r,i+1=>by
  show entC a ++ entsC (r.take i)=(entC a ++ entsC r).take ((i+1) * 5)
  rw [entsC_take r i,List.take_append,entC_length,show (i+1) * 5 - 5=i * 5 by omega,List.take_of_length_le (l:=entC a) (by rw [entC_length];omega)]
theorem entsC_set:∀ (l:List TEnt) (i:Nat) (e:TEnt),entsC (l.set i e)=(((((entsC l).set (i * 5) (.int .i64 e.peer)).set (i * 5+1) (.int .u64 e.id.toNat)).set (i * 5+2) (.bool e.pref)).set (i * 5+3) (.int .i64 e.st)).set (i * 5+4) (.int .i64 e.till)
 | [],i,e=>by simp [entsC]
 | a :: r,0,e=>by simp [entsC,entC]
 | a :: r,i+1,e=>by
  have h:=entsC_set r i e
  have hs:∀ (x:List Value) (n:Nat) (v:Value),(entC a ++ x).set ((i+1) * 5+n) v=entC a ++ x.set (i * 5+n) v:=fun x n v=>by
   rw [List.set_append_right _ _ (by rw [entC_length];omega),entC_length,show (i+1) * 5+n - 5=i * 5+n by omega]
  have hs0:=fun x v=>hs x 0 v
  simp only [Nat.add_zero] at hs0
  show entC a ++ entsC (r.set i e)=_
  rw [h]
  show _=(((((entC a ++ entsC r).set ((i+1) * 5) (.int .i64 e.peer)).set ((i+1) * 5+1) (.int .u64 e.id.toNat)).set ((i+1) * 5+2) (.bool e.pref)).set ((i+1) * 5+3) (.int .i64 e.st)).set ((i+1) * 5+4) (.int .i64 e.till)
  rw [hs0,hs,hs,hs,hs]
abbrev OwnEnts (w:World) (v:Value) (l:List TEnt):Prop:=w.ownsRow 0 142 5 v l.length (entsC l)
theorem ownEnts_form {w:World} {v:Value} {l:List TEnt} (h:OwnEnts w v l):∃ a cap,v=.slice a l.length cap∧l.length≤cap∧EntsAt w a l:=by
 rcases h.2 with ⟨hv,hn⟩ | ⟨g,cap,cur,hv,hB,hg,hc,_,_,_⟩
 ·exact ⟨none,0,by rw [hn];exact hv,by omega,fun i hi=>absurd hi (by omega)⟩
 ·refine ⟨some ⟨g,0,none⟩,cap,hv,hc,fun i hi=>⟨g,0,rfl,(Array.getElem?_eq_some_iff.1 hg).1,?_⟩⟩
  have hh:=h
  rw [hv] at hh
  have hat:∀ j,j < 5→w.cell? ⟨g,0+i * 5+j,none⟩=(entC l[i])[j]?:=fun j hj=>by
   rw [Nat.zero_add,hh.cellAt (i * 5+j) (by omega)]
   exact entsC_at l i hi j hj
  exact ⟨hat 0 (by omega),hat 1 (by omega),hat 2 (by omega),hat 3 (by omega),hat 4 (by omega)⟩
theorem ownEnts_some {w:World} {g cap n:Nat} {l:List TEnt} (h:OwnEnts w (.slice (some ⟨g,0,none⟩) n cap) l) (i:Nat) (hi:i < l.length):EntAt w g (i * 5) l[i]∧(∀ j,w.frozen? ⟨g,j,none⟩=false)∧g < w.heap.size:=by
 obtain ⟨a,c,e,_,hat⟩:=ownEnts_form h
 simp only [Value.slice.injEq] at e
 obtain ⟨rfl,rfl,rfl⟩:=e
 obtain ⟨b,o,e,hb,hc⟩:=hat i hi
 simp only [Option.some.injEq,Addr.mk.injEq,and_true] at e
 obtain ⟨rfl,rfl⟩:=e
 rw [Nat.zero_add] at hc
 exact ⟨hc,fun j=>h.frozenAt j,hb⟩
theorem zero_ent (w:World):(zeroValue 142).run Tryz.prog w=.ok (.agg #[.int .i64 0,.int .u64 0,.bool false,.int .i64 0,.int .i64 0]) w:=by kernel_rfl
theorem ents_clear {w:World} {g cap i n:Nat} {m:List TEnt} (hi:i < n) (hn:m.length=n) (ho:OwnEnts w (.slice (some ⟨g,0,none⟩) n cap) m) :
  ∃ w',(∀ ty,(Builtin.clear_ #[148] ty #[.slice (some ⟨g,i * 5,none⟩) (n - i) (cap - i)]).run Tryz.prog w=.ok (.tuple #[]) w')∧OwnEnts w' (.slice (some ⟨g,0,none⟩) i cap) (m.take i)∧Turn (fun k=>k=g) (fun k=>k=g) w w':=by
 subst hn
 obtain ⟨w',h1,h2,h3⟩:=clear_row (t:=148) _ Tryz.underlying148 zero_ent rfl (by decide) (by decide) hi ho
 refine ⟨w',h1,?_,h3⟩
 unfold OwnEnts
 rw [entsC_take,List.length_take,Nat.min_eq_left (Nat.le_of_lt hi)]
 exact h2
def set5 (w:World) (g i:Nat) (e:TEnt):World:=
 ((((w.setCell ⟨g,i * 5,none⟩ (.int .i64 e.peer)).setCell ⟨g,i * 5+1,none⟩ (.int .u64 e.id.toNat)).setCell ⟨g,i * 5+2,none⟩ (.bool e.pref)).setCell ⟨g,i * 5+3,none⟩ (.int .i64 e.st)).setCell ⟨g,i * 5+4,none⟩ (.int .i64 e.till)
theorem set5_own {w:World} {g cap n:Nat} {m:List TEnt} (ho:OwnEnts w (.slice (some ⟨g,0,none⟩) n cap) m) (hn:m.length=n) (i:Nat) (e:TEnt):OwnEnts (set5 w g i e) (.slice (some ⟨g,0,none⟩) n cap) (m.set i e)∧Turn (fun k=>k=g) (fun k=>k=g) w (set5 w g i e):=by
 subst hn
 refine ⟨?_,((((Turn.set (F:=fun k=>k=g) w ⟨g,i * 5,none⟩ _ rfl).trans (Turn.set _ ⟨g,i * 5+1,none⟩ _ rfl)).trans (Turn.set _ ⟨g,i * 5+2,none⟩ _ rfl)).trans (Turn.set _ ⟨g,i * 5+3,none⟩ _ rfl)).trans (Turn.set _ ⟨g,i * 5+4,none⟩ _ rfl)⟩
 unfold OwnEnts
 rw [entsC_set,List.length_set]
 exact ((((((((ho.stored _ _).1).stored _ _).1).stored _ _).1).stored _ _).1.stored _ _).1
theorem set5_K {K:World→Prop} {g:Nat} (h:∀ a j u,K a→K (a.setCell ⟨g,j,none⟩ u)) {w:World} (hw:K w) (i:Nat) (e:TEnt):K (set5 w g i e):=h _ _ _ (h _ _ _ (h _ _ _ (h _ _ _ (h _ _ _ hw))))
theorem deleteFunc_any (K:World→Prop) (hK:∀ a b,K a→Below a.heap.size a b→K b) (f:FuncId) (fc:Array Value) (q:TEnt→Bool) (hp:Picks K f fc q) (l:List TEnt) (g cap:Nat) (w:World) (hw:K w) (hKs:∀ a j u,K a→K (a.setCell ⟨g,j,none⟩ u)) (hl:l.length≤8)
  (ho:OwnEnts w (.slice (some ⟨g,0,none⟩) l.length cap) l) :
  Calls Tryz.prog 81 #[.slice (some ⟨g,0,none⟩) l.length cap,.func (.func f) #[] fc] w fun e w'=>∃ n c,e=.returned (.slice (some ⟨g,0,none⟩) n c)∧OwnEnts w' (.slice (some ⟨g,0,none⟩) n c) (l.filter fun e=>!q e)∧Turn (fun k=>k=g) (fun k=>k=g) w w':=by
 have hcf:=hp.1
 have HPP:=Lib.hid hp
 have HP:=Lib.hid hp.2
 have HK:=Lib.hid hK
 have HKs:=Lib.hid hKs
 have HW:=Lib.hid hw
 clear hp hK hw hKs
 obtain ⟨a0,c0,e0,hc0,hat⟩:=ownEnts_form ho
 simp only [Value.slice.injEq,true_and] at e0
 obtain ⟨rfl,rfl⟩:=e0
 have HO:=Lib.hid ho
 clear ho
 go_enter Tryz.func81,Tryz.ntmps81
 go_wp2_with fail
 refine (indexFunc_any K HK.out f fc q HPP.out l _ _ w HW.out hl hat).mono ?_
 rintro e w1 ⟨rfl,hb1⟩
 cases hx:l.findIdx? q with
 | none=>
  have e1:firstAt q l=-1:=by unfold firstAt;rw [hx]
  have HX:=Lib.hid hx
  rw [e1]
  clear hx e1
  go_wp2
  go_ret
  exact ⟨_,_,rfl,by rw [filter_none HX.out];exact owns_below HO.out hb1,Turn.of_below hb1⟩
 | some i0=>
  have e1:firstAt q l=(i0:Int):=by unfold firstAt;rw [hx]
  have hi0:i0 < l.length:=by have:=List.findIdx?_eq_some_iff_getElem.1 hx;exact this.1
  have HX:=Lib.hid hx
  have hne:((i0:Int) == -1)=false:=by rw [beq_eq_false_iff_ne];omega
  rw [e1]
  clear hx e1
  go_wp2
  go_loopw [5,6] (fun vi vj wr=>∃ (i j:Nat) (m:List TEnt),vi=.int .i64 i∧vj=.int .i64 j∧i < j∧j≤l.length∧m.length=l.length∧Hid (OwnEnts wr (.slice (some ⟨g,0,none⟩) l.length cap) m) ∧
   Hid (m.take i=(l.take j).filter (fun e=>!q e))∧Hid (m.drop j=l.drop j)∧Hid (Turn (fun k=>k=g) (fun k=>k=g) w wr)∧Hid (K wr)) (fun _ j _=>l.length - (intOf j).toNat)
  case atStart=>exact ⟨i0,i0+1,l,rfl,by go_num,by omega,by omega,rfl,Lib.hid (owns_below HO.out hb1),Lib.hid (take_filter_start HX.out),Lib.hid rfl,Lib.hid (Turn.of_below hb1),Lib.hid (HK.out _ _ HW.out hb1)⟩
  case round=>
   obtain ⟨i,j,m,rfl,rfl,hij,hj,hml,HO,HT,HD,HU,HKw⟩:=hrel
   by_cases hlt:j < l.length
   ·obtain ⟨⟨c0,c1,c2,c3,c4⟩,_,hgl⟩:=ownEnts_some HO.out j (by omega)
    go_wp2_with fail
    refine (HP.out m[j] _ (HK.out _ _ HKw.out (kept_new _ _))).mono ?_
    rintro e w2 ⟨rfl,hb2⟩
    have hb3:=kept_trans (kept_new _ _) hb2
    cases hq:q m[j] with
    | true=>
     have HQ:=Lib.hid hq
     clear hq
     go_wp2
     go_roundw
     case rel=>
      obtain ⟨hm1,hm2⟩:=drop_at HD.out (by omega) hlt
      exact ⟨i,j+1,m,rfl,by go_num,by omega,by omega,hml,Lib.hid (owns_below HO.out hb3),Lib.hid (take_filter_out hlt HT.out (by rw [← hm1,HQ.out];rfl)),Lib.hid hm2,Lib.hid (HU.out.trans (Turn.of_below hb3)),Lib.hid (HK.out _ _ HKw.out hb3)⟩
     case measure=>simp [intOf];omega
    | false=>
     have HQ:=Lib.hid hq
     clear hq
     obtain ⟨d0,d1,d2,d3,d4⟩:EntAt w2 wr.heap.size 0 m[j]:=entAt_kept hb2 ⟨by simp [go_sem],by simp [go_sem],by simp [go_sem],by simp [go_sem],by simp [go_sem]⟩
     obtain ⟨⟨k0,k1,k2,k3,k4⟩,kf,hgl2⟩:=ownEnts_some (owns_below HO.out hb3) i (by omega)
     have f0:=kf (i * 5)
     have f1:=kf (i * 5+1)
     have f2:=kf (i * 5+2)
     have f3:=kf (i * 5+3)
     have f4:=kf (i * 5+4)
     clear kf
     go_wp2
     go_roundw
     case rel=>
      obtain ⟨hm1,hm2⟩:=drop_at HD.out (by omega) hlt
      obtain ⟨r1,r2⟩:=set5_own (owns_below HO.out hb3) hml i m[j]
      exact ⟨i+1,j+1,m.set i m[j],by go_num,by go_num,by omega,by omega,by simpa using hml,Lib.hid r1,Lib.hid (by rw [hm1];exact take_filter_in (by omega) hlt HT.out (by rw [← hm1,HQ.out];rfl)),Lib.hid (by rw [drop_set _ (by omega)];exact hm2),Lib.hid ((HU.out.trans (Turn.of_below hb3)).trans r2),Lib.hid (set5_K HKs.out (HK.out _ _ HKw.out hb3) i m[j])⟩
     case measure=>simp [intOf];omega
   ·obtain ⟨w3,hcl,ho3,ht3⟩:=ents_clear (i:=i) (by omega) hml HO.out
    have HO3:=Lib.hid ho3
    have HT3:=Lib.hid ht3
    clear ho3 ht3
    go_wp2_with fail
    go_ret
    have hj':j=l.length:=by omega
    have h4:=HT.out
    rw [hj',List.take_of_length_le (Nat.le_refl _)] at h4
    exact ⟨_,_,rfl,by rw [← h4];exact HO3.out,HU.out.trans HT3.out⟩
end Go.Proofs.YtlboemhbealnmaaGreat.Tr
namespace Go.Proofs.YtlboemhbealnmaaGreat.Tr
open Go.RowKit
def PicksI (K:World→Prop) (f:FuncId) (cap:Array Value) (q:UInt64→Bool):Prop:=
 (∀ (args:Array Value) (w:World),(callFunc f args).run Tryz.prog w=.ok (.enter f args) w) ∧
 ∀ (x:UInt64) (w:World),K w→Calls Tryz.prog f (#[.int .u64 x.toNat] ++ cap) w fun e w'=>e=.returned (.bool (q x))∧Below w.heap.size w w'
set_option maxRecDepth 20000 in
theorem indexId_any (K:World→Prop) (hK:∀ a b,K a→Below a.heap.size a b→K b) (f:FuncId) (cap:Array Value) (q:UInt64→Bool) (hp:PicksI K f cap q) (l:List UInt64) (a:Option Addr) (cp:Nat) (w:World) (hw:K w) (hl:l.length≤20) (hi:IdsAt w a l) :
  Calls Tryz.prog 205 #[.slice a l.length cp,.func (.func f) #[] cap] w fun e w'=>e=.returned (.int .i64 (firstAt q l))∧Below w.heap.size w w':=by
 have hcf:=hp.1
 have HP:=Lib.hid hp.2
 have HK:=Lib.hid hK
 have HW:=Lib.hid hw
 clear hp hK hw
 go_enter Tryz.func205,Tryz.ntmps205
 go_wp2
 go_loopw [8] (fun i wr=>∃ k:Nat,k≤l.length∧i=.int .i64 k∧Hid ((l.take k).findIdx? q=none)∧Below w.heap.size w wr) (fun i _=>l.length - (intOf i).toNat)
 case atStart=>exact ⟨0,Nat.zero_le _,rfl,Lib.hid rfl,Below.refl _ _⟩
 case round=>
  obtain ⟨k,hk,rfl,NO,hbel⟩:=hrel
  by_cases hlt:k < l.length
  ·obtain ⟨b,o,rfl,hb,c0⟩:=idsAt_kept hbel hi k hlt
   go_wp2_with fail
   refine (HP.out l[k] _ (HK.out _ _ HW.out hbel)).mono ?_
   rintro e w1 ⟨rfl,hb1⟩
   cases hq:q l[k] with
   | true=>
    have HQ:=Lib.hid hq
    clear hq
    go_wp2
    go_ret
    refine ⟨ret_i64 ?_,kept_trans hbel hb1⟩
    exact (firstAt_hit hlt NO.out HQ.out).symm
   | false=>
    have HQ:=Lib.hid hq
    clear hq
    go_wp2
    go_roundw
    case rel=>exact ⟨k+1,by omega,by go_num,Lib.hid (firstAt_miss hlt NO.out HQ.out),kept_trans hbel hb1⟩
    case measure=>simp [intOf];omega
  ·go_wp2
   go_ret
   refine ⟨ret_i64 ?_,hbel⟩
   have:=NO.out
   rw [List.take_of_length_le (by omega)] at this
   unfold firstAt
   rw [this]
theorem zero_u64 (w:World):(zeroValue 22).run Tryz.prog w=.ok (.int .u64 0) w:=by kernel_rfl
theorem ids_clear {w:World} {g cap i n:Nat} {m:List UInt64} (hi:i < n) (hn:m.length=n) (ho:OwnIds w 0 (.slice (some ⟨g,0,none⟩) n cap) m) :
  ∃ w',(∀ ty,(Builtin.clear_ #[39] ty #[.slice (some ⟨g,i,none⟩) (n - i) (cap - i)]).run Tryz.prog w=.ok (.tuple #[]) w')∧OwnIds w' 0 (.slice (some ⟨g,0,none⟩) i cap) (m.take i)∧Turn (fun k=>k=g) (fun k=>k=g) w w':=by
 subst hn
 obtain ⟨w',h1,h2,h3⟩:=clear_row (t:=39) (size:=1) _ Tryz.underlying39 zero_u64 rfl (by decide) (by decide) hi ho
 simp only [Nat.mul_one] at h1 h2
 refine ⟨w',h1,?_,h3⟩
 unfold OwnIds
 rw [List.map_take,List.length_take,Nat.min_eq_left (Nat.le_of_lt hi)]
 exact h2
theorem id_stored {w:World} {g cap n:Nat} {m:List UInt64} (ho:OwnIds w 0 (.slice (some ⟨g,0,none⟩) n cap) m) (hn:m.length=n) (i:Nat) (x:UInt64):OwnIds (w.setCell ⟨g,i,none⟩ (.int .u64 x.toNat)) 0 (.slice (some ⟨g,0,none⟩) n cap) (m.set i x)∧Turn (fun k=>k=g) (fun k=>k=g) w (w.setCell ⟨g,i,none⟩ (.int .u64 x.toNat)):=by
 subst hn
 refine ⟨?_,Turn.set (F:=fun k=>k=g) w ⟨g,i,none⟩ _ rfl⟩
 unfold OwnIds
 rw [List.map_set,List.length_set]
 exact (ho.stored i _).1
theorem ownIds_some {w:World} {g cap n:Nat} {l:List UInt64} (h:OwnIds w 0 (.slice (some ⟨g,0,none⟩) n cap) l) (i:Nat) (hi:i < l.length):w.cell? ⟨g,i,none⟩=some (.int .u64 l[i].toNat)∧w.frozen? ⟨g,i,none⟩=false∧g < w.heap.size:=by
 obtain ⟨a,c,e,_,hat,_⟩:=owns_idsAt h
 simp only [Value.slice.injEq] at e
 obtain ⟨rfl,rfl,rfl⟩:=e
 obtain ⟨b,o,e,hb,hc⟩:=hat i hi
 simp only [Option.some.injEq,Addr.mk.injEq,and_true] at e
 obtain ⟨rfl,rfl⟩:=e
 rw [Nat.zero_add] at hc
 exact ⟨hc,h.frozenAt i,hb⟩
set_option maxRecDepth 20000 in
theorem deleteId_any (K:World→Prop) (hK:∀ a b,K a→Below a.heap.size a b→K b) (f:FuncId) (fc:Array Value) (q:UInt64→Bool) (hp:PicksI K f fc q) (l:List UInt64) (g cap:Nat) (w:World) (hw:K w) (hKs:∀ a j u,K a→K (a.setCell ⟨g,j,none⟩ u)) (hl:l.length≤20)
  (ho:OwnIds w 0 (.slice (some ⟨g,0,none⟩) l.length cap) l) :
  Calls Tryz.prog 183 #[.slice (some ⟨g,0,none⟩) l.length cap,.func (.func f) #[] fc] w fun e w'=>∃ n c,e=.returned (.slice (some ⟨g,0,none⟩) n c)∧OwnIds w' 0 (.slice (some ⟨g,0,none⟩) n c) (l.filter fun e=>!q e)∧Turn (fun k=>k=g) (fun k=>k=g) w w':=by
 have hcf:=hp.1
 have HPP:=Lib.hid hp
 have HP:=Lib.hid hp.2
 have HK:=Lib.hid hK
 have HKs:=Lib.hid hKs
 have HW:=Lib.hid hw
 clear hp hK hw hKs
 obtain ⟨a0,c0,e0,hc0,hat,_⟩:=owns_idsAt ho
 simp only [Value.slice.injEq,true_and] at e0
 obtain ⟨rfl,rfl⟩:=e0
 have HO:=Lib.hid ho
 clear ho
 go_enter Tryz.func183,Tryz.ntmps183
 go_wp2_with fail
 refine (indexId_any K HK.out f fc q HPP.out l _ _ w HW.out hl hat).mono ?_
 rintro e w1 ⟨rfl,hb1⟩
 cases hx:l.findIdx? q with
 | none=>
  have e1:firstAt q l=-1:=by unfold firstAt;rw [hx]
  have HX:=Lib.hid hx
  rw [e1]
  clear hx e1
  go_wp2
  go_ret
  exact ⟨_,_,rfl,by rw [filter_none HX.out];exact owns_below HO.out hb1,Turn.of_below hb1⟩
 | some i0=>
  have e1:firstAt q l=(i0:Int):=by unfold firstAt;rw [hx]
  have hi0:i0 < l.length:=by have:=List.findIdx?_eq_some_iff_getElem.1 hx;exact this.1
  have HX:=Lib.hid hx
  have hne:((i0:Int) == -1)=false:=by rw [beq_eq_false_iff_ne];omega
  rw [e1]
  clear hx e1
  go_wp2
  go_loopw [5,6] (fun vi vj wr=>∃ (i j:Nat) (m:List UInt64),vi=.int .i64 i∧vj=.int .i64 j∧i < j∧j≤l.length∧m.length=l.length∧Hid (OwnIds wr 0 (.slice (some ⟨g,0,none⟩) l.length cap) m) ∧
   Hid (m.take i=(l.take j).filter (fun e=>!q e))∧Hid (m.drop j=l.drop j)∧Hid (Turn (fun k=>k=g) (fun k=>k=g) w wr)∧Hid (K wr)) (fun _ j _=>l.length - (intOf j).toNat)
  case atStart=>exact ⟨i0,i0+1,l,rfl,by go_num,by omega,by omega,rfl,Lib.hid (owns_below HO.out hb1),Lib.hid (take_filter_start HX.out),Lib.hid rfl,Lib.hid (Turn.of_below hb1),Lib.hid (HK.out _ _ HW.out hb1)⟩
  case round=>
   obtain ⟨i,j,m,rfl,rfl,hij,hj,hml,HO,HT,HD,HU,HKw⟩:=hrel
   by_cases hlt:j < l.length
   ·obtain ⟨c0,_,hgl⟩:=ownIds_some HO.out j (by omega)
    go_wp2_with fail
    refine (HP.out m[j] _ HKw.out).mono ?_
    rintro e w2 ⟨rfl,hb3⟩
    cases hq:q m[j] with
    | true=>
     have HQ:=Lib.hid hq
     clear hq
     go_wp2
     go_roundw
     case rel=>
      obtain ⟨hm1,hm2⟩:=drop_at HD.out (by omega) hlt
      exact ⟨i,j+1,m,rfl,by go_num,by omega,by omega,hml,Lib.hid (owns_below HO.out hb3),Lib.hid (take_filter_out hlt HT.out (by rw [← hm1,HQ.out];rfl)),Lib.hid hm2,Lib.hid (HU.out.trans (Turn.of_below hb3)),Lib.hid (HK.out _ _ HKw.out hb3)⟩
     case measure=>simp [intOf];omega
    | false=>
     have HQ:=Lib.hid hq
     clear hq
     obtain ⟨k0,f0,hgl2⟩:=ownIds_some (owns_below HO.out hb3) i (by omega)
     go_wp2
     go_roundw
     case rel=>
      obtain ⟨hm1,hm2⟩:=drop_at HD.out (by omega) hlt
      obtain ⟨r1,r2⟩:=id_stored (owns_below HO.out hb3) hml i m[j]
      exact ⟨i+1,j+1,m.set i m[j],by go_num,by go_num,by omega,by omega,by simpa using hml,Lib.hid r1,Lib.hid (by rw [hm1];exact take_filter_in (by omega) hlt HT.out (by rw [← hm1,HQ.out];rfl)),Lib.hid (by rw [drop_set _ (by omega)];exact hm2),Lib.hid ((HU.out.trans (Turn.of_below hb3)).trans r2),Lib.hid (HKs.out _ _ _ (HK.out _ _ HKw.out hb3))⟩
     case measure=>simp [intOf];omega
   ·obtain ⟨w3,hcl,ho3,ht3⟩:=ids_clear (i:=i) (by omega) hml HO.out
    have HO3:=Lib.hid ho3
    have HT3:=Lib.hid ht3
    clear ho3 ht3
    go_wp2_with fail
    go_ret
    have hj':j=l.length:=by omega
    have h4:=HT.out
    rw [hj',List.take_of_length_le (Nat.le_refl _)] at h4
    exact ⟨_,_,rfl,by rw [← h4];exact HO3.out,HU.out.trans HT3.out⟩
end Go.Proofs.YtlboemhbealnmaaGreat.Tr
namespace Go.Proofs.YtlboemhbealnmaaGreat.Tr
open Go.RowKit Go.Maps
theorem u64_keyed:Maps.Keyed Tryz.prog 22:=int_keyed Tryz.underlying22
theorem u64_key (x:UInt64):keyOf Tryz.prog 22 (.int .u64 x.toNat)=some (.int .u64 x.toNat):=keyOf_int_mk Tryz.underlying22 (wf_u64_of x)
theorem lit_ne {x y:UInt64} (h:x≠y):Lit.int .u64 x.toNat≠Lit.int .u64 y.toNat:=fun e=>h (by simp only [Lit.int.injEq,true_and] at e;exact u64_inj e)
theorem same_lit (x y:UInt64):(Lit.int .u64 x.toNat).sameKey (.int .u64 y.toNat)=(x == y):=by
 rw [Bool.eq_iff_iff]
 constructor
 ·intro h
  have:=WideAt.sameKey_eq h
  simp only [Lit.int.injEq,true_and] at this
  exact beq_iff_eq.2 (u64_inj this)
 ·intro h
  rw [beq_iff_eq.1 h]
  exact WideAt.sameKey_self (u64_keyed.key (u64_key y))
def exactE (v:Value):Option (DataW Value × List MemPlace):=some (.held v,[])
structure It where
 r:Nat
 left:Lit→Bool
 cnt:Nat
def MapIs (w:World) (b:Nat) (it:Option It) (D:DataW Value):Prop:=
 ∃ n,match it with
 | none=>w.ownsMap Tryz.prog 22 exactE b n D
 | some i=>w.ranges Tryz.prog 22 exactE b i.r n D i.left i.cnt
theorem mapIs_owns {w:World} {b:Nat} {it:Option It} {D:DataW Value} (h:MapIs w b it D):∃ n,w.ownsMap Tryz.prog 22 exactE b n D:=by
 obtain ⟨n,h⟩:=h
 cases it with
 | none=>exact ⟨n,h⟩
 | some i=>exact ⟨n,World.ranges.owns h⟩
def TMap (w:World) (b:Nat) (it:Option It) (ev:UInt64→Option Value):Prop:=
 ∃ D,MapIs w b it D∧(∀ x v,ev x=some v→∀ z,D.atKey (.int .u64 x.toNat) z=.held v)∧(∀ x,Maps.has D (.int .u64 x.toNat)=(ev x).isSome)
theorem tmap_same {w w':World} {b:Nat} {it:Option It} {ev:UInt64→Option Value} (h:TMap w b it ev) (e:w'.heap[b]?=w.heap[b]?) (er:∀ i,it=some i→w'.heap[i.r]?=w.heap[i.r]?):TMap w' b it ev:=by
 obtain ⟨D,⟨n,hm⟩,r2⟩:=h
 refine ⟨D,⟨n,?_⟩,r2⟩
 cases it with
 | none=>
  obtain ⟨es,clock,hb,r⟩:=hm
  exact ⟨es,clock,e.trans hb,r⟩
 | some i=>
  obtain ⟨es,clock,since,seen,c0,hb,q1,q2,q3,hr,r⟩:=hm
  exact ⟨es,clock,since,seen,c0,e.trans hb,q1,q2,q3,(er i rfl).trans hr,r⟩
theorem tmap_new (w:World):TMap (w.alloc (.map #[] 0)) w.heap.size none (fun _=>none):=⟨.map [],⟨0,World.ownsMap_made w _ _ _⟩,fun x v h=>by simp at h,fun x=>rfl⟩
theorem zero_slice (w:World):(zeroValue 148).run Tryz.prog w=.ok (.slice none 0 0) w:=by kernel_rfl
theorem tmap_look {w:World} {b:Nat} {it:Option It} {ev:UInt64→Option Value} (h:TMap w b it ev) (x:UInt64) :
  (Instr.lookup 66 (.map (some b)) (.int .u64 x.toNat) false).run Tryz.prog w=.ok ((ev x).getD (.slice none 0 0)) w:=by
 obtain ⟨D,hm,hat,hhas⟩:=h
 obtain ⟨n,hD⟩:=mapIs_owns hm
 obtain ⟨u,ps,hrun,hu⟩:=hD.lookup u64_keyed Tryz.underlying66 (zero_slice w) (zd:=.held (.slice none 0 0)) (zp:=[]) rfl (u64_key x)
 rw [hrun]
 unfold exactE at hu
 simp only [Option.some.injEq,Prod.mk.injEq] at hu
 cases hx:ev x with
 | some v=>
  rw [hat x v hx] at hu
  have:=hu.1
  simp only [DataW.held.injEq] at this
  rw [this]
  rfl
 | none=>
  have h0:=hhas x
  rw [hx] at h0
  rw [atKey_of_not_has h0] at hu
  have:=hu.1
  simp only [DataW.held.injEq] at this
  rw [this]
  rfl
def It.drop (i:It) (x:UInt64) (n:Nat):It:=⟨i.r,fun z=>i.left z && !z.sameKey (.int .u64 x.toNat),n⟩
theorem mapTurned_turn {w w':World} {b:Nat} (h:w.mapTurned w' b):Turn (fun k=>k=b) (fun k=>k=b) w w':=Turn.of_grown h.grown (fun k hk=>by cases hk;rfl)
theorem del_has {D:DataW Value} {ev:UInt64→Option Value} (h:∀ x:UInt64,Maps.has D (.int .u64 x.toNat)=(ev x).isSome) (x y:UInt64):Maps.has (D.del (.int .u64 x.toNat)) (.int .u64 y.toNat)=(if y=x then none else ev y).isSome:=by
 by_cases e:y=x
 ·rw [e,if_pos rfl,has_del_same];rfl
 ·rw [if_neg e,has_del_other (lit_ne e),h y]
theorem del_at {D:DataW Value} {ev:UInt64→Option Value} (h:∀ x v,ev x=some v→∀ z,D.atKey (.int .u64 x.toNat) z=.held v) (x y:UInt64) (v:Value) (hy:(if y=x then none else ev y)=some v) (z:DataW Value):(D.del (.int .u64 x.toNat)).atKey (.int .u64 y.toNat) z=.held v:=by
 by_cases e:y=x
 ·rw [if_pos e] at hy;cases hy
 ·rw [if_neg e] at hy
  rw [atKey_del_other (lit_ne e),h y v hy]
theorem tmap_delete {w:World} {b:Nat} {it:Option It} {ev:UInt64→Option Value} (h:TMap w b it ev) (x:UInt64) :
  ∃ w',(∀ ty,(Builtin.delete_ #[66,22] ty #[.map (some b),.int .u64 x.toNat]).run Tryz.prog w=.ok (.tuple #[]) w') ∧
   (∃ n,(∀ i,it=some i→n≤i.cnt)∧TMap w' b (it.map fun i=>i.drop x n) (fun y=>if y=x then none else ev y))∧Turn (fun k=>k=b) (fun k=>k=b) w w':=by
 obtain ⟨D,⟨n,hm⟩,hat,hhas⟩:=h
 cases it with
 | none=>
  obtain ⟨w',hrun,ho,ht⟩:=World.ownsMap.drop hm u64_keyed Tryz.underlying66 (u64_key x) 0
  exact ⟨w',fun ty=>hrun,⟨0,(fun i hi=>by cases hi),_,⟨n,ho⟩,fun y v hy z=>del_at hat x y v hy z,fun y=>del_has hhas x y⟩,mapTurned_turn ht⟩
 | some i=>
  obtain ⟨w',cnt',hrun,ho,hc,ht⟩:=World.ranges.drop hm u64_keyed Tryz.underlying66 (u64_key x) 0
  exact ⟨w',fun ty=>hrun,⟨cnt',(fun j hj=>by cases hj;exact hc),_,⟨n,ho⟩,fun y v hy z=>del_at hat x y v hy z,fun y=>del_has hhas x y⟩,mapTurned_turn ht⟩
theorem nodup_le:∀ {a b:List UInt64},a.Nodup→(∀ x ∈ a,x ∈ b)→a.length≤b.length
 | [],_,_,_=>Nat.zero_le _
 | x :: r,b,hn,hs=>by
  obtain ⟨hx,hr⟩:=List.nodup_cons.1 hn
  have hxb:x ∈ b:=hs x (by simp)
  have:=nodup_le hr (b:=b.erase x) (fun y hy=>(List.mem_erase_of_ne (show y≠x from fun e=>hx (e▸hy))).2 (hs y (by simp [hy])))
  rw [List.length_erase_of_mem hxb] at this
  have h1:0 < b.length:=List.length_pos_of_mem hxb
  simp only [List.length_cons]
  omega
def litId:Lit→UInt64
 | .int _ a=>UInt64.ofNat a.toNat
 | _=>0
theorem litId_mk (x:UInt64):litId (.int .u64 x.toNat)=x:=by simp [litId]
theorem tmap_small {w:World} {b:Nat} {D:DataW Value} {n:Nat} (h:w.ownsMap Tryz.prog 22 exactE b n D) (ks:List UInt64) (hks:∀ x:UInt64,Maps.has D (.int .u64 x.toNat)=true→x ∈ ks):w.ownsMap Tryz.prog 22 exactE b ks.length D:=by
 obtain ⟨es,clock,hb,F,hs,hD⟩:=h
 refine ⟨es,clock,hb,F,?_,hD⟩
 have hkeys:∀ p ∈ es.toList.map (WideElems.rg Tryz.prog 22 exactE),∃ x:UInt64,p.1=.int .u64 x.toNat:=fun p hp=>by
  obtain ⟨v,hv⟩:=fit_keys F p hp
  obtain ⟨a,_,e,hw⟩:=keyOf_int_inv Tryz.underlying22 hv
  obtain ⟨u,rfl⟩:=wf_u64 hw
  exact ⟨u,e⟩
 have hap:=fit_apart u64_keyed F
 have hnd:((es.toList.map (WideElems.rg Tryz.prog 22 exactE)).map fun p=>litId p.1).Nodup:=by
  unfold List.Nodup
  rw [List.pairwise_map]
  refine List.Pairwise.imp_of_mem (fun {p q} hp hq hne=>?_) hap
  obtain ⟨x,hx⟩:=hkeys p hp
  obtain ⟨y,hy⟩:=hkeys q hq
  rw [hx,hy,litId_mk,litId_mk]
  intro e
  exact hne (by rw [hx,hy,e])
 have hsub:∀ x ∈ (es.toList.map (WideElems.rg Tryz.prog 22 exactE)).map (fun p=>litId p.1),x ∈ ks:=fun x hx=>by
  obtain ⟨p,hp,rfl⟩:=List.mem_map.1 hx
  obtain ⟨y,hy⟩:=hkeys p hp
  rw [hy,litId_mk]
  refine hks y ?_
  rw [hD,has_eq,List.any_eq_true]
  exact ⟨p,mem_sorted.2 hp,by rw [hy,same_lit];simp⟩
 have:=nodup_le hnd hsub
 simpa using this
theorem tmap_put {w:World} {b:Nat} {ev:UInt64→Option Value} (h:TMap w b none ev) (ks:List UInt64) (hks:∀ x,(ev x).isSome=true→x ∈ ks) (hkl:ks.length≤1000) (x:UInt64) (v:Value) :
  ∃ w',(Instr.mapUpdate 66 (.map (some b)) (.int .u64 x.toNat) v).run Tryz.prog w=.ok () w'∧TMap w' b none (fun y=>if y=x then some v else ev y)∧Turn (fun k=>k=b) (fun k=>k=b) w w':=by
 obtain ⟨D,⟨n,hm⟩,hat,hhas⟩:=h
 have hm2:=tmap_small hm ks (fun y hy=>hks y (by rw [← hhas y];exact hy))
 obtain ⟨w',hrun,ho,hg⟩:=hm2.update u64_keyed Tryz.underlying66 (by unfold maxLen;omega) (u64_key x) (val:=v) (d:=.held v) (ps:=[]) rfl
 refine ⟨w',hrun,⟨_,⟨_,ho⟩,fun y u hy z=>?_,fun y=>?_⟩,Turn.of_grown hg (fun k hk=>by cases hk;rfl)⟩
 ·replace hy:(if y=x then some v else ev y)=some u:=hy
  by_cases e:y=x
  ·rw [if_pos e] at hy
   cases hy
   rw [e,atKey_put_same hm2.isMap (u64_keyed.key (u64_key _))]
  ·rw [if_neg e] at hy
   rw [atKey_put_other (lit_ne e),hat y u hy]
 ·show _=(if y=x then some v else ev y).isSome
  by_cases e:y=x
  ·rw [e,if_pos rfl,has_put_same hm2.isMap (u64_keyed.key (u64_key _))]
   rfl
  ·rw [if_neg e,has_put_other (lit_ne e),hhas y]
end Go.Proofs.YtlboemhbealnmaaGreat.Tr
