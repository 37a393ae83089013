import Derived.Test.YtlboemhbealnmaaGreatK2
import Derived.Test.YtlboemhbealnmaaGreatK1
import Derived.Deep.QuietTactic
import Derived.BigQuiet
import Derived.Test.YtlboemhbealnmaaGreatK3
import Derived.Test.YtlboemhbealnmaaGreatK4
set_option maxRecDepth 20000
namespace Go.Proofs.YtlboemhbealnmaaGreat.Ho
open Go.RowKit
structure LD where
 peer:Nat
 id:UInt64
deriving DecidableEq
instance : Inhabited LD:=⟨⟨0,0⟩⟩
def linkV (e:LD):Value:=.agg #[.int .i64 e.peer,.int .u64 e.id.toNat]
def linkC (e:LD):List Value:=[.int .i64 e.peer,.int .u64 e.id.toNat]
def LinkAt (w:World) (b o:Nat) (e:LD):Prop:=w.cell? ⟨b,o,none⟩=some (.int .i64 e.peer)∧w.cell? ⟨b,o+1,none⟩=some (.int .u64 e.id.toNat)
def LinksAt (w:World) (a:Option Addr) (l:List LD):Prop:=∀ i (h:i < l.length),∃ b o,a=some ⟨b,o,none⟩∧b < w.heap.size∧LinkAt w b (o+i * 2) l[i]
theorem linkAt_kept {w w':World} {b o:Nat} {e:LD} (hb:Below w.heap.size w w') (h:LinkAt w b o e):LinkAt w' b o e:=by
 obtain ⟨c0,c1⟩:=h
 exact ⟨kept_cell hb c0,kept_cell hb c1⟩
theorem linksAt_kept {w w':World} {a:Option Addr} {l:List LD} (hb:Below w.heap.size w w') (h:LinksAt w a l):LinksAt w' a l:=fun i hi=>by
 obtain ⟨b,o,e,hlt,c⟩:=h i hi
 exact ⟨b,o,e,Nat.lt_of_lt_of_le hlt hb.size,linkAt_kept hb c⟩
theorem linksAt_nil (w:World) (a:Option Addr):LinksAt w a []:=fun i hi=>absurd hi (by simp)
def PicksL (K:World→Prop) (f:FuncId) (cap:Array Value) (q:LD→Bool):Prop:=
 (∀ (args:Array Value) (w:World),(callFunc f args).run Tryz.prog w=.ok (.enter f args) w) ∧
 ∀ (e:LD) (w:World),K w→Calls Tryz.prog f (#[linkV e] ++ cap) w fun x w'=>x=.returned (.bool (q e))∧Below w.heap.size w w'
set_option maxRecDepth 20000 in
theorem linkIndex_any (K:World→Prop) (hK:∀ a b,K a→Below a.heap.size a b→K b) (f:FuncId) (cap:Array Value) (q:LD→Bool) (hp:PicksL K f cap q) (l:List LD) (a:Option Addr) (cp:Nat) (w:World) (hw:K w) (hl:l.length≤1000) (hi:LinksAt w a l) :
  Calls Tryz.prog 185 #[.slice a l.length cp,.func (.func f) #[] cap] w fun e w'=>e=.returned (.int .i64 (firstAt q l))∧Below w.heap.size w w':=by
 have hcf:=hp.1
 have HP:=Lib.hid hp.2
 have HK:=Lib.hid hK
 have HW:=Lib.hid hw
 clear hp hK hw
 go_enter Tryz.func185,Tryz.ntmps185
 go_wp2
 go_loopw [8] (fun i wr=>∃ k:Nat,k≤l.length∧i=.int .i64 k∧Hid ((l.take k).findIdx? q=none)∧Below w.heap.size w wr) (fun i _=>l.length - (intOf i).toNat)
 case atStart=>exact ⟨0,Nat.zero_le _,rfl,Lib.hid rfl,Below.refl _ _⟩
 case round=>
  obtain ⟨k,hk,rfl,NO,hbel⟩:=hrel
  by_cases hlt:k < l.length
  ·obtain ⟨b,o,rfl,hb,c0,c1⟩:=linksAt_kept hbel hi k hlt
   go_wp2_with fail
   refine (HP.out l[k] _ (HK.out _ _ HW.out hbel)).mono ?_
   rintro e w1 ⟨rfl,hb1⟩
   cases hq:q l[k] with
   | true=>
    have HQ:=Lib.hid hq
    clear hq
    go_wp2
    go_ret
    refine ⟨ret_i64 ?_,kept_trans hbel hb1⟩
    exact (firstAt_hit hlt NO.out HQ.out).symm
   | false=>
    have HQ:=Lib.hid hq
    clear hq
    go_wp2
    go_roundw
    case rel=>exact ⟨k+1,by omega,by go_num,Lib.hid (firstAt_miss hlt NO.out HQ.out),kept_trans hbel hb1⟩
    case measure=>simp [intOf];omega
  ·go_wp2
   go_ret
   refine ⟨ret_i64 ?_,hbel⟩
   have:=NO.out
   rw [List.take_of_length_le (by omega)] at this
   unfold firstAt
   rw [this]
def linksC (l:List LD):List Value:=l.flatMap linkC
theorem linkC_length (e:LD):(linkC e).length=2:=rfl
theorem linksC_append (a b:List LD):linksC (a ++ b)=linksC a ++ linksC b:=by simp [linksC]
theorem linksC_at:∀ (l:List LD) (i:Nat) (h:i < l.length) (j:Nat),j < 2→(linksC l)[i * 2+j]?=(linkC l[i])[j]?
 | [],i,h,_,_=>absurd h (by simp)
 | a :: r,0,_,j,hj=>by
  show (linkC a ++ linksC r)[0 * 2+j]?=_
  rw [List.getElem?_append_left (by rw [linkC_length];omega)]
  simp
 | a :: r,i+1,h,j,hj=>by
  show (linkC a ++ linksC r)[(i+1) * 2+j]?=_
  rw [List.getElem?_append_right (by rw [linkC_length];omega),linkC_length,show (i+1) * 2+j - 2=i * 2+j by omega,linksC_at r i (by simpa using h) j hj]
  rfl
theorem linksC_take:∀ (l:List LD) (i:Nat),linksC (l.take i)=(linksC l).take (i * 2)
 | [],i=>by simp [linksC]
 | a :: r,0=>by simp [linksC]
 | a :: r,i+1=>by
  show linkC a ++ linksC (r.take i)=(linkC a ++ linksC r).take ((i+1) * 2)
  rw [linksC_take r i,List.take_append,linkC_length,show (i+1) * 2 - 2=i * 2 by omega,List.take_of_length_le (l:=linkC a) (by rw [linkC_length];omega)]
theorem linksC_set:∀ (l:List LD) (i:Nat) (e:LD),linksC (l.set i e)=((linksC l).set (i * 2) (.int .i64 e.peer)).set (i * 2+1) (.int .u64 e.id.toNat)
 | [],i,e=>by simp [linksC]
 | a :: r,0,e=>by simp [linksC,linkC]
 | a :: r,i+1,e=>by
  have h:=linksC_set r i e
  have hs:∀ (x:List Value) (n:Nat) (v:Value),(linkC a ++ x).set ((i+1) * 2+n) v=linkC a ++ x.set (i * 2+n) v:=fun x n v=>by
   rw [List.set_append_right _ _ (by rw [linkC_length];omega),linkC_length,show (i+1) * 2+n - 2=i * 2+n by omega]
  have hs0:=fun x v=>hs x 0 v
  simp only [Nat.add_zero] at hs0
  show linkC a ++ linksC (r.set i e)=_
  rw [h]
  show _=((linkC a ++ linksC r).set ((i+1) * 2) (.int .i64 e.peer)).set ((i+1) * 2+1) (.int .u64 e.id.toNat)
  rw [hs0,hs]
abbrev OwnLinks (w:World) (v:Value) (l:List LD):Prop:=w.ownsRow 0 136 2 v l.length (linksC l)
theorem ownLinks_form {w:World} {v:Value} {l:List LD} (h:OwnLinks w v l):∃ a cap,v=.slice a l.length cap∧l.length≤cap∧LinksAt w a l:=by
 rcases h.2 with ⟨hv,hn⟩ | ⟨g,cap,cur,hv,hB,hg,hc,_,_,_⟩
 ·exact ⟨none,0,by rw [hn];exact hv,by omega,fun i hi=>absurd hi (by omega)⟩
 ·refine ⟨some ⟨g,0,none⟩,cap,hv,hc,fun i hi=>⟨g,0,rfl,(Array.getElem?_eq_some_iff.1 hg).1,?_⟩⟩
  have hh:=h
  rw [hv] at hh
  have hat:∀ j,j < 2→w.cell? ⟨g,0+i * 2+j,none⟩=(linkC l[i])[j]?:=fun j hj=>by
   rw [Nat.zero_add,hh.cellAt (i * 2+j) (by omega)]
   exact linksC_at l i hi j hj
  exact ⟨hat 0 (by omega),hat 1 (by omega)⟩
theorem ownLinks_some {w:World} {g cap n:Nat} {l:List LD} (h:OwnLinks w (.slice (some ⟨g,0,none⟩) n cap) l) (i:Nat) (hi:i < l.length):LinkAt w g (i * 2) l[i]∧(∀ j,w.frozen? ⟨g,j,none⟩=false)∧g < w.heap.size:=by
 obtain ⟨a,c,e,_,hat⟩:=ownLinks_form h
 simp only [Value.slice.injEq] at e
 obtain ⟨rfl,rfl,rfl⟩:=e
 obtain ⟨b,o,e,hb,hc⟩:=hat i hi
 simp only [Option.some.injEq,Addr.mk.injEq,and_true] at e
 obtain ⟨rfl,rfl⟩:=e
 rw [Nat.zero_add] at hc
 exact ⟨hc,fun j=>h.frozenAt j,hb⟩
theorem zero_link (w:World):(zeroValue 136).run Tryz.prog w=.ok (.agg #[.int .i64 0,.int .u64 0]) w:=by kernel_rfl
theorem links_clear {w:World} {g cap i n:Nat} {m:List LD} (hi:i < n) (hn:m.length=n) (ho:OwnLinks w (.slice (some ⟨g,0,none⟩) n cap) m) :
  ∃ w',(∀ ty,(Builtin.clear_ #[73] ty #[.slice (some ⟨g,i * 2,none⟩) (n - i) (cap - i)]).run Tryz.prog w=.ok (.tuple #[]) w')∧OwnLinks w' (.slice (some ⟨g,0,none⟩) i cap) (m.take i)∧Turn (fun k=>k=g) (fun k=>k=g) w w':=by
 subst hn
 obtain ⟨w',h1,h2,h3⟩:=clear_row (t:=73) _ Tryz.underlying73 zero_link rfl (by decide) (by decide) hi ho
 refine ⟨w',h1,?_,h3⟩
 unfold OwnLinks
 rw [linksC_take,List.length_take,Nat.min_eq_left (Nat.le_of_lt hi)]
 exact h2
def set2 (w:World) (g i:Nat) (e:LD):World:=
 (w.setCell ⟨g,i * 2,none⟩ (.int .i64 e.peer)).setCell ⟨g,i * 2+1,none⟩ (.int .u64 e.id.toNat)
theorem set2_own {w:World} {g cap n:Nat} {m:List LD} (ho:OwnLinks w (.slice (some ⟨g,0,none⟩) n cap) m) (hn:m.length=n) (i:Nat) (e:LD):OwnLinks (set2 w g i e) (.slice (some ⟨g,0,none⟩) n cap) (m.set i e)∧Turn (fun k=>k=g) (fun k=>k=g) w (set2 w g i e):=by
 subst hn
 refine ⟨?_,(Turn.set (F:=fun k=>k=g) w ⟨g,i * 2,none⟩ _ rfl).trans (Turn.set _ ⟨g,i * 2+1,none⟩ _ rfl)⟩
 unfold OwnLinks
 rw [linksC_set,List.length_set]
 exact ((ho.stored _ _).1.stored _ _).1
theorem set2_K {K:World→Prop} {g:Nat} (h:∀ a j u,K a→K (a.setCell ⟨g,j,none⟩ u)) {w:World} (hw:K w) (i:Nat) (e:LD):K (set2 w g i e):=h _ _ _ (h _ _ _ hw)
theorem linkDelete_any (K:World→Prop) (hK:∀ a b,K a→Below a.heap.size a b→K b) (f:FuncId) (fc:Array Value) (q:LD→Bool) (hp:PicksL K f fc q) (l:List LD) (g cap:Nat) (w:World) (hw:K w) (hKs:∀ a j u,K a→K (a.setCell ⟨g,j,none⟩ u)) (hl:l.length≤1000)
  (ho:OwnLinks w (.slice (some ⟨g,0,none⟩) l.length cap) l) :
  Calls Tryz.prog 140 #[.slice (some ⟨g,0,none⟩) l.length cap,.func (.func f) #[] fc] w fun e w'=>∃ n c,e=.returned (.slice (some ⟨g,0,none⟩) n c)∧OwnLinks w' (.slice (some ⟨g,0,none⟩) n c) (l.filter fun e=>!q e)∧Turn (fun k=>k=g) (fun k=>k=g) w w':=by
 have hcf:=hp.1
 have HPP:=Lib.hid hp
 have HP:=Lib.hid hp.2
 have HK:=Lib.hid hK
 have HKs:=Lib.hid hKs
 have HW:=Lib.hid hw
 clear hp hK hw hKs
 obtain ⟨a0,c0,e0,hc0,hat⟩:=ownLinks_form ho
 simp only [Value.slice.injEq,true_and] at e0
 obtain ⟨rfl,rfl⟩:=e0
 have HO:=Lib.hid ho
 clear ho
 go_enter Tryz.func140,Tryz.ntmps140
 go_wp2_with fail
 refine (linkIndex_any K HK.out f fc q HPP.out l _ _ w HW.out hl hat).mono ?_
 rintro e w1 ⟨rfl,hb1⟩
 cases hx:l.findIdx? q with
 | none=>
  have e1:firstAt q l=-1:=by unfold firstAt;rw [hx]
  have HX:=Lib.hid hx
  rw [e1]
  clear hx e1
  go_wp2
  go_ret
  exact ⟨_,_,rfl,by rw [filter_none HX.out];exact owns_below HO.out hb1,Turn.of_below hb1⟩
 | some i0=>
  have e1:firstAt q l=(i0:Int):=by unfold firstAt;rw [hx]
  have hi0:i0 < l.length:=by have:=List.findIdx?_eq_some_iff_getElem.1 hx;exact this.1
  have HX:=Lib.hid hx
  have hne:((i0:Int) == -1)=false:=by rw [beq_eq_false_iff_ne];omega
  rw [e1]
  clear hx e1
  go_wp2
  go_loopw [5,6] (fun vi vj wr=>∃ (i j:Nat) (m:List LD),vi=.int .i64 i∧vj=.int .i64 j∧i < j∧j≤l.length∧m.length=l.length∧Hid (OwnLinks wr (.slice (some ⟨g,0,none⟩) l.length cap) m) ∧
   Hid (m.take i=(l.take j).filter (fun e=>!q e))∧Hid (m.drop j=l.drop j)∧Hid (Turn (fun k=>k=g) (fun k=>k=g) w wr)∧Hid (K wr)) (fun _ j _=>l.length - (intOf j).toNat)
  case atStart=>exact ⟨i0,i0+1,l,rfl,by go_num,by omega,by omega,rfl,Lib.hid (owns_below HO.out hb1),Lib.hid (take_filter_start HX.out),Lib.hid rfl,Lib.hid (Turn.of_below hb1),Lib.hid (HK.out _ _ HW.out hb1)⟩
  case round=>
   obtain ⟨i,j,m,rfl,rfl,hij,hj,hml,HO,HT,HD,HU,HKw⟩:=hrel
   by_cases hlt:j < l.length
   ·obtain ⟨⟨c0,c1⟩,_,hgl⟩:=ownLinks_some HO.out j (by omega)
    go_wp2_with fail
    refine (HP.out m[j] _ (HK.out _ _ HKw.out (kept_new _ _))).mono ?_
    rintro e w2 ⟨rfl,hb2⟩
    have hb3:=kept_trans (kept_new _ _) hb2
    cases hq:q m[j] with
    | true=>
     have HQ:=Lib.hid hq
     clear hq
     go_wp2
     go_roundw
     case rel=>
      obtain ⟨hm1,hm2⟩:=drop_at HD.out (by omega) hlt
      exact ⟨i,j+1,m,rfl,by go_num,by omega,by omega,hml,Lib.hid (owns_below HO.out hb3),Lib.hid (take_filter_out hlt HT.out (by rw [← hm1,HQ.out];rfl)),Lib.hid hm2,Lib.hid (HU.out.trans (Turn.of_below hb3)),Lib.hid (HK.out _ _ HKw.out hb3)⟩
     case measure=>simp [intOf];omega
    | false=>
     have HQ:=Lib.hid hq
     clear hq
     obtain ⟨d0,d1⟩:LinkAt w2 wr.heap.size 0 m[j]:=linkAt_kept hb2 ⟨by simp [go_sem],by simp [go_sem]⟩
     obtain ⟨⟨k0,k1⟩,kf,hgl2⟩:=ownLinks_some (owns_below HO.out hb3) i (by omega)
     have f0:=kf (i * 2)
     have f1:=kf (i * 2+1)
     clear kf
     go_wp2
     go_roundw
     case rel=>
      obtain ⟨hm1,hm2⟩:=drop_at HD.out (by omega) hlt
      obtain ⟨r1,r2⟩:=set2_own (owns_below HO.out hb3) hml i m[j]
      exact ⟨i+1,j+1,m.set i m[j],by go_num,by go_num,by omega,by omega,by simpa using hml,Lib.hid r1,Lib.hid (by rw [hm1];exact take_filter_in (by omega) hlt HT.out (by rw [← hm1,HQ.out];rfl)),Lib.hid (by rw [drop_set _ (by omega)];exact hm2),Lib.hid ((HU.out.trans (Turn.of_below hb3)).trans r2),Lib.hid (set2_K HKs.out (HK.out _ _ HKw.out hb3) i m[j])⟩
     case measure=>simp [intOf];omega
   ·obtain ⟨w3,hcl,ho3,ht3⟩:=links_clear (i:=i) (by omega) hml HO.out
    have HO3:=Lib.hid ho3
    have HT3:=Lib.hid ht3
    clear ho3 ht3
    go_wp2_with fail
    go_ret
    have hj':j=l.length:=by omega
    have h4:=HT.out
    rw [hj',List.take_of_length_le (Nat.le_refl _)] at h4
    exact ⟨_,_,rfl,by rw [← h4];exact HO3.out,HU.out.trans HT3.out⟩
theorem linkDelete_nil (K:World→Prop) (hK:∀ a b,K a→Below a.heap.size a b→K b) (f:FuncId) (fc:Array Value) (q:LD→Bool) (hp:PicksL K f fc q) (w:World) (hw:K w) :
  Calls Tryz.prog 140 #[.slice none 0 0,.func (.func f) #[] fc] w fun e w'=>e=.returned (.slice none 0 0)∧Below w.heap.size w w':=by
 have HP:=Lib.hid hp
 have HK:=Lib.hid hK
 have HW:=Lib.hid hw
 clear hp hK hw
 go_enter Tryz.func140,Tryz.ntmps140
 go_wp2_with fail
 refine (linkIndex_any K HK.out f fc q HP.out [] none 0 w HW.out (by decide) (linksAt_nil _ _)).mono ?_
 rintro e w1 ⟨rfl,hb1⟩
 have e1:firstAt q []=-1:=rfl
 rw [e1]
 clear e1
 go_wp2
 go_ret
 exact ⟨rfl,hb1⟩
theorem linkDelete_own (K:World→Prop) (hK:∀ a b,K a→Below a.heap.size a b→K b) (f:FuncId) (fc:Array Value) (q:LD→Bool) (hp:PicksL K f fc q) (l:List LD) (v:Value) (w:World) (hw:K w) (hKs:∀ g,v.ownBlock=some g→∀ a j u,K a→K (a.setCell ⟨g,j,none⟩ u)) (hl:l.length≤1000) (ho:OwnLinks w v l) :
  Calls Tryz.prog 140 #[v,.func (.func f) #[] fc] w fun e w'=>∃ a n c,e=.returned (.slice a n c)∧OwnLinks w' (.slice a n c) (l.filter fun e=>!q e)∧(Value.slice a n c).ownBlock=v.ownBlock∧Turn (fun k=>v.ownBlock=some k) (fun k=>v.ownBlock=some k) w w':=by
 rcases ho.2 with ⟨rfl,hn⟩ | ⟨g,cap,cur,rfl,_,_,_,_,_,_⟩
 ·obtain rfl:l=[]:=List.eq_nil_of_length_eq_zero hn
  exact (linkDelete_nil K hK f fc q hp w hw).mono fun e w' ⟨he,hb⟩=>⟨none,0,0,he,World.ownsRow_nil _ _ _ _,rfl,Turn.of_below hb⟩
 ·refine (linkDelete_any K hK f fc q hp l g cap w hw (hKs g rfl) hl ho).mono fun e w' ⟨n,c,he,h1,h2⟩=>⟨_,n,c,he,h1,rfl,?_⟩
  have e1:(fun k=>Value.ownBlock (.slice (some ⟨g,0,none⟩) l.length cap)=some k)=fun k=>k=g:=by
   funext k
   simp [Value.ownBlock,eq_comm]
  rw [e1]
  exact h2
theorem linkContains_any (K:World→Prop) (hK:∀ a b,K a→Below a.heap.size a b→K b) (f:FuncId) (fc:Array Value) (q:LD→Bool) (hp:PicksL K f fc q) (l:List LD) (a:Option Addr) (cp:Nat) (w:World) (hw:K w) (hl:l.length≤1000) (hi:LinksAt w a l) :
  Calls Tryz.prog 143 #[.slice a l.length cp,.func (.func f) #[] fc] w fun e w'=>e=.returned (.bool (l.any q))∧Below w.heap.size w w':=by
 have HP:=Lib.hid hp
 have HK:=Lib.hid hK
 have HW:=Lib.hid hw
 have HI:=Lib.hid hi
 clear hp hK hw hi
 go_enter Tryz.func143,Tryz.ntmps143
 go_wp2_with fail
 refine (linkIndex_any K HK.out f fc q HP.out l _ _ w HW.out hl HI.out).mono ?_
 rintro e w1 ⟨rfl,hb1⟩
 have e1:=firstAt_neg q l
 obtain ⟨i,hi⟩:∃ i,firstAt q l=i:=⟨_,rfl⟩
 rw [hi] at e1 ⊢
 go_wp2
 go_ret
 exact ⟨rfl,hb1⟩
theorem run_eq_link (x y:LD) (w:World):(binOp .eql 136 (.agg #[.int .i64 x.peer,.int .u64 x.id.toNat]) (.agg #[.int .i64 y.peer,.int .u64 y.id.toNat])).run Tryz.prog w=.ok (.bool (decide (x=y))) w:=by
 by_cases h1:(x.peer:Int)=y.peer
 ·by_cases h2:(x.id.toNat:Int)=y.id.toNat
  ·have e:x=y:=by
    obtain ⟨xp,xi⟩:=x
    obtain ⟨yp,yi⟩:=y
    simp only [LD.mk.injEq]
    exact ⟨by simp only at h1;omega,u64_inj h2⟩
   subst e
   simp [go_sem]
  ·have e:decide (x=y)=false:=decide_eq_false fun e=>h2 (by rw [e])
   rw [e]
   simp [go_sem,h1,h2]
 ·have e:decide (x=y)=false:=decide_eq_false fun e=>h1 (by rw [e])
  rw [e]
  simp [go_sem,h1]
theorem linkFind_any (x:LD) (l:List LD) (a:Option Addr) (cp:Nat) (w:World) (hl:l.length≤1000) (hi:LinksAt w a l) :
  Calls Tryz.prog 214 #[.slice a l.length cp,.agg #[.int .i64 x.peer,.int .u64 x.id.toNat]] w fun e w'=>e=.returned (.int .i64 (firstAt (fun y=>decide (x=y)) l))∧Below w.heap.size w w':=by
 have hi0:=linksAt_kept (kept_new w (.cells #[.int .i64 x.peer,.int .u64 x.id.toNat] 136)) hi
 go_enter Tryz.func214,Tryz.ntmps214
 go_wp2
 go_loopw [8] (fun i wr=>∃ k:Nat,k≤l.length∧i=.int .i64 k∧Hid ((l.take k).findIdx? (fun y=>decide (x=y))=none)∧Below (w.alloc (.cells #[.int .i64 x.peer,.int .u64 x.id.toNat] 136)).heap.size (w.alloc (.cells #[.int .i64 x.peer,.int .u64 x.id.toNat] 136)) wr) (fun i _=>l.length - (intOf i).toNat)
 case atStart=>exact ⟨0,Nat.zero_le _,rfl,Lib.hid rfl,Below.refl _ _⟩
 case round=>
  obtain ⟨k,hk,rfl,NO,hbel⟩:=hrel
  obtain ⟨hx0,hx1,hws⟩:=box_pair hbel
  have hkw:=kept_trans (kept_new _ _) hbel
  by_cases hlt:k < l.length
  ·obtain ⟨b,o,rfl,hb,c0,c1⟩:=linksAt_kept hbel hi0 k hlt
   have hq:=fun wx=>run_eq_link x l[k] wx
   cases hx:decide (x=l[k]) with
   | true=>
    rw [hx] at hq
    have HX:=Lib.hid hx
    clear hx
    go_wp2_with fail
    go_quiet (fail)
    go_wp2
    go_ret
    exact ⟨ret_i64 (firstAt_hit hlt NO.out HX.out).symm,below_drewN hkw _⟩
   | false=>
    rw [hx] at hq
    have HX:=Lib.hid hx
    clear hx
    go_wp2_with fail
    go_quiet (fail)
    go_wp2
    go_roundw
    case rel=>exact ⟨k+1,by omega,by go_num,Lib.hid (firstAt_miss hlt NO.out HX.out),below_drewN hbel _⟩
    case measure=>simp [intOf];omega
  ·go_wp2
   go_ret
   refine ⟨ret_i64 ?_,hkw⟩
   have:=NO.out
   rw [List.take_of_length_le (by omega)] at this
   unfold firstAt
   rw [this]
theorem linkHas_any (x:LD) (l:List LD) (a:Option Addr) (cp:Nat) (w:World) (hl:l.length≤1000) (hi:LinksAt w a l) :
  Calls Tryz.prog 195 #[.slice a l.length cp,.agg #[.int .i64 x.peer,.int .u64 x.id.toNat]] w fun e w'=>e=.returned (.bool (l.any fun y=>decide (x=y)))∧Below w.heap.size w w':=by
 have HI:=Lib.hid (linksAt_kept (kept_new w (.cells #[.int .i64 x.peer,.int .u64 x.id.toNat] 136)) hi)
 clear hi
 go_enter Tryz.func195,Tryz.ntmps195
 go_wp2_with fail
 refine (linkFind_any x l _ _ _ hl HI.out).mono ?_
 rintro e w1 ⟨rfl,hb1⟩
 have e1:=firstAt_neg (fun y=>decide (x=y)) l
 obtain ⟨i,hi⟩:∃ i,firstAt (fun y=>decide (x=y)) l=i:=⟨_,rfl⟩
 rw [hi] at e1 ⊢
 go_wp2
 go_ret
 exact ⟨rfl,kept_trans (kept_new _ _) hb1⟩
end Go.Proofs.YtlboemhbealnmaaGreat.Ho
namespace Go.Proofs.YtlboemhbealnmaaGreat.Ho
open Go.RowKit Go.Maps
def homeC (oc:Nat→Value) (m v:Value):Array Value:=#[oc 0,oc 1,oc 2,oc 3,oc 4,oc 5,oc 6,oc 7,oc 8,oc 9,oc 10,oc 11,oc 12,oc 13,oc 14,oc 15,oc 16,oc 17,oc 18,oc 19,oc 20,oc 21,oc 22,oc 23,oc 24,oc 25,oc 26,m,v,oc 29,oc 30,oc 31,oc 32,oc 33]
structure HomeAt (w:World) (F:Nat→Prop) (R:Loc) (it:Option It) (ls:List LD) (M:UInt64→Option DeedD) (b:Nat) (ev:UInt64→Option Value) (v:Value):Prop where
 head:w.heap[R.b]?=some (.cells (homeC R.oc (.map (some b)) v) 88 (0,0))
 map:TMap w b it ev
 deeds:∀ x,(ev x=none∧M x=none)∨∃ a c d,ev x=some (deedV a c d)∧M x=some d∧OwnIns w (.slice a d.ins.length c) d.ins∧∀ g,(Value.slice a d.ins.length c).ownBlock=some g→F g
 fine:∀ x d,M x=some d→checkD d=0
 links:OwnLinks w v ls
 fR:F R.b
 fb:F b
 fv:∀ g,v.ownBlock=some g→F g
 there:There w F
 out:∀ i,it=some i→¬ F i.r∧i.r < w.heap.size
variable {w w':World} {F:Nat→Prop} {R:Loc} {it:Option It} {ls:List LD} {M:UInt64→Option DeedD} {b:Nat} {ev:UInt64→Option Value} {v:Value}
theorem HomeAt.same (h:HomeAt w F R it ls M b ev v) (e:∀ k,k < w.heap.size→F k→w'.heap[k]?=w.heap[k]?) (er:∀ i,it=some i→w'.heap[i.r]?=w.heap[i.r]?) (hs:w.heap.size≤w'.heap.size):HomeAt w' F R it ls M b ev v where
 head:=(e R.b (h.there R.b h.fR) h.fR).trans h.head
 map:=tmap_same h.map (e b (h.there b h.fb) h.fb) er
 deeds:=fun x=>(h.deeds x).imp id fun ⟨a,c,d,h1,h2,h3,h4⟩=>⟨a,c,d,h1,h2,own_same h3 fun g hg=>e g (h.there g (h4 g hg)) (h4 g hg),h4⟩
 fine:=h.fine
 links:=own_same h.links fun g hg=>e g (h.there g (h.fv g hg)) (h.fv g hg)
 fR:=h.fR
 fb:=h.fb
 fv:=h.fv
 there:=h.there.later hs
 out:=fun i hi=>⟨(h.out i hi).1,Nat.lt_of_lt_of_le (h.out i hi).2 hs⟩
theorem HomeAt.kept (h:HomeAt w F R it ls M b ev v) (hb:Below w.heap.size w w'):HomeAt w' F R it ls M b ev v:=
 h.same (fun k hk _=>hb.block k hk) (fun i hi=>hb.block i.r (h.out i hi).2) hb.size
theorem HomeAt.turn (h:HomeAt w F R it ls M b ev v) {G G':Nat→Prop} (ht:Turn G G' w w') (ha:Apart F G) (hr:∀ i,it=some i→¬ G i.r):HomeAt w' F R it ls M b ev v:=
 h.same (fun k hk hf=>ht.block k hk (ha k hf)) (fun i hi=>ht.block i.r (h.out i hi).2 (hr i hi)) ht.size
theorem HomeAt.lt (h:HomeAt w F R it ls M b ev v):R.b < w.heap.size:=h.there R.b h.fR
theorem HomeAt.mapc (h:HomeAt w F R it ls M b ev v):w.cell? ⟨R.b,27,none⟩=some (.map (some b)):=(head_cell h.head 27).trans rfl
theorem HomeAt.linkc (h:HomeAt w F R it ls M b ev v):w.cell? ⟨R.b,28,none⟩=some v∧w.frozen? ⟨R.b,28,none⟩=false:=⟨(head_cell h.head 28).trans rfl,frozen_of_row w R.b (28) _ _ h.head⟩
theorem HomeAt.look (h:HomeAt w F R it ls M b ev v) (x:UInt64):(Instr.lookup 72 (.map (some b)) (.int .u64 x.toNat) false).run Tryz.prog w=.ok ((ev x).getD zeroD) w:=tmap_look h.map x
theorem HomeAt.look_ok (h:HomeAt w F R it ls M b ev v) (x:UInt64):(Instr.lookup 72 (.map (some b)) (.int .u64 x.toNat) true).run Tryz.prog w=.ok (.tuple #[(ev x).getD zeroD,.bool (ev x).isSome]) w:=tmap_look_ok h.map x
theorem HomeAt.there_is (h:HomeAt w F R it ls M b ev v) (x:UInt64):(ev x).isSome=(M x).isSome:=by
 rcases h.deeds x with ⟨h1,h2⟩ | ⟨a,c,d,h1,h2,_⟩
 ·rw [h1,h2];rfl
 ·rw [h1,h2];rfl
theorem HomeAt.deed (h:HomeAt w F R it ls M b ev v) (x:UInt64):∃ a c,(ev x).getD zeroD=deedV a c ((M x).getD nod)∧((M x).getD nod).ins.length≤8∧((M x).getD nod).ins.length≤c∧InsAt w a ((M x).getD nod).ins:=by
 rcases h.deeds x with ⟨h1,h2⟩ | ⟨a,c,d,h1,h2,h3,h4⟩
 ·rw [h1,h2]
  exact ⟨none,0,rfl,Nat.zero_le _,Nat.zero_le _,fun i hi=>absurd hi (by simp [nod])⟩
 ·rw [h1,h2]
  have hf:=h.fine x d h2
  obtain ⟨_,hc,hi⟩:=ownIns_slice h3 (ins_ok hf)
  exact ⟨a,c,rfl,(check_ok hf).1,hc,hi⟩
theorem HomeAt.b_ne (h:HomeAt w F R it ls M b ev v) {g:Nat} (hg:v.ownBlock=some g):g≠R.b∧g≠b:=by
 obtain ⟨cur,hc⟩:=own_at h.links hg
 refine ⟨fun e=>?_,fun e=>?_⟩
 ·rw [e,h.head] at hc;simp at hc
 ·obtain ⟨D,hm,_⟩:=h.map
  obtain ⟨n,es,clock,hb,_⟩:=mapIs_owns hm
  rw [e,hb] at hc;cases hc
theorem HomeAt.i_ne (h:HomeAt w F R it ls M b ev v) {l:List InD} {u:Value} (ho:OwnIns w u l) {g:Nat} (hg:u.ownBlock=some g):g≠R.b∧g≠b∧v.ownBlock≠some g:=by
 obtain ⟨cur,hc⟩:=own_at ho hg
 refine ⟨fun e=>?_,fun e=>?_,fun e=>?_⟩
 ·rw [e,h.head] at hc;simp at hc
 ·obtain ⟨D,hm,_⟩:=h.map
  obtain ⟨n,es,clock,hb,_⟩:=mapIs_owns hm
  rw [e,hb] at hc;cases hc
 ·obtain ⟨cur',hc'⟩:=own_at h.links e
  rw [hc'] at hc;simp at hc
theorem HomeAt.R_ne (h:HomeAt w F R it ls M b ev v):R.b≠b:=fun e=>by
 obtain ⟨D,hm,_⟩:=h.map
 obtain ⟨n,es,clock,hb,_⟩:=mapIs_owns hm
 have:=h.head
 rw [e,hb] at this;cases this
theorem HomeAt.setLinks (h:HomeAt w F R it ls M b ev v) {u:Value} {l:List LD} {G:Nat→Prop} (hG:∀ k,G k→v.ownBlock=some k) (ht:Turn G G w w') (ho:OwnLinks w' u l) (hv:∀ k,u.ownBlock=some k→v.ownBlock=some k∨w.heap.size≤k) :
  HomeAt (w'.setCell ⟨R.b,28,none⟩ u) (fun k=>F k∨u.ownBlock=some k) R it l M b ev u∧Turn F (fun k=>F k∨u.ownBlock=some k) w (w'.setCell ⟨R.b,28,none⟩ u):=by
 have hnR:¬ G R.b:=fun hg=>(h.b_ne (hG R.b hg)).1 rfl
 have hnb:¬ G b:=fun hg=>(h.b_ne (hG b hg)).2 rfl
 have hlt:∀ k,k < w.heap.size→k < w'.heap.size:=fun k hk=>Nat.lt_of_lt_of_le hk ht.size
 have hset:∀ k,k≠R.b→(w'.setCell ⟨R.b,28,none⟩ u).heap[k]?=w'.heap[k]?:=fun k hk=>Below.heap_setCell w' ⟨R.b,28,none⟩ u k hk
 have hold:∀ k,k < w.heap.size→k≠R.b→¬ G k→(w'.setCell ⟨R.b,28,none⟩ u).heap[k]?=w.heap[k]?:=fun k hk hkR hn=>(hset k hkR).trans (ht.block k hk hn)
 have hvR:∀ k,u.ownBlock=some k→k≠R.b:=fun k hk=>(hv k hk).elim (fun e=>(h.b_ne e).1) (fun hle e=>by have:=h.lt;omega)
 refine ⟨⟨?_,tmap_same h.map (hold b (h.there b h.fb) (fun e=>h.R_ne e.symm) hnb) (fun i hi=>hold i.r (h.out i hi).2 (fun e=>(h.out i hi).1 (by rw [e];exact h.fR)) (fun hg=>(h.out i hi).1 (h.fv i.r (hG _ hg)))),
  fun x=>(h.deeds x).imp id fun ⟨a,c,d,h1,h2,h3,h4⟩=>⟨a,c,d,h1,h2,own_same h3 fun g hg=>hold g (h.there g (h4 g hg)) (h.i_ne h3 hg).1 (fun hk=>(h.i_ne h3 hg).2.2 (hG g hk)),fun g hg=>.inl (h4 g hg)⟩,
  h.fine,own_same ho fun g hg=>hset g (hvR g hg),.inl h.fR,.inl h.fb,fun g hg=>.inr hg,fun k hk=>?_,fun i hi=>⟨fun hk=>?_,?_⟩⟩,?_⟩
 ·exact heap_setCell_same w' R.b (28) _ _ u ((ht.block R.b h.lt hnR).trans h.head)
 ·rw [World.size_setCell]
  exact hk.elim (fun hf=>hlt k (h.there k hf)) (fun e=>(ho.lt k e).2)
 ·rcases hk with hk | hk
  ·exact (h.out i hi).1 hk
  ·exact (hv _ hk).elim (fun e=>(h.out i hi).1 (h.fv _ e)) (fun hle=>by have:=(h.out i hi).2;omega)
 ·rw [World.size_setCell]
  exact hlt _ (h.out i hi).2
 ·refine ⟨ht.os,ht.tape,ht.output,by rw [World.size_setCell];exact ht.size,fun k hk hn=>hold k hk (fun e=>hn (by rw [e];exact h.fR)) (fun hg=>hn (h.fv k (hG k hg))),fun k hk=>hk.elim .inl (fun e=>(hv k e).elim (fun e'=>.inl (h.fv k e')) .inr)⟩
theorem HomeAt.deleted (h:HomeAt w F R it ls M b ev v) (x:UInt64):∃ w',(∀ ty,(Builtin.delete_ #[72,22] ty #[.map (some b),.int .u64 x.toNat]).run Tryz.prog w=.ok (.tuple #[]) w')∧∃ n,(∀ i,it=some i→n≤i.cnt) ∧
  HomeAt w' F R (it.map fun i=>i.drop x n) ls (upd M x none) b (upd ev x none) v∧Turn F F w w':=by
 obtain ⟨w5,hdel,⟨n,hn,hm5⟩,ht5⟩:=tmap_delete h.map x
 refine ⟨w5,hdel,n,hn,?_,⟨ht5.os,ht5.tape,ht5.output,ht5.size,fun j hj hnj=>ht5.block j hj (fun e=>hnj (by rw [e];exact h.fb)),fun j hj=>.inl hj⟩⟩
 refine ⟨(ht5.block R.b h.lt h.R_ne).trans h.head,hm5,fun y=>?_,fun y d hy=>?_,own_turn h.links ht5 (fun g hg e=>(h.b_ne hg).2 e),h.fR,h.fb,h.fv,h.there.later ht5.size,fun i hi=>?_⟩
 ·by_cases hy:y=x
  ·exact .inl ⟨by rw [hy,upd_same],by rw [hy,upd_same]⟩
  ·rcases h.deeds y with ⟨h1,h2⟩ | ⟨a,c,d,h1,h2,h3,h4⟩
   ·exact .inl ⟨(upd_other _ _ hy).trans h1,(upd_other _ _ hy).trans h2⟩
   ·exact .inr ⟨a,c,d,(upd_other _ _ hy).trans h1,(upd_other _ _ hy).trans h2,own_turn h3 ht5 (fun g hg e=>(h.i_ne h3 hg).2.1 e),h4⟩
 ·by_cases e:y=x
  ·rw [e,upd_same] at hy;cases hy
  ·rw [upd_other _ _ e] at hy
   exact h.fine y d hy
 ·cases it with
  | none=>cases hi
  | some j=>
   cases hi
   exact ⟨(h.out j rfl).1,Nat.lt_of_lt_of_le (h.out j rfl).2 ht5.size⟩
theorem HomeAt.put (h:HomeAt w F R none ls M b ev v) (ks:List UInt64) (hks:∀ x,(M x).isSome=true→x ∈ ks) (hkl:ks.length≤1000) (x:UInt64) {a:Option Addr} {c:Nat} {d:DeedD} (hd:checkD d=0) (hb:Below w.heap.size w w') (ho:w'.ownsRow w.heap.size 180 2 (.slice a d.ins.length c) d.ins.length (insC d.ins)) :
  ∃ w2,(Instr.mapUpdate 72 (.map (some b)) (.int .u64 x.toNat) (deedV a c d)).run Tryz.prog w'=.ok () w2∧∃ F',HomeAt w2 F' R none ls (upd M x (some d)) b (upd ev x (some (deedV a c d))) v∧Turn F F' w w2:=by
 have h':=h.kept hb
 obtain ⟨w2,hrun,hm2,ht2⟩:=tmap_put h'.map ks (fun y hy=>hks y (by rw [← h.there_is y];exact hy)) hkl x (deedV a c d)
 have hnew:∀ g,(Value.slice a d.ins.length c).ownBlock=some g→w.heap.size≤g:=fun g hg=>(ho.lt g hg).1
 have hbl:=h.there b h.fb
 refine ⟨w2,hrun,fun k=>F k∨(Value.slice a d.ins.length c).ownBlock=some k,⟨(ht2.block R.b h'.lt h.R_ne).trans h'.head,hm2,fun y=>?_,fun y e hy=>?_,own_turn h'.links ht2 (fun g hg e=>(h.b_ne hg).2 e),.inl h.fR,.inl h.fb,fun g hg=>.inl (h.fv g hg),fun k hk=>?_,fun i hi=>by cases hi⟩,?_⟩
 ·by_cases e:y=x
  ·refine .inr ⟨a,c,d,by rw [e,upd_same],by rw [e,upd_same],?_,fun g hg=>.inr hg⟩
   have ho2:=own_turn ho ht2 (fun g hg e=>by have:=hnew g hg;omega)
   exact ⟨ho2.1,ho2.2.imp id fun ⟨g,cap,cur,q1,q2,q3⟩=>⟨g,cap,cur,q1,Nat.zero_le _,q3⟩⟩
  ·rcases h'.deeds y with ⟨h1,h2⟩ | ⟨a',c',d',h1,h2,h3,h4⟩
   ·exact .inl ⟨(upd_other _ _ e).trans h1,(upd_other _ _ e).trans h2⟩
   ·exact .inr ⟨a',c',d',(upd_other _ _ e).trans h1,(upd_other _ _ e).trans h2,own_turn h3 ht2 (fun g hg e=>(h'.i_ne h3 hg).2.1 e),fun g hg=>.inl (h4 g hg)⟩
 ·by_cases e':y=x
  ·rw [e',upd_same] at hy;cases hy;exact hd
  ·rw [upd_other _ _ e'] at hy
   exact h.fine y e hy
 ·exact hk.elim (fun hf=>Nat.lt_of_lt_of_le (h'.there k hf) ht2.size) (fun e=>Nat.lt_of_lt_of_le (ho.lt k e).2 ht2.size)
 ·have:Turn F F w' w2:=⟨ht2.os,ht2.tape,ht2.output,ht2.size,fun j hj hnj=>ht2.block j hj (fun e=>hnj (by rw [e];exact h.fb)),fun j hj=>.inl hj⟩
  exact ((Turn.of_below hb).trans this).more (fun k hk=>hk.elim .inl (fun e=>.inr (hnew k e)))
end Go.Proofs.YtlboemhbealnmaaGreat.Ho
namespace Go.Proofs.YtlboemhbealnmaaGreat.Ho
open Go.RowKit Go.Maps
theorem isPeer_any (p:Int) (w:World):Calls Tryz.prog 84 #[.int .i64 p] w fun e w'=>e=.returned (.bool (decide (0≤p∧p < 8)))∧w=w':=by
 by_cases h1:0≤p
 ·by_cases h2:p < 8
  ·have h3:decide (0≤p∧p < 8)=true:=by simp [h1,h2]
   rw [h3]
   go_enter Tryz.func84,Tryz.ntmps84
   go_wp2
   go_ret
   exact ⟨rfl,rfl⟩
  ·have h3:decide (0≤p∧p < 8)=false:=by simp [h2]
   rw [h3]
   go_enter Tryz.func84,Tryz.ntmps84
   go_wp2
   go_ret
   exact ⟨rfl,rfl⟩
 ·have h3:decide (0≤p∧p < 8)=false:=by simp [h1]
  rw [h3]
  go_enter Tryz.func84,Tryz.ntmps84
  go_wp2
  go_ret
  exact ⟨rfl,rfl⟩
def goodP (p:Int):Prop:=0≤p∧p < 8
instance (p:Int):Decidable (goodP p):=by unfold goodP;infer_instance
theorem peer_nat {p:Int} (h:goodP p):∃ n:Nat,p=n∧n < 8∧p.toNat=n:=by
 obtain ⟨h1,h2⟩:=h
 exact ⟨p.toNat,by omega,by omega,rfl⟩
theorem isPeer_yes (p:Int) (n:Nat) (h:p=n) (hn:n < 8) (w:World):Calls Tryz.prog 84 #[.int .i64 p] w fun e w'=>e=.returned (.bool true)∧w=w':=by
 refine (isPeer_any p w).mono fun e w' ⟨h1,h2⟩=>⟨?_,h2⟩
 rw [h1,decide_eq_true ⟨by omega,by omega⟩]
theorem isPeer_no (p:Int) (h:¬ goodP p) (w:World):Calls Tryz.prog 84 #[.int .i64 p] w fun e w'=>e=.returned (.bool false)∧w=w':=by
 refine (isPeer_any p w).mono fun e w' ⟨h1,h2⟩=>⟨?_,h2⟩
 rw [h1,show decide (0≤p∧p < 8)=false from decide_eq_false h]
variable {w w':World} {F:Nat→Prop} {R:Loc} {it:Option It} {ls:List LD} {M:UInt64→Option DeedD} {b:Nat} {ev:UInt64→Option Value} {v:Value}
theorem home_new (w:World):Calls Tryz.prog 24 #[] w fun e w'=>e=.returned (.pointer (some ⟨w.heap.size+1,0,none⟩))∧w'=(w.alloc (.map #[] 0)).alloc (.cells #[.map (some w.heap.size),.slice none 0 0] 75):=by
 have hmm:=@run_makeMap Tryz.prog
 go_enter Tryz.func24,Tryz.ntmps24
 go_wp2
 go_ret
 exact ⟨rfl,rfl⟩
set_option maxRecDepth 20000 in
theorem has_home (x:UInt64) (w:World) (h:HomeAt w F R it ls M b ev v) :
  Calls Tryz.prog 149 #[.pointer (some ⟨R.b,27,none⟩),.int .u64 x.toNat] w fun e w'=>e=.returned (.bool (M x).isSome)∧Below w.heap.size w w':=by
 have hmc:=h.mapc
 have hlk:=h.look_ok x
 have hlt:=h.lt
 obtain ⟨a,c,hv,_,_,_⟩:=h.deed x
 rw [hv,h.there_is x] at hlk
 unfold deedV at hlk
 clear h hv
 obtain ⟨d,hd⟩:∃ d,(M x).getD nod=d:=⟨_,rfl⟩
 rw [hd] at hlk
 clear hd
 go_enter Tryz.func149,Tryz.ntmps149
 go_wp2
 go_ret
 exact ⟨rfl,kept_new _ _⟩
theorem has_home_is (x:UInt64) (w:World) (h:HomeAt w F R it ls M b ev v) (r:Bool) (hr:(M x).isSome=r) :
  Calls Tryz.prog 149 #[.pointer (some ⟨R.b,27,none⟩),.int .u64 x.toNat] w fun e w'=>e=.returned (.bool r)∧Below w.heap.size w w':=hr▸has_home x w h
end Go.Proofs.YtlboemhbealnmaaGreat.Ho
