import Derived.Test.YtlboemhbealnmaaGreatP6
import Derived.Test.YtlboemhbealnmaaGreatP2
import Derived.BigQuiet
import Derived.Deep.RegionLaw
set_option maxRecDepth 20000
namespace Go.Proofs.YtlboemhbealnmaaGreat.Tr
open Go.RowKit Go.Maps
structure TS where
 salt:UInt64
 E:UInt64→Option (List TEnt)
 I:Nat→List UInt64
def TS.ents (s:TS) (x:UInt64):List TEnt:=(s.E x).getD []
def upd {α β:Type} [DecidableEq α] (f:α→β) (a:α) (v:β):α→β:=fun x=>if x=a then v else f x
theorem upd_same {α β:Type} [DecidableEq α] (f:α→β) (a:α) (v:β):upd f a v a=v:=if_pos rfl
theorem upd_other {α β:Type} [DecidableEq α] (f:α→β) {a x:α} (v:β) (h:x≠a):upd f a v x=f x:=if_neg h
def trackC (oc:Nat→Value) (salt:UInt64) (b:Nat) (pv:Nat→Value):Array Value:=#[oc 0,oc 1,oc 2,oc 3,oc 4,oc 5,oc 6,oc 7,oc 8,oc 9,oc 10,oc 11,oc 12,oc 13,oc 14,oc 15,oc 16,.int .u64 salt.toNat,.map (some b),pv 0,pv 1,pv 2,pv 3,pv 4,pv 5,pv 6,pv 7,oc 27,oc 28,oc 29,oc 30,oc 31,oc 32,oc 33]
structure TrackAt (w:World) (F:Nat→Prop) (R:Loc) (it:Option It) (s:TS) (b:Nat) (ev:UInt64→Option Value) (pv:Nat→Value):Prop where
 head:w.heap[R.b]?=some (.cells (trackC R.oc s.salt b pv) 88 (0,0))
 map:TMap w b it ev
 ents:∀ x,(ev x=none∧s.E x=none)∨∃ v l,ev x=some v∧s.E x=some l∧OwnEnts w v l
 ids:∀ p,p < 8→OwnIds w 0 (pv p) (s.I p)
 eapart:∀ x y u v g,ev x=some u→ev y=some v→u.ownBlock=some g→v.ownBlock=some g→x=y
 papart:∀ p q g,p < 8→q < 8→(pv p).ownBlock=some g→(pv q).ownBlock=some g→p=q
 fR:F R.b
 fb:F b
 fe:∀ x v g,ev x=some v→v.ownBlock=some g→F g
 fp:∀ p g,p < 8→(pv p).ownBlock=some g→F g
 there:There w F
 out:∀ i,it=some i→¬ F i.r∧i.r < w.heap.size
theorem own_at {w:World} {B:Nat} {e:TypeId} {size n:Nat} {v:Value} {xs:List Value} {g:Nat} (h:w.ownsRow B e size v n xs) (hg:v.ownBlock=some g):∃ cur,w.heap[g]?=some (.cells cur e (0,0)):=by
 rcases h.2 with ⟨hv,_⟩ | ⟨g',cap,cur,hv,_,hh,_⟩
 ·rw [hv] at hg;cases hg
 ·rw [hv] at hg
  simp only [Value.ownBlock,Option.some.injEq] at hg
  subst hg
  exact ⟨cur,hh⟩
theorem own_same {w w':World} {B:Nat} {e:TypeId} {size n:Nat} {v:Value} {xs:List Value} (h:w.ownsRow B e size v n xs) (hs:∀ g,v.ownBlock=some g→w'.heap[g]?=w.heap[g]?):w'.ownsRow B e size v n xs:=by
 refine ⟨h.1,?_⟩
 rcases h.2 with hv | ⟨g,cap,cur,hv,hb,hh,r⟩
 ·exact .inl hv
 ·exact .inr ⟨g,cap,cur,hv,hb,(hs g (by rw [hv];rfl)).trans hh,r⟩
theorem own_turn {w w':World} {G G':Nat→Prop} {B:Nat} {e:TypeId} {size n:Nat} {v:Value} {xs:List Value} (h:w.ownsRow B e size v n xs) (ht:Turn G G' w w') (hn:∀ g,v.ownBlock=some g→¬ G g):w'.ownsRow B e size v n xs:=
 own_same h fun g hg=>ht.block g ((h.lt g hg).2) (hn g hg)
variable {w w':World} {F:Nat→Prop} {R:Loc} {it:Option It} {s:TS} {b:Nat} {ev:UInt64→Option Value} {pv:Nat→Value}
theorem TrackAt.row (h:TrackAt w F R it s b ev pv) {x:UInt64} {v:Value} (hv:ev x=some v):∃ l,s.E x=some l∧OwnEnts w v l:=by
 rcases h.ents x with ⟨h1,_⟩ | ⟨v',l,h1,h2,h3⟩
 ·rw [h1] at hv;cases hv
 ·rw [h1] at hv;cases hv;exact ⟨l,h2,h3⟩
theorem TrackAt.same (h:TrackAt w F R it s b ev pv) (e:∀ k,k < w.heap.size→F k→w'.heap[k]?=w.heap[k]?) (er:∀ i,it=some i→w'.heap[i.r]?=w.heap[i.r]?) (hs:w.heap.size≤w'.heap.size):TrackAt w' F R it s b ev pv where
 head:=(e R.b (h.there R.b h.fR) h.fR).trans h.head
 map:=tmap_same h.map (e b (h.there b h.fb) h.fb) er
 ents:=fun x=>(h.ents x).imp id fun ⟨v,l,h1,h2,h3⟩=>⟨v,l,h1,h2,own_same h3 fun g hg=>e g (h.there g (h.fe x v g h1 hg)) (h.fe x v g h1 hg)⟩
 ids:=fun p hp=>own_same (h.ids p hp) fun g hg=>e g (h.there g (h.fp p g hp hg)) (h.fp p g hp hg)
 eapart:=h.eapart
 papart:=h.papart
 fR:=h.fR
 fb:=h.fb
 fe:=h.fe
 fp:=h.fp
 there:=h.there.later hs
 out:=fun i hi=>⟨(h.out i hi).1,Nat.lt_of_lt_of_le (h.out i hi).2 hs⟩
theorem TrackAt.kept (h:TrackAt w F R it s b ev pv) (hb:Below w.heap.size w w'):TrackAt w' F R it s b ev pv:=
 h.same (fun k hk _=>hb.block k hk) (fun i hi=>hb.block i.r (h.out i hi).2) hb.size
theorem TrackAt.lt (h:TrackAt w F R it s b ev pv):R.b < w.heap.size:=h.there R.b h.fR
theorem head_cell {w:World} {B:Nat} {cs:Array Value} {t:TypeId} {fr:Nat × Nat} (h:w.heap[B]?=some (.cells cs t fr)) (j:Nat):w.cell? ⟨B,j,none⟩=cs[j]?:=by simp [World.cell?,h]
theorem TrackAt.salt (h:TrackAt w F R it s b ev pv):w.cell? ⟨R.b,17,none⟩=some (.int .u64 s.salt.toNat):=head_cell h.head (17)
theorem TrackAt.mapc (h:TrackAt w F R it s b ev pv):w.cell? ⟨R.b,18,none⟩=some (.map (some b)):=head_cell h.head (18)
theorem trackC_at (oc:Nat→Value) (salt:UInt64) (b:Nat) (pv:Nat→Value) (p:Nat) (hp:p < 8):(trackC oc salt b pv)[19+p]?=some (pv p):=by
 match p,hp with
 | 0,_=>rfl
 | 1,_=>rfl
 | 2,_=>rfl
 | 3,_=>rfl
 | 4,_=>rfl
 | 5,_=>rfl
 | 6,_=>rfl
 | 7,_=>rfl
theorem trackC_set (oc:Nat→Value) (salt:UInt64) (b:Nat) (pv:Nat→Value) (p:Nat) (hp:p < 8) (v:Value):(trackC oc salt b pv).setIfInBounds (19+p) v=trackC oc salt b (upd pv p v):=by
 match p,hp with
 | 0,_=>rfl
 | 1,_=>rfl
 | 2,_=>rfl
 | 3,_=>rfl
 | 4,_=>rfl
 | 5,_=>rfl
 | 6,_=>rfl
 | 7,_=>rfl
theorem TrackAt.idc (h:TrackAt w F R it s b ev pv) (p:Nat) (hp:p < 8):w.cell? ⟨R.b,19+p,none⟩=some (pv p)∧w.frozen? ⟨R.b,19+p,none⟩=false:=
 ⟨(head_cell h.head (19+p)).trans (trackC_at _ _ _ _ p hp),frozen_of_row w R.b (19+p) _ _ h.head⟩
theorem TrackAt.look (h:TrackAt w F R it s b ev pv) (x:UInt64):(Instr.lookup 66 (.map (some b)) (.int .u64 x.toNat) false).run Tryz.prog w=.ok ((ev x).getD (.slice none 0 0)) w:=tmap_look h.map x
theorem TrackAt.slice (h:TrackAt w F R it s b ev pv) (x:UInt64):OwnEnts w ((ev x).getD (.slice none 0 0)) (s.ents x):=by
 rcases h.ents x with ⟨h1,h2⟩ | ⟨v,l,h1,h2,h3⟩
 ·rw [h1];unfold TS.ents;rw [h2];exact World.ownsRow_nil _ _ _ _
 ·rw [h1];unfold TS.ents;rw [h2];exact h3
theorem TrackAt.e_ne (h:TrackAt w F R it s b ev pv) {x:UInt64} {v:Value} {g:Nat} (hv:ev x=some v) (hg:v.ownBlock=some g):g≠R.b∧g≠b∧∀ p,p < 8→(pv p).ownBlock≠some g:=by
 obtain ⟨l,_,ho⟩:=h.row hv
 obtain ⟨cur,hc⟩:=own_at ho hg
 refine ⟨fun e=>?_,fun e=>?_,fun p hp e=>?_⟩
 ·rw [e,h.head] at hc;simp at hc
 ·obtain ⟨D,hm,_⟩:=h.map
  obtain ⟨n,es,clock,hb,_⟩:=mapIs_owns hm
  rw [e,hb] at hc;cases hc
 ·obtain ⟨cur',hc'⟩:=own_at (h.ids p hp) e
  rw [hc'] at hc;simp at hc
theorem TrackAt.p_ne (h:TrackAt w F R it s b ev pv) {p g:Nat} (hp:p < 8) (hg:(pv p).ownBlock=some g):g≠R.b∧g≠b∧∀ x v,ev x=some v→v.ownBlock≠some g:=by
 obtain ⟨cur,hc⟩:=own_at (h.ids p hp) hg
 refine ⟨fun e=>?_,fun e=>?_,fun x v hv e=>(h.e_ne hv e).2.2 p hp hg⟩
 ·rw [e,h.head] at hc;simp at hc
 ·obtain ⟨D,hm,_⟩:=h.map
  obtain ⟨n,es,clock,hb,_⟩:=mapIs_owns hm
  rw [e,hb] at hc;cases hc
theorem TrackAt.R_ne (h:TrackAt w F R it s b ev pv):R.b≠b:=fun e=>by
 obtain ⟨D,hm,_⟩:=h.map
 obtain ⟨n,es,clock,hb,_⟩:=mapIs_owns hm
 have:=h.head
 rw [e,hb] at this;cases this
theorem TrackAt.setEnts (h:TrackAt w F R it s b ev pv) {x:UInt64} {v:Value} {g:Nat} {l:List TEnt} (hv:ev x=some v) (hg:v.ownBlock=some g) (ht:Turn (fun k=>k=g) (fun k=>k=g) w w') (ho:OwnEnts w' v l) :
  TrackAt w' F R it { s with E:=upd s.E x (some l) } b ev pv∧Turn F F w w':=by
 obtain ⟨n1,n2,n3⟩:=h.e_ne hv hg
 refine ⟨⟨(ht.block R.b h.lt (fun e=>n1 e.symm)).trans h.head,tmap_same h.map (ht.block b (h.there b h.fb) (fun e=>n2 e.symm)) (fun i hi=>ht.block i.r (h.out i hi).2 (fun e=>(h.out i hi).1 (by rw [e];exact h.fe x v g hv hg))),fun y=>?_,fun p hp=>own_turn (h.ids p hp) ht (fun k hk e=>n3 p hp (by rw [← e];exact hk)),
  h.eapart,h.papart,h.fR,h.fb,h.fe,h.fp,h.there.later ht.size,fun i hi=>⟨(h.out i hi).1,Nat.lt_of_lt_of_le (h.out i hi).2 ht.size⟩⟩,?_⟩
 ·by_cases hy:y=x
  ·subst hy
   exact .inr ⟨v,l,hv,upd_same _ _ _,ho⟩
  ·rcases h.ents y with ⟨h1,h2⟩ | ⟨u,m,h1,h2,h3⟩
   ·exact .inl ⟨h1,(upd_other _ _ hy).trans h2⟩
   ·exact .inr ⟨u,m,h1,(upd_other _ _ hy).trans h2,own_turn h3 ht (fun k hk e=>hy (h.eapart y x u v g h1 hv (by rw [← e];exact hk) hg))⟩
 ·exact ⟨ht.os,ht.tape,ht.output,ht.size,fun k hk hn=>ht.block k hk (fun e=>hn (by rw [e];exact h.fe x v g hv hg)),fun k hk=>.inl hk⟩
theorem TrackAt.setIds (h:TrackAt w F R it s b ev pv) {p:Nat} (hp:p < 8) {v:Value} {l:List UInt64} {G:Nat→Prop} (hG:∀ k,G k→(pv p).ownBlock=some k) (ht:Turn G G w w') (ho:OwnIds w' 0 v l) (hv:∀ k,v.ownBlock=some k→(pv p).ownBlock=some k∨w.heap.size≤k) :
  TrackAt (w'.setCell ⟨R.b,19+p,none⟩ v) (fun k=>F k∨v.ownBlock=some k) R it { s with I:=upd s.I p l } b ev (upd pv p v)∧Turn F (fun k=>F k∨v.ownBlock=some k) w (w'.setCell ⟨R.b,19+p,none⟩ v):=by
 have hnR:¬ G R.b:=fun hg=>(h.p_ne hp (hG R.b hg)).1 rfl
 have hnb:¬ G b:=fun hg=>(h.p_ne hp (hG b hg)).2.1 rfl
 have hlt:∀ k,k < w.heap.size→k < w'.heap.size:=fun k hk=>Nat.lt_of_lt_of_le hk ht.size
 have hset:∀ k,k≠R.b→(w'.setCell ⟨R.b,19+p,none⟩ v).heap[k]?=w'.heap[k]?:=fun k hk=>Below.heap_setCell w' ⟨R.b,19+p,none⟩ v k hk
 have hold:∀ k,k < w.heap.size→k≠R.b→¬ G k→(w'.setCell ⟨R.b,19+p,none⟩ v).heap[k]?=w.heap[k]?:=fun k hk hkR hn=>(hset k hkR).trans (ht.block k hk hn)
 have hvR:∀ k,v.ownBlock=some k→k≠R.b:=fun k hk=>(hv k hk).elim (fun e=>(h.p_ne hp e).1) (fun hle e=>by have:=h.lt;omega)
 have hlater:∀ k,F k∨v.ownBlock=some k→k < (w'.setCell ⟨R.b,19+p,none⟩ v).heap.size:=fun k hk=>by
  rw [World.size_setCell]
  exact hk.elim (fun hf=>hlt k (h.there k hf)) (fun e=>(ho.lt k e).2)
 refine ⟨⟨?_,tmap_same h.map (hold b (h.there b h.fb) (fun e=>h.R_ne e.symm) hnb) (fun i hi=>hold i.r (h.out i hi).2 (fun e=>(h.out i hi).1 (by rw [e];exact h.fR)) (fun hg=>(h.out i hi).1 (h.fp p i.r hp (hG _ hg)))),fun x=>(h.ents x).imp id fun ⟨u,m,h1,h2,h3⟩=>⟨u,m,h1,h2,own_same h3 fun g hg=>hold g (h.there g (h.fe x u g h1 hg)) (h.e_ne h1 hg).1 (fun hk=>(h.e_ne h1 hg).2.2 p hp (hG g hk))⟩,
  fun q hq=>?_,h.eapart,fun q r g hq hr h1 h2=>?_,.inl h.fR,.inl h.fb,fun x u g h1 h2=>.inl (h.fe x u g h1 h2),fun q g hq hg=>?_,hlater,fun i hi=>⟨fun hk=>?_,?_⟩⟩,?_⟩
 ·rw [← trackC_set _ _ _ _ p hp]
  exact heap_setCell_same w' R.b (19+p) _ _ v ((ht.block R.b h.lt hnR).trans h.head)
 ·by_cases hqp:q=p
  ·subst hqp
   show OwnIds _ 0 (upd pv q v q) (upd s.I q l q)
   rw [upd_same,upd_same]
   exact own_same ho fun g hg=>hset g (hvR g hg)
  ·show OwnIds _ 0 (upd pv p v q) (upd s.I p l q)
   rw [upd_other _ _ hqp,upd_other _ _ hqp]
   exact own_same (h.ids q hq) fun g hg=>hold g (h.there g (h.fp q g hq hg)) (h.p_ne hq hg).1 (fun hk=>hqp (h.papart q p g hq hp hg (hG g hk)))
 ·have key:∀ q g,q < 8→q≠p→(upd pv p v q).ownBlock=some g→v.ownBlock≠some g:=fun q g hq hqp h1 h2=>by
   rw [upd_other _ _ hqp] at h1
   exact (hv g h2).elim (fun e=>hqp (h.papart q p g hq hp h1 e)) (fun hle=>by have:=h.there g (h.fp q g hq h1);omega)
  by_cases hqp:q=p
  ·by_cases hrp:r=p
   ·rw [hqp,hrp]
   ·rw [hqp,upd_same] at h1
    exact absurd h1 (key r g hr hrp h2)
  ·by_cases hrp:r=p
   ·rw [hrp,upd_same] at h2
    exact absurd h2 (key q g hq hqp h1)
   ·rw [upd_other _ _ hqp] at h1
    rw [upd_other _ _ hrp] at h2
    exact h.papart q r g hq hr h1 h2
 ·by_cases hqp:q=p
  ·rw [hqp,upd_same] at hg
   exact .inr hg
  ·rw [upd_other _ _ hqp] at hg
   exact .inl (h.fp q g hq hg)
 ·rcases hk with hk | hk
  ·exact (h.out i hi).1 hk
  ·exact (hv _ hk).elim (fun e=>(h.out i hi).1 (h.fp p _ hp e)) (fun hle=>by have:=(h.out i hi).2;omega)
 ·rw [World.size_setCell]
  exact hlt _ (h.out i hi).2
 ·refine ⟨ht.os,ht.tape,ht.output,by rw [World.size_setCell];exact ht.size,fun k hk hn=>hold k hk (fun e=>hn (by rw [e];exact h.fR)) (fun hg=>hn (h.fp p k hp (hG k hg))),fun k hk=>hk.elim .inl (fun e=>(hv k e).elim (fun e'=>.inl (h.fp p k hp e')) .inr)⟩
end Go.Proofs.YtlboemhbealnmaaGreat.Tr
namespace Go.Proofs.YtlboemhbealnmaaGreat.Tr
open Go.RowKit Go.Maps
theorem isPeer_any (p:Int) (w:World):Calls Tryz.prog 74 #[.int .i64 p] w fun e w'=>e=.returned (.bool (decide (0≤p∧p < 8)))∧w=w':=by
 by_cases h1:0≤p
 ·by_cases h2:p < 8
  ·have h3:decide (0≤p∧p < 8)=true:=by simp [h1,h2]
   rw [h3]
   go_enter Tryz.func74,Tryz.ntmps74
   go_wp2
   go_ret
   exact ⟨rfl,rfl⟩
  ·have h3:decide (0≤p∧p < 8)=false:=by simp [h2]
   rw [h3]
   go_enter Tryz.func74,Tryz.ntmps74
   go_wp2
   go_ret
   exact ⟨rfl,rfl⟩
 ·have h3:decide (0≤p∧p < 8)=false:=by simp [h1]
  rw [h3]
  go_enter Tryz.func74,Tryz.ntmps74
  go_wp2
  go_ret
  exact ⟨rfl,rfl⟩
theorem isTime_any (p:Int) (w:World):Calls Tryz.prog 150 #[.int .i64 p] w fun e w'=>e=.returned (.bool (decide (0≤p∧p≤1099511627776)))∧w=w':=by
 by_cases h1:0≤p
 ·by_cases h2:p≤1099511627776
  ·have h3:decide (0≤p∧p≤1099511627776)=true:=by simp [h1,h2]
   rw [h3]
   go_enter Tryz.func150,Tryz.ntmps150
   go_wp2
   go_ret
   exact ⟨rfl,rfl⟩
  ·have h3:decide (0≤p∧p≤1099511627776)=false:=by simp [h2]
   rw [h3]
   go_enter Tryz.func150,Tryz.ntmps150
   go_wp2
   go_ret
   exact ⟨rfl,rfl⟩
 ·have h3:decide (0≤p∧p≤1099511627776)=false:=by simp [h1]
  rw [h3]
  go_enter Tryz.func150,Tryz.ntmps150
  go_wp2
  go_ret
  exact ⟨rfl,rfl⟩
theorem beq_nat (a b:Nat):((a:Int) == (b:Int))=(a == b):=by
 rw [Bool.eq_iff_iff,beq_iff_eq,beq_iff_eq]
 omega
theorem bne_nat (a b:Nat):((a:Int) != (b:Int))=(a != b):=by simp only [bne,beq_nat]
theorem picks_flight:Picks (fun _=>True) 136 #[] (fun e=>e.st == 2):=by
 refine ⟨fun _ _=>by kernel_rfl,fun e w _=>?_⟩
 unfold entV
 have hq:=beq_nat e.st 2
 go_enter Tryz.func136,Tryz.ntmps136
 go_wp2
 go_ret
 exact ⟨ret_bool hq,kept_new _ _⟩
theorem picks_open:Picks (fun _=>True) 138 #[] (fun e=>e.st != 3):=by
 refine ⟨fun _ _=>by kernel_rfl,fun e w _=>?_⟩
 unfold entV
 have hq:=bne_nat e.st 3
 go_enter Tryz.func138,Tryz.ntmps138
 go_wp2
 go_ret
 exact ⟨ret_bool hq,kept_new _ _⟩
theorem picks_unready:Picks (fun _=>True) 201 #[] (fun e=>e.st != 1):=by
 refine ⟨fun _ _=>by kernel_rfl,fun e w _=>?_⟩
 unfold entV
 have hq:=bne_nat e.st 1
 go_enter Tryz.func201,Tryz.ntmps201
 go_wp2
 go_ret
 exact ⟨ret_bool hq,kept_new _ _⟩
def CellIs (c:Nat) (v:Value) (w:World):Prop:=w.cell? ⟨c,0,none⟩=some v
theorem cellIs_kept (c:Nat) (v:Value) (a b:World) (h:CellIs c v a) (hb:Below a.heap.size a b):CellIs c v b:=kept_cell hb h
theorem cellIs_set {c g:Nat} (v:Value) (hc:c≠g) (a:World) (j:Nat) (u:Value) (h:CellIs c v a):CellIs c v (a.setCell ⟨g,j,none⟩ u):=(World.cell?_of_block (a:=⟨c,0,none⟩) (Below.heap_setCell a ⟨g,j,none⟩ u c hc)).trans h
theorem cellIs_new (w:World) (v:Value) (t:TypeId):CellIs w.heap.size v (w.alloc (.cells #[v] t)):=by simp [CellIs,go_sem]
theorem picks_held (c p:Nat):Picks (CellIs c (.int .i64 p)) 151 #[.pointer (some ⟨c,0,none⟩)] (fun e=>e.peer == p):=by
 refine ⟨fun _ _=>by kernel_rfl,fun e w hw=>?_⟩
 unfold entV
 have hc:=cell_spot hw
 have hw:w.cell? ⟨c,0,none⟩=some (.int .i64 p):=hw
 have hlt:c < w.heap.size:=hc.2
 clear hc
 have hq:=beq_nat e.peer p
 show Calls Tryz.prog 151 #[.agg #[.int .i64 e.peer,.int .u64 e.id.toNat,.bool e.pref,.int .i64 e.st,.int .i64 e.till],.pointer (some ⟨c,0,none⟩)] w _
 go_enter Tryz.func151,Tryz.ntmps151
 go_wp2
 go_ret
 exact ⟨rfl,kept_new _ _⟩
theorem picks_drop (c p:Nat):Picks (CellIs c (.int .i64 p)) 82 #[.pointer (some ⟨c,0,none⟩)] (fun e=>e.peer == p):=by
 refine ⟨fun _ _=>by kernel_rfl,fun e w hw=>?_⟩
 unfold entV
 have hc:=cell_spot hw
 have hw:w.cell? ⟨c,0,none⟩=some (.int .i64 p):=hw
 have hlt:c < w.heap.size:=hc.2
 clear hc
 have hq:=beq_nat e.peer p
 show Calls Tryz.prog 82 #[.agg #[.int .i64 e.peer,.int .u64 e.id.toNat,.bool e.pref,.int .i64 e.st,.int .i64 e.till],.pointer (some ⟨c,0,none⟩)] w _
 go_enter Tryz.func82,Tryz.ntmps82
 go_wp2
 go_ret
 exact ⟨rfl,kept_new _ _⟩
theorem picks_forget (c:Nat) (x:UInt64):PicksI (CellIs c (.int .u64 x.toNat)) 184 #[.pointer (some ⟨c,0,none⟩)] (fun y=>y == x):=by
 refine ⟨fun _ _=>by kernel_rfl,fun y w hw=>?_⟩
 have hc:=cell_spot hw
 have hw:w.cell? ⟨c,0,none⟩=some (.int .u64 x.toNat):=hw
 have hlt:c < w.heap.size:=hc.2
 clear hc
 have hq:((y.toNat:Int) == (x.toNat:Int))=(y == x):=u64_beq y x
 show Calls Tryz.prog 184 #[.int .u64 y.toNat,.pointer (some ⟨c,0,none⟩)] w _
 go_enter Tryz.func184,Tryz.ntmps184
 go_wp2
 go_ret
 exact ⟨rfl,Below.refl _ _⟩
variable {F:Nat→Prop} {R:Loc} {it:Option It} {s:TS} {b:Nat} {ev:UInt64→Option Value} {pv:Nat→Value}
def Found (s:TS) (ev:UInt64→Option Value) (x:UInt64) (q:TEnt→Bool) (r:Option Addr):Prop:=
 (r=none∧(s.ents x).findIdx? q=none)∨∃ g n cap i,ev x=some (.slice (some ⟨g,0,none⟩) n cap)∧r=some ⟨g,i * 5,none⟩∧(s.ents x).findIdx? q=some i
def TS.Fine (s:TS):Prop:=(∀ x,(s.ents x).length≤8∧∀ e ∈ s.ents x,e.peer < 8)∧∀ p,p < 8→(s.I p).length≤20
set_option maxRecDepth 20000 in
theorem find_any (K:World→Prop) (hK:∀ a b,K a→Below a.heap.size a b→K b) (f:FuncId) (cap:Array Value) (q:TEnt→Bool) (hp:Picks K f cap q) (x:UInt64) (w:World) (hw:K w) (h:TrackAt w F R it s b ev pv) (hf:s.Fine) :
  Calls Tryz.prog 135 #[.pointer (some ⟨R.b,17,none⟩),.int .u64 x.toNat,.func (.func f) #[] cap] w fun e w'=>∃ r,e=.returned (.pointer r)∧Found s ev x q r∧Below w.heap.size w w':=by
 have hmc:=h.mapc
 have hlk:=h.look x
 have hlt:=h.lt
 obtain ⟨a,cp,hv,hcp,hat⟩:=ownEnts_form (h.slice x)
 have hl8:=(hf.1 x).1
 have HH:=Lib.hid h
 have HV:=Lib.hid hv
 rw [hv] at hlk
 have HP:=Lib.hid hp
 have HK:=Lib.hid hK
 have HW:=Lib.hid hw
 clear h hp hK hw hf hv
 go_enter Tryz.func135,Tryz.ntmps135
 go_wp2_with fail
 refine (indexFunc_any K HK.out f cap q HP.out _ _ _ _ HW.out hl8 hat).mono ?_
 rintro e w1 ⟨rfl,hb1⟩
 cases hx:(s.ents x).findIdx? q with
 | none=>
  have e1:firstAt q (s.ents x)=-1:=by unfold firstAt;rw [hx]
  have HX:=Lib.hid hx
  rw [e1]
  clear hx e1
  go_wp2
  go_ret
  exact ⟨none,rfl,.inl ⟨rfl,HX.out⟩,hb1⟩
 | some i=>
  have e1:firstAt q (s.ents x)=(i:Int):=by unfold firstAt;rw [hx]
  obtain ⟨hi,_⟩:=List.findIdx?_eq_some_iff_getElem.1 hx
  have HX:=Lib.hid hx
  rw [e1]
  obtain ⟨g,o,rfl,hg,hc⟩:=hat i hi
  obtain ⟨c0,_⟩:=entAt_kept hb1 hc
  have hev:ev x=some (.slice (some ⟨g,0,none⟩) (s.ents x).length cp)∧o=0:=by
   have h1:=HV.out
   have h2:=HH.out.slice x
   rcases HH.out.ents x with ⟨h3,h4⟩ | ⟨v,l,h3,h4,h5⟩
   ·rw [h3] at h1
    simp at h1
   ·rw [h3] at h1
    have h1:v=_:=h1
    obtain ⟨g',cap',h6,_⟩:=h5.form (by unfold TS.ents at hi;rw [h4] at hi;exact Nat.lt_of_le_of_lt (Nat.zero_le _) hi)
    rw [h6] at h1
    simp only [Value.slice.injEq,Option.some.injEq,Addr.mk.injEq,and_true] at h1
    obtain ⟨⟨rfl,rfl⟩,h7,rfl⟩:=h1
    exact ⟨by rw [h3,h6,h7],rfl⟩
  obtain ⟨hev,rfl⟩:=hev
  have HEV:=Lib.hid hev
  have hii:¬ ((i:Int) < 0):=by omega
  clear hx e1 hev hat hc c0 hlk hmc
  go_wp2
  go_ret
  exact ⟨_,rfl,.inr ⟨g,_,cp,i,HEV.out,by simp,HX.out⟩,hb1⟩
theorem flight_any (x:UInt64) (w:World) (h:TrackAt w F R it s b ev pv) (hf:s.Fine) :
  Calls Tryz.prog 75 #[.pointer (some ⟨R.b,17,none⟩),.int .u64 x.toNat] w fun e w'=>∃ r,e=.returned (.pointer r)∧Found s ev x (fun e=>e.st == 2) r∧Below w.heap.size w w':=by
 have H:=Lib.hid h
 have HF:=Lib.hid hf
 clear h hf
 go_enter Tryz.func75,Tryz.ntmps75
 go_wp2_with fail
 refine (find_any (fun _=>True) (fun _ _ _ _=>trivial) _ _ _ picks_flight x _ trivial H.out HF.out).mono ?_
 rintro e w1 ⟨r,rfl,hr,hb⟩
 have HR:=Lib.hid hr
 clear hr
 go_wp2_with fail
 go_ret
 exact ⟨r,rfl,HR.out,hb⟩
theorem held_any (p:Nat) (x:UInt64) (w:World) (h:TrackAt w F R it s b ev pv) (hf:s.Fine) :
  Calls Tryz.prog 93 #[.pointer (some ⟨R.b,17,none⟩),.int .i64 p,.int .u64 x.toNat] w fun e w'=>∃ r,e=.returned (.pointer r)∧Found s ev x (fun e=>e.peer == p) r∧Below w.heap.size w w':=by
 have H:=Lib.hid h
 have HF:=Lib.hid hf
 clear h hf
 go_enter Tryz.func93,Tryz.ntmps93
 go_wp2_with fail
 refine (find_any (CellIs w.heap.size (.int .i64 p)) (cellIs_kept _ _) _ _ _ (picks_held w.heap.size p) x _ (cellIs_new _ _ _) (H.out.kept (kept_new _ _)) HF.out).mono ?_
 rintro e w1 ⟨r,rfl,hr,hb⟩
 have HR:=Lib.hid hr
 clear hr
 go_wp2_with fail
 go_ret
 exact ⟨r,rfl,HR.out,kept_trans (kept_new _ _) hb⟩
end Go.Proofs.YtlboemhbealnmaaGreat.Tr
namespace Go.Proofs.YtlboemhbealnmaaGreat.Tr
open Go.RowKit Go.Maps
variable {w:World} {F:Nat→Prop} {R:Loc} {it:Option It} {s:TS} {b:Nat} {ev:UInt64→Option Value} {pv:Nat→Value}
theorem deleteId_nil (K:World→Prop) (hK:∀ a b,K a→Below a.heap.size a b→K b) (f:FuncId) (fc:Array Value) (q:UInt64→Bool) (hp:PicksI K f fc q) (w:World) (hw:K w) :
  Calls Tryz.prog 183 #[.slice none 0 0,.func (.func f) #[] fc] w fun e w'=>e=.returned (.slice none 0 0)∧Below w.heap.size w w':=by
 have HP:=Lib.hid hp
 have HK:=Lib.hid hK
 have HW:=Lib.hid hw
 clear hp hK hw
 go_enter Tryz.func183,Tryz.ntmps183
 go_wp2_with fail
 refine (indexId_any K HK.out f fc q HP.out [] none 0 w HW.out (by decide) (idsAt_nil _ _)).mono ?_
 rintro e w1 ⟨rfl,hb1⟩
 have e1:firstAt q []=-1:=rfl
 rw [e1]
 clear e1
 go_wp2
 go_ret
 exact ⟨rfl,hb1⟩
theorem deleteId_own (K:World→Prop) (hK:∀ a b,K a→Below a.heap.size a b→K b) (f:FuncId) (fc:Array Value) (q:UInt64→Bool) (hp:PicksI K f fc q) (l:List UInt64) (v:Value) (w:World) (hw:K w) (hKs:∀ g,v.ownBlock=some g→∀ a j u,K a→K (a.setCell ⟨g,j,none⟩ u)) (hl:l.length≤20) (ho:OwnIds w 0 v l) :
  Calls Tryz.prog 183 #[v,.func (.func f) #[] fc] w fun e w'=>∃ a n c,e=.returned (.slice a n c)∧OwnIds w' 0 (.slice a n c) (l.filter fun e=>!q e)∧(Value.slice a n c).ownBlock=v.ownBlock∧Turn (fun k=>v.ownBlock=some k) (fun k=>v.ownBlock=some k) w w':=by
 rcases ho.2 with ⟨rfl,hn⟩ | ⟨g,cap,cur,rfl,_,_,_,_,_,_⟩
 ·obtain rfl:l=[]:=List.eq_nil_of_length_eq_zero hn
  exact (deleteId_nil K hK f fc q hp w hw).mono fun e w' ⟨he,hb⟩=>⟨none,0,0,he,World.ownsRow_nil _ _ _ _,rfl,Turn.of_below hb⟩
 ·refine (deleteId_any K hK f fc q hp l g cap w hw (hKs g rfl) hl ho).mono fun e w' ⟨n,c,he,h1,h2⟩=>⟨_,n,c,he,h1,rfl,?_⟩
  have e1:(fun k=>Value.ownBlock (.slice (some ⟨g,0,none⟩) l.length cap)=some k)=fun k=>k=g:=by
   funext k
   simp [Value.ownBlock,eq_comm]
  rw [e1]
  exact h2
def cutIds (x:UInt64) (I:Nat→List UInt64) (l:List TEnt):Nat→List UInt64:=l.foldl (fun I e=>upd I e.peer ((I e.peer).filter fun y=>!(y == x))) I
theorem cutIds_step {x:UInt64} {I:Nat→List UInt64} {l:List TEnt} {k:Nat} (h:k < l.length):cutIds x I (l.take (k+1))=upd (cutIds x I (l.take k)) l[k].peer ((cutIds x I (l.take k) l[k].peer).filter fun y=>!(y == x)):=by
 unfold cutIds
 rw [List.take_succ_eq_append_getElem h,List.foldl_append]
 rfl
theorem cutIds_le {x:UInt64} {n:Nat} {l:List TEnt}:∀ {I:Nat→List UInt64},(∀ p,p < 8→(I p).length≤n)→∀ p,p < 8→(cutIds x I l p).length≤n:=by
 induction l with
 | nil=>exact fun h=>h
 | cons a r ih=>
  intro I h
  refine ih (I:=upd I a.peer _) fun p hp=>?_
  by_cases hpa:p=a.peer
  ·rw [← hpa,upd_same]
   exact Nat.le_trans (List.length_filter_le _ _) (h p hp)
  ·rw [upd_other _ _ hpa]
   exact h p hp
def TS.forget (s:TS) (x:UInt64):TS:={ s with E:=upd s.E x none,I:=cutIds x s.I (s.ents x) }
theorem TrackAt.at (h:TrackAt w F R it s b ev pv) {x:UInt64} {a:Option Addr} {cp:Nat} (hv:(ev x).getD (.slice none 0 0)=.slice a (s.ents x).length cp):EntsAt w a (s.ents x):=by
 obtain ⟨a',cp',hv',_,hat⟩:=ownEnts_form (h.slice x)
 rw [hv] at hv'
 simp only [Value.slice.injEq] at hv'
 rw [hv'.1]
 exact hat
theorem forget_call (x:UInt64) (c p:Nat) (hp:p < 8) (w:World) (h:TrackAt w F R it s b ev pv) (hl:(s.I p).length≤20) (hc:CellIs c (.int .u64 x.toNat) w) (hcF:¬ F c) :
  Calls Tryz.prog 183 #[pv p,.func (.func 184) #[] #[.pointer (some ⟨c,0,none⟩)]] w fun e w'=>∃ a n cp,e=.returned (.slice a n cp)∧(∀ k,k < w.heap.size→¬ F k→w'.heap[k]?=w.heap[k]?) ∧
   (w'.cell? ⟨R.b,19+p,none⟩=some (pv p)∧w'.frozen? ⟨R.b,19+p,none⟩=false∧w.heap.size≤w'.heap.size) ∧
   TrackAt (w'.setCell ⟨R.b,19+p,none⟩ (.slice a n cp)) (fun k=>F k∨(Value.slice a n cp).ownBlock=some k) R it { s with I:=upd s.I p ((s.I p).filter fun y=>!(y == x)) } b ev (upd pv p (.slice a n cp))∧Turn F (fun k=>F k∨(Value.slice a n cp).ownBlock=some k) w (w'.setCell ⟨R.b,19+p,none⟩ (.slice a n cp)):=by
 refine (deleteId_own (CellIs c (.int .u64 x.toNat)) (cellIs_kept _ _) _ _ _ (picks_forget c x) (s.I p) (pv p) w hc (fun g hg=>cellIs_set _ (fun e=>hcF (by rw [e];exact h.fp p g hp hg))) hl (h.ids p hp)).mono ?_
 rintro e w' ⟨a,n,cp,rfl,ho,hob,ht⟩
 obtain ⟨r1,r2⟩:=h.setIds hp (fun k hk=>hk) ht ho (fun k hk=>.inl (by rw [← hob];exact hk))
 have hR:=ht.block R.b h.lt (fun hk=>(h.p_ne hp hk).1 rfl)
 refine ⟨a,n,cp,rfl,fun k hk hn=>ht.block k hk (fun hk'=>hn (h.fp p k hp hk')),⟨?_,?_,ht.size⟩,r1,r2⟩
 ·exact (World.cell?_of_block (a:=⟨R.b,19+p,none⟩) hR).trans (h.idc p hp).1
 ·exact (World.frozen?_of_block (a:=⟨R.b,19+p,none⟩) hR).trans (h.idc p hp).2
theorem TrackAt.deleted (h:TrackAt w F R it s b ev pv) (x:UInt64):∃ w',(∀ ty,(Builtin.delete_ #[66,22] ty #[.map (some b),.int .u64 x.toNat]).run Tryz.prog w=.ok (.tuple #[]) w')∧∃ n,(∀ i,it=some i→n≤i.cnt) ∧
  TrackAt w' F R (it.map fun i=>i.drop x n) { s with E:=upd s.E x none } b (upd ev x none) pv∧Turn F F w w':=by
 obtain ⟨w5,hdel,⟨n,hn,hm5⟩,ht5⟩:=tmap_delete h.map x
 refine ⟨w5,hdel,n,hn,?_,⟨ht5.os,ht5.tape,ht5.output,ht5.size,fun j hj hnj=>ht5.block j hj (fun e=>hnj (by rw [e];exact h.fb)),fun j hj=>.inl hj⟩⟩
 refine ⟨(ht5.block R.b h.lt h.R_ne).trans h.head,hm5,fun y=>?_,fun p hp=>own_turn (h.ids p hp) ht5 (fun g hg e=>(h.p_ne hp hg).2.1 e),fun y z u v g h1 h2 h3 h4=>?_,h.papart,h.fR,h.fb,fun y v g h1 h2=>?_,h.fp,h.there.later ht5.size,fun i hi=>?_⟩
 ·by_cases hy:y=x
  ·exact .inl ⟨by rw [hy,upd_same],by show upd s.E x none y=none;rw [hy,upd_same]⟩
  ·rcases h.ents y with ⟨h1,h2⟩ | ⟨u,m,h1,h2,h3⟩
   ·exact .inl ⟨(upd_other _ _ hy).trans h1,(upd_other _ _ hy).trans h2⟩
   ·exact .inr ⟨u,m,(upd_other _ _ hy).trans h1,(upd_other _ _ hy).trans h2,own_turn h3 ht5 (fun g hg e=>(h.e_ne h1 hg).2.1 e)⟩
 ·have hy:y≠x:=fun e=>by rw [e,upd_same] at h1;cases h1
  have hz:z≠x:=fun e=>by rw [e,upd_same] at h2;cases h2
  rw [upd_other _ _ hy] at h1
  rw [upd_other _ _ hz] at h2
  exact h.eapart y z u v g h1 h2 h3 h4
 ·have hy:y≠x:=fun e=>by rw [e,upd_same] at h1;cases h1
  rw [upd_other _ _ hy] at h1
  exact h.fe y v g h1 h2
 ·cases it with
  | none=>cases hi
  | some j=>
   cases hi
   exact ⟨(h.out j rfl).1,Nat.lt_of_lt_of_le (h.out j rfl).2 ht5.size⟩
theorem box_kept {w w':World} {F:Nat→Prop} {v0 v1 v2 v3 v4:Value} {t:TypeId} (h:∀ k,k < (w.alloc (.cells #[v0,v1,v2,v3,v4] t)).drew.heap.size→¬ F k→w'.heap[k]?=(w.alloc (.cells #[v0,v1,v2,v3,v4] t)).drew.heap[k]?) (hn:¬ F w.heap.size):w'.cell? ⟨w.heap.size,0,none⟩=some v0:=
 (World.cell?_of_block (a:=⟨w.heap.size,0,none⟩) (h w.heap.size (by show _ < (w.alloc _).heap.size;simp) hn)).trans (by show (w.alloc _).cell? _=_;simp [go_sem])
theorem alloc_lt {w w':World} {o:Obj} (h:(w.alloc o).drew.heap.size≤w'.heap.size):w.heap.size < w'.heap.size:=by
 have:(w.alloc o).drew.heap.size=w.heap.size+1:=by show (w.alloc o).heap.size=_;simp
 omega
set_option maxHeartbeats 1600000 in
set_option maxRecDepth 20000 in
theorem forget_any (x:UInt64) (w:World) (h:TrackAt w F R it s b ev pv) (hf:s.Fine) :
  Calls Tryz.prog 139 #[.pointer (some ⟨R.b,17,none⟩),.int .u64 x.toNat] w fun e w'=>e=.returned (.tuple #[])∧∃ F' pv' n,(∀ i,it=some i→n≤i.cnt)∧TrackAt w' F' R (it.map fun i=>i.drop x n) (s.forget x) b (upd ev x none) pv'∧Turn F F' w w'∧∀ q,(∀ e ∈ s.ents x,e.peer≠q)→pv' q=pv q:=by
 have H0:=Lib.hid (h.kept (kept_new w (.cells #[.int .u64 x.toNat] 22)))
 have HFW:=Lib.hid h.there
 have hmc:=h.mapc
 have hlk:=fun n=>(h.kept (below_drewN (kept_new w (.cells #[.int .u64 x.toNat] 22)) n)).look x
 have hlt:=h.lt
 obtain ⟨a,cp,hv,hcp,hat⟩:=ownEnts_form (h.slice x)
 obtain ⟨hl8,hp8⟩:=hf.1 x
 have HF:=Lib.hid hf.2
 have HV:=Lib.hid hv
 have HP8:=Lib.hid hp8
 simp only [hv] at hlk
 clear h hf hv hat hp8
 go_enter Tryz.func139,Tryz.ntmps139
 go_wp2_with fail
 go_quiet (fail)
 generalize hw2:World.drewN (w.alloc (.cells #[.int .u64 x.toNat] 22)) nq=w2
 have hb2:Below w.heap.size w w2:=hw2▸below_drewN (kept_new w (.cells #[.int .u64 x.toNat] 22)) _
 have HC2:Hid (CellIs w.heap.size (.int .u64 x.toNat) w2):=Lib.hid (hw2▸cellIs_kept _ _ _ _ (cellIs_new w _ 22) (below_drewN (Below.refl _ _) _))
 have HS2:Hid (w.heap.size < w2.heap.size):=Lib.hid (by rw [← hw2];simp)
 have H2:Hid (TrackAt w2 F R it s b ev pv):=Lib.hid (hw2▸H0.out.kept (below_drewN (Below.refl _ _) _))
 clear hw2 hlk
 go_wp2_with fail
 go_loopw [13] (fun i wr=>∃ (k:Nat) (F':Nat→Prop) (pv':Nat→Value),k≤(s.ents x).length∧i=.int .i64 k∧Hid (TrackAt wr F' R it { s with I:=cutIds x s.I ((s.ents x).take k) } b ev pv')∧Hid (Turn F F' w wr)∧Hid (CellIs w.heap.size (.int .u64 x.toNat) wr)∧Hid (¬ F' w.heap.size)∧Hid (∀ q,(∀ e ∈ s.ents x,e.peer≠q)→pv' q=pv q)) (fun i _=>(s.ents x).length - (intOf i).toNat)
 case atStart=>exact ⟨0,F,pv,Nat.zero_le _,rfl,H2,Lib.hid (Turn.of_below hb2),HC2,Lib.hid (fun hF=>by have:=HFW.out _ hF;omega),Lib.hid (fun _ _=>rfl)⟩
 case round=>
  obtain ⟨k,F',pv',hk,rfl,H,HT,HC,HN,HQ⟩:=hrel
  by_cases hlt:k < (s.ents x).length
  ·have hat:EntsAt wr a (s.ents x):=H.out.at HV.out
   obtain ⟨g,o,rfl,hg,hc5⟩:=hat k hlt
   clear hat
   have hp:(s.ents x)[k].peer < 8:=HP8.out _ (List.getElem_mem hlt)
   obtain ⟨e0,he0⟩:∃ e0,(s.ents x)[k]=e0:=⟨_,rfl⟩
   rw [he0] at hc5 hp
   obtain ⟨c0,c1,c2,c3,c4⟩:=hc5
   have HE0:=Lib.hid he0
   clear he0
   have hpi:(e0.peer:Int) < 8:=by omega
   have H3:=Lib.hid (H.out.kept (kept_new wr (.cells #[.int .i64 e0.peer,.int .u64 e0.id.toNat,.bool e0.pref,.int .i64 e0.st,.int .i64 e0.till] 142)))
   obtain ⟨i0,i1⟩:=H3.out.idc _ hp
   have hwlt:w.heap.size < wr.heap.size:=(cell_spot HC.out).2
   have hRlt:R.b < wr.heap.size:=H.out.lt
   have hl20:=cutIds_le (x:=x) (l:=(s.ents x).take k) HF.out _ hp
   have HD:=Lib.hid (H3.out.kept (w':=(wr.alloc (.cells #[.int .i64 e0.peer,.int .u64 e0.id.toNat,.bool e0.pref,.int .i64 e0.st,.int .i64 e0.till] 142)).drew) ((Below.refl _ _).drew))
   have HCD:Hid (CellIs w.heap.size (.int .u64 x.toNat) (wr.alloc (.cells #[.int .i64 e0.peer,.int .u64 e0.id.toNat,.bool e0.pref,.int .i64 e0.st,.int .i64 e0.till] 142)).drew):=Lib.hid (cellIs_kept _ _ _ _ HC.out ((kept_new _ _).drew))
   have HNB:Hid (¬ F' wr.heap.size):=Lib.hid (fun hF=>by have:=H.out.there _ hF;omega)
   go_wp2_with fail
   go_region_law (first
    | (go_simp;go_at_call 183;(with_reducible refine (forget_call x w.heap.size e0.peer hp _ HD.out hl20 HCD.out HN.out).mono ?_);rintro e w1 ⟨a1,n1,cp1,rfl,hk1,⟨j0,j1,jz⟩,t1,u1⟩;have d0:=box_kept hk1 HNB.out;have T1:=Lib.hid t1;have U1:=Lib.hid u1;have HK1:=Lib.hid hk1;clear t1 u1 hk1;have hz1:=alloc_lt jz;have hz2:=Nat.lt_trans hRlt hz1))
   all_goals
    go_wp2_with fail
    go_roundw
    case rel=>
     have hUT:=(HT.out.trans (Turn.of_below ((kept_new _ _).drew))).trans U1.out
     have hwd:w.heap.size < (wr.alloc (.cells #[.int .i64 e0.peer,.int .u64 e0.id.toNat,.bool e0.pref,.int .i64 e0.st,.int .i64 e0.till] 142)).drew.heap.size:=by
      show _ < (wr.alloc _).heap.size
      simp
      omega
     refine ⟨k+1,_,upd pv' e0.peer (.slice a1 n1 cp1),by omega,by go_num,Lib.hid ?_,Lib.hid hUT,Lib.hid ?_,Lib.hid (fun hF=>?_),Lib.hid (fun q hq=>?_)⟩
     ·have:=T1.out
      rw [cutIds_step hlt,HE0.out]
      exact this
     ·refine (World.cell?_of_block (a:=⟨w.heap.size,0,none⟩) ?_).trans HCD.out
      exact (Below.heap_setCell _ _ _ _ (fun e=>HN.out (by rw [show w.heap.size=R.b from e];exact H.out.fR))).trans (HK1.out _ hwd HN.out)
     ·rcases U1.out.own _ hF with hF | hF
      ·exact HN.out hF
      ·omega
     ·rw [upd_other _ _ (fun e=>hq _ (List.getElem_mem hlt) (by rw [HE0.out];exact e.symm))]
      exact HQ.out q hq
    case measure=>simp [intOf];omega
  ·obtain ⟨wd,hwd⟩:∃ wd,wr.drew=wd:=⟨_,rfl⟩
   have hbd:Below wr.heap.size wr wd:=hwd▸(Below.refl _ _).drew
   have HD:=H.out.kept hbd
   have hmd:=HD.mapc
   have hRd:=HD.lt
   have hcd:wd.cell? ⟨w.heap.size,0,none⟩=some (.int .u64 x.toNat):=cellIs_kept _ _ _ _ HC.out hbd
   have hwdl:w.heap.size < wd.heap.size:=(cell_spot hcd).2
   obtain ⟨w5,hdel,n,hn,hm5,ht5⟩:=HD.deleted x
   have he:(s.ents x).take k=s.ents x:=List.take_of_length_le (by omega)
   have HE:Hid (∃ F' pv' n,(∀ i,it=some i→n≤i.cnt)∧TrackAt w5 F' R (it.map fun i=>i.drop x n) (s.forget x) b (upd ev x none) pv'∧Turn F F' w w5∧∀ q,(∀ e ∈ s.ents x,e.peer≠q)→pv' q=pv q):=Lib.hid (by
    refine ⟨F',pv',n,hn,?_,(HT.out.trans (Turn.of_below hbd)).trans ht5,HQ.out⟩
    rw [he] at hm5
    exact hm5)
   have HWD:=Lib.hid hwd
   clear hwd HD hn hm5 ht5 he hbd
   go_wp2_with fail
   refine region_tail 5 (by kernel_rfl) (by kernel_rfl) HWD.out ?_
   simp only [List.take_succ_cons,List.take_zero,List.drop_succ_cons,List.drop_zero]
   repeat still_step
   refine wpStill_nil ?_
   go_wp2_with fail
   go_end0
   exact ⟨rfl,HE.out⟩
def TS.settle (s:TS) (x:UInt64):TS:=if (s.ents x).all (fun e=>e.st == 3) then s.forget x else s
theorem found_open {s:TS} {ev:UInt64→Option Value} {x:UInt64} {r:Option Addr} (h:Found s ev x (fun e=>e.st != 3) r):(r=none∧s.settle x=s.forget x)∨(∃ a,r=some a)∧s.settle x=s:=by
 rcases h with ⟨h1,h2⟩ | ⟨g,n,cap,i,_,h1,h2⟩
 ·refine .inl ⟨h1,if_pos ?_⟩
  rw [List.all_eq_true]
  intro e he
  have:=List.findIdx?_eq_none_iff.1 h2 e he
  simpa using this
 ·refine .inr ⟨⟨_,h1⟩,if_neg ?_⟩
  intro ha
  obtain ⟨hi,h3,_⟩:=List.findIdx?_eq_some_iff_getElem.1 h2
  have h4:=List.all_eq_true.1 ha _ (List.getElem_mem hi)
  simp at h3 h4
  exact h3 h4
def ItStep (it it':Option It) (x:UInt64):Prop:=it'=it∨∃ n,(∀ i,it=some i→n≤i.cnt)∧it'=it.map fun i=>i.drop x n
theorem settle_any (x:UInt64) (w:World) (h:TrackAt w F R it s b ev pv) (hf:s.Fine) :
  Calls Tryz.prog 83 #[.pointer (some ⟨R.b,17,none⟩),.int .u64 x.toNat] w fun e w'=>e=.returned (.tuple #[])∧∃ F' it' ev' pv',ItStep it it' x∧TrackAt w' F' R it' (s.settle x) b ev' pv'∧Turn F F' w w'∧∀ q,(∀ e ∈ s.ents x,e.peer≠q)→pv' q=pv q:=by
 have H:=Lib.hid h
 have HF:=Lib.hid hf
 clear h hf
 go_enter Tryz.func83,Tryz.ntmps83
 go_wp2_with fail
 refine (find_any (fun _=>True) (fun _ _ _ _=>trivial) _ _ _ picks_open x _ trivial H.out HF.out).mono ?_
 rintro e w1 ⟨r,rfl,hr,hb⟩
 rcases found_open hr with ⟨rfl,hs⟩ | ⟨⟨a,rfl⟩,hs⟩
 ·have HS:=Lib.hid hs
  clear hr hs
  go_wp2_with fail
  with_reducible refine (forget_any x _ (H.out.kept hb) HF.out).mono ?_
  rintro e w2 ⟨rfl,F',pv',n,hn,h2,t2,q2⟩
  have H2:=Lib.hid h2
  have T2:=Lib.hid t2
  have HN:=Lib.hid hn
  have HQ:=Lib.hid q2
  clear h2 t2 hn q2
  go_wp2_with fail
  go_end0
  exact ⟨rfl,F',_,_,pv',.inr ⟨n,HN.out,rfl⟩,by rw [HS.out];exact H2.out,(Turn.of_below hb).trans T2.out,HQ.out⟩
 ·have HS:=Lib.hid hs
  clear hr hs
  go_wp2_with fail
  go_end0
  exact ⟨rfl,F,it,ev,pv,.inl rfl,by rw [HS.out];exact H.out.kept hb,Turn.of_below hb,fun _ _=>rfl⟩
end Go.Proofs.YtlboemhbealnmaaGreat.Tr
