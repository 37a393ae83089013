import Derived.Test.YtlboemhbealnmaaGreatP8
import Derived.Shelf.SlMaps.Clone
import Derived.Deep.CutRange
import Derived.Test.YtlboemhbealnmaaGreatP1
set_option maxRecDepth 20000
namespace Go.Proofs.YtlboemhbealnmaaGreat.Tr
open Go.RowKit Go.Maps
variable {w w':World} {F:Nat→Prop} {R:Loc} {it:Option It} {s:TS} {b:Nat} {ev:UInt64→Option Value} {pv:Nat→Value}
def TS.Small (s:TS):Prop:=∃ ks:List UInt64,ks.length≤1000∧∀ x,(s.E x).isSome=true→x ∈ ks
theorem TrackAt.put (h:TrackAt w F R none s b ev pv) (hs:s.Small) {x:UInt64} {v:Value} {l:List TEnt} {G:Nat→Prop} (hG:∀ k,G k→∃ u,ev x=some u∧u.ownBlock=some k) (ht:Turn G G w w') (ho:OwnEnts w' v l) (hv:∀ k,v.ownBlock=some k→(∃ u,ev x=some u∧u.ownBlock=some k)∨w.heap.size≤k) :
  ∃ w2,(Instr.mapUpdate 66 (.map (some b)) (.int .u64 x.toNat) v).run Tryz.prog w'=.ok () w2∧TrackAt w2 (fun k=>F k∨v.ownBlock=some k) R none { s with E:=upd s.E x (some l) } b (upd ev x (some v)) pv∧Turn F (fun k=>F k∨v.ownBlock=some k) w w2:=by
 have hGF:∀ k,G k→F k:=fun k hk=>by obtain ⟨u,h1,h2⟩:=hG k hk;exact h.fe x u k h1 h2
 have hGR:¬ G R.b:=fun hk=>by obtain ⟨u,h1,h2⟩:=hG R.b hk;exact (h.e_ne h1 h2).1 rfl
 have hGb:¬ G b:=fun hk=>by obtain ⟨u,h1,h2⟩:=hG b hk;exact (h.e_ne h1 h2).2.1 rfl
 have hm1:TMap w' b none ev:=tmap_same h.map (ht.block b (h.there b h.fb) hGb) (fun i hi=>by cases hi)
 obtain ⟨ks,hkl,hks⟩:=hs
 obtain ⟨w2,hrun,hm2,ht2⟩:=tmap_put hm1 ks (fun y hy=>hks y (by
  rcases h.ents y with ⟨h1,h2⟩ | ⟨u,m,h1,h2,_⟩
  ·rw [h1] at hy;cases hy
  ·rw [h2];rfl)) hkl x v
 have hold:∀ k,k < w.heap.size→k≠b→¬ G k→w2.heap[k]?=w.heap[k]?:=fun k hk hkb hn=>(ht2.block k (Nat.lt_of_lt_of_le hk ht.size) hkb).trans (ht.block k hk hn)
 have hvb:∀ k,v.ownBlock=some k→k≠b:=fun k hk=>(hv k hk).elim (fun ⟨u,h1,h2⟩=>(h.e_ne h1 h2).2.1) (fun hle e=>by have:=h.there b h.fb;omega)
 refine ⟨w2,hrun,⟨?_,hm2,fun y=>?_,fun p hp=>own_same (h.ids p hp) fun g hg=>hold g (h.there g (h.fp p g hp hg)) (h.p_ne hp hg).2.1 (fun hk=>by obtain ⟨u,h1,h2⟩:=hG g hk;exact (h.p_ne hp hg).2.2 x u h1 h2),fun y z u t g h1 h2 h3 h4=>?_,h.papart,.inl h.fR,.inl h.fb,fun y u g h1 h2=>?_,fun p g hp hg=>.inl (h.fp p g hp hg),fun k hk=>?_,fun i hi=>by cases hi⟩,?_⟩
 ·exact (hold R.b h.lt h.R_ne hGR).trans h.head
 ·by_cases hy:y=x
  ·subst hy
   exact .inr ⟨v,l,upd_same _ _ _,upd_same _ _ _,own_turn ho ht2 (fun g hg e=>hvb g hg e)⟩
  ·rcases h.ents y with ⟨h1,h2⟩ | ⟨u,m,h1,h2,h3⟩
   ·exact .inl ⟨(upd_other _ _ hy).trans h1,(upd_other _ _ hy).trans h2⟩
   ·exact .inr ⟨u,m,(upd_other _ _ hy).trans h1,(upd_other _ _ hy).trans h2,own_same h3 fun g hg=>hold g (h.there g (h.fe y u g h1 hg)) (h.e_ne h1 hg).2.1 (fun hk=>by obtain ⟨t,t1,t2⟩:=hG g hk;exact hy (h.eapart y x u t g h1 t1 hg t2))⟩
 ·have key:∀ y u g,y≠x→upd ev x (some v) y=some u→u.ownBlock=some g→v.ownBlock≠some g:=fun y u g hy h1 h2 h3=>by
   rw [upd_other _ _ hy] at h1
   exact (hv g h3).elim (fun ⟨t,t1,t2⟩=>hy (h.eapart y x u t g h1 t1 h2 t2)) (fun hle=>by have:=h.there g (h.fe y u g h1 h2);omega)
  by_cases hy:y=x
  ·by_cases hz:z=x
   ·rw [hy,hz]
   ·rw [hy,upd_same] at h1
    cases h1
    exact absurd h3 (key z t g hz h2 h4)
  ·by_cases hz:z=x
   ·rw [hz,upd_same] at h2
    cases h2
    exact absurd h4 (key y u g hy h1 h3)
   ·rw [upd_other _ _ hy] at h1
    rw [upd_other _ _ hz] at h2
    exact h.eapart y z u t g h1 h2 h3 h4
 ·by_cases hy:y=x
  ·rw [hy,upd_same] at h1
   cases h1
   exact .inr h2
  ·rw [upd_other _ _ hy] at h1
   exact .inl (h.fe y u g h1 h2)
 ·refine Nat.lt_of_lt_of_le ?_ ht2.size
  exact hk.elim (fun hf=>Nat.lt_of_lt_of_le (h.there k hf) ht.size) (fun e=>(ho.lt k e).2)
 ·exact ⟨ht2.os.trans ht.os,ht2.tape.trans ht.tape,ht2.output.trans ht.output,Nat.le_trans ht.size ht2.size,fun k hk hn=>hold k hk (fun e=>hn (by rw [e];exact h.fb)) (fun hg=>hn (hGF k hg)),fun k hk=>hk.elim .inl (fun e=>(hv k e).elim (fun ⟨u,h1,h2⟩=>.inl (h.fe x u k h1 h2)) .inr)⟩
def TS.lone (s:TS) (p:Nat) (y:UInt64):List TEnt:=(s.ents y).filter fun e=>!(e.peer == p)
def TS.loneDone (s:TS) (p:Nat) (y:UInt64):Bool:=(s.lone p y).all fun e=>e.st == 3
def TS.dropPart (s:TS) (p:Nat) (xs:List UInt64):TS where
 salt:=s.salt
 E:=fun y=>if xs.contains y then (if s.loneDone p y then none else some (s.lone p y)) else s.E y
 I:=fun q=>if q=p then s.I p else (s.I q).filter fun y=>!(xs.contains y && s.loneDone p y)
def TS.drop (s:TS) (p:Nat):TS:={ s.dropPart p (s.I p) with I:=upd (s.dropPart p (s.I p)).I p [] }
theorem cutIds_none {x:UInt64} {p:Nat}:∀ {l:List TEnt} {I:Nat→List UInt64},(∀ e ∈ l,e.peer≠p)→cutIds x I l p=I p
 | [],_,_=>rfl
 | a :: r,I,h=>by
  show cutIds x (upd I a.peer _) r p=_
  rw [cutIds_none (fun e he=>h e (by simp [he])),upd_other _ _ (fun e=>h a (by simp) e.symm)]
theorem drop_ents {p:Nat} {xs:List UInt64} {x:UInt64} (hx:xs.contains x=false):(s.dropPart p xs).E x=s.E x∧(s.dropPart p xs).ents x=s.ents x:=by
 have h1:(s.dropPart p xs).E x=s.E x:=by
  show (if xs.contains x then _ else _)=_
  rw [hx]
  rfl
 exact ⟨h1,by unfold TS.ents;rw [h1]⟩
theorem contains_snoc (xs:List UInt64) (x y:UInt64):(xs ++ [x]).contains y=(xs.contains y || y == x):=by
 rw [Bool.eq_iff_iff]
 simp
theorem drop_step (hl:s.Linked) {p:Nat} {xs:List UInt64} {x:UInt64} (hx:xs.contains x=false) :
  (∀ y,(TS.settle { s.dropPart p xs with E:=upd (s.dropPart p xs).E x (some (s.lone p x)) } x).E y=(s.dropPart p (xs ++ [x])).E y)∧∀ q,q < 8→(TS.settle { s.dropPart p xs with E:=upd (s.dropPart p xs).E x (some (s.lone p x)) } x).I q=(s.dropPart p (xs ++ [x])).I q:=by
 have hents:TS.ents { s.dropPart p xs with E:=upd (s.dropPart p xs).E x (some (s.lone p x)) } x=s.lone p x:=by show Option.getD (upd _ x _ x) []=_;rw [upd_same];rfl
 have hsame:(xs ++ [x]).contains x=true:=by rw [contains_snoc];simp
 have hoth:∀ y,y≠x→(xs ++ [x]).contains y=xs.contains y:=fun y hy=>by rw [contains_snoc];simp [hy]
 unfold TS.settle
 rw [hents]
 change (∀ y,(if s.loneDone p x=true then _ else _:TS).E y=_)∧∀ q,q < 8→(if s.loneDone p x=true then _ else _:TS).I q=_
 cases hg:s.loneDone p x with
 | true=>
  rw [if_pos rfl]
  refine ⟨fun y=>?_,fun q hq=>?_⟩
  ·show upd (upd (s.dropPart p xs).E x _) x none y=if (xs ++ [x]).contains y then (if s.loneDone p y then none else _) else _
   by_cases hy:y=x
   ·subst hy
    rw [upd_same,hsame,hg]
    rfl
   ·rw [upd_other _ _ hy,upd_other _ _ hy,hoth y hy]
    rfl
  ·show cutIds x (s.dropPart p xs).I (TS.ents _ x) q=if q=p then s.I p else _
   rw [hents]
   by_cases hqp:q=p
   ·rw [if_pos hqp,cutIds_none (fun e he=>by
     have:=(List.mem_filter.1 he).2
     rw [hqp]
     simpa using this)]
    exact if_pos hqp
   ·rw [if_neg hqp,cutIds_at]
    ·show List.filter _ (if q=p then s.I p else _)=_
     rw [if_neg hqp,List.filter_filter]
     refine List.filter_congr fun y _=>?_
     by_cases hy:y=x
     ·subst hy
      rw [hsame,hg]
      simp
     ·rw [hoth y hy]
      simp [hy]
    ·intro hm
     have hm:x ∈ (if q=p then s.I p else (s.I q).filter fun y=>!(xs.contains y && s.loneDone p y)):=hm
     rw [if_neg hqp] at hm
     obtain ⟨e,he,hep⟩:=hl q hq x (List.mem_filter.1 hm).1
     refine ⟨e,List.mem_filter.2 ⟨he,?_⟩,hep⟩
     rw [hep]
     simpa using hqp
 | false=>
  rw [if_neg (by decide)]
  refine ⟨fun y=>?_,fun q _=>?_⟩
  ·show upd (s.dropPart p xs).E x _ y=if (xs ++ [x]).contains y then (if s.loneDone p y then none else _) else _
   by_cases hy:y=x
   ·subst hy
    rw [upd_same,hsame,hg]
    rfl
   ·rw [upd_other _ _ hy,hoth y hy]
    rfl
  ·show (if q=p then s.I p else _)=if q=p then s.I p else _
   by_cases hqp:q=p
   ·rw [if_pos hqp,if_pos hqp]
   ·rw [if_neg hqp,if_neg hqp]
    refine List.filter_congr fun y _=>?_
    by_cases hy:y=x
    ·subst hy
     rw [hsame,hg,hx]
     rfl
    ·rw [hoth y hy]
theorem lone_fine (hf:s.Fine) (p:Nat) (y:UInt64):(s.lone p y).length≤8∧∀ e ∈ s.lone p y,e.peer < 8:=
 ⟨Nat.le_trans (List.length_filter_le _ _) (hf.1 y).1,fun e he=>(hf.1 y).2 e (List.mem_filter.1 he).1⟩
theorem drop_fine (hf:s.Fine) (p:Nat) (hp:p < 8) (xs:List UInt64):(s.dropPart p xs).Fine:=by
 refine ⟨fun x=>?_,fun q hq=>?_⟩
 ·have:(s.dropPart p xs).ents x=if xs.contains x then (if s.loneDone p x then [] else s.lone p x) else s.ents x:=by
   show Option.getD (if xs.contains x then (if s.loneDone p x then none else some (s.lone p x)) else s.E x) []=_
   split
   ·split <;> rfl
   ·rfl
  rw [this]
  split
  ·split
   ·exact ⟨by simp,fun e he=>by simp at he⟩
   ·exact lone_fine hf p x
  ·exact hf.1 x
 ·show List.length (if q=p then s.I p else _)≤20
  split
  ·exact hf.2 p hp
  ·exact Nat.le_trans (List.length_filter_le _ _) (hf.2 q hq)
theorem drop_small (hs:s.Small) (hl:s.Linked) (p:Nat) (hp:p < 8) (xs:List UInt64) (hx:∀ x ∈ xs,x ∈ s.I p):(s.dropPart p xs).Small:=by
 obtain ⟨ks,h1,h2⟩:=hs
 refine ⟨ks,h1,fun y hy=>?_⟩
 have hy:(if xs.contains y then (if s.loneDone p y then none else some (s.lone p y)) else s.E y).isSome=true:=hy
 cases hc:xs.contains y with
 | false=>rw [hc] at hy;exact h2 y hy
 | true=>
  obtain ⟨e,he,_⟩:=hl p hp y (hx y (List.contains_iff_mem.1 hc))
  refine h2 y ?_
  cases hE:s.E y with
  | some l=>rfl
  | none=>unfold TS.ents at he;rw [hE] at he;simp at he
theorem drop_call (x:UInt64) (c p:Nat) (w:World) (h:TrackAt w F R none s b ev pv) (hs:s.Small) {g n cap:Nat} (hv:ev x=some (.slice (some ⟨g,0,none⟩) n cap)) {l:List TEnt} (hE:s.E x=some l) (hl:l.length≤8) (hc:CellIs c (.int .i64 p) w) (hcF:¬ F c) :
  Calls Tryz.prog 81 #[.slice (some ⟨g,0,none⟩) n cap,.func (.func 82) #[] #[.pointer (some ⟨c,0,none⟩)]] w fun e w'=>∃ m cp,e=.returned (.slice (some ⟨g,0,none⟩) m cp)∧(w'.cell? ⟨R.b,18,none⟩=some (.map (some b))∧R.b < w'.heap.size) ∧
   ∃ w2,(Instr.mapUpdate 66 (.map (some b)) (.int .u64 x.toNat) (.slice (some ⟨g,0,none⟩) m cp)).run Tryz.prog w'=.ok () w2∧TrackAt w2 F R none { s with E:=upd s.E x (some (l.filter fun e=>!(e.peer == p))) } b (upd ev x (some (.slice (some ⟨g,0,none⟩) m cp))) pv∧Turn F F w w2:=by
 obtain ⟨l',hE',ho⟩:=h.row hv
 obtain rfl:l=l':=Option.some.inj (hE.symm.trans hE')
 obtain ⟨a0,c0,e0,hc0,_⟩:=ownEnts_form ho
 simp only [Value.slice.injEq] at e0
 obtain ⟨_,rfl,_⟩:=e0
 refine (deleteFunc_any (CellIs c (.int .i64 p)) (cellIs_kept _ _) _ _ _ (picks_drop c p) l g cap w hc (fun a j u=>cellIs_set _ (fun e=>hcF (by rw [e];exact h.fe x _ g hv rfl)) a j u) hl ho).mono ?_
 rintro e w' ⟨m,cp,rfl,ho',ht⟩
 have hgg:∀ k,k=g→∃ u,ev x=some u∧u.ownBlock=some k:=fun k hk=>⟨_,hv,by rw [hk];rfl⟩
 obtain ⟨w2,hrun,h2,t2⟩:=h.put hs hgg ht ho' (fun k hk=>.inl (hgg k (by simpa [Value.ownBlock] using hk.symm)))
 have hR:=ht.block R.b h.lt (fun e=>(h.e_ne hv rfl).1 e.symm)
 have hsub:(fun k=>F k∨Value.ownBlock (.slice (some ⟨g,0,none⟩) m cp)=some k)=F:=by
  funext k
  refine propext ⟨fun hk=>hk.elim id (fun e=>?_),.inl⟩
  have:g=k:=by simpa [Value.ownBlock] using e
  rw [← this]
  exact h.fe x _ g hv rfl
 rw [hsub] at h2 t2
 exact ⟨m,cp,rfl,⟨(World.cell?_of_block (a:=⟨R.b,18,none⟩) hR).trans h.mapc,Nat.lt_of_lt_of_le h.lt ht.size⟩,w2,hrun,h2,t2⟩
end Go.Proofs.YtlboemhbealnmaaGreat.Tr
namespace Go.Proofs.YtlboemhbealnmaaGreat.Tr
open Go.RowKit Go.Maps
variable {w w':World} {F:Nat→Prop} {R:Loc} {it:Option It} {s:TS} {b:Nat} {ev:UInt64→Option Value} {pv:Nat→Value}
theorem drop_arg (p:Int) (h:¬ (0≤p∧p < 8)) (w:World) :
  Calls Tryz.prog 44 #[.pointer (some ⟨R.b,17,none⟩),.int .i64 p] w fun e w'=>e=.returned (.int .i64 1)∧Below w.heap.size w w':=by
 have HP:=Lib.hid h
 clear h
 go_enter Tryz.func44,Tryz.ntmps44
 go_wp2_with fail
 with_reducible refine (isPeer_no p HP.out _).mono ?_
 rintro e w1 ⟨rfl,rfl⟩
 go_wp2_with fail
 go_ret
 exact ⟨rfl,kept_new _ _⟩
theorem take_contains_nodup {l:List UInt64} (h:l.Nodup) {k:Nat} (hk:k < l.length):(l.take k).contains l[k]=false:=by
 rw [← Bool.not_eq_true,List.contains_iff_mem]
 intro hm
 obtain ⟨j,hj,e⟩:=List.mem_take_iff_getElem.1 hm
 have:=List.pairwise_iff_getElem.1 h j k (by omega) hk (by omega)
 exact this e
set_option maxRecDepth 20000 in
set_option maxHeartbeats 1600000 in
theorem drop_any (p:Nat) (hp:p < 8) (w:World) (h:TrackAt w F R none s b ev pv) (hf:s.Fine) (hl:s.Linked) (hs:s.Small) (hn:(s.I p).Nodup) :
  Calls Tryz.prog 44 #[.pointer (some ⟨R.b,17,none⟩),.int .i64 p] w fun e w'=>e=.returned (.int .i64 0)∧∃ F',TrackIn w' F' R (s.drop p)∧Turn F F' w w':=by
 have hpi:(p:Int) < 8:=by omega
 have hlt:=h.lt
 obtain ⟨i0,_⟩:=h.idc p hp
 obtain ⟨a,cp,hv,hcp,hat,_⟩:=owns_idsAt (h.ids p hp)
 rw [hv] at i0
 have H:=Lib.hid h
 have HF:=Lib.hid hf
 have HL:=Lib.hid hl
 have HS:=Lib.hid hs
 have HN:=Lib.hid hn
 have HV:=Lib.hid hv
 have hl20:=hf.2 p hp
 clear h hf hl hs hn hv hat
 go_enter Tryz.func44,Tryz.ntmps44
 go_wp2_with fail
 with_reducible refine (isPeer_yes p p rfl hp _).mono ?_
 rintro e w1 ⟨rfl,rfl⟩
 go_wp2_with fail
 go_quiet (fail)
 generalize hw2:World.drewN (w.alloc (.cells #[.int .i64 p] 3)) nq=w2
 have hb2:Below w.heap.size w w2:=hw2▸below_drewN (kept_new w (.cells #[.int .i64 p] 3)) _
 have HC2:Hid (CellIs w.heap.size (.int .i64 p) w2):=Lib.hid (hw2▸cellIs_kept _ _ _ _ (cellIs_new w _ 3) (below_drewN (Below.refl _ _) _))
 have H2:Hid (TrackAt w2 F R none s b ev pv):=Lib.hid (H.out.kept hb2)
 clear hw2
 go_wp2_with fail
 go_loopw [17] (fun i wr=>∃ (k:Nat) (F':Nat→Prop) (ev':UInt64→Option Value) (pv':Nat→Value),k≤(s.I p).length∧i=.int .i64 k∧Hid (TrackAt wr F' R none (s.dropPart p ((s.I p).take k)) b ev' pv')∧Hid (pv' p=pv p)∧Hid (Turn F F' w wr)∧Hid (CellIs w.heap.size (.int .i64 p) wr)∧Hid (¬ F' w.heap.size)) (fun i _=>(s.I p).length - (intOf i).toNat)
 case atStart=>
  refine ⟨0,F,ev,pv,Nat.zero_le _,rfl,Lib.hid (H2.out.as rfl (fun y=>rfl) (fun q _=>?_)),Lib.hid rfl,Lib.hid (Turn.of_below hb2),HC2,Lib.hid (fun hF=>absurd (H.out.there w.heap.size hF) (Nat.lt_irrefl _))⟩
  show _=if q=p then s.I p else (s.I q).filter _
  split
  ·rename_i e;rw [e]
  ·rw [List.filter_eq_self.2]
   intro y _
   rfl
 case round=>
  obtain ⟨k,F',ev',pv',hk,rfl,HT,HPV,HU,HC,HNF⟩:=hrel
  have hclt:w.heap.size < wr.heap.size:=(cell_spot HC.out).2
  have hRlt:R.b < wr.heap.size:=HT.out.lt
  by_cases hkl:k < (s.I p).length
  ·have hid:OwnIds wr 0 (.slice a (s.I p).length cp) (s.I p):=by
    have h1:=HT.out.ids p hp
    have h2:(s.dropPart p ((s.I p).take k)).I p=s.I p:=if_pos rfl
    rw [h2,HPV.out,HV.out] at h1
    exact h1
   obtain ⟨a',cp',e',_,hat,_⟩:=owns_idsAt hid
   simp only [Value.slice.injEq] at e'
   obtain ⟨rfl,_,rfl⟩:=e'
   obtain ⟨g,o,rfl,hg,c0⟩:=hat k hkl
   clear hid hat
   have hnc:=take_contains_nodup HN.out hkl
   obtain ⟨x,hx⟩:∃ x,(s.I p)[k]=x:=⟨_,rfl⟩
   have hxm:x ∈ s.I p:=hx▸List.getElem_mem hkl
   rw [hx] at c0 hnc
   have HX:=Lib.hid hx
   obtain ⟨hE1,hE2⟩:=drop_ents (s:=s) (p:=p) hnc
   obtain ⟨e1,he1,_⟩:=HL.out p hp x hxm
   obtain ⟨l,hl⟩:∃ l,s.E x=some l:=by
    cases hE:s.E x with
    | some l=>exact ⟨l,rfl⟩
    | none=>unfold TS.ents at he1;rw [hE] at he1;simp at he1
   have hse:s.ents x=l:=by unfold TS.ents;rw [hl];rfl
   have hEl:(s.dropPart p ((s.I p).take k)).E x=some l:=hE1.trans hl
   obtain ⟨g2,n2,cap2,hev⟩:∃ g n cap,ev' x=some (.slice (some ⟨g,0,none⟩) n cap):=by
    rcases HT.out.ents x with ⟨_,h2⟩ | ⟨v,m,h1,h2,h3⟩
    ·rw [hEl] at h2;cases h2
    ·have:l=m:=Option.some.inj (hEl.symm.trans h2)
     subst this
     obtain ⟨g,cap,e,_⟩:=h3.form (by rw [← hse];exact List.length_pos_of_mem he1)
     exact ⟨g,_,cap,by rw [h1,e]⟩
   have hlk:=(HT.out.kept (w':=wr.drew) ((Below.refl _ _).drew)).look x
   rw [hev,Option.getD_some] at hlk
   have hmc:=HT.out.mapc
   have hl8:l.length≤8:=by rw [← hse];exact (HF.out.1 x).1
   have HSM:=Lib.hid (drop_small HS.out HL.out p hp ((s.I p).take k) (fun y hy=>List.mem_of_mem_take hy))
   have HEL:=Lib.hid hEl
   have HEV:=Lib.hid hev
   have HNC:=Lib.hid hnc
   have HSE:=Lib.hid hse
   have HD:=Lib.hid (HT.out.kept (w':=wr.drew) ((Below.refl _ _).drew))
   have HCD:Hid (CellIs w.heap.size (.int .i64 p) wr.drew):=Lib.hid (cellIs_kept _ _ _ _ HC.out ((Below.refl _ _).drew))
   clear hx hxm hE1 hE2 he1 hl hse hEl hev hnc
   go_wp2_with fail
   go_region_law (first
    | (go_simp;go_at_call 81;(with_reducible refine (drop_call x w.heap.size p _ HD.out HSM.out HEV.out HEL.out hl8 HCD.out HNF.out).mono ?_);rintro e w3 ⟨m3,cp3,rfl,⟨j0,j1⟩,w4,hput,t4,u4⟩;have T4:=Lib.hid t4;have U4:=Lib.hid u4;clear t4 u4))
   all_goals
    go_wp2_with fail
    have hlone:l.filter (fun e=>!(e.peer == p))=s.lone p x:=by unfold TS.lone;rw [HSE.out]
    have t5:=T4.out
    rw [hlone] at t5
    have hents:TS.ents { s.dropPart p ((s.I p).take k) with E:=upd (s.dropPart p ((s.I p).take k)).E x (some (s.lone p x)) } x=s.lone p x:=by show Option.getD (upd _ x _ x) []=_;rw [upd_same];rfl
    with_reducible refine (settle_any x _ t5 (upd_fine (drop_fine HF.out p hp _) (lone_fine HF.out p x).1 (lone_fine HF.out p x).2)).mono ?_
    rintro e w6 ⟨rfl,F6,it6,ev6,pv6,hit6,h6,t6,q6⟩
    have hn6:=step_none hit6
    subst hn6
    have HEND:Hid (∃ F' ev' pv',TrackAt w6 F' R none (s.dropPart p ((s.I p).take (k+1))) b ev' pv'∧pv' p=pv p∧Turn F F' w w6∧CellIs w.heap.size (.int .i64 p) w6∧¬ F' w.heap.size):=Lib.hid (by
     obtain ⟨s1,s2⟩:=drop_step (s:=s) (p:=p) HL.out HNC.out
     refine ⟨F6,ev6,pv6,?_,?_,(HU.out.trans (Turn.of_below ((Below.refl _ _).drew))).trans (U4.out.trans t6),?_,fun hF=>?_⟩
     ·have:=h6.as (s':=s.dropPart p ((s.I p).take k ++ [x])) (by unfold TS.settle;split <;> rfl) s1 s2
      rw [← HX.out,← List.take_succ_eq_append_getElem hkl] at this
      exact this
     ·rw [q6 p (fun e he=>by rw [hents] at he;have:=(List.mem_filter.1 he).2;simpa using this)]
      exact HPV.out
     ·have u6:=U4.out.trans t6
      exact (World.cell?_of_block (a:=⟨w.heap.size,0,none⟩) (u6.block w.heap.size (show w.heap.size < wr.heap.size from hclt) HNF.out)).trans HCD.out
     ·have u6:=U4.out.trans t6
      rcases u6.own _ hF with h1 | h1
      ·exact HNF.out h1
      ·have:wr.drew.heap.size=wr.heap.size:=rfl
       omega)
    clear t5 hents hlone hit6 h6 t6 q6
    go_wp2_with fail
    obtain ⟨F7,ev7,pv7,z1,z2,z3,z4,z5⟩:=HEND.out
    go_roundw
    case rel=>exact ⟨k+1,F7,ev7,pv7,by omega,by go_num,Lib.hid z1,Lib.hid z2,Lib.hid z3,Lib.hid z4,Lib.hid z5⟩
    case measure=>simp [intOf];omega
  ·have he:(s.I p).take k=s.I p:=List.take_of_length_le (by omega)
   have HT':=HT.out
   rw [he] at HT'
   obtain ⟨wd,hwd⟩:∃ wd,wr.drew=wd:=⟨_,rfl⟩
   have hbd:Below wr.heap.size wr wd:=hwd▸(Below.refl _ _).drew
   have HD:=HT'.kept hbd
   have hRd:=HD.lt
   have hcd:wd.cell? ⟨w.heap.size,0,none⟩=some (.int .i64 p):=cellIs_kept _ _ _ _ HC.out hbd
   have hwdl:w.heap.size < wd.heap.size:=(cell_spot hcd).2
   obtain ⟨j0,j1⟩:=HD.idc p hp
   have hTd:Turn (fun _=>False) (fun _=>False) wd wd:=⟨rfl,rfl,rfl,Nat.le_refl _,fun _ _ _=>rfl,fun _ h=>h.elim⟩
   obtain ⟨r1,r2⟩:=HD.setIds hp (v:=.slice none 0 0) (l:=[]) (fun _ h=>h.elim) hTd (World.ownsRow_nil _ _ _ _) (fun k hk=>by cases hk)
   have HE:Hid (∃ F',TrackIn (wd.setCell ⟨R.b,19+p,none⟩ (.slice none 0 0)) F' R (s.drop p)∧Turn F F' w (wd.setCell ⟨R.b,19+p,none⟩ (.slice none 0 0))):=Lib.hid ⟨_,⟨b,ev',_,r1⟩,(HU.out.trans (Turn.of_below hbd)).trans r2⟩
   have HWD:=Lib.hid hwd
   clear hwd HD HT' he hbd hTd r1 r2
   go_wp2_with fail
   refine region_tail 5 (by kernel_rfl) (by kernel_rfl) HWD.out ?_
   simp only [List.take_succ_cons,List.take_zero,List.drop_succ_cons,List.drop_zero]
   repeat still_step
   refine wpStill_nil ?_
   go_wp2_with fail
   go_ret
   exact ⟨rfl,HE.out⟩
end Go.Proofs.YtlboemhbealnmaaGreat.Tr
namespace Go.Proofs.YtlboemhbealnmaaGreat.Tr
open Go.RowKit Go.Maps
variable {w w':World} {F:Nat→Prop} {R:Loc} {it:Option It} {s:TS} {b:Nat} {ev:UInt64→Option Value} {pv:Nat→Value}
theorem map_not_nil (w:World) (b:Nat):(binOp .eql 66 (.map (some b)) (.map none)).run Tryz.prog w=.ok (.bool false) w:=run_eql_map_nil_sl (P:=Tryz.prog) w 66 _ _ (some b) Tryz.underlying66
theorem info_ent:(Tryz.prog.info? 142).map (fun i=>(i.zero,i.size,i.bytes))=some (some (.agg #[.int .i64 0,.int .u64 0,.bool false,.int .i64 0,.int .i64 0]),5,40):=by kernel_rfl
theorem announce_arg (p t:Int) (h:¬ (0≤p∧p < 8)∨¬ goodT t) (x:UInt64) (f:Bool) (w:World) :
  Calls Tryz.prog 92 #[.pointer (some ⟨R.b,17,none⟩),.int .i64 p,.int .u64 x.toNat,.int .i64 t,.bool f] w fun e w'=>e=.returned (.int .i64 1)∧w=w':=by
 by_cases hp:0≤p∧p < 8
 ·have ht:¬ goodT t:=h.resolve_left (fun hn=>hn hp)
  obtain ⟨n,rfl⟩:∃ n:Nat,p=n:=⟨p.toNat,by omega⟩
  have hn8:n < 8:=by omega
  have HT:=Lib.hid ht
  clear h ht hp
  go_enter Tryz.func92,Tryz.ntmps92
  go_wp2_with fail
  with_reducible refine (isPeer_yes n n rfl hn8 _).mono ?_
  rintro e w1 ⟨rfl,rfl⟩
  go_wp2_with fail
  with_reducible refine (isTime_no t HT.out _).mono ?_
  rintro e w1 ⟨rfl,rfl⟩
  go_wp2_with fail
  go_ret
  exact ⟨rfl,rfl⟩
 ·have HP:=Lib.hid hp
  clear h hp
  go_enter Tryz.func92,Tryz.ntmps92
  go_wp2_with fail
  with_reducible refine (isPeer_no p HP.out _).mono ?_
  rintro e w1 ⟨rfl,rfl⟩
  go_wp2_with fail
  go_ret
  exact ⟨rfl,rfl⟩
def TS.announce (s:TS) (p:Nat) (x:UInt64) (t:Int) (f:Bool):Int × TS:=
 match (s.ents x).findIdx? (fun e=>e.peer == p) with
 | some _=>(6,s)
 | none=>if 20≤(s.I p).length then (2,s) else (0,⟨s.salt,upd s.E x (some (s.ents x ++ [⟨p,x,f,0,t⟩])),upd s.I p (s.I p ++ [x])⟩)
theorem announce_put (h:TrackAt w F R none s b ev pv) (hs:s.Small) {x:UInt64} {e:TEnt} {g cap:Nat} {o:Obj} (hg:(w.alloc o).grownBy w' ((ev x).getD (.slice none 0 0)).ownBlock) (ho:w'.ownsRow 0 142 5 (.slice (some ⟨g,0,none⟩) ((s.ents x).length+1) cap) ((s.ents x).length+1) (entsC (s.ents x) ++ entC e)) (hat:((ev x).getD (.slice none 0 0)).ownBlock=some g∨g=w.heap.size+1) :
  (w'.cell? ⟨R.b,18,none⟩=some (.map (some b))∧R.b < w'.heap.size)∧∃ w2,(Instr.mapUpdate 66 (.map (some b)) (.int .u64 x.toNat) (.slice (some ⟨g,0,none⟩) ((s.ents x).length+1) cap)).run Tryz.prog w'=.ok () w2 ∧
   ∃ F' ev',TrackAt w2 F' R none { s with E:=upd s.E x (some (s.ents x ++ [e])) } b ev' pv∧Turn F F' w w2:=by
 have hG:∀ k,((ev x).getD (.slice none 0 0)).ownBlock=some k→∃ u,ev x=some u∧u.ownBlock=some k:=fun k hk=>by
  cases hx:ev x with
  | none=>rw [hx] at hk;cases hk
  | some u=>rw [hx] at hk;exact ⟨u,rfl,hk⟩
 have ht:Turn (fun k=>((ev x).getD (.slice none 0 0)).ownBlock=some k) (fun k=>((ev x).getD (.slice none 0 0)).ownBlock=some k) w w':=(Turn.of_below (kept_new w o)).trans (Turn.of_grown hg (fun k hk=>hk))
 have ho':OwnEnts w' (.slice (some ⟨g,0,none⟩) ((s.ents x).length+1) cap) (s.ents x ++ [e]):=by
  unfold OwnEnts
  rw [List.length_append,entsC_append]
  have:entsC [e]=entC e:=by simp [entsC]
  rw [this]
  exact ho
 obtain ⟨w2,hrun,h2,t2⟩:=h.put hs hG ht ho' (fun k hk=>by
  have hk:g=k:=by simpa [Value.ownBlock] using hk
  rcases hat with h1 | h1
  ·exact .inl (hG k (by rw [← hk];exact h1))
  ·exact .inr (by omega))
 have hR:=ht.block R.b h.lt (fun hk=>by obtain ⟨u,h1,h2⟩:=hG R.b hk;exact (h.e_ne h1 h2).1 rfl)
 exact ⟨⟨(World.cell?_of_block (a:=⟨R.b,18,none⟩) hR).trans h.mapc,Nat.lt_of_lt_of_le h.lt ht.size⟩,w2,hrun,_,_,h2,t2⟩
theorem announce_ids (h:TrackAt w F R none s b ev pv) {p:Nat} (hp:p < 8) {x:UInt64} {g cap:Nat} {o:Obj} (hg:(w.alloc o).grownBy w' (pv p).ownBlock) (ho:w'.ownsRow 0 22 1 (.slice (some ⟨g,0,none⟩) ((s.I p).length+1) cap) ((s.I p).length+1) ((s.I p).map idV ++ [.int .u64 x.toNat])) (hat:(pv p).ownBlock=some g∨g=w.heap.size+1) :
  (w'.cell? ⟨R.b,19+p,none⟩=some (pv p)∧w'.frozen? ⟨R.b,19+p,none⟩=false∧R.b < w'.heap.size) ∧
   ∃ F',TrackIn (w'.setCell ⟨R.b,19+p,none⟩ (.slice (some ⟨g,0,none⟩) ((s.I p).length+1) cap)) F' R { s with I:=upd s.I p (s.I p ++ [x]) }∧Turn F F' w (w'.setCell ⟨R.b,19+p,none⟩ (.slice (some ⟨g,0,none⟩) ((s.I p).length+1) cap)):=by
 have ht:Turn (fun k=>(pv p).ownBlock=some k) (fun k=>(pv p).ownBlock=some k) w w':=(Turn.of_below (kept_new w o)).trans (Turn.of_grown hg (fun k hk=>hk))
 have ho':OwnIds w' 0 (.slice (some ⟨g,0,none⟩) ((s.I p).length+1) cap) (s.I p ++ [x]):=by
  unfold OwnIds
  rw [List.length_append,List.map_append]
  exact ho
 obtain ⟨h2,t2⟩:=h.setIds hp (fun k hk=>hk) ht ho' (fun k hk=>by
  have hk:g=k:=by simpa [Value.ownBlock] using hk
  rcases hat with h1 | h1
  ·exact .inl (by rw [← hk];exact h1)
  ·exact .inr (by omega))
 have hR:=ht.block R.b h.lt (fun hk=>(h.p_ne hp hk).1 rfl)
 exact ⟨⟨(World.cell?_of_block (a:=⟨R.b,19+p,none⟩) hR).trans (h.idc p hp).1,(World.frozen?_of_block (a:=⟨R.b,19+p,none⟩) hR).trans (h.idc p hp).2,Nat.lt_of_lt_of_le h.lt ht.size⟩,_,⟨_,_,_,h2⟩,t2⟩
set_option maxRecDepth 20000 in
set_option maxHeartbeats 1600000 in
theorem announce_any (p:Nat) (hp:p < 8) (x:UInt64) (t:Int) (ht:goodT t) (f:Bool) (w:World) (h:TrackAt w F R none s b ev pv) (hf:s.Fine) (hs:s.Small) :
  Calls Tryz.prog 92 #[.pointer (some ⟨R.b,17,none⟩),.int .i64 p,.int .u64 x.toNat,.int .i64 t,.bool f] w fun e w'=>e=.returned (.int .i64 (s.announce p x t f).1)∧∃ F',TrackIn w' F' R (s.announce p x t f).2∧Turn F F' w w':=by
 have hpi:(p:Int) < 8:=by omega
 have H:=Lib.hid h
 have HF:=Lib.hid hf
 have HT:=Lib.hid ht
 have HS:=Lib.hid hs
 have hl8:=(hf.1 x).1
 have hl20:=hf.2 p hp
 clear h hf ht hs
 go_enter Tryz.func92,Tryz.ntmps92
 go_wp2_with fail
 with_reducible refine (isPeer_yes p p rfl hp _).mono ?_
 rintro e w1 ⟨rfl,rfl⟩
 go_wp2_with fail
 with_reducible refine (isTime_yes t HT.out _).mono ?_
 rintro e w1 ⟨rfl,rfl⟩
 go_wp2_with fail
 with_reducible refine (held_any p x _ H.out HF.out).mono ?_
 rintro e w1 ⟨r,rfl,hr,hb1⟩
 rcases hr with ⟨rfl,hr⟩ | ⟨g,n,cap,i,he,rfl,hr⟩
 ·have H1:=H.out.kept hb1
  obtain ⟨i0,_⟩:=H1.idc p hp
  obtain ⟨a,cp,hv,hcp,hat,_⟩:=owns_idsAt (H1.ids p hp)
  rw [hv] at i0
  have hRlt:=H1.lt
  by_cases hfull:20≤(s.I p).length
  ·have HA:Hid (s.announce p x t f=(2,s)):=Lib.hid (by unfold TS.announce;rw [hr];exact if_pos hfull)
   have hfi:((s.I p).length:Int) ≥ 20:=by omega
   have HH1:=Lib.hid H1
   clear H1 hr hat hv
   go_wp2_with fail
   go_ret
   rw [HA.out]
   exact ⟨rfl,F,⟨b,ev,pv,HH1.out⟩,Turn.of_below hb1⟩
  ·have HA:Hid (s.announce p x t f=(0,⟨s.salt,upd s.E x (some (s.ents x ++ [⟨p,x,f,0,t⟩])),upd s.I p (s.I p ++ [x])⟩)):=Lib.hid (by unfold TS.announce;rw [hr];exact if_neg hfull)
   have hfi:¬ ((s.I p).length:Int) ≥ 20:=by omega
   have hmc:=H1.mapc
   have hlk:=(H1.kept (w':=w1.drew) ((Below.refl _ _).drew)).look x
   obtain ⟨v,hvx⟩:∃ v,(ev x).getD (.slice none 0 0)=v:=⟨_,rfl⟩
   have hlk2:=(H1.kept (w':=(w1.alloc (.cells #[.int .i64 p,.int .u64 x.toNat,.bool f,.int .i64 0,.int .i64 t] 142)).drew) ((kept_new _ _).drew)).look x
   rw [hvx] at hlk hlk2
   have HVX:=Lib.hid hvx
   have HD:=Lib.hid (H1.kept (w':=w1.drew) ((Below.refl _ _).drew))
   have HO:Hid (OwnEnts w1.drew v (s.ents x)):=Lib.hid (hvx▸HD.out.slice x)
   have hnn:=map_not_nil
   obtain ⟨iE,hiE,hz0,hz1,hz2⟩:=info_parts info_ent
   obtain ⟨iU,hiU,hy0,hy1,hy2⟩:=info_parts info_u64
   have hone:∀ u ∈ entC ⟨p,x,f,0,t⟩,u.oneCell'=true:=by simp [entC,Value.oneCell']
   have HH1:=Lib.hid H1
   clear H1 hr hat hv hvx
   go_upto_region 9 with fail
   go_cut [] from 44 to 61 (fun wx=>Hid (∃ F4 ev4,TrackAt wx F4 R none { s with E:=upd s.E x (some (s.ents x ++ [⟨p,x,f,0,t⟩])) } b ev4 pv∧Turn F F4 w wx))
   case first=>
    go_region_law (first
     | (refine step_append_lies _ (by rfl) _ _ _ (by rfl) 0 142 iE _ 5 40 Tryz.underlying148 hiE hz0 hz1 hz2 rfl (by omega) v (s.ents x).length _ (by rfl) (HO.out.alloc _) ⟨w1.drew.heap.size,0,none⟩ 1 1 (entC ⟨p,x,f,0,t⟩) (by rfl) (by rfl) (cells_new w1.drew _ _) hone (by omega) (by unfold maxLen;omega) (by omega) (by omega) _ rfl ?_;intro g cap w3 hown3 hgrow3 hat3 hlt3;obtain ⟨⟨j0,j1⟩,w4,hput,F4,ev4,t4,u4⟩:=announce_put HD.out HS.out (x:=x) (e:=⟨p,x,f,0,t⟩) (by rw [HVX.out];exact hgrow3) hown3 (by rw [HVX.out];exact hat3.imp id (fun e=>e.trans (by simp)));have T4:=Lib.hid t4;have U4:=Lib.hid u4;clear t4 u4 hown3 hgrow3 hat3 hlt3))
    all_goals
     go_wp2_with fail
     go_meet
     case rel=>exact Lib.hid ⟨F4,ev4,T4.out,((Turn.of_below hb1).trans (Turn.of_below ((Below.refl _ _).drew))).trans U4.out⟩
   case rest=>
    obtain ⟨F4,ev4,T4',U4'⟩:=hcut.out
    have T4:=Lib.hid T4'
    have U4:=Lib.hid U4'
    obtain ⟨k0,k1⟩:=T4.out.idc p hp
    have hR4:=T4.out.lt
    obtain ⟨a',cp',hv',hcp',_,_⟩:=owns_idsAt (T4.out.ids p hp)
    have hv':pv p=.slice a' (s.I p).length cp':=hv'
    have HV':=Lib.hid hv'
    rw [hv'] at k0
    have HD4:=Lib.hid (T4.out.kept (w':=wc.drew) ((Below.refl _ _).drew))
    have HO4:Hid (OwnIds wc.drew 0 (.slice a' (s.I p).length cp') (s.I p)):=Lib.hid (hv'▸HD4.out.ids p hp)
    have hone2:∀ u ∈ [Value.int .u64 x.toNat],u.oneCell'=true:=by simp [Value.oneCell']
    clear hv' hlk hlk2 hnn hmc T4' U4'
    go_wp2_with fail
    go_region_law (first
     | (refine step_append_lies _ (by rfl) _ _ _ (by rfl) 0 22 iU _ 1 8 Tryz.underlying39 hiU hy0 hy1 hy2 rfl (by omega) (.slice a' (s.I p).length cp') (s.I p).length _ (by rfl) (HO4.out.alloc _) ⟨wc.drew.heap.size,0,none⟩ 1 1 [.int .u64 x.toNat] (by rfl) (by rfl) (cells_new wc.drew _ _) hone2 (by omega) (by unfold maxLen;omega) (by omega) (by omega) _ rfl ?_;intro g5 cap5 w5 hown5 hgrow5 hat5 hlt5;obtain ⟨⟨l0,l1,l2⟩,F6,t6,u6⟩:=announce_ids HD4.out hp (x:=x) (by rw [HV'.out];exact hgrow5) hown5 (by rw [HV'.out];exact hat5.imp id (fun e=>e.trans (by simp)));have T6:=Lib.hid t6;have U6:=Lib.hid u6;clear t6 u6 hown5 hgrow5 hat5 hlt5))
    all_goals
     go_wp2_with fail
     go_ret
     rw [HA.out]
     exact ⟨rfl,F6,T6.out,U4.out.trans ((Turn.of_below ((Below.refl _ _).drew)).trans U6.out)⟩
 ·have HA:Hid (s.announce p x t f=(6,s)):=Lib.hid (by unfold TS.announce;rw [hr])
  clear hr he
  go_wp2_with fail
  go_ret
  rw [HA.out]
  exact ⟨rfl,F,⟨b,ev,pv,H.out.kept hb1⟩,Turn.of_below hb1⟩
end Go.Proofs.YtlboemhbealnmaaGreat.Tr
namespace Go.Proofs.YtlboemhbealnmaaGreat.Tr
open Go.RowKit
theorem k1_u64 (a:UInt64):IntKind.u64.wrap ((a.toNat:Int) * 11400714819323198485)=((a * 11400714819323198485).toNat:Int):=wrap_mul_u64 a 11400714819323198485
theorem k2_u64 (a:UInt64):IntKind.u64.wrap ((a.toNat:Int) * 13787848793156543929)=((a * 13787848793156543929).toNat:Int):=wrap_mul_u64 a 13787848793156543929
theorem k3_u64 (a:UInt64):IntKind.u64.wrap ((a.toNat:Int) * 10723151780598845931)=((a * 10723151780598845931).toNat:Int):=wrap_mul_u64 a 10723151780598845931
theorem s30_u64 (a:UInt64):IntKind.u64.wrap ((a.toNat:Int).tdiv 1073741824)=((a >>> 30).toNat:Int):=by
 rw [show (1073741824:Int)=2 ^ 30 from by decide,tdiv_u64 a 30 (by decide),wrap_self_u64];rfl
theorem s27_u64 (a:UInt64):IntKind.u64.wrap ((a.toNat:Int).tdiv 134217728)=((a >>> 27).toNat:Int):=by
 rw [show (134217728:Int)=2 ^ 27 from by decide,tdiv_u64 a 27 (by decide),wrap_self_u64];rfl
theorem s31_u64 (a:UInt64):IntKind.u64.wrap ((a.toNat:Int).tdiv 2147483648)=((a >>> 31).toNat:Int):=by
 rw [show (2147483648:Int)=2 ^ 31 from by decide,tdiv_u64 a 31 (by decide),wrap_self_u64];rfl
theorem fold_any (x:UInt64) (n:Int) (w:World) (h0:0≤n) (h1:n < 64) :
  Calls Tryz.prog 234 #[.int .u64 x.toNat,.int .u64 n] w fun e w'=>e=.returned (.int .u64 (foldU x (UInt64.ofNat n.toNat)).toNat)∧w=w':=by
 have hx:=u64_bd x
 go_enter Tryz.func234,Tryz.ntmps234
 go_wp2
 go_ret
 refine ⟨ret_u64 ?_,rfl⟩
 rw [shr_u64 x n.toNat (by omega),xor_u64]
 rfl
theorem mix_any (a b c:UInt64) (w:World) :
  Calls Tryz.prog 231 #[.int .u64 a.toNat,.int .u64 b.toNat,.int .u64 c.toNat] w fun e w'=>e=.returned (.int .u64 (mixU a b c).toNat)∧w=w':=by
 go_enter Tryz.func231,Tryz.ntmps231
 go_wp2_with fail
 rw [k1_u64,wrap_add_u64]
 with_reducible refine (fold_any _ _ _ (by decide) (by decide)).mono ?_
 rintro e w' ⟨rfl,rfl⟩
 go_wp2_with fail
 rw [k2_u64,wrap_add_u64]
 with_reducible refine (fold_any _ _ _ (by decide) (by decide)).mono ?_
 rintro e w' ⟨rfl,rfl⟩
 go_wp2_with fail
 rw [k3_u64]
 with_reducible refine (fold_any _ _ _ (by decide) (by decide)).mono ?_
 rintro e w' ⟨rfl,rfl⟩
 go_wp2_with fail
 go_ret
 exact ⟨rfl,rfl⟩
theorem refMix_any (a b c:UInt64) (w:World) :
  Calls Tryz.prog 182 #[.int .u64 a.toNat,.int .u64 b.toNat,.int .u64 c.toNat] w fun e w'=>e=.returned (.int .u64 (mixU a b c).toNat)∧w=w':=by
 go_enter Tryz.func182,Tryz.ntmps182
 go_wp2
 go_ret
 refine ⟨ret_u64 ?_,rfl⟩
 simp only [k1_u64,k2_u64,k3_u64,wrap_add_u64,s30_u64,s27_u64,s31_u64,xor_u64]
 rfl
end Go.Proofs.YtlboemhbealnmaaGreat.Tr
