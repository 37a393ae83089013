import Derived.Test.YtlboemhbealnmaaGreatP7
set_option maxRecDepth 20000
namespace Go.Proofs.YtlboemhbealnmaaGreat.Tr
open Go.RowKit Go.Maps
variable {w:World} {F:Nat→Prop} {R:Loc} {it:Option It} {s:TS} {b:Nat} {ev:UInt64→Option Value} {pv:Nat→Value}
def dueE (now:Int) (e:TEnt):TEnt:=if e.till≤now then (if e.st=0 then { e with st:=1 } else if e.st=2 then { e with st:=3 } else e) else e
theorem set_same {α:Type} {l:List α} {k:Nat} {v:α} (h:l[k]?=some v):l.set k v=l:=by
 apply List.ext_getElem?
 intro i
 rw [List.getElem?_set]
 split
 ·rename_i e
  subst e
  split
  ·exact h.symm
  ·rename_i hk
   rw [List.getElem?_eq_none (by omega)]
 ·rfl
theorem entsC_st (l:List TEnt) (i:Nat) (h:i < l.length) (k:Nat):entsC (l.set i { l[i] with st:=k })=(entsC l).set (i * 5+3) (.int .i64 k):=by
 have h0:=entsC_at l i h 0 (by omega)
 have h1:=entsC_at l i h 1 (by omega)
 have h2:=entsC_at l i h 2 (by omega)
 have h4:=entsC_at l i h 4 (by omega)
 rw [entsC_set,set_same (k:=i * 5) h0,set_same (k:=i * 5+1) h1,set_same (k:=i * 5+2) h2]
 refine set_same ?_
 rw [List.getElem?_set_ne (by omega)]
 exact h4
theorem entsC_till (l:List TEnt) (i:Nat) (h:i < l.length) (t:Int):entsC (l.set i { l[i] with till:=t })=(entsC l).set (i * 5+4) (.int .i64 t):=by
 have h0:=entsC_at l i h 0 (by omega)
 have h1:=entsC_at l i h 1 (by omega)
 have h2:=entsC_at l i h 2 (by omega)
 have h3:=entsC_at l i h 3 (by omega)
 rw [entsC_set,set_same (k:=i * 5) h0,set_same (k:=i * 5+1) h1,set_same (k:=i * 5+2) h2,set_same (k:=i * 5+3) h3]
theorem st_stored {g cap n:Nat} {m:List TEnt} (ho:OwnEnts w (.slice (some ⟨g,0,none⟩) n cap) m) (hn:m.length=n) (i:Nat) (hi:i < m.length) (k:Nat):OwnEnts (w.setCell ⟨g,i * 5+3,none⟩ (.int .i64 k)) (.slice (some ⟨g,0,none⟩) n cap) (m.set i { m[i] with st:=k })∧Turn (fun j=>j=g) (fun j=>j=g) w (w.setCell ⟨g,i * 5+3,none⟩ (.int .i64 k)):=by
 subst hn
 refine ⟨?_,Turn.set (F:=fun j=>j=g) w ⟨g,i * 5+3,none⟩ _ rfl⟩
 unfold OwnEnts
 rw [entsC_st m i hi,List.length_set]
 exact (ho.stored _ _).1
theorem till_stored {g cap n:Nat} {m:List TEnt} (ho:OwnEnts w (.slice (some ⟨g,0,none⟩) n cap) m) (hn:m.length=n) (i:Nat) (hi:i < m.length) (t:Int):OwnEnts (w.setCell ⟨g,i * 5+4,none⟩ (.int .i64 t)) (.slice (some ⟨g,0,none⟩) n cap) (m.set i { m[i] with till:=t })∧Turn (fun j=>j=g) (fun j=>j=g) w (w.setCell ⟨g,i * 5+4,none⟩ (.int .i64 t)):=by
 subst hn
 refine ⟨?_,Turn.set (F:=fun j=>j=g) w ⟨g,i * 5+4,none⟩ _ rfl⟩
 unfold OwnEnts
 rw [entsC_till m i hi,List.length_set]
 exact (ho.stored _ _).1
theorem due_any (now:Int) (g cap n:Nat) (m:List TEnt) (hn:m.length=n) (i:Nat) (hi:i < m.length) (w:World) (ho:OwnEnts w (.slice (some ⟨g,0,none⟩) n cap) m) :
  Calls Tryz.prog 105 #[.pointer (some ⟨g,i * 5,none⟩),.int .i64 now] w fun e w'=>e=.returned (.tuple #[])∧OwnEnts w' (.slice (some ⟨g,0,none⟩) n cap) (m.set i (dueE now m[i]))∧Turn (fun j=>j=g) (fun j=>j=g) w w':=by
 obtain ⟨⟨_,_,_,c3,c4⟩,hfr,hg⟩:=ownEnts_some ho i hi
 have f3:=hfr (i * 5+3)
 have HO:=Lib.hid ho
 clear ho hfr
 have same:dueE now m[i]=m[i]→Hid (OwnEnts w (.slice (some ⟨g,0,none⟩) n cap) (m.set i (dueE now m[i]))∧Turn (fun j=>j=g) (fun j=>j=g) w w):=fun e=>Lib.hid ⟨by rw [e,List.set_getElem_self];exact HO.out,Turn.refl _ _⟩
 by_cases ht:m[i].till≤now
 ·have hgt:¬ m[i].till > now:=by omega
  by_cases h0:m[i].st=0
  ·have HE:dueE now m[i]={ m[i] with st:=1 }:=by unfold dueE;rw [if_pos ht,if_pos h0]
   have HD:=Lib.hid (st_stored HO.out hn i hi 1)
   rw [← HE] at HD
   clear HE same
   rw [h0] at c3
   go_enter Tryz.func105,Tryz.ntmps105
   go_wp2
   first | go_end0 | refine bodyPost_ret (results_none rfl _ _ _) rfl ?_
   exact ⟨rfl,HD.out⟩
  ·by_cases h2:m[i].st=2
   ·have HE:dueE now m[i]={ m[i] with st:=3 }:=by unfold dueE;rw [if_pos ht,if_neg h0,if_pos h2]
    have HD:=Lib.hid (st_stored HO.out hn i hi 3)
    rw [← HE] at HD
    clear HE same
    rw [h2] at c3
    go_enter Tryz.func105,Tryz.ntmps105
    go_wp2
    first | go_end0 | refine bodyPost_ret (results_none rfl _ _ _) rfl ?_
    exact ⟨rfl,HD.out⟩
   ·have HD:=same (by unfold dueE;rw [if_pos ht,if_neg h0,if_neg h2])
    have e0:((m[i].st:Int) == 0)=false:=by rw [beq_eq_false_iff_ne];omega
    have e2:((m[i].st:Int) == 2)=false:=by rw [beq_eq_false_iff_ne];omega
    clear same h0 h2
    go_enter Tryz.func105,Tryz.ntmps105
    go_wp2
    first | go_end0 | refine bodyPost_ret (results_none rfl _ _ _) rfl ?_
    exact ⟨rfl,HD.out⟩
 ·have HD:=same (by unfold dueE;rw [if_neg ht])
  have hgt:m[i].till > now:=by omega
  clear same
  go_enter Tryz.func105,Tryz.ntmps105
  go_wp2
  first | go_end0 | refine bodyPost_ret (results_none rfl _ _ _) rfl ?_
  exact ⟨rfl,HD.out⟩
theorem next_tmap {P:Program} {ops:Array Oper} {rest:List Oper} {o:Oper} {a:Act} {Q:Exit→Act→World→Prop} (w:World) (hg:o.guard=none) (itr:Operand) (hop:o.op=Op.next itr false) (hP:P=Tryz.prog)
  (b r:Nat) (left:Lit→Bool) (cnt:Nat) (ev:UInt64→Option Value) (hit:a.eval itr=.pointer (some ⟨r,0,none⟩)) (h:TMap w b (some ⟨r,left,cnt⟩) ev)
  (hDone:cnt=0→(∀ kl,left kl=false)→wpList P ops Q rest (a.put o.dst (.tuple #[.bool false])) w)
  (hMore:∀ (x:UInt64) (v:Value) (w':World) (cnt':Nat),left (.int .u64 x.toNat)=true→ev x=some v→TMap w' b (some ⟨r,fun z=>left z && !z.sameKey (.int .u64 x.toNat),cnt'⟩) ev→cnt' < cnt →
   w.grownBy w' (some r)→w'.heap.size=w.heap.size→(Instr.entry (.pointer (some ⟨r,0,none⟩))).run P w'=.ok (.tuple #[.int .u64 x.toNat,v]) w'→wpList P ops Q rest (a.put o.dst (.tuple #[.bool true,.int .u64 x.toNat,v])) w') :
  wpList P ops Q (o :: rest) a w:=by
 subst hP
 obtain ⟨D,⟨n,hm⟩,hat,hhas⟩:=h
 exact wpList_next_ranges w hg itr hop 22 u64_keyed exactE (fun x:UInt64=>Value.int .u64 x.toNat) (fun v:Value=>v)
  (fun key kl hkey=>by
   obtain ⟨x,rfl,_,hw⟩:=Maps.keyOf_int_inv Tryz.underlying22 hkey
   obtain ⟨u,rfl⟩:=wf_u64 hw
   exact ⟨u,rfl⟩) (fun v _ _=>⟨v,rfl⟩)
  b r n D left cnt hit hm hDone (fun x c kl y w' cnt' hkey hlk hv hy hrg hlt hgr hsz hen=>by
   rw [u64_key x] at hkey
   cases hkey
   have e1:y.1=.held c:=by unfold exactE at hv;cases hv;rfl
   have hx:ev x=some c:=by
    have h1:=has_true_of_atKey hy
    rw [hhas x] at h1
    obtain ⟨v,hv'⟩:=Option.isSome_iff_exists.1 h1
    have h2:=hat x v hv' .nil
    rw [hy,e1] at h2
    cases h2
    exact hv'
   exact hMore x c w' cnt' hlk hx ⟨D,⟨n,hrg⟩,hat,hhas⟩ hlt hgr hsz hen)
theorem tmap_left {w:World} {b:Nat} {i:It} {ev:UInt64→Option Value} (h:TMap w b (some i) ev):w.rangeLeft b i.r=i.cnt:=by
 obtain ⟨D,⟨n,hm⟩,_⟩:=h
 exact World.ranges.left_eq hm
theorem tmap_end {w:World} {b:Nat} {it:Option It} {ev:UInt64→Option Value} (h:TMap w b it ev):TMap w b none ev:=by
 obtain ⟨D,hm,r⟩:=h
 exact ⟨D,mapIs_owns hm,r⟩
theorem TrackAt.ended (h:TrackAt w F R it s b ev pv):TrackAt w F R none s b ev pv:=
 ⟨h.head,tmap_end h.map,h.ents,h.ids,h.eapart,h.papart,h.fR,h.fb,h.fe,h.fp,h.there,fun i hi=>by cases hi⟩
theorem TrackAt.as (h:TrackAt w F R it s b ev pv) {s':TS} (h1:s.salt=s'.salt) (h2:∀ x,s.E x=s'.E x) (h3:∀ p,p < 8→s.I p=s'.I p):TrackAt w F R it s' b ev pv:=
 ⟨by rw [← h1];exact h.head,h.map,fun x=>by rw [← h2 x];exact h.ents x,fun p hp=>by rw [← h3 p hp];exact h.ids p hp,h.eapart,h.papart,h.fR,h.fb,h.fe,h.fp,h.there,h.out⟩
theorem TrackAt.stepped {w w':World} {r:Nat} {left left':Lit→Bool} {cnt cnt':Nat} (h:TrackAt w F R (some ⟨r,left,cnt⟩) s b ev pv) (hm:TMap w' b (some ⟨r,left',cnt'⟩) ev) (hg:w.grownBy w' (some r)):TrackAt w' F R (some ⟨r,left',cnt'⟩) s b ev pv:=by
 have hr:=h.out _ rfl
 have hF:∀ k,F k→w'.heap[k]?=w.heap[k]?:=fun k hk=>hg.block k (h.there k hk) (fun e=>hr.1 (by cases e;exact hk))
 exact ⟨(hF R.b h.fR).trans h.head,hm,fun x=>(h.ents x).imp id fun ⟨v,l,h1,h2,h3⟩=>⟨v,l,h1,h2,own_same h3 fun g hg=>hF g (h.fe x v g h1 hg)⟩,fun p hp=>own_same (h.ids p hp) fun g hg=>hF g (h.fp p g hp hg),h.eapart,h.papart,h.fR,h.fb,h.fe,h.fp,h.there.later hg.size,
  fun i hi=>by cases hi;exact ⟨hr.1,Nat.lt_of_lt_of_le hr.2 hg.size⟩⟩
end Go.Proofs.YtlboemhbealnmaaGreat.Tr
namespace Go.Proofs.YtlboemhbealnmaaGreat.Tr
open Go.RowKit Go.Maps
variable {w:World} {F:Nat→Prop} {R:Loc} {it:Option It} {s:TS} {b:Nat} {ev:UInt64→Option Value} {pv:Nat→Value}
def TS.gone (s:TS) (now:Int) (y:UInt64):Bool:=(s.ents y).all fun e=>(dueE now e).st == 3
def TS.part (s:TS) (now:Int) (lf:UInt64→Bool):TS where
 salt:=s.salt
 E:=fun x=>if lf x then s.E x else if s.gone now x then none else (s.E x).map (List.map (dueE now))
 I:=fun p=>(s.I p).filter fun y=>lf y || !s.gone now y
def TS.due (s:TS) (now:Int):TS:=s.part now fun _=>false
def TS.Linked (s:TS):Prop:=∀ p,p < 8→∀ y ∈ s.I p,∃ e ∈ s.ents y,e.peer=p
theorem dueE_peer (now:Int) (e:TEnt):(dueE now e).peer=e.peer:=by unfold dueE;split <;> (try split) <;> (try split) <;> rfl
theorem part_ents {now:Int} {lf:UInt64→Bool} (x:UInt64):(s.part now lf).ents x=if lf x then s.ents x else if s.gone now x then [] else (s.ents x).map (dueE now):=by
 show Option.getD (if lf x then s.E x else if s.gone now x then none else (s.E x).map (List.map (dueE now))) []=_
 split
 ·rfl
 ·split
  ·rfl
  ·unfold TS.ents
   cases s.E x <;> rfl
theorem part_fine (hf:s.Fine) (now:Int) (lf:UInt64→Bool):(s.part now lf).Fine:=by
 refine ⟨fun x=>?_,fun p hp=>Nat.le_trans (List.length_filter_le _ _) (hf.2 p hp)⟩
 rw [part_ents]
 obtain ⟨h1,h2⟩:=hf.1 x
 split
 ·exact ⟨h1,h2⟩
 ·split
  ·exact ⟨by simp,fun e he=>by simp at he⟩
  ·refine ⟨by simpa using h1,fun e he=>?_⟩
   obtain ⟨e',he',rfl⟩:=List.mem_map.1 he
   rw [dueE_peer]
   exact h2 e' he'
theorem upd_fine (hf:s.Fine) {x:UInt64} {l:List TEnt} (h1:l.length≤8) (h2:∀ e ∈ l,e.peer < 8):TS.Fine { s with E:=upd s.E x (some l) }:=by
 refine ⟨fun y=>?_,hf.2⟩
 by_cases hy:y=x
 ·have:TS.ents { s with E:=upd s.E x (some l) } y=l:=by show Option.getD (upd s.E x (some l) y) []=_;rw [hy,upd_same];rfl
  rw [this]
  exact ⟨h1,h2⟩
 ·have:TS.ents { s with E:=upd s.E x (some l) } y=s.ents y:=by show Option.getD (upd s.E x (some l) y) []=_;rw [upd_other _ _ hy];rfl
  rw [this]
  exact hf.1 y
theorem cutIds_at {x:UInt64} {p:Nat}:∀ {l:List TEnt} {I:Nat→List UInt64},(x ∈ I p→∃ e ∈ l,e.peer=p)→cutIds x I l p=(I p).filter fun y=>!(y == x)
 | [],I,h=>by
  show I p=_
  rw [List.filter_eq_self.2]
  intro y hy
  have:y≠x:=fun e=>by obtain ⟨_,he,_⟩:=h (e▸hy);simp at he
  simpa using this
 | a :: r,I,h=>by
  show cutIds x (upd I a.peer _) r p=_
  by_cases hp:p=a.peer
  ·subst hp
   rw [cutIds_at (l:=r),upd_same,List.filter_filter]
   ·congr 1
    funext y
    simp
   ·intro hx
    rw [upd_same] at hx
    simp at hx
  ·rw [cutIds_at (l:=r),upd_other _ _ hp]
   intro hx
   rw [upd_other _ _ hp] at hx
   obtain ⟨e,he,hep⟩:=h hx
   rcases List.mem_cons.1 he with rfl | he
   ·exact absurd hep.symm hp
   ·exact ⟨e,he,hep⟩
theorem part_step (hl:s.Linked) {now:Int} {lf lf':UInt64→Bool} {x:UInt64} {l:List TEnt} (hx:lf x=true) (hlf:∀ y,lf' y=(lf y && !(y == x))) (hE:s.E x=some l) :
  (∀ y,(TS.settle { s.part now lf with E:=upd (s.part now lf).E x (some (l.map (dueE now))) } x).E y=(s.part now lf').E y)∧∀ p,p < 8→(TS.settle { s.part now lf with E:=upd (s.part now lf).E x (some (l.map (dueE now))) } x).I p=(s.part now lf').I p:=by
 have hents:TS.ents { s.part now lf with E:=upd (s.part now lf).E x (some (l.map (dueE now))) } x=l.map (dueE now):=by show Option.getD (upd _ x _ x) []=_;rw [upd_same];rfl
 have hse:s.ents x=l:=by unfold TS.ents;rw [hE];rfl
 have hall:(l.map (dueE now)).all (fun e=>e.st == 3)=s.gone now x:=by unfold TS.gone;rw [hse,List.all_map];rfl
 have hlx:lf' x=false:=by rw [hlf];simp
 have hoth:∀ y,y≠x→lf' y=lf y:=fun y hy=>by rw [hlf];simp [hy]
 unfold TS.settle
 rw [hents,hall]
 cases hg:s.gone now x with
 | true=>
  rw [if_pos rfl]
  refine ⟨fun y=>?_,fun p hp=>?_⟩
  ·show upd (upd (s.part now lf).E x _) x none y=_
   by_cases hy:y=x
   ·subst hy
    rw [upd_same]
    show _=if lf' y then _ else if s.gone now y then none else _
    rw [hlx,hg]
    rfl
   ·rw [upd_other _ _ hy,upd_other _ _ hy]
    show (if lf y then _ else _)=if lf' y then _ else _
    rw [hoth y hy]
  ·show cutIds x (s.part now lf).I (TS.ents _ x) p=_
   rw [hents,cutIds_at]
   ·show ((s.I p).filter _).filter _=(s.I p).filter _
    rw [List.filter_filter]
    refine List.filter_congr fun y _=>?_
    by_cases hy:y=x
    ·subst hy
     rw [hlx,hg]
     simp
    ·rw [hoth y hy]
     simp [hy]
   ·intro hm
    have hm':x ∈ s.I p:=(List.mem_filter.1 hm).1
    obtain ⟨e,he,hep⟩:=hl p hp x hm'
    rw [hse] at he
    exact ⟨dueE now e,List.mem_map.2 ⟨e,he,rfl⟩,by rw [dueE_peer];exact hep⟩
 | false=>
  rw [if_neg (by decide)]
  refine ⟨fun y=>?_,fun p _=>?_⟩
  ·show upd (s.part now lf).E x _ y=_
   by_cases hy:y=x
   ·subst hy
    rw [upd_same]
    show _=if lf' y then _ else if s.gone now y then none else _
    rw [hlx,hg,hE]
    rfl
   ·rw [upd_other _ _ hy]
    show (if lf y then _ else _)=if lf' y then _ else _
    rw [hoth y hy]
  ·show (s.I p).filter _=(s.I p).filter _
   refine List.filter_congr fun y _=>?_
   by_cases hy:y=x
   ·subst hy
    rw [hlx,hg,hx]
    rfl
   ·rw [hoth y hy]
theorem part_start (hl:s.Linked) {now:Int} {lf:UInt64→Bool} (h:∀ x,lf x=(s.E x).isSome):(∀ y,s.E y=(s.part now lf).E y)∧∀ p,p < 8→s.I p=(s.part now lf).I p:=by
 refine ⟨fun y=>?_,fun p hp=>?_⟩
 ·show _=if lf y then s.E y else if s.gone now y then none else (s.E y).map _
  cases hy:s.E y with
  | some l=>rw [h,hy];rfl
  | none=>rw [h,hy];simp
 ·show _=(s.I p).filter _
  rw [List.filter_eq_self.2]
  intro y hy
  obtain ⟨e,he,_⟩:=hl p hp y hy
  have:(s.E y).isSome=true:=by
   cases hE:s.E y with
   | some l=>rfl
   | none=>unfold TS.ents at he;rw [hE] at he;simp at he
  rw [h,this]
  rfl
def dueK (now:Int) (l:List TEnt) (k:Nat):List TEnt:=(l.take k).map (dueE now) ++ l.drop k
theorem dueK_length (now:Int) (l:List TEnt) (k:Nat):(dueK now l k).length=l.length:=by unfold dueK;simp;omega
theorem dueK_at (now:Int) (l:List TEnt) (k:Nat) (h:k < l.length):(dueK now l k)[k]'(by rw [dueK_length];exact h)=l[k]:=by
 unfold dueK
 rw [List.getElem_append_right (by simp;omega)]
 simp [Nat.min_eq_left (Nat.le_of_lt h)]
theorem dueK_step (now:Int) (l:List TEnt) (k:Nat) (h:k < l.length):(dueK now l k).set k (dueE now l[k])=dueK now l (k+1):=by
 unfold dueK
 rw [List.set_append_right _ _ (by simp;omega),List.take_succ_eq_append_getElem h,List.map_append,List.append_assoc]
 congr 1
 simp only [List.length_map,List.length_take,Nat.min_eq_left (Nat.le_of_lt h),Nat.sub_self]
 rw [List.drop_eq_getElem_cons h]
 rfl
theorem dueK_end (now:Int) (l:List TEnt) (k:Nat) (h:l.length≤k):dueK now l k=l.map (dueE now):=by unfold dueK;rw [List.take_of_length_le h,List.drop_eq_nil_of_le h,List.append_nil]
set_option maxRecDepth 20000 in
set_option maxHeartbeats 1600000 in
theorem due_all (now:Int) (w:World) (h:TrackAt w F R none s b ev pv) (hf:s.Fine) (hl:s.Linked) :
  Calls Tryz.prog 52 #[.pointer (some ⟨R.b,17,none⟩),.int .i64 now] w fun e w'=>e=.returned (.tuple #[])∧∃ F' ev' pv',TrackAt w' F' R none (s.due now) b ev' pv'∧Turn F F' w w':=by
 have hmc:=h.mapc
 have hlt:=h.lt
 obtain ⟨D,⟨n,hown⟩,hat,hhas⟩:=h.map
 have HAT:=Lib.hid (And.intro hat hhas)
 have H:=Lib.hid h
 have HF:=Lib.hid hf
 have HL:=Lib.hid hl
 clear h hf hl hat hhas
 go_enter Tryz.func52,Tryz.ntmps52
 go_wp2_with (first
  | (at_range;refine wpList_range_own _ rfl _ 66 rfl 22 148 u64_keyed Tryz.underlying66 _ b n D rfl hown ?_;intro w0 hrg0 hg0 hs0)
  | go_in)
 try go_frame
 have hb0:Below w.heap.size w w0:=(Below.refl _ _).grown hg0 (Nat.le_refl _) (fun j hj=>by cases hj)
 have HR0:Hid (TrackAt w0 F R (some ⟨w.heap.size,Maps.has D,Maps.size D⟩) s b ev pv):=Lib.hid (by
  have hk:=H.out.kept hb0
  exact ⟨hk.head,⟨D,⟨n,hrg0⟩,HAT.out.1,HAT.out.2⟩,hk.ents,hk.ids,hk.eapart,hk.papart,hk.fR,hk.fb,hk.fe,hk.fp,hk.there,fun i hi=>by
   cases hi
   exact ⟨fun hF=>absurd (H.out.there w.heap.size hF) (Nat.lt_irrefl _),by show w.heap.size < _;omega⟩⟩)
 clear hrg0 hg0 hs0 hown
 go_loopw [4] (fun _ wr=>∃ (F':Nat→Prop) (left:Lit→Bool) (cnt:Nat) (ev':UInt64→Option Value) (pv':Nat→Value),Hid (TrackAt wr F' R (some ⟨w.heap.size,left,cnt⟩) (s.part now fun y=>left (.int .u64 y.toNat)) b ev' pv')∧Hid (Turn F F' w wr))
  (fun _ wr=>wr.rangeLeft b w.heap.size)
 case atStart=>
  obtain ⟨q1,q2⟩:=part_start HL.out (now:=now) (lf:=fun y=>Maps.has D (.int .u64 y.toNat)) (fun x=>by
   rw [HAT.out.2 x]
   rcases H.out.ents x with ⟨h1,h2⟩ | ⟨v,l,h1,h2,_⟩
   ·rw [h1,h2];rfl
   ·rw [h1,h2];rfl)
  exact ⟨F,_,_,ev,pv,Lib.hid (HR0.out.as rfl q1 q2),Lib.hid (Turn.of_below hb0)⟩
 case round=>
  obtain ⟨F',left,cnt,ev',pv',HT,HU⟩:=hrel
  have hm:=HT.out.map
  go_wp2_with (first
   | (at_next;refine next_tmap _ rfl _ rfl rfl b w.heap.size left cnt ev' rfl hm ?_ ?_)
   | go_in)
  ·intro hc0 hl0
   have e0:(fun y:UInt64=>left (.int .u64 y.toNat))=fun _=>false:=funext fun y=>hl0 _
   have HE:Hid (∃ F' ev' pv',TrackAt wr F' R none (s.due now) b ev' pv'∧Turn F F' w wr):=Lib.hid ⟨F',ev',pv',by unfold TS.due;rw [← e0];exact HT.out.ended,HU.out⟩
   clear hm hc0 hl0 e0
   go_wp2
   go_end0
   exact ⟨rfl,HE.out⟩
  ·intro x v w1 cnt1 hlx hvx hm1 hlt1 hg1 hs1 hen
   have hrlt:=(HT.out.out _ rfl).2
   have H1:=HT.out.stepped hm1 hg1
   have HU1:Hid (Turn F F' w w1):=Lib.hid (by
    refine ⟨hg1.os.trans HU.out.os,hg1.tape.trans HU.out.tape,hg1.output.trans HU.out.output,Nat.le_trans HU.out.size hg1.size,fun k hk hn=>(hg1.block k (Nat.lt_of_lt_of_le hk HU.out.size) (fun e=>by cases e;omega)).trans (HU.out.block k hk hn),HU.out.own⟩)
   obtain ⟨l,hE,hown⟩:=H1.row hvx
   obtain ⟨a,cp,rfl,hcp,_⟩:=ownEnts_form hown
   have hEs:s.E x=some l:=by
    have:(s.part now fun y=>left (.int .u64 y.toNat)).E x=s.E x:=if_pos hlx
    rw [← this];exact hE
   have hse:s.ents x=l:=by unfold TS.ents;rw [hEs];rfl
   obtain ⟨hl8,hp8⟩:=HF.out.1 x
   rw [hse] at hl8 hp8
   have HP8:=Lib.hid hp8
   have HES:=Lib.hid hEs
   have HLX:=Lib.hid hlx
   have HLT:=Lib.hid hlt1
   have HVX:=Lib.hid hvx
   have HM:=Lib.hid (tmap_left hm)
   have H2:Hid (TrackAt w1 F' R (some ⟨w.heap.size,fun z=>left z && !z.sameKey (.int .u64 x.toNat),cnt1⟩) { s.part now (fun y=>left (.int .u64 y.toNat)) with E:=upd (s.part now fun y=>left (.int .u64 y.toNat)).E x (some (dueK now l 0)) } b ev' pv'):=Lib.hid (H1.as rfl (fun y=>by
    show _=upd _ x _ y
    by_cases hy:y=x
    ·subst hy;rw [upd_same];exact hE
    ·rw [upd_other _ _ hy]) (fun _ _=>rfl))
   clear hm hlx hvx hm1 hlt1 hg1 H1 hE hown hEs hse hp8
   go_wp2_with fail
   obtain ⟨wB,hwB⟩:∃ x,x=wr:=⟨_,rfl⟩
   subst hwB
   go_loopw [19] (fun i wr=>∃ k:Nat,k≤l.length∧i=.int .i64 k∧Hid (TrackAt wr F' R (some ⟨w.heap.size,fun z=>left z && !z.sameKey (.int .u64 x.toNat),cnt1⟩) { s.part now (fun y=>left (.int .u64 y.toNat)) with E:=upd (s.part now fun y=>left (.int .u64 y.toNat)).E x (some (dueK now l k)) } b ev' pv')∧Hid (Turn F F' w wr)) (fun i _=>l.length - (intOf i).toNat)
   case atStart=>exact ⟨0,Nat.zero_le _,rfl,H2,HU1⟩
   case round=>
    obtain ⟨k,hk,rfl,HK,HUK⟩:=hrel
    by_cases hkl:k < l.length
    ·obtain ⟨l',hE',hown'⟩:=HK.out.row HVX.out
     have hl':dueK now l k=l':=by
      have:upd (s.part now fun y=>left (.int .u64 y.toNat)).E x (some (dueK now l k)) x=some l':=hE'
      rw [upd_same] at this
      exact Option.some.inj this
     subst hl'
     obtain ⟨g,cap',hform,_⟩:=hown'.form (by rw [dueK_length];omega)
     simp only [Value.slice.injEq] at hform
     obtain ⟨rfl,hjunk,rfl⟩:=hform
     clear hjunk
     have hown2:OwnEnts wr (.slice (some ⟨g,0,none⟩) l.length cp) (dueK now l k):=hown'
     have HO:=Lib.hid hown2
     have hklK:k < (dueK now l k).length:=by rw [dueK_length];exact hkl
     clear hE' hown' hown2
     go_wp2_with fail
     with_reducible refine (due_any now g cp l.length (dueK now l k) (dueK_length _ _ _) k hklK _ HO.out).mono ?_
     rintro e w2 ⟨rfl,ho2,ht2⟩
     have HO2:=Lib.hid ho2
     have HT2:=Lib.hid ht2
     clear ho2 ht2
     go_wp2_with fail
     go_roundw
     case rel=>
      have h3:=HO2.out
      simp only [dueK_at now l k hkl,dueK_step now l k hkl] at h3
      obtain ⟨r1,r2⟩:=HK.out.setEnts HVX.out rfl HT2.out h3
      refine ⟨k+1,by omega,by go_num,Lib.hid (r1.as rfl (fun y=>?_) (fun _ _=>rfl)),Lib.hid (HUK.out.trans r2)⟩
      show upd (upd _ x _) x _ y=upd _ x _ y
      by_cases hy:y=x
      ·subst hy;rw [upd_same,upd_same]
      ·rw [upd_other _ _ hy,upd_other _ _ hy,upd_other _ _ hy]
     case measure=>simp [intOf];omega
    ·have h4:=HK.out
     rw [dueK_end now l k (by omega)] at h4
     have H4:=Lib.hid h4
     clear h4
     go_wp2_with fail
     with_reducible refine (settle_any x _ H4.out (upd_fine (part_fine HF.out now _) (by simpa using hl8) (fun e he=>by
      obtain ⟨e',he',rfl⟩:=List.mem_map.1 he
      rw [dueE_peer]
      exact HP8.out e' he'))).mono ?_
     rintro e w5 ⟨rfl,F5,it5,ev5,pv5,hit,h5,t5,_⟩
     have HE5:Hid (∃ (left5:Lit→Bool) (cnt5:Nat),cnt5 < cnt∧TrackAt w5 F5 R (some ⟨w.heap.size,left5,cnt5⟩) (s.part now fun y=>left5 (.int .u64 y.toNat)) b ev5 pv5):=Lib.hid (by
      have q:=fun (lf':UInt64→Bool) hq=>part_step (s:=s) (now:=now) (lf:=fun y=>left (.int .u64 y.toNat)) (lf':=lf') HL.out HLX.out hq HES.out
      rcases hit with rfl | ⟨n5,hn5,rfl⟩
      ·refine ⟨fun z=>left z && !z.sameKey (.int .u64 x.toNat),cnt1,HLT.out,?_⟩
       obtain ⟨q1,q2⟩:=q (fun y=>left (.int .u64 y.toNat) && !(Lit.int .u64 y.toNat).sameKey (.int .u64 x.toNat)) (fun y=>by rw [same_lit])
       exact h5.as (by unfold TS.settle;split <;> rfl) q1 q2
      ·have:=hn5 _ rfl
       refine ⟨fun z=>(left z && !z.sameKey (.int .u64 x.toNat)) && !z.sameKey (.int .u64 x.toNat),n5,Nat.lt_of_le_of_lt this HLT.out,?_⟩
       obtain ⟨q1,q2⟩:=q (fun y=>(left (.int .u64 y.toNat) && !(Lit.int .u64 y.toNat).sameKey (.int .u64 x.toNat)) && !(Lit.int .u64 y.toNat).sameKey (.int .u64 x.toNat)) (fun y=>by rw [same_lit];cases left (.int .u64 y.toNat) <;> cases (y == x) <;> rfl)
       exact h5.as (by unfold TS.settle;split <;> rfl) q1 q2)
     have T5:=Lib.hid t5
     clear hit h5 t5
     go_wp2_with fail
     obtain ⟨left5,cnt5,hc5,h5⟩:=HE5.out
     go_roundw
     case rel=>exact ⟨F5,left5,cnt5,ev5,pv5,Lib.hid h5,Lib.hid (HUK.out.trans T5.out)⟩
     case measure=>
      rw [tmap_left h5.map,HM.out]
      exact hc5
end Go.Proofs.YtlboemhbealnmaaGreat.Tr
namespace Go.Proofs.YtlboemhbealnmaaGreat.Tr
open Go.RowKit Go.Maps
variable {w:World} {F:Nat→Prop} {R:Loc} {it:Option It} {s:TS} {b:Nat} {ev:UInt64→Option Value} {pv:Nat→Value}
theorem isPeer_yes (p:Int) (n:Nat) (hp:p=n) (h:n < 8) (w:World):Calls Tryz.prog 74 #[.int .i64 p] w fun e w'=>e=.returned (.bool true)∧w=w':=by
 subst hp
 refine (isPeer_any _ w).mono fun e w' ⟨h1,h2⟩=>⟨?_,h2⟩
 rw [h1,decide_eq_true (by omega)]
theorem isPeer_no (p:Int) (h:¬ (0≤p∧p < 8)) (w:World):Calls Tryz.prog 74 #[.int .i64 p] w fun e w'=>e=.returned (.bool false)∧w=w':=by
 refine (isPeer_any _ w).mono fun e w' ⟨h1,h2⟩=>⟨?_,h2⟩
 rw [h1,decide_eq_false h]
def goodT (t:Int):Prop:=0≤t∧t≤1099511627776
instance (t:Int):Decidable (goodT t):=inferInstanceAs (Decidable (_∧_))
theorem isTime_yes (p:Int) (h:goodT p) (w:World):Calls Tryz.prog 150 #[.int .i64 p] w fun e w'=>e=.returned (.bool true)∧w=w':=by
 have h':0≤p∧p≤1099511627776:=h
 refine (isTime_any _ w).mono fun e w' ⟨h1,h2⟩=>⟨?_,h2⟩
 rw [h1,decide_eq_true h']
theorem isTime_no (p:Int) (h:¬ goodT p) (w:World):Calls Tryz.prog 150 #[.int .i64 p] w fun e w'=>e=.returned (.bool false)∧w=w':=by
 have h':¬ (0≤p∧p≤1099511627776):=h
 refine (isTime_any _ w).mono fun e w' ⟨h1,h2⟩=>⟨?_,h2⟩
 rw [h1,decide_eq_false h']
theorem new_any (salt:UInt64) (w:World):Calls Tryz.prog 23 #[.int .u64 salt.toNat] w fun e w'=>e=.returned (.pointer (some ⟨w.heap.size+1,0,none⟩))∧w'=(w.alloc (.map #[] 0)).alloc (.cells #[.int .u64 salt.toNat,.map (some w.heap.size),.slice none 0 0,.slice none 0 0,.slice none 0 0,.slice none 0 0,.slice none 0 0,.slice none 0 0,.slice none 0 0,.slice none 0 0] 69):=by
 have hmm:=@run_makeMap Tryz.prog
 go_enter Tryz.func23,Tryz.ntmps23
 go_wp2
 go_ret
 exact ⟨rfl,rfl⟩
theorem ask_arg (p t:Int) (h:¬ (0≤p∧p < 8)∨¬ goodT t) (x:UInt64) (w:World) :
  Calls Tryz.prog 108 #[.pointer (some ⟨R.b,17,none⟩),.int .i64 p,.int .u64 x.toNat,.int .i64 t] w fun e w'=>e=.returned (.int .i64 1)∧w=w':=by
 by_cases hp:0≤p∧p < 8
 ·have ht:¬ goodT t:=h.resolve_left (fun hn=>hn hp)
  obtain ⟨n,rfl⟩:∃ n:Nat,p=n:=⟨p.toNat,by omega⟩
  have hn8:n < 8:=by omega
  have HT:=Lib.hid ht
  clear h ht hp
  go_enter Tryz.func108,Tryz.ntmps108
  go_wp2_with fail
  with_reducible refine (isPeer_yes n n rfl hn8 _).mono ?_
  rintro e w1 ⟨rfl,rfl⟩
  go_wp2_with fail
  with_reducible refine (isTime_no t HT.out _).mono ?_
  rintro e w1 ⟨rfl,rfl⟩
  go_wp2_with fail
  go_ret
  exact ⟨rfl,rfl⟩
 ·have HP:=Lib.hid hp
  clear h hp
  go_enter Tryz.func108,Tryz.ntmps108
  go_wp2_with fail
  with_reducible refine (isPeer_no p HP.out _).mono ?_
  rintro e w1 ⟨rfl,rfl⟩
  go_wp2_with fail
  go_ret
  exact ⟨rfl,rfl⟩
def TS.ask (s:TS) (p:Nat) (x:UInt64) (t:Int):Int × TS:=
 match (s.ents x).findIdx? (fun e=>e.peer == p) with
 | none=>(5,s)
 | some i=>match (s.ents x)[i]? with
  | none=>(5,s)
  | some e=>if e.st=1∧(s.ents x).findIdx? (fun e=>e.st == 2)=none then (0,{ s with E:=upd s.E x (some ((s.ents x).set i { e with st:=2,till:=t })) }) else (7,s)
theorem found_own (h:TrackAt w F R it s b ev pv) {x:UInt64} {q:TEnt→Bool} {g n cap i:Nat} (he:ev x=some (.slice (some ⟨g,0,none⟩) n cap)) (hi:(s.ents x).findIdx? q=some i) :
  ∃ hi:i < (s.ents x).length,(s.ents x).length=n∧OwnEnts w (.slice (some ⟨g,0,none⟩) n cap) (s.ents x)∧q (s.ents x)[i]=true∧s.E x=some (s.ents x):=by
 obtain ⟨l,hE,ho⟩:=h.row he
 have hl:s.ents x=l:=by unfold TS.ents;rw [hE];rfl
 obtain ⟨h1,h2,_⟩:=List.findIdx?_eq_some_iff_getElem.1 hi
 rw [← hl] at hE ho
 obtain ⟨a,c,e,_,_⟩:=ownEnts_form ho
 simp only [Value.slice.injEq] at e
 exact ⟨h1,e.2.1.symm,ho,h2,hE⟩
theorem ask_any (p:Nat) (hp:p < 8) (x:UInt64) (t:Int) (ht:goodT t) (w:World) (h:TrackAt w F R it s b ev pv) (hf:s.Fine) :
  Calls Tryz.prog 108 #[.pointer (some ⟨R.b,17,none⟩),.int .i64 p,.int .u64 x.toNat,.int .i64 t] w fun e w'=>e=.returned (.int .i64 (s.ask p x t).1)∧TrackAt w' F R it (s.ask p x t).2 b ev pv∧Turn F F w w':=by
 have H:=Lib.hid h
 have HF:=Lib.hid hf
 have HT:=Lib.hid ht
 clear h hf ht
 go_enter Tryz.func108,Tryz.ntmps108
 go_wp2_with fail
 with_reducible refine (isPeer_yes p p rfl hp _).mono ?_
 rintro e w1 ⟨rfl,rfl⟩
 go_wp2_with fail
 with_reducible refine (isTime_yes t HT.out _).mono ?_
 rintro e w1 ⟨rfl,rfl⟩
 go_wp2_with fail
 with_reducible refine (held_any p x _ H.out HF.out).mono ?_
 rintro e w1 ⟨r,rfl,hr,hb1⟩
 rcases hr with ⟨rfl,hr⟩ | ⟨g,n,cap,i,he,rfl,hr⟩
 ·have HS:Hid (s.ask p x t=(5,s)):=Lib.hid (by unfold TS.ask;rw [hr])
  clear hr
  go_wp2_with fail
  go_ret
  rw [HS.out]
  exact ⟨rfl,H.out.kept hb1,Turn.of_below hb1⟩
 ·obtain ⟨hi,hn,ho,hq,hE⟩:=found_own (H.out.kept hb1) he hr
  obtain ⟨⟨_,_,_,c3,c4⟩,hfr,hg⟩:=ownEnts_some ho i hi
  have hget:(s.ents x)[i]?=some (s.ents x)[i]:=List.getElem?_eq_getElem hi
  have HE:=Lib.hid he
  by_cases hst:(s.ents x)[i].st=1
  ·have e1:(((s.ents x)[i].st:Int) != 1)=false:=by simp [bne,hst]
   have HS0:Hid (s.ask p x t=if (s.ents x).findIdx? (fun e=>e.st == 2)=none then (0,{ s with E:=upd s.E x (some ((s.ents x).set i { (s.ents x)[i] with st:=2,till:=t })) }) else (7,s)):=Lib.hid (by
    unfold TS.ask;simp only [hr,hget,hst,true_and])
   have HO:=Lib.hid ho
   have HN:=Lib.hid hn
   rw [hst] at c3
   clear hr he hq hfr c4 hn hst hE ho hget e1
   go_wp2_with fail
   with_reducible refine (flight_any x _ (H.out.kept hb1) HF.out).mono ?_
   rintro e w2 ⟨r,rfl,hr,hb2⟩
   rcases hr with ⟨rfl,hr⟩ | ⟨g',n',cap',i',he',rfl,hr⟩
   ·have HS:=HS0.out
    rw [if_pos hr] at HS
    have HS:=Lib.hid HS
    have ho2:=owns_below HO.out hb2
    obtain ⟨⟨_,_,_,d3,d4⟩,hfr2,hg2⟩:=ownEnts_some ho2 i hi
    have f3:=hfr2 (i * 5+3)
    have f4:=hfr2 (i * 5+4)
    have HEND:Hid (TrackAt ((w2.setCell ⟨g,i * 5+3,none⟩ (.int .i64 (2:Nat))).setCell ⟨g,i * 5+4,none⟩ (.int .i64 t)) F R it { s with E:=upd s.E x (some ((s.ents x).set i { (s.ents x)[i] with st:=2,till:=t })) } b ev pv∧Turn F F w ((w2.setCell ⟨g,i * 5+3,none⟩ (.int .i64 (2:Nat))).setCell ⟨g,i * 5+4,none⟩ (.int .i64 t))):=Lib.hid (by
     obtain ⟨q1,q2⟩:=st_stored ho2 HN.out i hi 2
     obtain ⟨q3,q4⟩:=till_stored q1 (by simpa using HN.out) i (by simpa using hi) t
     obtain ⟨q5,q6⟩:=(H.out.kept (kept_trans hb1 hb2)).setEnts HE.out rfl (q2.trans q4) q3
     refine ⟨?_,(Turn.of_below (kept_trans hb1 hb2)).trans q6⟩
     simp only [List.set_set,List.getElem_set_self] at q5
     exact q5)
    clear hr ho2 hfr2
    go_wp2_with fail
    go_ret
    rw [HS.out]
    exact ⟨rfl,HEND.out⟩
   ·have HS:=HS0.out
    rw [if_neg (by rw [hr];simp)] at HS
    have HS:=Lib.hid HS
    clear hr he'
    go_wp2_with fail
    go_ret
    rw [HS.out]
    exact ⟨rfl,H.out.kept (kept_trans hb1 hb2),Turn.of_below (kept_trans hb1 hb2)⟩
  ·have e1:(((s.ents x)[i].st:Int) != 1)=true:=by simp only [bne,Bool.not_eq_true',beq_eq_false_iff_ne];omega
   have HS:Hid (s.ask p x t=(7,s)):=Lib.hid (by unfold TS.ask;simp only [hr,hget,hst,false_and,if_false])
   clear hr he hq hfr c4 hn hst hE ho hget
   go_wp2_with fail
   go_ret
   rw [HS.out]
   exact ⟨rfl,H.out.kept hb1,Turn.of_below hb1⟩
end Go.Proofs.YtlboemhbealnmaaGreat.Tr
namespace Go.Proofs.YtlboemhbealnmaaGreat.Tr
open Go.RowKit Go.Maps
variable {w:World} {F:Nat→Prop} {R:Loc} {it:Option It} {s:TS} {b:Nat} {ev:UInt64→Option Value} {pv:Nat→Value}
theorem answer_arg (p:Int) (h:¬ (0≤p∧p < 8)) (x:UInt64) (w:World) :
  Calls Tryz.prog 48 #[.pointer (some ⟨R.b,17,none⟩),.int .i64 p,.int .u64 x.toNat] w fun e w'=>e=.returned (.int .i64 1)∧w=w':=by
 have HP:=Lib.hid h
 clear h
 go_enter Tryz.func48,Tryz.ntmps48
 go_wp2_with fail
 with_reducible refine (isPeer_no p HP.out _).mono ?_
 rintro e w1 ⟨rfl,rfl⟩
 go_wp2_with fail
 go_ret
 exact ⟨rfl,rfl⟩
def TS.answer (s:TS) (p:Nat) (x:UInt64):Int × TS:=
 match (s.ents x).findIdx? (fun e=>e.peer == p) with
 | none=>(5,s)
 | some i=>match (s.ents x)[i]? with
  | none=>(5,s)
  | some e=>(0,TS.settle { s with E:=upd s.E x (some ((s.ents x).set i { e with st:=3 })) } x)
theorem set_peer {l:List TEnt} {i:Nat} {e:TEnt} (h:∀ e ∈ l,e.peer < 8) (he:e.peer < 8):∀ e' ∈ l.set i e,e'.peer < 8:=fun e' h'=>(List.mem_or_eq_of_mem_set h').elim (h e') (fun h=>h▸he)
def TrackIn (w:World) (F:Nat→Prop) (R:Loc) (s:TS):Prop:=∃ b ev pv,TrackAt w F R none s b ev pv
theorem step_none {it':Option It} {x:UInt64} (h:ItStep none it' x):it'=none:=by
 rcases h with h | ⟨n,_,h⟩
 ·exact h
 ·rw [h];rfl
theorem answer_any (p:Nat) (hp:p < 8) (x:UInt64) (w:World) (h:TrackAt w F R none s b ev pv) (hf:s.Fine) :
  Calls Tryz.prog 48 #[.pointer (some ⟨R.b,17,none⟩),.int .i64 p,.int .u64 x.toNat] w fun e w'=>e=.returned (.int .i64 (s.answer p x).1)∧∃ F',TrackIn w' F' R (s.answer p x).2∧Turn F F' w w':=by
 have H:=Lib.hid h
 have HF:=Lib.hid hf
 clear h hf
 go_enter Tryz.func48,Tryz.ntmps48
 go_wp2_with fail
 with_reducible refine (isPeer_yes p p rfl hp _).mono ?_
 rintro e w1 ⟨rfl,rfl⟩
 go_wp2_with fail
 with_reducible refine (held_any p x _ H.out HF.out).mono ?_
 rintro e w1 ⟨r,rfl,hr,hb1⟩
 rcases hr with ⟨rfl,hr⟩ | ⟨g,n,cap,i,he,rfl,hr⟩
 ·have HS:Hid (s.answer p x=(5,s)):=Lib.hid (by unfold TS.answer;rw [hr])
  clear hr
  go_wp2_with fail
  go_ret
  rw [HS.out]
  exact ⟨rfl,F,⟨b,ev,pv,H.out.kept hb1⟩,Turn.of_below hb1⟩
 ·obtain ⟨hi,hn,ho,hq,hE⟩:=found_own (H.out.kept hb1) he hr
  obtain ⟨⟨_,_,_,c3,c4⟩,hfr,hg⟩:=ownEnts_some ho i hi
  have f3:=hfr (i * 5+3)
  have hget:(s.ents x)[i]?=some (s.ents x)[i]:=List.getElem?_eq_getElem hi
  have HS:Hid (s.answer p x=(0,TS.settle { s with E:=upd s.E x (some ((s.ents x).set i { (s.ents x)[i] with st:=3 })) } x)):=Lib.hid (by
   unfold TS.answer;simp only [hr,hget])
  obtain ⟨q1,q2⟩:=st_stored ho hn i hi 3
  obtain ⟨q3,q4⟩:=(H.out.kept hb1).setEnts he rfl q2 q1
  have H3:=Lib.hid q3
  have T3:=Lib.hid q4
  obtain ⟨hl8,hp8⟩:=HF.out.1 x
  have HF3:=Lib.hid (upd_fine (x:=x) HF.out (l:=(s.ents x).set i { (s.ents x)[i] with st:=3 }) (by simpa using hl8) (set_peer hp8 (hp8 (s.ents x)[i] (List.getElem_mem hi))))
  clear hr he hq hfr c4 hn hE ho hget q1 q2 q3 q4 hp8
  go_wp2_with fail
  refine (settle_any x _ H3.out HF3.out).mono ?_
  rintro e w5 ⟨rfl,F5,it5,ev5,pv5,hit,h5,t5,_⟩
  have hn5:=step_none hit
  subst hn5
  have H5:=Lib.hid h5
  have T5:=Lib.hid t5
  clear hit h5 t5
  go_wp2_with fail
  go_ret
  rw [HS.out]
  exact ⟨rfl,F5,⟨b,ev5,pv5,H5.out⟩,((Turn.of_below hb1).trans T3.out).trans T5.out⟩
theorem counts_arg (p:Int) (h:¬ (0≤p∧p < 8)) (w:World) :
  Calls Tryz.prog 39 #[.pointer (some ⟨R.b,17,none⟩),.int .i64 p] w fun e w'=>e=.returned (.tuple #[.int .i64 0,.int .i64 0,.int .i64 1])∧w=w':=by
 have HP:=Lib.hid h
 clear h
 go_enter Tryz.func39,Tryz.ntmps39
 go_wp2_with fail
 with_reducible refine (isPeer_no p HP.out _).mono ?_
 rintro e w1 ⟨rfl,rfl⟩
 go_wp2_with fail
 go_ret3
 exact ⟨rfl,rfl⟩
def TS.flies (s:TS) (p:Nat) (x:UInt64):Bool:=
 match (s.ents x).findIdx? (fun e=>e.st == 2) with
 | none=>false
 | some i=>match (s.ents x)[i]? with
  | none=>false
  | some e=>e.peer == p
theorem count_step {q:UInt64→Bool} {l:List UInt64} {k:Nat} (h:k < l.length):((l.take (k+1)).filter q).length=((l.take k).filter q).length+if q l[k] then 1 else 0:=by
 rw [List.take_succ_eq_append_getElem h,List.filter_append,List.length_append]
 cases hq:q l[k] <;> simp [hq]
theorem counts_any (p:Nat) (hp:p < 8) (w:World) (h:TrackAt w F R it s b ev pv) (hf:s.Fine) :
  Calls Tryz.prog 39 #[.pointer (some ⟨R.b,17,none⟩),.int .i64 p] w fun e w'=>e=.returned (.tuple #[.int .i64 (s.I p).length,.int .i64 ((s.I p).filter (s.flies p)).length,.int .i64 0])∧Below w.heap.size w w':=by
 obtain ⟨i0,_⟩:=h.idc p hp
 obtain ⟨a,cp,hv,hcp,hat,_⟩:=owns_idsAt (h.ids p hp)
 rw [hv] at i0
 have hpi:(p:Int) < 8:=by omega
 have hlt:=h.lt
 have hl20:=hf.2 p hp
 have H:=Lib.hid h
 have HF:=Lib.hid hf
 have HA:=Lib.hid hat
 have HV:=Lib.hid hv
 clear h hf hat hv
 go_enter Tryz.func39,Tryz.ntmps39
 go_wp2_with fail
 with_reducible refine (isPeer_yes p p rfl hp _).mono ?_
 rintro e w1 ⟨rfl,rfl⟩
 go_wp2_with fail
 go_loopw [7,21] (fun f i wr=>∃ k:Nat,k≤(s.I p).length∧i=.int .i64 k∧f=.int .i64 (((s.I p).take k).filter (s.flies p)).length∧Below w.heap.size w wr) (fun _ i _=>(s.I p).length - (intOf i).toNat)
 case atStart=>exact ⟨0,Nat.zero_le _,rfl,rfl,Below.refl _ _⟩
 case round=>
  obtain ⟨k,hk,rfl,rfl,hbel⟩:=hrel
  by_cases hkl:k < (s.I p).length
  ·obtain ⟨g,o,rfl,hg,c0⟩:=idsAt_kept hbel HA.out k hkl
   have hstep:=count_step (q:=s.flies p) hkl
   have hle:(((s.I p).take k).filter (s.flies p)).length≤20:=Nat.le_trans (List.length_filter_le _ _) (Nat.le_trans (List.length_take_le _ _) (by omega))
   have HST:=Lib.hid hstep
   clear hstep
   go_wp2_with fail
   with_reducible refine (flight_any (s.I p)[k] _ (H.out.kept hbel) HF.out).mono ?_
   rintro e w2 ⟨r,rfl,hr,hb2⟩
   rcases hr with ⟨rfl,hr⟩ | ⟨g',n',cap',i',he',rfl,hr⟩
   ·have HFL:Hid (s.flies p (s.I p)[k]=false):=Lib.hid (by unfold TS.flies;rw [hr])
    clear hr
    go_wp2_with fail
    go_roundw
    case rel=>exact ⟨k+1,by omega,by go_num,by rw [HST.out,HFL.out];rfl,kept_trans hbel hb2⟩
    case measure=>simp [intOf];omega
   ·obtain ⟨hi,hn,ho,hq,hE⟩:=found_own (H.out.kept (kept_trans hbel hb2)) he' hr
    obtain ⟨⟨d0,_,_,_,_⟩,_,hg2⟩:=ownEnts_some ho i' hi
    have HFL:Hid (s.flies p (s.I p)[k]=((s.ents (s.I p)[k])[i'].peer == p)):=Lib.hid (by unfold TS.flies;simp only [hr,List.getElem?_eq_getElem hi])
    have hbq:=beq_nat (s.ents (s.I p)[k])[i'].peer p
    cases hbb:(s.ents (s.I p)[k])[i'].peer == p with
    | true=>
     rw [hbb] at HFL hbq
     clear hr he' hq ho hE hn hbb
     go_wp2_with fail
     go_roundw
     case rel=>exact ⟨k+1,by omega,by go_num,by rw [HST.out,HFL.out];simp only [if_true];go_num,kept_trans hbel hb2⟩
     case measure=>simp [intOf];omega
    | false=>
     rw [hbb] at HFL hbq
     clear hr he' hq ho hE hn hbb
     go_wp2_with fail
     go_roundw
     case rel=>exact ⟨k+1,by omega,by go_num,by rw [HST.out,HFL.out];rfl,kept_trans hbel hb2⟩
     case measure=>simp [intOf];omega
  ·have he:(s.I p).take k=s.I p:=List.take_of_length_le (by omega)
   have j0:=kept_cell hbel i0
   have hlt2:=(H.out.kept hbel).lt
   go_wp2_with fail
   go_ret3
   rw [he]
   exact ⟨rfl,hbel⟩
end Go.Proofs.YtlboemhbealnmaaGreat.Tr
