import Derived.Test.YtlboemhbealnmaaGreatP30
import Derived.Test.YtlboemhbealnmaaGreatP11
set_option maxRecDepth 20000
namespace Go.Proofs.YtlboemhbealnmaaGreat.Rq
open Go.Proofs.YtlboemhbealnmaaGreat.Ri
open Go.RowKit Go.Maps
theorem ref_has (G:Nat→Prop) (R:Loc) (s:RingS) (x:UInt64) (r:Bool) (hr:s.has x=r) (w:World) (h:RefAt w G R s) (hg:s.Good) :
  Calls Tryz.prog 61 #[.pointer (some ⟨R.b,7,none⟩),.int .u64 x.toNat] w fun e w'=>e=.returned (.bool r)∧w=w':=by
 obtain ⟨y,o,h1,h2,h3,h4,h5⟩:=h
 obtain ⟨⟨c0,c1,c2⟩,_⟩:=boxR_cells h1
 obtain ⟨ya,yc,rfl,yi⟩:=rowAt_form h2
 obtain ⟨oa,oc,rfl,oi⟩:=rowAt_form h3
 obtain ⟨_,g2,g3,g4,_⟩:=hg
 have hl1:s.cur.length≤maxLen:=by unfold maxLen;omega
 have hl2:s.prev.length≤maxLen:=by unfold maxLen;omega
 clear h1 h2 h3 h4 h5 g2 g3 g4
 unfold RingS.has at hr
 cases hx:s.cur.contains x with
 | true=>
  have HR:Hid (true=r):=Lib.hid (by rw [← hr,hx];rfl)
  clear hr
  go_enter Tryz.func61,Tryz.ntmps61
  go_wp2_with fail
  with_reducible refine (hasID_any s.cur x true (Lib.hid hx) _ _ _ hl1 yi).mono ?_
  rintro e w1 ⟨rfl,rfl⟩
  clear hx
  go_wp2_with fail
  go_ret
  exact ⟨ret_bool HR.out,rfl⟩
 | false=>
  have HR:Hid (s.prev.contains x=r):=Lib.hid (by rw [← hr,hx];rfl)
  clear hr
  go_enter Tryz.func61,Tryz.ntmps61
  go_wp2_with fail
  with_reducible refine (hasID_any s.cur x false (Lib.hid hx) _ _ _ hl1 yi).mono ?_
  rintro e w1 ⟨rfl,rfl⟩
  clear hx
  go_wp2_with fail
  with_reducible refine (hasID_any s.prev x r HR _ _ _ hl2 oi).mono ?_
  rintro e w1 ⟨rfl,rfl⟩
  go_wp2_with fail
  go_ret
  exact ⟨rfl,rfl⟩
theorem ref_turned {w:World} {G:Nat→Prop} {R:Loc} {s:RingS} {y o:Value} (h1:w.heap[R.b]?=some (.cells (refQC R.oc s.size y o) 54 (0,0))) (h2:RowAt w G R.b y s.cur) (h4:G R.b) (h5:There w G) :
  RefAt ((w.setCell ⟨R.b,9,none⟩ y).setCell ⟨R.b,8,none⟩ (.slice none 0 0)) G R ⟨s.size,[],s.cur⟩∧Gain R.b G G w ((w.setCell ⟨R.b,9,none⟩ y).setCell ⟨R.b,8,none⟩ (.slice none 0 0)):=by
 refine ⟨⟨_,_,boxR_set1 (boxR_set2 h1),.inl ⟨rfl,rfl⟩,rowAt_same h2 (fun k _ hk=>?_) (fun _ hk=>hk) (by simp),h4,fun k hk=>by simpa using h5 k hk⟩,(Gain.set w ⟨R.b,9,none⟩ y rfl).trans (Gain.set _ ⟨R.b,8,none⟩ _ rfl)⟩
 exact (Below.heap_setCell _ _ _ _ hk).trans (Below.heap_setCell _ _ _ _ hk)
theorem ref_stored {w w4:World} {G:Nat→Prop} {R:Loc} {g cap:Nat} {s:RingS} {x:UInt64} (h:RefAt w G R s) (hb:Below w.heap.size w w4) (ho:OwnIds w4 w.heap.size (.slice (some ⟨g,0,none⟩) (s.cur.length+1) cap) (s.cur ++ [x])) :
  ∃ G',RefAt (w4.setCell ⟨R.b,8,none⟩ (.slice (some ⟨g,0,none⟩) (s.cur.length+1) cap)) G' R ⟨s.size,s.cur ++ [x],s.prev⟩∧Gain R.b G G' w (w4.setCell ⟨R.b,8,none⟩ (.slice (some ⟨g,0,none⟩) (s.cur.length+1) cap)):=by
 have hgb:=ownIds_block ho g rfl
 obtain ⟨a,c,hv,_,hi,_⟩:=owns_idsAt ho
 obtain ⟨y,o,h1,h2,h3,h4,h5⟩:=refAt_kept h hb
 obtain ⟨_,_,_,_,_,_,h5w⟩:=h
 have hBlt:=h5w R.b h4
 simp only [Value.slice.injEq] at hv
 obtain ⟨rfl,_,_⟩:=hv
 refine ⟨fun k=>G k∨k=g,⟨_,_,boxR_set1 h1,.inr ⟨g,cap,by simp,by simp,.inr rfl,by omega,idsAt_block hi (Below.heap_setCell _ _ _ _ (by show g≠R.b;omega)) (by simp)⟩,rowAt_same h3 (fun k _ hk=>Below.heap_setCell _ _ _ _ hk) (fun k hk=>.inl hk) (by simp),.inl h4,fun k hk=>?_⟩,?_⟩
 ·rw [World.size_setCell]
  rcases hk with hk | hk
  ·exact h5 k hk
  ·omega
 ·exact ((Gain.of_below hb).trans (Gain.set w4 ⟨R.b,8,none⟩ _ rfl)).wide (fun k hk=>.inl hk) (fun k hk=>hk.imp id (fun e=>.inl (by omega)))
theorem ref_put (G:Nat→Prop) (R:Loc) (s s':RingS) (x:UInt64) (hs:s.put x=s') (w:World) (h:RefAt w G R s) (hg:s.Good) :
  Calls Tryz.prog 127 #[.pointer (some ⟨R.b,7,none⟩),.int .u64 x.toNat] w fun e w'=>e=.returned (.tuple #[])∧∃ G',RefAt w' G' R s'∧Gain R.b G G' w w':=by
 have H:=Lib.hid h
 obtain ⟨y,o,h1,h2,h3,h4,h5⟩:=h
 obtain ⟨⟨c0,c1,c2⟩,f0,f1,f2⟩:=boxR_cells h1
 obtain ⟨ya,yc,rfl,yi⟩:=rowAt_form h2
 have hlen:=hg.2.2.1
 have hlen2:=hg.2.1
 have hl1:s.cur.length≤maxLen:=by unfold maxLen;omega
 have hBlt:=h5 R.b h4
 cases hx:s.cur.contains x with
 | true=>
  have HE:Hid (∃ G',RefAt w G' R s'∧Gain R.b G G' w w):=Lib.hid ⟨G,by rw [← hs,put_there hx];exact H.out,Gain.refl G w⟩
  clear h1 h2 h3 h4 h5 hs hg
  go_enter Tryz.func127,Tryz.ntmps127
  go_wp2_with fail
  with_reducible refine (hasID_any s.cur x true (Lib.hid hx) _ _ _ hl1 yi).mono ?_
  rintro e w1 ⟨rfl,rfl⟩
  clear hx
  go_wp2_with fail
  refine bodyPost_ret (results_none rfl _ _ _) rfl ?_
  exact ⟨rfl,HE.out⟩
 | false=>
  have HX:=Lib.hid hx
  have HS:=Lib.hid hs
  clear hs
  by_cases hfull:s.size≤s.cur.length
  ·go_enter Tryz.func127,Tryz.ntmps127
   go_wp2_with fail
   with_reducible refine (hasID_any s.cur x false (Lib.hid hx) _ _ _ hl1 yi).mono ?_
   rintro e w1 ⟨rfl,rfl⟩
   have H1:=Lib.hid h1
   have H2:=Lib.hid h2
   clear hx h1 h2 h3
   go_wp2_with fail
   go_quiet (fail)
   generalize hw2:World.drewN w nq=w2
   have hb2:Below w.heap.size w w2:=hw2▸below_drewN (Below.refl _ _) _
   obtain ⟨k1,k2⟩:=ref_turned (G:=G) (w:=w2) ((hb2.block R.b hBlt).trans H1.out) (rowAt_same H2.out (fun k hk _=>hb2.block k (h5 k hk)) (fun _ hk=>hk) hb2.size) h4 (h5.later hb2.size)
   obtain ⟨⟨d0,d1,d2⟩,g0,g1,g2⟩:=boxR_cells ((hb2.block R.b hBlt).trans H1.out)
   have hB2:R.b < w2.heap.size:=Nat.lt_of_lt_of_le hBlt hb2.size
   have K1:=Lib.hid k1
   have K2:=Lib.hid k2
   clear hw2 c0 c1 c2 f0 f1 f2 k1 k2
   go_wp2_with fail
   clear d0 d1 d2 g0 g1 g2
   generalize (w2.setCell ⟨R.b,9,none⟩ (.slice ya s.cur.length yc)).setCell ⟨R.b,8,none⟩ (.slice none 0 0)=wA at K1 K2 ⊢
   with_reducible refine (copy_any G R.b _ [] wA (rowAt_nil wA G R.b) (by decide)).mono ?_
   rintro e w3 ⟨v3,rfl,ho3,hb3⟩
   go_wp2_with (at_builtin;refine append_id rfl _ _ rfl x rfl rfl ho3 (by decide) hb3.size ?_;intro g cap w4 ho4 hg4 hg4';have hb4:Below wA.heap.size wA w4:=hb3.grown hg4' hb3.size (fun k hk=>(ownIds_block ho3 k hk).1);obtain ⟨_,_,q1,_⟩:=refAt_kept K1.out hb4;obtain ⟨⟨_,q2,_⟩,_,q3,_⟩:=boxR_cells q1)
   go_end0
   obtain ⟨G',z1,z2⟩:=ref_stored (x:=x) K1.out hb4 ho4
   exact ⟨rfl,G',by rw [← HS.out,put_full HX.out hfull];exact z1,((Gain.of_below hb2).trans K2.out).trans z2⟩
  ·go_enter Tryz.func127,Tryz.ntmps127
   go_wp2_with fail
   with_reducible refine (hasID_any s.cur x false (Lib.hid hx) _ _ _ hl1 yi).mono ?_
   rintro e w1 ⟨rfl,rfl⟩
   have H1:=Lib.hid h1
   have H2:=Lib.hid h2
   clear hx h1 h2 h3
   go_wp2_with fail
   go_quiet (fail)
   generalize hw2:World.drewN w nq=w2
   have hb2:Below w.heap.size w w2:=hw2▸below_drewN (Below.refl _ _) _
   obtain ⟨⟨d0,d1,d2⟩,g0,g1,g2⟩:=boxR_cells ((hb2.block R.b hBlt).trans H1.out)
   have HRow:=Lib.hid (rowAt_same H2.out (fun k hk _=>hb2.block k (h5 k hk)) (fun _ hk=>hk) hb2.size)
   have K1:=Lib.hid (refAt_kept H.out hb2)
   clear hw2 c0 c1 c2 f0 f1 f2
   go_wp2_with fail
   with_reducible refine (copy_any G R.b _ s.cur w2 HRow.out (by omega)).mono ?_
   rintro e w3 ⟨v3,rfl,ho3,hb3⟩
   clear d0 d1 d2 g0 g1 g2
   go_wp2_with (at_builtin;refine append_id rfl _ _ rfl x rfl rfl ho3 (by omega) hb3.size ?_;intro g cap w4 ho4 hg4 hg4';have hb4:Below w2.heap.size w2 w4:=hb3.grown hg4' hb3.size (fun k hk=>(ownIds_block ho3 k hk).1);obtain ⟨_,_,q1,_⟩:=refAt_kept K1.out hb4;obtain ⟨⟨_,q2,_⟩,_,q3,_⟩:=boxR_cells q1)
   go_end0
   obtain ⟨G',z1,z2⟩:=ref_stored (x:=x) K1.out hb4 ho4
   exact ⟨rfl,G',by rw [← HS.out,put_room HX.out (by omega)];exact z1,(Gain.of_below hb2).trans z2⟩
end Go.Proofs.YtlboemhbealnmaaGreat.Rq
set_option maxRecDepth 20000
namespace Go.Proofs.YtlboemhbealnmaaGreat.Tr
open Go.RowKit Go.Maps
abbrev OwnE (w:World) (C:Nat) (v:Value) (l:List TEnt):Prop:=w.ownsRow C 105 5 v l.length (entsC l)
theorem ownE_form {w:World} {C:Nat} {v:Value} {l:List TEnt} (h:OwnE w C v l):∃ a cap,v=.slice a l.length cap∧l.length≤cap∧EntsAt w a l∧Fresh C a:=by
 rcases h.2 with ⟨hv,hn⟩ | ⟨g,cap,cur,hv,hB,hg,hc,_,_,_⟩
 ·exact ⟨none,0,by rw [hn];exact hv,by omega,fun i hi=>absurd hi (by omega),fun _ _ _ e=>by cases e⟩
 ·refine ⟨some ⟨g,0,none⟩,cap,hv,hc,fun i hi=>⟨g,0,rfl,(Array.getElem?_eq_some_iff.1 hg).1,?_⟩,fun b o sp e=>by cases e;exact hB⟩
  have hh:=h
  rw [hv] at hh
  have hat:∀ j,j < 5→w.cell? ⟨g,0+i * 5+j,none⟩=(entC l[i])[j]?:=fun j hj=>by
   rw [Nat.zero_add,hh.cellAt (i * 5+j) (by omega)]
   exact entsC_at l i hi j hj
  exact ⟨hat 0 (by omega),hat 1 (by omega),hat 2 (by omega),hat 3 (by omega),hat 4 (by omega)⟩
structure RefTr (w:World) (G:Nat→Prop) (R:Loc) (salt:UInt64) (L:List TEnt) (v:Value):Prop where
 head:w.heap[R.b]?=some (.cells (refTC R.oc salt v) 54 (0,0))
 row:OwnE w 0 v L
 none:L=[]→v=.slice none 0 0
 gB:G R.b
 gv:∀ k,v.ownBlock=some k→G k
 there:There w G
variable {w w':World} {G:Nat→Prop} {R:Loc} {salt:UInt64} {L:List TEnt} {v:Value}
theorem RefTr.same (h:RefTr w G R salt L v) (e:∀ k,k < w.heap.size→G k→w'.heap[k]?=w.heap[k]?) (hs:w.heap.size≤w'.heap.size):RefTr w' G R salt L v:=
 ⟨(e R.b (h.there R.b h.gB) h.gB).trans h.head,own_same h.row fun g hg=>e g (h.there g (h.gv g hg)) (h.gv g hg),h.none,h.gB,h.gv,h.there.later hs⟩
theorem RefTr.kept (h:RefTr w G R salt L v) (hb:Below w.heap.size w w'):RefTr w' G R salt L v:=h.same (fun k hk _=>hb.block k hk) hb.size
theorem RefTr.lt (h:RefTr w G R salt L v):R.b < w.heap.size:=h.there R.b h.gB
theorem RefTr.saltc (h:RefTr w G R salt L v):w.cell? ⟨R.b,0,Option.none⟩=some (.int .u64 salt.toNat):=head_cell h.head 0
theorem RefTr.slicec (h:RefTr w G R salt L v):w.cell? ⟨R.b,1,Option.none⟩=some v∧w.frozen? ⟨R.b,1,Option.none⟩=false:=⟨head_cell h.head 1,frozen_of_row w R.b 1 _ _ h.head⟩
theorem RefTr.stored (h:RefTr w G R salt L v) {L':List TEnt} {v':Value} (hb:Below w.heap.size w w') (ho:OwnE w' w.heap.size v' L') (hn:L'=[]→v'=.slice Option.none 0 0) :
  RefTr (w'.setCell ⟨R.b,1,Option.none⟩ v') (fun k=>G k∨v'.ownBlock=some k) R salt L' v'∧Gain R.b G (fun k=>G k∨v'.ownBlock=some k) w (w'.setCell ⟨R.b,1,Option.none⟩ v'):=by
 have hB:=h.lt
 have hvB:∀ k,v'.ownBlock=some k→k≠R.b:=fun k hk=>by have:=(ho.lt k hk).1;omega
 refine ⟨⟨heap_setCell_same w' R.b 1 _ _ v' ((hb.block R.b hB).trans h.head),own_same (own_zero ho) (fun g hg=>Below.heap_setCell w' ⟨R.b,1,Option.none⟩ v' g (hvB g hg)),hn,.inl h.gB,fun k hk=>.inr hk,fun k hk=>?_⟩,?_⟩
 ·rw [World.size_setCell]
  exact hk.elim (fun hg=>Nat.lt_of_lt_of_le (h.there k hg) hb.size) (fun e=>(ho.lt k e).2)
 ·exact ⟨hb.os,hb.tape,hb.output,by rw [World.size_setCell];exact hb.size,fun k hk hn=>(Below.heap_setCell w' ⟨R.b,1,Option.none⟩ v' k hn).trans (hb.block k hk),fun k hk=>hk.elim .inl (fun e=>.inr (ho.lt k e).1),fun k hk=>.inl hk⟩
theorem outside_any (x lo hi:Int) (w:World):Calls Tryz.prog 76 #[.int .i64 x,.int .i64 lo,.int .i64 hi] w fun e w'=>e=.returned (.bool (decide (x < lo∨hi < x)))∧w=w':=by
 by_cases h1:x < lo
 ·have h3:decide (x < lo∨hi < x)=true:=by simp [h1]
  rw [h3]
  go_enter Tryz.func76,Tryz.ntmps76
  go_wp2
  go_ret
  exact ⟨rfl,rfl⟩
 ·by_cases h2:x > hi
  ·have h3:decide (x < lo∨hi < x)=true:=by simp [h2]
   rw [h3]
   go_enter Tryz.func76,Tryz.ntmps76
   go_wp2
   go_ret
   exact ⟨rfl,rfl⟩
  ·have h3:decide (x < lo∨hi < x)=false:=decide_eq_false (by omega)
   rw [h3]
   go_enter Tryz.func76,Tryz.ntmps76
   go_wp2
   go_ret
   exact ⟨rfl,rfl⟩
theorem badPeer_is (p:Int) (r:Bool) (hr:decide (goodP p)=!r) (w:World):Calls Tryz.prog 40 #[.int .i64 p] w fun e w'=>e=.returned (.bool r)∧w=w':=by
 have HR:Hid (decide (p < 0∨7 < p)=r):=Lib.hid (by
  cases r with
  | true=>exact decide_eq_true (by have:¬ goodP p:=of_decide_eq_false hr;unfold goodP at this;omega)
  | false=>exact decide_eq_false (by have:goodP p:=of_decide_eq_true hr;unfold goodP at this;omega))
 clear hr
 go_enter Tryz.func40,Tryz.ntmps40
 go_wp2_with fail
 with_reducible refine (outside_any p 0 7 _).mono ?_
 rintro e w1 ⟨rfl,rfl⟩
 rw [HR.out]
 go_wp2_with fail
 go_ret
 exact ⟨rfl,rfl⟩
theorem badTime_is (p:Int) (r:Bool) (hr:decide (goodT p)=!r) (w:World):Calls Tryz.prog 117 #[.int .i64 p] w fun e w'=>e=.returned (.bool r)∧w=w':=by
 have HR:Hid (decide (p < 0∨1099511627776 < p)=r):=Lib.hid (by
  cases r with
  | true=>exact decide_eq_true (by have:¬ goodT p:=of_decide_eq_false hr;unfold goodT at this;omega)
  | false=>exact decide_eq_false (by have:goodT p:=of_decide_eq_true hr;unfold goodT at this;omega))
 clear hr
 go_enter Tryz.func117,Tryz.ntmps117
 go_wp2_with fail
 with_reducible refine (outside_any p 0 1099511627776 _).mono ?_
 rintro e w1 ⟨rfl,rfl⟩
 rw [HR.out]
 go_wp2_with fail
 go_ret
 exact ⟨rfl,rfl⟩
theorem badPeer_yes (p:Int) (h:¬ goodP p) (w:World):Calls Tryz.prog 40 #[.int .i64 p] w fun e w'=>e=.returned (.bool true)∧w=w':=badPeer_is p true (decide_eq_false h) w
theorem badPeer_no (p:Nat) (h:p < 8) (w:World):Calls Tryz.prog 40 #[.int .i64 p] w fun e w'=>e=.returned (.bool false)∧w=w':=badPeer_is p false (decide_eq_true ⟨by omega,by omega⟩) w
theorem badTime_yes (p:Int) (h:¬ goodT p) (w:World):Calls Tryz.prog 117 #[.int .i64 p] w fun e w'=>e=.returned (.bool true)∧w=w':=badTime_is p true (decide_eq_false h) w
theorem badTime_no (p:Int) (h:goodT p) (w:World):Calls Tryz.prog 117 #[.int .i64 p] w fun e w'=>e=.returned (.bool false)∧w=w':=badTime_is p false (decide_eq_true h) w
theorem at_any (p:Nat) (x:UInt64) (w:World) (h:RefTr w G R salt L v) (hl:L.length≤160) :
  Calls Tryz.prog 118 #[.pointer (some ⟨R.b,0,Option.none⟩),.int .i64 p,.int .u64 x.toNat] w fun e w'=>e=.returned (.int .i64 (firstAt (isE p x) L))∧Below w.heap.size w w':=by
 obtain ⟨c1,_⟩:=h.slicec
 have hlt:=h.lt
 obtain ⟨a,cp,hv,hcp,hat,_⟩:=ownE_form h.row
 rw [hv] at c1
 have HA:=Lib.hid hat
 clear h hat hv
 go_enter Tryz.func118,Tryz.ntmps118
 go_wp2
 go_loopw [14] (fun i wr=>∃ k:Nat,k≤L.length∧i=.int .i64 k∧Hid ((L.take k).findIdx? (isE p x)=none)∧Hid (Below w.heap.size w wr)) (fun i _=>L.length - (intOf i).toNat)
 case atStart=>exact ⟨0,Nat.zero_le _,rfl,Lib.hid rfl,Lib.hid (Below.refl _ _)⟩
 case round=>
  obtain ⟨k,hk,rfl,NO,HB⟩:=hrel
  by_cases hkl:k < L.length
  ·obtain ⟨g,o,rfl,hg,d0,d1,d2,d3,d4⟩:=entsAt_kept HB.out HA.out k hkl
   have hb1:=kept_alloc HB.out (.cells #[.int .i64 L[k].peer,.int .u64 L[k].id.toNat,.bool L[k].pref,.int .i64 L[k].st,.int .i64 L[k].till] 105)
   have HB1:=Lib.hid hb1
   have hq1:=beq_nat L[k].peer p
   have hq2:((L[k].id.toNat:Int) == (x.toNat:Int))=(L[k].id == x):=u64_beq _ _
   clear hb1
   cases e1:L[k].peer == p with
   | true=>
    cases e2:L[k].id == x with
    | true=>
     have HQ:Hid (isE p x L[k]=true):=Lib.hid (by unfold isE;rw [e1,e2];rfl)
     rw [e1] at hq1
     rw [e2] at hq2
     clear e1 e2
     go_wp2
     go_ret
     exact ⟨ret_i64 (firstAt_hit hkl NO.out HQ.out).symm,HB1.out⟩
    | false=>
     have HQ:Hid (isE p x L[k]=false):=Lib.hid (by unfold isE;rw [e1,e2];rfl)
     rw [e1] at hq1
     rw [e2] at hq2
     clear e1 e2
     go_wp2
     go_roundw
     case rel=>exact ⟨k+1,by omega,by go_num,Lib.hid (firstAt_miss hkl NO.out HQ.out),HB1⟩
     case measure=>simp [intOf];omega
   | false=>
    have HQ:Hid (isE p x L[k]=false):=Lib.hid (by unfold isE;rw [e1];rfl)
    rw [e1] at hq1
    clear e1
    go_wp2
    go_roundw
    case rel=>exact ⟨k+1,by omega,by go_num,Lib.hid (firstAt_miss hkl NO.out HQ.out),HB1⟩
    case measure=>simp [intOf];omega
  ·go_wp2
   go_ret
   refine ⟨ret_i64 ?_,HB.out⟩
   have h1:=NO.out
   rw [List.take_of_length_le (by omega)] at h1
   unfold firstAt
   rw [h1]
theorem refAsked_any (x:UInt64) (w:World) (h:RefTr w G R salt L v) (hl:L.length≤160) (r:Bool) (hr:L.any (fun e=>e.id == x && e.st == 2)=r) :
  Calls Tryz.prog 132 #[.pointer (some ⟨R.b,0,Option.none⟩),.int .u64 x.toNat] w fun e w'=>e=.returned (.bool r)∧Below w.heap.size w w':=by
 obtain ⟨c1,_⟩:=h.slicec
 have hlt:=h.lt
 obtain ⟨a,cp,hv,hcp,hat,_⟩:=ownE_form h.row
 rw [hv] at c1
 have HA:=Lib.hid hat
 have HR:=Lib.hid hr
 clear h hat hv hr
 go_enter Tryz.func132,Tryz.ntmps132
 go_wp2
 go_loopw [12] (fun i wr=>∃ k:Nat,k≤L.length∧i=.int .i64 k∧Hid ((L.take k).any (fun e=>e.id == x && e.st == 2)=false)∧Hid (Below w.heap.size w wr)) (fun i _=>L.length - (intOf i).toNat)
 case atStart=>exact ⟨0,Nat.zero_le _,rfl,Lib.hid rfl,Lib.hid (Below.refl _ _)⟩
 case round=>
  obtain ⟨k,hk,rfl,NO,HB⟩:=hrel
  by_cases hkl:k < L.length
  ·obtain ⟨g,o,rfl,hg,d0,d1,d2,d3,d4⟩:=entsAt_kept HB.out HA.out k hkl
   have HB1:=Lib.hid (kept_alloc HB.out (.cells #[.int .i64 L[k].peer,.int .u64 L[k].id.toNat,.bool L[k].pref,.int .i64 L[k].st,.int .i64 L[k].till] 105))
   have hq1:=beq_nat L[k].st 2
   have hq2:((L[k].id.toNat:Int) == (x.toNat:Int))=(L[k].id == x):=u64_beq _ _
   have hst:(L.take (k+1)).any (fun e=>e.id == x && e.st == 2)=((L.take k).any (fun e=>e.id == x && e.st == 2) || (L[k].id == x && L[k].st == 2)):=by rw [List.take_succ_eq_append_getElem hkl,List.any_append];simp
   rw [NO.out,Bool.false_or] at hst
   have HST:=Lib.hid hst
   clear hst
   cases e2:L[k].id == x with
   | true=>
    cases e1:L[k].st == 2 with
    | true=>
     rw [e1] at hq1
     rw [e2] at hq2
     have HQ:Hid (true=r):=Lib.hid (by
      rw [← HR.out]
      exact (List.any_eq_true.2 ⟨L[k],List.getElem_mem hkl,by rw [e1,e2];rfl⟩).symm)
     clear e1 e2
     go_wp2
     go_ret
     exact ⟨ret_bool HQ.out,HB1.out⟩
    | false=>
     rw [e1,e2] at HST
     rw [e1] at hq1
     rw [e2] at hq2
     clear e1 e2
     go_wp2
     go_roundw
     case rel=>exact ⟨k+1,by omega,by go_num,HST,HB1⟩
     case measure=>simp [intOf];omega
   | false=>
    rw [e2] at HST hq2
    clear e2
    go_wp2
    go_roundw
    case rel=>exact ⟨k+1,by omega,by go_num,HST,HB1⟩
    case measure=>simp [intOf];omega
  ·go_wp2
   go_ret
   refine ⟨ret_bool ?_,HB.out⟩
   have h1:=NO.out
   rw [List.take_of_length_le (by omega)] at h1
   exact h1.symm.trans HR.out
theorem refCounts_bad (p:Int) (hp:¬ goodP p) (w:World):Calls Tryz.prog 19 #[.pointer (some ⟨R.b,0,Option.none⟩),.int .i64 p] w fun e w'=>e=.returned (.tuple #[.int .i64 0,.int .i64 0,.int .i64 1])∧w=w':=by
 have HP:=Lib.hid hp
 clear hp
 go_enter Tryz.func19,Tryz.ntmps19
 go_wp2_with fail
 with_reducible refine (badPeer_yes p HP.out _).mono ?_
 rintro e w1 ⟨rfl,rfl⟩
 go_wp2_with fail
 go_ret3
 exact ⟨rfl,rfl⟩
theorem count_more {q:TEnt→Bool} {l:List TEnt} {k:Nat} (h:k < l.length):((l.take (k+1)).filter q).length=((l.take k).filter q).length+if q l[k] then 1 else 0:=by
 rw [List.take_succ_eq_append_getElem h,List.filter_append,List.length_append]
 cases hq:q l[k] <;> simp [hq]
theorem refCounts_any (p:Nat) (hp:p < 8) (w:World) (h:RefTr w G R salt L v) (hl:L.length≤160) :
  Calls Tryz.prog 19 #[.pointer (some ⟨R.b,0,Option.none⟩),.int .i64 p] w fun e w'=>e=.returned (.tuple #[.int .i64 (L.filter fun e=>e.peer == p).length,.int .i64 (L.filter fun e=>e.peer == p && e.st == 2).length,.int .i64 0])∧Below w.heap.size w w':=by
 obtain ⟨c1,_⟩:=h.slicec
 have hlt:=h.lt
 obtain ⟨a,cp,hv,hcp,hat,_⟩:=ownE_form h.row
 rw [hv] at c1
 have HA:=Lib.hid hat
 clear h hat hv
 go_enter Tryz.func19,Tryz.ntmps19
 go_wp2_with fail
 with_reducible refine (badPeer_no p hp _).mono ?_
 rintro e w1 ⟨rfl,rfl⟩
 go_wp2
 go_loopw [7,8,18] (fun n f i wr=>∃ k:Nat,k≤L.length∧i=.int .i64 k∧n=.int .i64 ((L.take k).filter fun e=>e.peer == p).length∧f=.int .i64 ((L.take k).filter fun e=>e.peer == p && e.st == 2).length∧Hid (Below w.heap.size w wr)) (fun _ _ i _=>L.length - (intOf i).toNat)
 case atStart=>exact ⟨0,Nat.zero_le _,rfl,rfl,rfl,Lib.hid (Below.refl _ _)⟩
 case round=>
  obtain ⟨k,hk,rfl,rfl,rfl,HB⟩:=hrel
  by_cases hkl:k < L.length
  ·obtain ⟨g,o,rfl,hg,d0,d1,d2,d3,d4⟩:=entsAt_kept HB.out HA.out k hkl
   have HB1:=Lib.hid (kept_alloc HB.out (.cells #[.int .i64 L[k].peer,.int .u64 L[k].id.toNat,.bool L[k].pref,.int .i64 L[k].st,.int .i64 L[k].till] 105))
   have hq1:=beq_nat L[k].peer p
   have hq2:=beq_nat L[k].st 2
   have HN:=Lib.hid (count_more (q:=fun e=>e.peer == p) hkl)
   have HM:=Lib.hid (count_more (q:=fun e=>e.peer == p && e.st == 2) hkl)
   have hn1:((L.take k).filter fun e=>e.peer == p).length≤160:=Nat.le_trans (List.length_filter_le _ _) (Nat.le_trans (List.length_take_le _ _) (by omega))
   have hn2:((L.take k).filter fun e=>e.peer == p && e.st == 2).length≤160:=Nat.le_trans (List.length_filter_le _ _) (Nat.le_trans (List.length_take_le _ _) (by omega))
   cases e1:L[k].peer == p with
   | true=>
    cases e2:L[k].st == 2 with
    | true=>
     rw [e1] at hq1 HN HM
     rw [e2] at hq2 HM
     clear e1 e2
     go_wp2
     go_roundw
     case rel=>exact ⟨k+1,by omega,by go_num,by rw [HN.out];simp only [if_true];go_num,by rw [HM.out];simp only [Bool.and_self,if_true];go_num,HB1⟩
     case measure=>simp [intOf];omega
    | false=>
     rw [e1] at hq1 HN HM
     rw [e2] at hq2 HM
     clear e1 e2
     go_wp2
     go_roundw
     case rel=>exact ⟨k+1,by omega,by go_num,by rw [HN.out];simp only [if_true];go_num,by rw [HM.out];rfl,HB1⟩
     case measure=>simp [intOf];omega
   | false=>
    rw [e1] at hq1 HN HM
    clear e1
    go_wp2
    go_roundw
    case rel=>exact ⟨k+1,by omega,by go_num,by rw [HN.out];rfl,by rw [HM.out];rfl,HB1⟩
    case measure=>simp [intOf];omega
  ·have he:L.take k=L:=List.take_of_length_le (by omega)
   go_wp2
   go_ret3
   rw [he]
   exact ⟨rfl,HB.out⟩
end Go.Proofs.YtlboemhbealnmaaGreat.Tr
namespace Go.Proofs.YtlboemhbealnmaaGreat.Tr
open Go.RowKit Go.Maps
variable {w w':World} {G:Nat→Prop} {R:Loc} {salt:UInt64} {L:List TEnt} {v:Value}
theorem info_entR:(Tryz.prog.info? 105).map (fun i=>(i.zero,i.size,i.bytes))=some (some (.agg #[.int .i64 0,.int .u64 0,.bool false,.int .i64 0,.int .i64 0]),5,40):=by kernel_rfl
theorem append_entR {ops:Array Oper} {rest:List Oper} {o:Oper} {a:Act} {Q:Exit→Act→World→Prop} {w:World} (hgd:o.guard=none) (s x:Operand) (ho:o.op=.call { callee:=.builtin .append,args:=#[s,x],argTypes:=#[41,41] })
  {C:Nat} {v:Value} {d:List TEnt} (y:TEnt) (hs:a.eval s=v) (hx:a.eval x=.slice (some ⟨w.heap.size,0,none⟩) 1 1) (hown:OwnE w C v d) (hlen:d.length≤1000000) (hC:C≤w.heap.size)
  (h:∀ g cap w',OwnE w' C (.slice (some ⟨g,0,none⟩) (d.length+1) cap) (d ++ [y])→w.grownBy w' v.ownBlock→wpList Tryz.prog ops Q rest (a.put o.dst (.slice (some ⟨g,0,none⟩) (d.length+1) cap)) w') :
  wpList Tryz.prog ops Q (o :: rest) a (w.alloc (.cells #[.int .i64 y.peer,.int .u64 y.id.toNat,.bool y.pref,.int .i64 y.st,.int .i64 y.till] 105)):=by
 obtain ⟨i0,hi0,hz0,hz1,hz2⟩:=info_parts info_entR
 refine wpList_append_lies _ hgd s x 41 ho C 105 i0 _ 5 40 Tryz.underlying41 hi0 hz0 hz1 hz2 rfl (by decide) v d.length (entsC d) hs (hown.alloc _) ⟨w.heap.size,0,none⟩ 1 1 (entC y) hx rfl (cells_new w _ _) (by simp [entC,Value.oneCell']) (by decide) (by unfold maxLen;omega) (by omega) (by simp;omega) _ rfl ?_
 intro g cap w1 hown' hgrow _ _
 refine h g cap w1 ?_ ((World.grownBy_alloc w _ _).trans hgrow)
 unfold OwnE
 rw [List.length_append,entsC_append]
 have:entsC [y]=entC y:=by simp [entsC]
 rw [this]
 exact hown'
def CopyOf (w:World) (l:List TEnt) (e:Ending) (w':World):Prop:=∃ v',e=.returned v'∧(∃ a cap,v'=.slice a l.length cap)∧OwnE w' w.heap.size v' l∧(l=[]→v'=.slice none 0 0)∧Below w.heap.size w w'
theorem copyR_any (l:List TEnt) (v:Value) (w:World) (hl:l.length≤160) (ho:OwnE w 0 v l) (hn:l=[]→v=.slice none 0 0) :
  Calls Tryz.prog 119 #[v] w fun e w'=>CopyOf w l e w':=by
 by_cases hnil:l=[]
 ·obtain rfl:=hn hnil
  subst hnil
  have HE:Hid (CopyOf w [] (.returned (.slice none 0 0)) w):=Lib.hid ⟨_,rfl,⟨none,0,rfl⟩,World.ownsRow_nil _ _ _ _,fun _=>rfl,Below.refl _ _⟩
  clear hl ho hn
  go_enter Tryz.func119,Tryz.ntmps119
  go_wp2
  go_ret
  exact HE.out
 ·have hpos:0 < l.length:=List.length_pos_iff.2 hnil
  obtain ⟨g,cap,rfl,_,_⟩:=ho.form hpos
  obtain ⟨iE,hiE,hz0,hz1,hz2⟩:=info_parts info_entR
  have HN:Hid (∀ j u,(entsC l)[j]?=some u→w.cell? ((⟨g,0,none⟩:Addr).add j)=some u):=Lib.hid (fun j u hj=>ho.cells rfl j u hj)
  have HNE:=Lib.hid hnil
  clear ho hn hnil
  go_enter Tryz.func119,Tryz.ntmps119
  go_wp2_with (at_builtin;refine wpList_append_lies _ rfl _ _ 41 rfl w.heap.size 105 iE _ 5 40 Tryz.underlying41 hiE hz0 hz1 hz2 rfl (by decide) (.slice none 0 0) 0 [] rfl (World.ownsRow_nil _ _ _ _) ⟨g,0,none⟩ l.length cap (entsC l) rfl (entsC_length l) HN.out (entC_one l) hpos (by unfold maxLen;omega) (by omega) (Nat.le_refl _) _ rfl ?_;intro g2 cap2 w2 hown2 hgrow2 hat2 hlt2)
  have HE:Hid (CopyOf w l (.returned (.slice (some ⟨g2,0,none⟩) l.length cap2)) w2):=Lib.hid (by
   rw [Nat.zero_add] at hown2
   exact ⟨_,rfl,⟨_,_,rfl⟩,hown2,fun h=>absurd h HNE.out,(Below.refl _ _).grown hgrow2 (Nat.le_refl _) (fun j hj=>by cases hj)⟩)
  clear hown2 hgrow2 hat2
  go_wp2
  go_ret
  exact HE.out
set_option maxRecDepth 20000 in
theorem without_any (K:World→Prop) (hK:∀ a b,K a→Below a.heap.size a b→K b) (f:FuncId) (fc:Array Value) (q:TEnt→Bool) (hp:Picks K f fc q) (l:List TEnt) (a:Option Addr) (cp:Nat) (w:World) (hw:K w) (hl:l.length≤160) (hi:EntsAt w a l) :
  Calls Tryz.prog 109 #[.slice a l.length cp,.func (.func f) #[] fc] w fun e w'=>CopyOf w (l.filter fun e=>!q e) e w':=by
 have hcf:=hp.1
 have HP:=Lib.hid hp.2
 have HK:=Lib.hid hK
 have HW:=Lib.hid hw
 have HI:=Lib.hid hi
 clear hp hK hw hi
 go_enter Tryz.func109,Tryz.ntmps109
 go_wp2
 go_loopw [5,10] (fun v i wr=>∃ k:Nat,k≤l.length∧i=.int .i64 k∧Hid (OwnE wr w.heap.size v ((l.take k).filter fun e=>!q e))∧Hid (((l.take k).filter fun e=>!q e)=[]→v=.slice none 0 0)∧Hid (Below w.heap.size w wr)) (fun _ i _=>l.length - (intOf i).toNat)
 case atStart=>exact ⟨0,Nat.zero_le _,rfl,Lib.hid (World.ownsRow_nil _ _ _ _),Lib.hid (fun _=>rfl),Lib.hid (Below.refl _ _)⟩
 case round=>
  obtain ⟨k,hk,rfl,HO,HNI,HB⟩:=hrel
  rename_i u5
  by_cases hkl:k < l.length
  ·obtain ⟨g,o,rfl,hg,hc5⟩:=entsAt_kept HB.out HI.out k hkl
   have hstep:=filter_step (q:=fun e=>!q e) hkl
   obtain ⟨e0,he0⟩:∃ e0,l[k]=e0:=⟨_,rfl⟩
   rw [he0] at hc5 hstep
   obtain ⟨c0,c1,c2,c3,c4⟩:=hc5
   have HST:=Lib.hid hstep
   have hlen:((l.take k).filter fun e=>!q e).length≤160:=Nat.le_trans (List.length_filter_le _ _) (Nat.le_trans (List.length_take_le _ _) (by omega))
   have hb1:=kept_new wr (.cells #[.int .i64 e0.peer,.int .u64 e0.id.toNat,.bool e0.pref,.int .i64 e0.st,.int .i64 e0.till] 105)
   clear hstep he0
   go_wp2_with fail
   refine (HP.out e0 _ (HK.out _ _ HW.out (kept_trans HB.out hb1))).mono ?_
   rintro e w2 ⟨rfl,hb2⟩
   have hb12:=kept_trans hb1 hb2
   obtain ⟨d0,d1,d2,d3,d4⟩:EntAt w2 wr.heap.size 0 e0:=entAt_kept hb2 ⟨by simp [go_sem],by simp [go_sem],by simp [go_sem],by simp [go_sem],by simp [go_sem]⟩
   have hlt2:=(cell_spot d0).2
   have HO2:=Lib.hid (owns_below HO.out hb12)
   have HB2:=Lib.hid (kept_trans HB.out hb12)
   clear hb1 hb12
   cases hq:q e0 with
   | true=>
    rw [hq] at HST
    clear hq
    go_wp2_with fail
    go_roundw
    case rel=>exact ⟨k+1,by omega,by go_num,Lib.hid (by rw [HST.out];simp only [Bool.not_true,Bool.false_eq_true,if_false,List.append_nil];exact HO2.out),Lib.hid (by rw [HST.out];simp only [Bool.not_true,Bool.false_eq_true,if_false,List.append_nil];exact HNI.out),HB2⟩
    case measure=>simp [intOf];omega
   | false=>
    rw [hq] at HST
    clear hq
    go_wp2_with (at_builtin;refine append_entR rfl _ _ rfl e0 rfl rfl HO2.out (by omega) HB2.out.size ?_;intro g4 cap4 w4 ho4 hg4)
    have HO4:=Lib.hid ho4
    have HB4:=Lib.hid (HB2.out.grown hg4 HB2.out.size (fun j hj=>(HO2.out.lt j hj).1))
    clear ho4 hg4
    go_wp2_with fail
    go_roundw
    case rel=>exact ⟨k+1,by omega,by go_num,Lib.hid (by rw [HST.out];simp only [Bool.not_false,if_true];exact HO4.out),Lib.hid (by rw [HST.out];intro h;simp at h),HB4⟩
    case measure=>simp [intOf];omega
  ·have he:l.take k=l:=List.take_of_length_le (by omega)
   have HO':=HO.out
   have HN':=HNI.out
   rw [he] at HO' HN'
   obtain ⟨a6,cap6,e6,_,_,_⟩:=ownE_form HO'
   subst e6
   have HE:=Lib.hid (And.intro HO' HN')
   clear HO' HN' he
   go_wp2_with fail
   go_ret
   exact ⟨_,rfl,⟨_,_,rfl⟩,HE.out.1,HE.out.2,HB.out⟩
def Looks (B c1:Nat) (a:Option Addr) (cp:Nat) (L:List TEnt) (w:World):Prop:=w.cell? ⟨c1,0,none⟩=some (.pointer (some ⟨B,0,none⟩))∧w.cell? ⟨B,1,none⟩=some (.slice a L.length cp)∧EntsAt w a L
theorem looks_kept {B c1:Nat} {a:Option Addr} {cp:Nat} {L:List TEnt} (u w:World) (h:Looks B c1 a cp L u) (hb:Below u.heap.size u w):Looks B c1 a cp L w:=⟨kept_cell hb h.1,kept_cell hb h.2.1,entsAt_kept hb h.2.2⟩
set_option maxRecDepth 20000 in
theorem open_fn (B c1:Nat) (a:Option Addr) (cp:Nat) (L:List TEnt) (hl:L.length≤160) (x:UInt64) (w:World) (h:Looks B c1 a cp L w) :
  Calls Tryz.prog 171 #[.int .u64 x.toNat,.pointer (some ⟨c1,0,none⟩)] w fun e w'=>e=.returned (.bool (openL L x))∧Below w.heap.size w w':=by
 obtain ⟨c0,c1',hat⟩:=h
 have hl1:=(cell_spot c0).2
 have hl2:=(cell_spot c1').2
 have HA:=Lib.hid hat
 obtain ⟨r,hr⟩:∃ r,openL L x=r:=⟨_,rfl⟩
 rw [hr]
 have HR:Hid (L.any (fun e=>e.id == x && e.st != 3)=r):=Lib.hid hr
 clear hat hr
 go_enter Tryz.func171,Tryz.ntmps171
 go_wp2
 go_loopw [11] (fun i wr=>∃ k:Nat,k≤L.length∧i=.int .i64 k∧Hid ((L.take k).any (fun e=>e.id == x && e.st != 3)=false)∧Hid (Below w.heap.size w wr)) (fun i _=>L.length - (intOf i).toNat)
 case atStart=>exact ⟨0,Nat.zero_le _,rfl,Lib.hid rfl,Lib.hid (Below.refl _ _)⟩
 case round=>
  obtain ⟨k,hk,rfl,NO,HB⟩:=hrel
  by_cases hkl:k < L.length
  ·obtain ⟨g,o,rfl,hg,d0,d1,d2,d3,d4⟩:=entsAt_kept HB.out HA.out k hkl
   have HB1:=Lib.hid (kept_alloc HB.out (.cells #[.int .i64 L[k].peer,.int .u64 L[k].id.toNat,.bool L[k].pref,.int .i64 L[k].st,.int .i64 L[k].till] 105))
   have hq1:=bne_nat L[k].st 3
   have hq2:((L[k].id.toNat:Int) == (x.toNat:Int))=(L[k].id == x):=u64_beq _ _
   have hst:(L.take (k+1)).any (fun e=>e.id == x && e.st != 3)=((L.take k).any (fun e=>e.id == x && e.st != 3) || (L[k].id == x && L[k].st != 3)):=by rw [List.take_succ_eq_append_getElem hkl,List.any_append];simp
   rw [NO.out,Bool.false_or] at hst
   have HST:=Lib.hid hst
   clear hst
   cases e2:L[k].id == x with
   | true=>
    cases e1:L[k].st != 3 with
    | true=>
     rw [e1] at hq1
     rw [e2] at hq2
     have HQ:Hid (true=r):=Lib.hid (by
      rw [← HR.out]
      exact (List.any_eq_true.2 ⟨L[k],List.getElem_mem hkl,by rw [e1,e2];rfl⟩).symm)
     clear e1 e2
     go_wp2
     go_ret
     exact ⟨ret_bool HQ.out,HB1.out⟩
    | false=>
     rw [e1,e2] at HST
     rw [e1] at hq1
     rw [e2] at hq2
     clear e1 e2
     go_wp2
     go_roundw
     case rel=>exact ⟨k+1,by omega,by go_num,HST,HB1⟩
     case measure=>simp [intOf];omega
   | false=>
    rw [e2] at HST hq2
    clear e2
    go_wp2
    go_roundw
    case rel=>exact ⟨k+1,by omega,by go_num,HST,HB1⟩
    case measure=>simp [intOf];omega
  ·go_wp2
   go_ret
   refine ⟨ret_bool ?_,HB.out⟩
   have h1:=NO.out
   rw [List.take_of_length_le (by omega)] at h1
   exact h1.symm.trans HR.out
def Looks2 (B c1 c2:Nat) (a:Option Addr) (cp:Nat) (L:List TEnt) (w:World):Prop:=w.cell? ⟨c2,0,none⟩=some (.func (.func 171) #[] #[.pointer (some ⟨c1,0,none⟩)])∧Looks B c1 a cp L w
theorem looks2_kept {B c1 c2:Nat} {a:Option Addr} {cp:Nat} {L:List TEnt} (u w:World) (h:Looks2 B c1 c2 a cp L u) (hb:Below u.heap.size u w):Looks2 B c1 c2 a cp L w:=⟨kept_cell hb h.1,looks_kept u w h.2 hb⟩
theorem picks_shut (B c1 c2:Nat) (a:Option Addr) (cp:Nat) (L:List TEnt) (hl:L.length≤160):Picks (Looks2 B c1 c2 a cp L) 172 #[.pointer (some ⟨c2,0,none⟩)] (fun e=>!openL L e.id):=by
 refine ⟨fun _ _=>by kernel_rfl,fun e w hw=>?_⟩
 unfold entV
 have hc:=hw.1
 have hlt:c2 < w.heap.size:=(cell_spot hc).2
 have HW:=Lib.hid hw.2
 clear hw
 show Calls Tryz.prog 172 #[.agg #[.int .i64 e.peer,.int .u64 e.id.toNat,.bool e.pref,.int .i64 e.st,.int .i64 e.till],.pointer (some ⟨c2,0,none⟩)] w _
 go_enter Tryz.func172,Tryz.ntmps172
 go_wp2_with fail
 with_reducible refine (open_fn B c1 a cp L hl e.id _ (looks_kept _ _ HW.out (kept_new _ _))).mono ?_
 rintro x w1 ⟨rfl,hb1⟩
 go_wp2_with fail
 go_ret
 exact ⟨rfl,kept_trans (kept_new _ _) hb1⟩
theorem CopyOf.as {w w':World} {l m:List TEnt} {e:Ending} (h:CopyOf w l e w') (he:l=m):CopyOf w m e w':=he▸h
end Go.Proofs.YtlboemhbealnmaaGreat.Tr
