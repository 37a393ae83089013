import Derived.Test.YtlboemhbealnmaaGreatP31
import Derived.Deep.RegionLaw
import Derived.Laws.EntriesVeiled
set_option maxRecDepth 20000
namespace Go.Proofs.YtlboemhbealnmaaGreat.Tr
open Go.RowKit Go.Maps
variable {w w':World} {G:Nat→Prop} {R:Loc} {salt:UInt64} {L:List TEnt} {v:Value}
theorem own_low {w:World} {B C:Nat} {e:TypeId} {size n:Nat} {v:Value} {xs:List Value} (h:w.ownsRow B e size v n xs) (hC:C≤B):w.ownsRow C e size v n xs:=⟨h.1,h.2.imp id fun ⟨g,cap,cur,h1,h2,h3⟩=>⟨g,cap,cur,h1,Nat.le_trans hC h2,h3⟩⟩
def RefTurned (w w':World) (G:Nat→Prop) (R:Loc) (salt:UInt64) (L:List TEnt):Prop:=∃ G' v',RefTr w' G' R salt L v'∧Gain R.b G G' w w'
theorem ref_settled (h:RefTr w G R salt L v) {w1:World} {L':List TEnt} {v':Value} (hb:Below w.heap.size w w') (hc:CopyOf w' L' (.returned v') w1):RefTurned w (w1.setCell ⟨R.b,1,none⟩ v') G R salt L':=by
 obtain ⟨v2,h1,_,h2,h3,h4⟩:=hc
 obtain rfl:v'=v2:=by cases h1;rfl
 obtain ⟨h5,h6⟩:=h.stored (kept_trans hb h4) (own_low h2 hb.size) h3
 exact ⟨_,_,h5,h6⟩
theorem copy_form {l:List TEnt} {e:Ending} (h:CopyOf w l e w'):∃ a cap,e=.returned (.slice a l.length cap):=by
 obtain ⟨v,rfl,⟨a,cap,rfl⟩,_⟩:=h
 exact ⟨a,cap,rfl⟩
theorem copy_below {l:List TEnt} {e:Ending} (h:CopyOf w l e w'):Below w.heap.size w w':=by
 obtain ⟨v,_,_,_,_,h⟩:=h
 exact h
theorem shut_eq (L:List TEnt):(L.filter fun e=>!!openL L e.id)=settleL L:=by
 unfold settleL
 exact List.filter_congr fun e _=>Bool.not_not _
theorem free_kept {a:Addr} {u:Value} (hb:Below w.heap.size w w') (hc:w.cell? a=some u) (hf:w.frozen? a=false):w'.frozen? a=false:=(hb.frozen (cell_spot hc).2).trans hf
theorem looks2_ents {B c1 c2:Nat} {a:Option Addr} {cp:Nat} {L:List TEnt} {w:World} (h:Looks2 B c1 c2 a cp L w):EntsAt w a L:=h.2.2.2
theorem refSettle_any (w:World) (h:RefTr w G R salt L v) (hl:L.length≤160) :
  Calls Tryz.prog 111 #[.pointer (some ⟨R.b,0,none⟩)] w fun e w'=>e=.returned (.tuple #[])∧RefTurned w w' G R salt (settleL L):=by
 obtain ⟨c1,f1⟩:=h.slicec
 have hlt:=h.lt
 obtain ⟨a,cp,hv,hcp,hat,_⟩:=ownE_form h.row
 rw [hv] at c1
 have HA:=Lib.hid hat
 have H:=Lib.hid h
 clear h hat hv
 go_enter Tryz.func111,Tryz.ntmps111
 go_wp2_with fail
 obtain ⟨wX,hwX⟩:∃ x,x=(w.alloc (.cells #[.pointer (some ⟨R.b,0,none⟩)] 102)).alloc (.cells #[.func (.func 171) #[] #[.pointer (some ⟨w.heap.size,0,none⟩)]] 125):=⟨_,rfl⟩
 have hbX:Below w.heap.size w wX:=hwX▸kept_alloc (kept_new _ _) _
 have q0:wX.cell? ⟨w.heap.size,0,none⟩=some (.pointer (some ⟨R.b,0,none⟩)):=by rw [hwX];simp [go_sem]
 have q1:wX.cell? ⟨w.heap.size+1,0,none⟩=some (.func (.func 171) #[] #[.pointer (some ⟨w.heap.size,0,none⟩)]):=by rw [hwX];simp [go_sem]
 have q2:=kept_cell hbX c1
 have q3:=free_kept hbX c1 f1
 have HL:Hid (Looks2 R.b w.heap.size (w.heap.size+1) a cp L wX):=Lib.hid ⟨q1,q0,q2,entsAt_kept hbX HA.out⟩
 have hne:w.heap.size≠R.b:=by omega
 rw [← hwX]
 clear hwX
 go_region_law (first
   | (go_simp;go_at_call 109;(with_reducible refine (without_any (Looks2 R.b w.heap.size (w.heap.size+1) a cp L) looks2_kept _ _ _ (picks_shut R.b w.heap.size (w.heap.size+1) a cp L hl) L a cp _ (looks2_kept _ _ HL.out ((Below.refl _ _).drew)) hl (looks2_ents (looks2_kept _ _ HL.out ((Below.refl _ _).drew)))).mono ?_);intro e w2 hc2;replace hc2:=hc2.as (shut_eq L);obtain ⟨a2,cp2,rfl⟩:=copy_form hc2;have hb2:=copy_below hc2;have q6:=kept_cell hb2 q0;have q4:=kept_cell hb2 q2;have q5:=free_kept hb2 q2 q3;have HC2:=Lib.hid hc2;clear hc2))
 all_goals
  go_end0
  exact ⟨rfl,ref_settled H.out (kept_trans hbX ((Below.refl _ _).drew)) HC2.out⟩
theorem picks_idR (c:Nat) (x:UInt64):Picks (CellIs c (.int .u64 x.toNat)) 176 #[.pointer (some ⟨c,0,none⟩)] (fun e=>e.id == x):=by
 refine ⟨fun _ _=>by kernel_rfl,fun e w hw=>?_⟩
 unfold entV
 have hc:=cell_spot hw
 have hw:w.cell? ⟨c,0,none⟩=some (.int .u64 x.toNat):=hw
 have hlt:c < w.heap.size:=hc.2
 clear hc
 have hq:((e.id.toNat:Int) == (x.toNat:Int))=(e.id == x):=u64_beq e.id x
 show Calls Tryz.prog 176 #[.agg #[.int .i64 e.peer,.int .u64 e.id.toNat,.bool e.pref,.int .i64 e.st,.int .i64 e.till],.pointer (some ⟨c,0,none⟩)] w _
 go_enter Tryz.func176,Tryz.ntmps176
 go_wp2
 go_ret
 exact ⟨rfl,kept_new _ _⟩
theorem picks_peerR (c p:Nat):Picks (CellIs c (.int .i64 p)) 110 #[.pointer (some ⟨c,0,none⟩)] (fun e=>e.peer == p):=by
 refine ⟨fun _ _=>by kernel_rfl,fun e w hw=>?_⟩
 unfold entV
 have hc:=cell_spot hw
 have hw:w.cell? ⟨c,0,none⟩=some (.int .i64 p):=hw
 have hlt:c < w.heap.size:=hc.2
 clear hc
 have hq:=beq_nat e.peer p
 show Calls Tryz.prog 110 #[.agg #[.int .i64 e.peer,.int .u64 e.id.toNat,.bool e.pref,.int .i64 e.st,.int .i64 e.till],.pointer (some ⟨c,0,none⟩)] w _
 go_enter Tryz.func110,Tryz.ntmps110
 go_wp2
 go_ret
 exact ⟨rfl,kept_new _ _⟩
theorem refForget_any (x:UInt64) (w:World) (h:RefTr w G R salt L v) (hl:L.length≤160) :
  Calls Tryz.prog 128 #[.pointer (some ⟨R.b,0,none⟩),.int .u64 x.toNat] w fun e w'=>e=.returned (.tuple #[])∧RefTurned w w' G R salt (forgetL L x):=by
 obtain ⟨c1,f1⟩:=h.slicec
 have hlt:=h.lt
 obtain ⟨a,cp,hv,hcp,hat,_⟩:=ownE_form h.row
 rw [hv] at c1
 have HA:=Lib.hid hat
 have H:=Lib.hid h
 clear h hat hv
 go_enter Tryz.func128,Tryz.ntmps128
 go_wp2_with fail
 with_reducible refine (without_any (CellIs w.heap.size (.int .u64 x.toNat)) (cellIs_kept _ _) _ _ _ (picks_idR w.heap.size x) L a cp _ (cellIs_new _ _ _) hl (entsAt_kept (kept_new _ _) HA.out)).mono ?_
 intro e w2 hc2
 obtain ⟨a2,cp2,rfl⟩:=copy_form hc2
 have hb2:=copy_below hc2
 have q4:=kept_cell (kept_trans (kept_new _ _) hb2) c1
 have q5:=free_kept (kept_trans (kept_new _ _) hb2) c1 f1
 have HC2:=Lib.hid hc2
 clear hc2
 go_wp2_with fail
 go_end0
 exact ⟨rfl,ref_settled H.out (kept_new _ _) HC2.out⟩
theorem refDrop_any (p:Nat) (hp:p < 8) (w:World) (h:RefTr w G R salt L v) (hl:L.length≤160) :
  Calls Tryz.prog 56 #[.pointer (some ⟨R.b,0,none⟩),.int .i64 p] w fun e w'=>e=.returned (.int .i64 0)∧RefTurned w w' G R salt (dropL L p):=by
 obtain ⟨c1,f1⟩:=h.slicec
 have hlt:=h.lt
 obtain ⟨a,cp,hv,hcp,hat,_⟩:=ownE_form h.row
 rw [hv] at c1
 have HA:=Lib.hid hat
 have H:=Lib.hid h
 clear h hat hv
 go_enter Tryz.func56,Tryz.ntmps56
 go_wp2_with fail
 with_reducible refine (badPeer_no p hp _).mono ?_
 rintro e w1 ⟨rfl,rfl⟩
 go_wp2_with fail
 with_reducible refine (without_any (CellIs w.heap.size (.int .i64 p)) (cellIs_kept _ _) _ _ _ (picks_peerR w.heap.size p) L a cp _ (cellIs_new _ _ _) hl (entsAt_kept (kept_new _ _) HA.out)).mono ?_
 intro e w2 hc2
 obtain ⟨a2,cp2,rfl⟩:=copy_form hc2
 have hb2:=copy_below hc2
 have q4:=kept_cell (kept_trans (kept_new _ _) hb2) c1
 have q5:=free_kept (kept_trans (kept_new _ _) hb2) c1 f1
 have HC2:=Lib.hid hc2
 clear hc2
 go_wp2_with fail
 obtain ⟨G3,v3,h3,t3⟩:=ref_settled H.out (kept_new _ _) HC2.out
 have T3:=Lib.hid t3
 with_reducible refine (refSettle_any _ h3 (Nat.le_trans (List.length_filter_le _ _) hl)).mono ?_
 rintro e w4 ⟨rfl,h4⟩
 have H4:=Lib.hid h4
 clear h3 t3 h4
 go_wp2_with fail
 go_ret
 obtain ⟨G5,v5,h5,t5⟩:=H4.out
 exact ⟨rfl,G5,v5,h5,T3.out.trans t5⟩
end Go.Proofs.YtlboemhbealnmaaGreat.Tr
namespace Go.Proofs.YtlboemhbealnmaaGreat.Tr
open Go.RowKit Go.Maps
variable {w w':World} {G:Nat→Prop} {R:Loc} {salt:UInt64} {L:List TEnt} {v:Value}
theorem firstAt_some {α:Type} {q:α→Bool} {l:List α} (h:l.any q=true):∃ k,k < l.length∧firstAt q l=(k:Int)∧∃ hk:k < l.length,q l[k]=true:=by
 unfold firstAt
 cases hf:l.findIdx? q with
 | none=>
  obtain ⟨x,hx,hq⟩:=List.any_eq_true.1 h
  rw [List.findIdx?_eq_none_iff.1 hf x hx] at hq
  cases hq
 | some k=>
  obtain ⟨hk,h1,_⟩:=List.findIdx?_eq_some_iff_getElem.1 hf
  exact ⟨k,hk,rfl,hk,h1⟩
theorem firstAt_none {α:Type} {q:α→Bool} {l:List α} (h:l.any q=false):firstAt q l=-1:=by
 unfold firstAt
 rw [List.findIdx?_eq_none_iff.2 (fun x hx=>by
  cases hq:q x with
  | false=>rfl
  | true=>rw [List.any_eq_true.2 ⟨x,hx,hq⟩] at h;cases h)]
theorem ref_still (h:RefTr w G R salt L v) (hb:Below w.heap.size w w'):RefTurned w w' G R salt L:=⟨G,v,h.kept hb,Gain.of_below hb⟩
theorem refAnn_bad (p t:Int) (hp:¬ goodP p∨¬ goodT t) (x:UInt64) (f:Bool) (w:World):Calls Tryz.prog 62 #[.pointer (some ⟨R.b,0,none⟩),.int .i64 p,.int .u64 x.toNat,.int .i64 t,.bool f] w fun e w'=>e=.returned (.int .i64 1)∧w=w':=by
 by_cases h1:goodP p
 ·have HT:Hid (¬ goodT t):=Lib.hid (hp.resolve_left (fun h=>h h1))
  obtain ⟨n,rfl,hn,_⟩:=peer_nat h1
  clear hp h1
  go_enter Tryz.func62,Tryz.ntmps62
  go_wp2_with fail
  with_reducible refine (badPeer_no n hn _).mono ?_
  rintro e w1 ⟨rfl,rfl⟩
  go_wp2_with fail
  with_reducible refine (badTime_yes t HT.out _).mono ?_
  rintro e w1 ⟨rfl,rfl⟩
  go_wp2_with fail
  go_ret
  exact ⟨rfl,rfl⟩
 ·have HP:=Lib.hid h1
  clear hp h1
  go_enter Tryz.func62,Tryz.ntmps62
  go_wp2_with fail
  with_reducible refine (badPeer_yes p HP.out _).mono ?_
  rintro e w1 ⟨rfl,rfl⟩
  go_wp2_with fail
  go_ret
  exact ⟨rfl,rfl⟩
set_option maxRecDepth 20000 in
theorem refAnn_any (p:Nat) (hp:p < 8) (x:UInt64) (t:Int) (ht:goodT t) (f:Bool) (w:World) (h:RefTr w G R salt L v) (hl:L.length≤160) :
  Calls Tryz.prog 62 #[.pointer (some ⟨R.b,0,none⟩),.int .i64 p,.int .u64 x.toNat,.int .i64 t,.bool f] w fun e w'=>e=.returned (.int .i64 (annL L p x t f).1)∧RefTurned w w' G R salt (annL L p x t f).2:=by
 obtain ⟨c1,f1⟩:=h.slicec
 have hlt:=h.lt
 obtain ⟨a,cp,hv,hcp,_,_⟩:=ownE_form h.row
 subst hv
 have HT:=Lib.hid ht
 have H:=Lib.hid h
 clear h ht
 cases hany:L.any (isE p x) with
 | true=>
  have HE:Hid (annL L p x t f=(6,L)):=Lib.hid (by unfold annL;rw [if_pos hany])
  obtain ⟨k,hk,hfk,_⟩:=firstAt_some hany
  have HF:=Lib.hid hfk
  clear hany hfk
  go_enter Tryz.func62,Tryz.ntmps62
  go_wp2_with fail
  with_reducible refine (badPeer_no p hp _).mono ?_
  rintro e w1 ⟨rfl,rfl⟩
  go_wp2_with fail
  with_reducible refine (badTime_no t HT.out _).mono ?_
  rintro e w1 ⟨rfl,rfl⟩
  go_wp2_with fail
  with_reducible refine (at_any p x _ H.out hl).mono ?_
  rintro e w1 ⟨rfl,hb1⟩
  rw [HF.out]
  go_wp2_with fail
  go_ret
  rw [HE.out]
  exact ⟨rfl,ref_still H.out hb1⟩
 | false=>
  have HF:=Lib.hid (firstAt_none hany)
  by_cases h20:20≤(L.filter fun e=>e.peer == p).length
  ·have HE:Hid (annL L p x t f=(2,L)):=Lib.hid (by unfold annL;rw [if_neg (by rw [hany];decide),if_pos h20])
   clear hany
   go_enter Tryz.func62,Tryz.ntmps62
   go_wp2_with fail
   with_reducible refine (badPeer_no p hp _).mono ?_
   rintro e w1 ⟨rfl,rfl⟩
   go_wp2_with fail
   with_reducible refine (badTime_no t HT.out _).mono ?_
   rintro e w1 ⟨rfl,rfl⟩
   go_wp2_with fail
   with_reducible refine (at_any p x _ H.out hl).mono ?_
   rintro e w1 ⟨rfl,hb1⟩
   rw [HF.out]
   go_wp2_with fail
   with_reducible refine (refCounts_any p hp _ (H.out.kept hb1) hl).mono ?_
   rintro e w2 ⟨rfl,hb2⟩
   go_wp2_with fail
   go_ret
   rw [HE.out]
   exact ⟨rfl,ref_still H.out (kept_trans hb1 hb2)⟩
  ·have HE:Hid (annL L p x t f=(0,L ++ [⟨p,x,f,0,t⟩])):=Lib.hid (by unfold annL;rw [if_neg (by rw [hany];decide),if_neg h20])
   clear hany
   go_enter Tryz.func62,Tryz.ntmps62
   go_wp2_with fail
   with_reducible refine (badPeer_no p hp _).mono ?_
   rintro e w1 ⟨rfl,rfl⟩
   go_wp2_with fail
   with_reducible refine (badTime_no t HT.out _).mono ?_
   rintro e w1 ⟨rfl,rfl⟩
   go_wp2_with fail
   with_reducible refine (at_any p x _ H.out hl).mono ?_
   rintro e w1 ⟨rfl,hb1⟩
   rw [HF.out]
   go_wp2_with fail
   with_reducible refine (refCounts_any p hp _ (H.out.kept hb1) hl).mono ?_
   rintro e w2 ⟨rfl,hb2⟩
   have hb12:=kept_trans hb1 hb2
   have c2:=kept_cell hb12 c1
   have H2:=Lib.hid (H.out.kept hb12)
   have hlt2:=H2.out.lt
   clear hb1 hb2
   go_wp2_with fail
   with_reducible refine (copyR_any L _ _ hl H2.out.row H2.out.none).mono ?_
   intro e w3 hc3
   obtain ⟨a3,cp3,rfl⟩:=copy_form hc3
   have hb3:=copy_below hc3
   have c3:=kept_cell hb3 c2
   have f3:=free_kept (kept_trans hb12 hb3) c1 f1
   obtain ⟨v3,e3,_,ho3,_,_⟩:=hc3
   obtain rfl:Value.slice a3 L.length cp3=v3:=by cases e3;rfl
   have HO3:=Lib.hid ho3
   have HB3:=Lib.hid hb3
   have HB12:=Lib.hid hb12
   have hlt3:=(cell_spot c3).2
   clear hb3 hb12 e3 ho3 c2 c1 f1
   go_wp2_with (at_builtin;refine append_entR rfl _ _ rfl ⟨p,x,f,0,t⟩ rfl rfl HO3.out (by omega) HB3.out.size ?_;intro g4 cap4 w4 ho4 hg4;have hb4:=HB3.out.grown hg4 HB3.out.size (fun j hj=>(HO3.out.lt j hj).1);have c4:=kept_cell hb4 H2.out.slicec.1;have f4:=free_kept hb4 H2.out.slicec.1 H2.out.slicec.2;have hlt4:=(cell_spot c4).2;have HO4:=Lib.hid ho4;have HB4:=Lib.hid hb4;clear ho4 hg4 hb4)
   go_ret
   rw [HE.out]
   obtain ⟨h5,t5⟩:=H2.out.stored HB4.out HO4.out (fun h=>by simp at h)
   exact ⟨rfl,_,_,h5,(Gain.of_below HB12.out).trans t5⟩
end Go.Proofs.YtlboemhbealnmaaGreat.Tr
set_option maxRecDepth 20000
namespace Go.Proofs.YtlboemhbealnmaaGreat.Tr
open Go.RowKit Go.Maps
variable {w w':World} {G:Nat→Prop} {R:Loc} {salt:UInt64} {L:List TEnt} {v:Value}
theorem RefTr.entry (h:RefTr w G R salt L v) {i:Nat} (hi:i < L.length):∃ g cap,v=.slice (some ⟨g,0,Option.none⟩) L.length cap∧L.length≤cap∧EntAt w g (i * 5) L[i]∧(∀ j,w.frozen? ⟨g,j,Option.none⟩=false)∧g < w.heap.size∧G g∧g≠R.b:=by
 rcases h.row.2 with ⟨_,hn⟩ | ⟨g,cap,cur,hv,hB,hg,hc,_,_,_⟩
 ·omega
 ·subst hv
  obtain ⟨a,c,e,_,hat,_⟩:=ownE_form h.row
  simp only [Value.slice.injEq] at e
  obtain ⟨rfl,_,rfl⟩:=e
  obtain ⟨b,o,e,hb,hc5⟩:=hat i hi
  simp only [Option.some.injEq,Addr.mk.injEq,and_true] at e
  obtain ⟨rfl,rfl⟩:=e
  rw [Nat.zero_add] at hc5
  refine ⟨g,cap,rfl,hc,hc5,fun j=>h.row.frozenAt j,hb,h.gv g rfl,fun e=>?_⟩
  rw [e,h.head] at hg
  simp at hg
theorem RefTr.put_st {g cap n:Nat} (h:RefTr w G R salt L (.slice (some ⟨g,0,Option.none⟩) n cap)) (hgB:g≠R.b) {w0:World} {G0:Nat→Prop} (ht:Gain R.b G0 G w0 w) (hg0:w0.heap.size≤g) {i:Nat} (hi:i < L.length) (k:Nat) :
  RefTr (w.setCell ⟨g,i * 5+3,Option.none⟩ (.int .i64 k)) G R salt (L.set i { L[i] with st:=k }) (.slice (some ⟨g,0,Option.none⟩) n cap)∧Gain R.b G0 G w0 (w.setCell ⟨g,i * 5+3,Option.none⟩ (.int .i64 k)):=by
 obtain ⟨g',cap',e,_⟩:=h.entry hi
 simp only [Value.slice.injEq] at e
 obtain rfl:=e.2.1
 refine ⟨⟨(Below.heap_setCell w ⟨g,i * 5+3,Option.none⟩ _ R.b (fun e=>hgB e.symm)).trans h.head,?_,fun e=>?_,h.gB,h.gv,h.there.later (by simp)⟩,ht.put ⟨g,i * 5+3,Option.none⟩ _ hg0⟩
 ·unfold OwnE
  rw [entsC_st L i hi,List.length_set]
  exact (h.row.stored _ _).1
 ·rw [List.set_eq_nil_iff] at e
  rw [e] at hi
  simp at hi
theorem RefTr.put_till {g cap n:Nat} (h:RefTr w G R salt L (.slice (some ⟨g,0,Option.none⟩) n cap)) (hgB:g≠R.b) {w0:World} {G0:Nat→Prop} (ht:Gain R.b G0 G w0 w) (hg0:w0.heap.size≤g) {i:Nat} (hi:i < L.length) (k:Int) :
  RefTr (w.setCell ⟨g,i * 5+4,Option.none⟩ (.int .i64 k)) G R salt (L.set i { L[i] with till:=k }) (.slice (some ⟨g,0,Option.none⟩) n cap)∧Gain R.b G0 G w0 (w.setCell ⟨g,i * 5+4,Option.none⟩ (.int .i64 k)):=by
 obtain ⟨g',cap',e,_⟩:=h.entry hi
 simp only [Value.slice.injEq] at e
 obtain rfl:=e.2.1
 refine ⟨⟨(Below.heap_setCell w ⟨g,i * 5+4,Option.none⟩ _ R.b (fun e=>hgB e.symm)).trans h.head,?_,fun e=>?_,h.gB,h.gv,h.there.later (by simp)⟩,ht.put ⟨g,i * 5+4,Option.none⟩ _ hg0⟩
 ·unfold OwnE
  rw [entsC_till L i hi,List.length_set]
  exact (h.row.stored _ _).1
 ·rw [List.set_eq_nil_iff] at e
  rw [e] at hi
  simp at hi
theorem set_isE {L:List TEnt} (hn:L.Pairwise fun a b=>¬ (a.peer=b.peer∧a.id=b.id)) {p i:Nat} {x:UInt64} (hi:i < L.length) (hp:isE p x L[i]=true) (g:TEnt→TEnt):L.set i (g L[i])=L.map fun e=>if isE p x e then g e else e:=by
 apply List.ext_getElem
 ·simp
 intro j h1 h2
 rw [List.length_set] at h1
 rw [List.getElem_set,List.getElem_map]
 by_cases hij:i=j
 ·subst hij
  rw [if_pos rfl,if_pos hp]
 ·rw [if_neg hij,if_neg]
  intro hq
  unfold isE at hp hq
  simp only [Bool.and_eq_true,beq_iff_eq] at hp hq
  have hpw:=List.pairwise_iff_getElem.1 hn
  rcases Nat.lt_or_gt_of_ne hij with hlt | hlt
  ·exact hpw i j hi h1 hlt ⟨hp.1.trans hq.1.symm,hp.2.trans hq.2.symm⟩
  ·exact hpw j i h1 hi hlt ⟨hq.1.trans hp.1.symm,hq.2.trans hp.2.symm⟩
theorem ref_copied (h:RefTr w G R salt L v) {w1:World} {L':List TEnt} {v':Value} (hb:Below w.heap.size w w') (hc:CopyOf w' L' (.returned v') w1):∃ G',RefTr (w1.setCell ⟨R.b,1,none⟩ v') G' R salt L' v'∧Gain R.b G G' w (w1.setCell ⟨R.b,1,none⟩ v'):=by
 obtain ⟨v2,h1,_,h2,h3,h4⟩:=hc
 obtain rfl:v'=v2:=by cases h1;rfl
 obtain ⟨h5,h6⟩:=h.stored (kept_trans hb h4) (own_low h2 hb.size) h3
 exact ⟨_,h5,h6⟩
theorem RefTr.as {L':List TEnt} (h:RefTr w G R salt L v) (e:L=L'):RefTr w G R salt L' v:=e▸h
theorem copy_entry {L:List TEnt} {a:Option Addr} {n cap:Nat} (h:CopyOf w L (.returned (.slice a n cap)) w') {i:Nat} (hi:i < L.length):∃ g,a=some ⟨g,0,none⟩∧n=L.length∧L.length≤cap∧EntAt w' g (i * 5) L[i]∧(∀ j,w'.frozen? ⟨g,j,none⟩=false)∧g < w'.heap.size∧w.heap.size≤g:=by
 obtain ⟨v2,e,_,ho,_,_⟩:=h
 obtain rfl:Value.slice a n cap=v2:=by cases e;rfl
 rcases ho.2 with ⟨_,hn⟩ | ⟨g,cap,cur,hv,hB,hg,hc,_,_,_⟩
 ·omega
 ·simp only [Value.slice.injEq] at hv
  obtain ⟨rfl,rfl,rfl⟩:=hv
  obtain ⟨a,c,e,_,hat,_⟩:=ownE_form ho
  simp only [Value.slice.injEq] at e
  obtain ⟨rfl,_,rfl⟩:=e
  obtain ⟨b,o,e,hb,hc5⟩:=hat i hi
  simp only [Option.some.injEq,Addr.mk.injEq,and_true] at e
  obtain ⟨rfl,rfl⟩:=e
  rw [Nat.zero_add] at hc5
  exact ⟨g,rfl,rfl,hc,hc5,fun j=>ho.frozenAt j,hb,hB⟩
set_option maxRecDepth 20000 in
theorem refDue_any (now:Int) (w:World) (h:RefTr w G R salt L v) (hl:L.length≤160) (hs:∀ e ∈ L,e.st≤3) :
  Calls Tryz.prog 69 #[.pointer (some ⟨R.b,0,none⟩),.int .i64 now] w fun e w'=>e=.returned (.tuple #[])∧RefTurned w w' G R salt (dueL now L):=by
 obtain ⟨c1,f1⟩:=h.slicec
 have hlt:=h.lt
 have H:=Lib.hid h
 have HS:=Lib.hid hs
 obtain ⟨a,cp,hv,hcp,_,_⟩:=ownE_form h.row
 subst hv
 clear h hs
 go_enter Tryz.func69,Tryz.ntmps69
 go_wp2_with fail
 with_reducible refine (copyR_any L _ _ hl H.out.row H.out.none).mono ?_
 intro e w1 hc1
 obtain ⟨a1,cp1,rfl⟩:=copy_form hc1
 have hb1:=copy_below hc1
 have c2:=kept_cell hb1 c1
 have f2:=free_kept hb1 c1 f1
 have hlt1:=(cell_spot c2).2
 have HC1:=Lib.hid hc1
 clear hc1
 go_wp2_with fail
 obtain ⟨G1,h2,t2⟩:=ref_copied H.out (Below.refl _ _) HC1.out
 generalize w1.setCell ⟨R.b,1,none⟩ (.slice a1 L.length cp1)=w2 at h2 t2 ⊢
 have H2:=Lib.hid h2
 have T2:=Lib.hid t2
 have HFR:Hid (∀ i,i < L.length→∃ g,a1=some ⟨g,0,none⟩∧w.heap.size≤g):=Lib.hid (fun i hi=>by
  obtain ⟨g,e,_,_,_,_,_,hge⟩:=copy_entry HC1.out hi
  exact ⟨g,e,hge⟩)
 clear h2 t2 hb1 c2 f2 hlt1 HC1 c1 f1
 go_loopw [19] (fun i wr=>∃ k:Nat,k≤L.length∧i=.int .i64 k∧Hid (RefTr wr G1 R salt (dueK now L k) (.slice a1 L.length cp1))∧Hid (Gain R.b G G1 w wr)) (fun i _=>L.length - (intOf i).toNat)
 case atStart=>exact ⟨0,Nat.zero_le _,rfl,Lib.hid H2.out,T2⟩
 case round=>
  obtain ⟨k,hk,rfl,HK,HT⟩:=hrel
  by_cases hkl:k < L.length
  ·have hlk:=dueK_length now L k
   obtain ⟨g,cap,e1,hcap,hc5,hfr,hg,hGg,hgB⟩:=HK.out.entry (i:=k) (by omega)
   rw [hlk] at e1 hcap
   simp only [Value.slice.injEq,true_and] at e1
   obtain ⟨rfl,rfl⟩:=e1
   obtain ⟨g',eg,hge⟩:=HFR.out k hkl
   simp only [Option.some.injEq,Addr.mk.injEq,and_true] at eg
   subst eg
   rw [dueK_at now L k hkl] at hc5
   have hst:=HS.out _ (List.getElem_mem hkl)
   have hstep:=dueK_step now L k hkl
   obtain ⟨e0,he0⟩:∃ e0,L[k]=e0:=⟨_,rfl⟩
   have hsame:dueE now e0=e0→dueK now L k=dueK now L (k+1):=fun hd=>by
    rw [← hstep,he0,hd]
    have:=dueK_at now L k hkl
    rw [he0] at this
    rw [← this,List.set_getElem_self]
   have hbX:=kept_new wr (.cells #[.int .i64 e0.peer,.int .u64 e0.id.toNat,.bool e0.pref,.int .i64 e0.st,.int .i64 e0.till] 105)
   have HX:=Lib.hid (HK.out.kept hbX)
   have HTX:=Lib.hid (HT.out.trans (Gain.of_below (G:=G1) hbX))
   have hpt:=fun st=>HK.out.put_st hgB HT.out hge (i:=k) (by omega) st
   rw [dueK_at now L k hkl] at hpt
   rw [he0] at hc5 hst hpt hstep
   obtain ⟨d0,d1,d2,d3,d4⟩:=hc5
   obtain ⟨sc,sf⟩:=HK.out.slicec
   have hBl:=HK.out.lt
   have hfr3:=hfr (k * 5+3)
   have HP:=Lib.hid hpt
   have HST:=Lib.hid hstep
   have HSA:=Lib.hid hsame
   have HE0:=Lib.hid he0
   clear hpt hstep hsame he0 hfr hlk HK hbX
   by_cases ht:e0.till≤now
   ·have hs4:e0.st=0∨e0.st=1∨e0.st=2∨e0.st=3:=by omega
    rcases hs4 with h0 | h0 | h0 | h0
    ·have HD:Hid (dueE now e0={ e0 with st:=1 }):=Lib.hid (by unfold dueE;rw [if_pos ht,if_pos h0])
     have HP1:=Lib.hid (HP.out 1)
     rw [h0] at d3
     clear HP HX HTX h0
     go_wp2_with fail
     go_roundw
     case rel=>exact ⟨k+1,by omega,by go_num,Lib.hid ((HP1.out.1.as (by rw [← HST.out,HD.out])).kept (kept_new _ _)),Lib.hid (HP1.out.2.trans (Gain.of_below (kept_new _ _)))⟩
     case measure=>simp [intOf];omega
    ·have HD:Hid (dueE now e0=e0):=Lib.hid (by unfold dueE;rw [if_pos ht,if_neg (by omega),if_neg (by omega)])
     rw [h0] at d3 HX HTX
     clear HP h0
     go_wp2_with fail
     go_roundw
     case rel=>exact ⟨k+1,by omega,by go_num,Lib.hid (HX.out.as (HSA.out HD.out)),HTX⟩
     case measure=>simp [intOf];omega
    ·have HD:Hid (dueE now e0={ e0 with st:=3 }):=Lib.hid (by unfold dueE;rw [if_pos ht,if_neg (by omega),if_pos h0])
     have HP1:=Lib.hid (HP.out 3)
     rw [h0] at d3
     clear HP HX HTX h0
     go_wp2_with fail
     go_roundw
     case rel=>exact ⟨k+1,by omega,by go_num,Lib.hid ((HP1.out.1.as (by rw [← HST.out,HD.out])).kept (kept_new _ _)),Lib.hid (HP1.out.2.trans (Gain.of_below (kept_new _ _)))⟩
     case measure=>simp [intOf];omega
    ·have HD:Hid (dueE now e0=e0):=Lib.hid (by unfold dueE;rw [if_pos ht,if_neg (by omega),if_neg (by omega)])
     rw [h0] at d3 HX HTX
     clear HP h0
     go_wp2_with fail
     go_roundw
     case rel=>exact ⟨k+1,by omega,by go_num,Lib.hid (HX.out.as (HSA.out HD.out)),HTX⟩
     case measure=>simp [intOf];omega
   ·have HD:Hid (dueE now e0=e0):=Lib.hid (by unfold dueE;rw [if_neg ht])
    go_wp2_with fail
    go_roundw
    case rel=>exact ⟨k+1,by omega,by go_num,Lib.hid (HX.out.as (HSA.out HD.out)),HTX⟩
    case measure=>simp [intOf];omega
  ·have he:=dueK_end now L k (by omega)
   have HK2:=Lib.hid (HK.out.as he)
   have hlm:(L.map (dueE now)).length≤160:=by rw [List.length_map];exact hl
   clear HK he
   go_wp2_with fail
   with_reducible refine (refSettle_any _ HK2.out hlm).mono ?_
   rintro e w3 ⟨rfl,h3⟩
   have H3:=Lib.hid h3
   clear h3
   go_wp2_with fail
   go_end0
   obtain ⟨G5,v5,h5,t5⟩:=H3.out
   exact ⟨rfl,G5,v5,h5,HT.out.trans t5⟩
end Go.Proofs.YtlboemhbealnmaaGreat.Tr
namespace Go.Proofs.YtlboemhbealnmaaGreat.Tr
open Go.RowKit Go.Maps
variable {w w':World} {G:Nat→Prop} {R:Loc} {salt:UInt64} {L:List TEnt} {v:Value}
theorem refAnswer_bad (p:Int) (hp:¬ goodP p) (x:UInt64) (w:World):Calls Tryz.prog 67 #[.pointer (some ⟨R.b,0,none⟩),.int .i64 p,.int .u64 x.toNat] w fun e w'=>e=.returned (.int .i64 1)∧w=w':=by
 have HP:=Lib.hid hp
 clear hp
 go_enter Tryz.func67,Tryz.ntmps67
 go_wp2_with fail
 with_reducible refine (badPeer_yes p HP.out _).mono ?_
 rintro e w1 ⟨rfl,rfl⟩
 go_wp2_with fail
 go_ret
 exact ⟨rfl,rfl⟩
set_option maxRecDepth 20000 in
theorem refAnswer_any (p:Nat) (hp:p < 8) (x:UInt64) (w:World) (h:RefTr w G R salt L v) (hl:L.length≤160) (hn:L.Pairwise fun a b=>¬ (a.peer=b.peer∧a.id=b.id)) :
  Calls Tryz.prog 67 #[.pointer (some ⟨R.b,0,none⟩),.int .i64 p,.int .u64 x.toNat] w fun e w'=>e=.returned (.int .i64 (answerL L p x).1)∧RefTurned w w' G R salt (answerL L p x).2:=by
 obtain ⟨c1,f1⟩:=h.slicec
 have hlt:=h.lt
 obtain ⟨a,cp,hv,hcp,_,_⟩:=ownE_form h.row
 subst hv
 have H:=Lib.hid h
 clear h
 cases hany:L.any (isE p x) with
 | false=>
  have HE:Hid (answerL L p x=(5,L)):=Lib.hid (by unfold answerL;rw [if_neg (by rw [hany];decide)])
  have HF:=Lib.hid (firstAt_none hany)
  clear hany hn
  go_enter Tryz.func67,Tryz.ntmps67
  go_wp2_with fail
  with_reducible refine (badPeer_no p hp _).mono ?_
  rintro e w1 ⟨rfl,rfl⟩
  go_wp2_with fail
  with_reducible refine (at_any p x _ H.out hl).mono ?_
  rintro e w1 ⟨rfl,hb1⟩
  rw [HF.out]
  go_wp2_with fail
  go_ret
  rw [HE.out]
  exact ⟨rfl,ref_still H.out hb1⟩
 | true=>
  have HE:Hid (answerL L p x=(0,settleL (L.map (doneE p x)))):=Lib.hid (by unfold answerL;rw [if_pos hany])
  obtain ⟨k,hk,hfk,_,hq⟩:=firstAt_some hany
  have HF:=Lib.hid hfk
  have HM:Hid (L.set k { L[k] with st:=3 }=L.map (doneE p x)):=Lib.hid (set_isE hn hk hq (fun e=>{ e with st:=3 }))
  clear hany hfk hn hq
  go_enter Tryz.func67,Tryz.ntmps67
  go_wp2_with fail
  with_reducible refine (badPeer_no p hp _).mono ?_
  rintro e w1 ⟨rfl,rfl⟩
  go_wp2_with fail
  with_reducible refine (at_any p x _ H.out hl).mono ?_
  rintro e w1 ⟨rfl,hb1⟩
  rw [HF.out]
  have c2:=kept_cell hb1 c1
  have H2:=Lib.hid (H.out.kept hb1)
  have hlt2:=H2.out.lt
  have HB1:=Lib.hid hb1
  have hk0:¬ (k:Int) < 0:=by omega
  clear hb1
  go_wp2_with fail
  with_reducible refine (copyR_any L _ _ hl H2.out.row H2.out.none).mono ?_
  intro e w3 hc3
  obtain ⟨a3,cp3,rfl⟩:=copy_form hc3
  have hb3:=copy_below hc3
  have c3:=kept_cell hb3 c2
  have f3:=free_kept hb3 H2.out.slicec.1 H2.out.slicec.2
  have hlt3:=(cell_spot c3).2
  obtain ⟨G4,h4,t4⟩:=ref_copied H2.out (Below.refl _ _) hc3
  obtain ⟨g,rfl,_,hcap,⟨_,_,_,q3,_⟩,hfr,hg,hgw⟩:=copy_entry hc3 hk
  have hgB:g≠R.b:=by omega
  have hr3:=hfr (k * 5+3)
  have HP:=Lib.hid (h4.put_st hgB ((Gain.of_below (G:=G) HB1.out).trans t4) (Nat.le_trans HB1.out.size hgw) hk 3)
  rw [HM.out,show ((3:Nat):Int)=3 from rfl] at HP
  have hlm:(L.map (doneE p x)).length≤160:=by rw [List.length_map];exact hl
  clear h4 t4 hfr hc3 hb3
  go_wp2_with fail
  with_reducible refine (refSettle_any _ HP.out.1 hlm).mono ?_
  rintro e w6 ⟨rfl,h6⟩
  have H6:=Lib.hid h6
  clear h6
  go_wp2_with fail
  go_ret
  obtain ⟨G7,v7,h7,t7⟩:=H6.out
  rw [HE.out]
  exact ⟨rfl,G7,v7,h7,HP.out.2.trans t7⟩
theorem isE_only {L:List TEnt} (hn:L.Pairwise fun a b=>¬ (a.peer=b.peer∧a.id=b.id)) {p i:Nat} {x:UInt64} (hi:i < L.length) (hp:isE p x L[i]=true) {e:TEnt} (he:e ∈ L) (hq:isE p x e=true):e=L[i]:=by
 obtain ⟨j,hj,rfl⟩:=List.getElem_of_mem he
 by_cases hij:i=j
 ·subst hij;rfl
 ·exfalso
  unfold isE at hp hq
  simp only [Bool.and_eq_true,beq_iff_eq] at hp hq
  have hpw:=List.pairwise_iff_getElem.1 hn
  rcases Nat.lt_or_gt_of_ne hij with hlt | hlt
  ·exact hpw i j hi hj hlt ⟨hp.1.trans hq.1.symm,hp.2.trans hq.2.symm⟩
  ·exact hpw j i hj hi hlt ⟨hq.1.trans hp.1.symm,hq.2.trans hp.2.symm⟩
theorem may_is {L:List TEnt} (hn:L.Pairwise fun a b=>¬ (a.peer=b.peer∧a.id=b.id)) {p i:Nat} {x:UInt64} (hi:i < L.length) (hp:isE p x L[i]=true):mayAsk L p x=(L[i].st == 1 && !L.any (fun e=>e.id == x && e.st == 2)):=by
 unfold mayAsk
 congr 1
 rw [Bool.eq_iff_iff,List.any_eq_true]
 constructor
 ·rintro ⟨e,he,hq⟩
  rw [Bool.and_eq_true] at hq
  rw [← isE_only hn hi hp he hq.1]
  exact hq.2
 ·intro h
  exact ⟨L[i],List.getElem_mem hi,by rw [hp,h];rfl⟩
theorem refAsk_bad (p t:Int) (hp:¬ goodP p∨¬ goodT t) (x:UInt64) (w:World):Calls Tryz.prog 71 #[.pointer (some ⟨R.b,0,none⟩),.int .i64 p,.int .u64 x.toNat,.int .i64 t] w fun e w'=>e=.returned (.int .i64 1)∧w=w':=by
 by_cases h1:goodP p
 ·have HT:Hid (¬ goodT t):=Lib.hid (hp.resolve_left (fun h=>h h1))
  obtain ⟨n,rfl,hn,_⟩:=peer_nat h1
  clear hp h1
  go_enter Tryz.func71,Tryz.ntmps71
  go_wp2_with fail
  with_reducible refine (badPeer_no n hn _).mono ?_
  rintro e w1 ⟨rfl,rfl⟩
  go_wp2_with fail
  with_reducible refine (badTime_yes t HT.out _).mono ?_
  rintro e w1 ⟨rfl,rfl⟩
  go_wp2_with fail
  go_ret
  exact ⟨rfl,rfl⟩
 ·have HP:=Lib.hid h1
  clear hp h1
  go_enter Tryz.func71,Tryz.ntmps71
  go_wp2_with fail
  with_reducible refine (badPeer_yes p HP.out _).mono ?_
  rintro e w1 ⟨rfl,rfl⟩
  go_wp2_with fail
  go_ret
  exact ⟨rfl,rfl⟩
set_option maxRecDepth 20000 in
theorem refAsk_any (p:Nat) (hp:p < 8) (x:UInt64) (t:Int) (ht:goodT t) (w:World) (h:RefTr w G R salt L v) (hl:L.length≤160) (hn:L.Pairwise fun a b=>¬ (a.peer=b.peer∧a.id=b.id)) :
  Calls Tryz.prog 71 #[.pointer (some ⟨R.b,0,none⟩),.int .i64 p,.int .u64 x.toNat,.int .i64 t] w fun e w'=>e=.returned (.int .i64 (askL L p x t).1)∧RefTurned w w' G R salt (askL L p x t).2:=by
 obtain ⟨c1,f1⟩:=h.slicec
 have hlt:=h.lt
 have HT:=Lib.hid ht
 cases hany:L.any (isE p x) with
 | false=>
  have HE:Hid (askL L p x t=(5,L)):=Lib.hid (by unfold askL;rw [if_neg (by rw [hany];decide)])
  have HF:=Lib.hid (firstAt_none hany)
  have H:=Lib.hid h
  clear hany hn h ht c1
  go_enter Tryz.func71,Tryz.ntmps71
  go_wp2_with fail
  with_reducible refine (badPeer_no p hp _).mono ?_
  rintro e w1 ⟨rfl,rfl⟩
  go_wp2_with fail
  with_reducible refine (badTime_no t HT.out _).mono ?_
  rintro e w1 ⟨rfl,rfl⟩
  go_wp2_with fail
  with_reducible refine (at_any p x _ H.out hl).mono ?_
  rintro e w1 ⟨rfl,hb1⟩
  rw [HF.out]
  go_wp2_with fail
  go_ret
  rw [HE.out]
  exact ⟨rfl,ref_still H.out hb1⟩
 | true=>
  obtain ⟨k,hk,hfk,_,hq⟩:=firstAt_some hany
  have HF:=Lib.hid hfk
  have HM:Hid (L.set k { L[k] with st:=2,till:=t }=L.map (askE p x t)):=Lib.hid (set_isE hn hk hq (fun e=>{ e with st:=2,till:=t }))
  have hmay:=may_is hn hk hq
  have hk0:¬ (k:Int) < 0:=by omega
  obtain ⟨g0,cap0,rfl,hcap0,⟨_,_,_,q0,_⟩,_,hg0,_,_⟩:=h.entry hk
  have H:=Lib.hid h
  clear hfk hn hq h ht
  have hst:(((L[k].st:Nat):Int) != 1)=(L[k].st != 1):=bne_nat L[k].st 1
  cases h1:L[k].st != 1 with
  | true=>
   have HE:Hid (askL L p x t=(7,L)):=Lib.hid (by
    unfold askL
    rw [if_pos hany,if_neg]
    rw [hmay]
    have:(L[k].st == 1)=false:=by simpa using h1
    rw [this]
    simp)
   rw [h1] at hst
   clear hany hmay h1
   go_enter Tryz.func71,Tryz.ntmps71
   go_wp2_with fail
   with_reducible refine (badPeer_no p hp _).mono ?_
   rintro e w1 ⟨rfl,rfl⟩
   go_wp2_with fail
   with_reducible refine (badTime_no t HT.out _).mono ?_
   rintro e w1 ⟨rfl,rfl⟩
   go_wp2_with fail
   with_reducible refine (at_any p x _ H.out hl).mono ?_
   rintro e w1 ⟨rfl,hb1⟩
   rw [HF.out]
   have c2:=kept_cell hb1 c1
   have q2:=kept_cell hb1 q0
   have hlt2:=(cell_spot c2).2
   have hlg2:=(cell_spot q2).2
   go_wp2_with fail
   go_ret
   rw [HE.out]
   exact ⟨rfl,ref_still H.out hb1⟩
  | false=>
   cases h2:L.any (fun e=>e.id == x && e.st == 2) with
   | true=>
    have HE:Hid (askL L p x t=(7,L)):=Lib.hid (by
     unfold askL
     rw [if_pos hany,if_neg]
     rw [hmay,h2]
     simp)
    have H2:=Lib.hid h2
    rw [h1] at hst
    clear hany hmay h1 h2
    go_enter Tryz.func71,Tryz.ntmps71
    go_wp2_with fail
    with_reducible refine (badPeer_no p hp _).mono ?_
    rintro e w1 ⟨rfl,rfl⟩
    go_wp2_with fail
    with_reducible refine (badTime_no t HT.out _).mono ?_
    rintro e w1 ⟨rfl,rfl⟩
    go_wp2_with fail
    with_reducible refine (at_any p x _ H.out hl).mono ?_
    rintro e w1 ⟨rfl,hb1⟩
    rw [HF.out]
    have c2:=kept_cell hb1 c1
    have q2:=kept_cell hb1 q0
    have hlt2:=(cell_spot c2).2
    have hlg2:=(cell_spot q2).2
    go_wp2_with fail
    with_reducible refine (refAsked_any x _ (H.out.kept hb1) hl true H2.out).mono ?_
    rintro e w2 ⟨rfl,hb2⟩
    go_wp2_with fail
    go_ret
    rw [HE.out]
    exact ⟨rfl,ref_still H.out (kept_trans hb1 hb2)⟩
   | false=>
    have HE:Hid (askL L p x t=(0,L.map (askE p x t))):=Lib.hid (by
     unfold askL
     rw [if_pos hany,if_pos]
     rw [hmay,h2]
     have:(L[k].st == 1)=true:=by simpa using h1
     rw [this]
     rfl)
    have H2:=Lib.hid h2
    rw [h1] at hst
    clear hany hmay h1 h2
    go_enter Tryz.func71,Tryz.ntmps71
    go_wp2_with fail
    with_reducible refine (badPeer_no p hp _).mono ?_
    rintro e w1 ⟨rfl,rfl⟩
    go_wp2_with fail
    with_reducible refine (badTime_no t HT.out _).mono ?_
    rintro e w1 ⟨rfl,rfl⟩
    go_wp2_with fail
    with_reducible refine (at_any p x _ H.out hl).mono ?_
    rintro e w1 ⟨rfl,hb1⟩
    rw [HF.out]
    have c2:=kept_cell hb1 c1
    have q2:=kept_cell hb1 q0
    have hlt2:=(cell_spot c2).2
    have hlg2:=(cell_spot q2).2
    go_wp2_with fail
    with_reducible refine (refAsked_any x _ (H.out.kept hb1) hl false H2.out).mono ?_
    rintro e w2 ⟨rfl,hb2⟩
    have HB2:=Lib.hid (kept_trans hb1 hb2)
    have c3:=kept_cell hb2 c2
    have HR:=Lib.hid (H.out.kept HB2.out)
    have hlt3:=(cell_spot c3).2
    clear hb1 hb2 c2 q2
    go_wp2_with fail
    with_reducible refine (copyR_any L _ _ hl HR.out.row HR.out.none).mono ?_
    intro e w3 hc3
    obtain ⟨a3,cp3,rfl⟩:=copy_form hc3
    have hb3:=copy_below hc3
    have c4:=kept_cell hb3 c3
    have f4:=free_kept hb3 HR.out.slicec.1 HR.out.slicec.2
    have hlt4:=(cell_spot c4).2
    obtain ⟨G4,h4,t4⟩:=ref_copied HR.out (Below.refl _ _) hc3
    obtain ⟨g,rfl,_,hcap,⟨_,_,_,q3,q4⟩,hfr,hg,hgw⟩:=copy_entry hc3 hk
    have hgB:g≠R.b:=by omega
    have hr3:=hfr (k * 5+3)
    have hr4:=hfr (k * 5+4)
    obtain ⟨h5,t5⟩:=h4.put_st hgB ((Gain.of_below (G:=G) HB2.out).trans t4) (Nat.le_trans HB2.out.size hgw) hk 2
    have hk2:k < (L.set k { L[k] with st:=2 }).length:=by rw [List.length_set];exact hk
    obtain ⟨h6,t6⟩:=h5.put_till hgB t5 (Nat.le_trans HB2.out.size hgw) hk2 t
    have he6:(L.set k { L[k] with st:=2 }).set k { (L.set k { L[k] with st:=2 })[k] with till:=t }=L.map (askE p x t):=by
     rw [← HM.out,List.getElem_set_self,List.set_set]
    have HP:=Lib.hid (And.intro (h6.as he6) t6)
    rw [show ((2:Nat):Int)=2 from rfl] at HP
    clear h4 t4 h5 t5 h6 t6 he6 hfr hc3 hb3
    go_wp2_with fail
    go_region
    go_wp2_with fail
    go_ret
    rw [HE.out]
    exact ⟨rfl,G4,_,HP.out.1.kept ((Below.refl _ _).drew),HP.out.2.trans (Gain.of_below ((Below.refl _ _).drew))⟩
end Go.Proofs.YtlboemhbealnmaaGreat.Tr
