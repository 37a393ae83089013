import Derived.Test.YtlboemhbealnmaaGreatP42
set_option maxRecDepth 20000
namespace Go.Proofs.YtlboemhbealnmaaGreat
section
open Go.RowKit Go.Maps
variable {w w' wr:World} {F F' G:Nat→Prop} {R c m e n k:Nat} {s u u':NS} {v v':Value} {os os':List OutD} {f:Nat→Int}
def fnV (g c:Nat):Value:=.func (.func g) #[] #[.pointer (some ⟨c,0,none⟩)]
def actF (c:Nat):Int→Option Value:=fun y=>if y=4 then some (fnV 80 c) else if y=3 then some (fnV 79 c) else if y=2 then some (fnV 78 c) else if y=1 then some (fnV 77 c) else none
theorem actions_any (R:Nat) (w:World):Calls Tryz.prog 41 #[.pointer (some ⟨R,0,none⟩)] w fun e w'=>∃ c m,e=.returned (.map (some m))∧w'.cell? ⟨c,0,none⟩=some (.pointer (some ⟨R,0,none⟩))∧FMap w' m 4 (actF c)∧Below w.heap.size w w'∧w.heap.size≤c∧w.heap.size≤m:=by
 have hmm:=@run_makeMap Tryz.prog
 obtain ⟨wb,hwb⟩:∃ wb,w.alloc (.cells #[.pointer (some ⟨R,0,none⟩)] 24)=wb:=⟨_,rfl⟩
 have hk0:Below w.heap.size w wb:=hwb▸kept_new _ _
 have hs0:wb.heap.size=w.heap.size+1:=by rw [← hwb];simp
 have b0:wb.cell? ⟨w.heap.size,0,none⟩=some (.pointer (some ⟨R,0,none⟩)):=by rw [← hwb];simp [go_sem]
 obtain ⟨c,hc⟩:∃ c,w.heap.size=c:=⟨_,rfl⟩
 obtain ⟨wm,hwm⟩:∃ wm,wb.alloc (.map #[] 0)=wm:=⟨_,rfl⟩
 have hk1:Below wb.heap.size wb wm:=hwm▸kept_new _ _
 have hf0:=fmap_new wb
 rw [hwm] at hf0
 obtain ⟨m,hm⟩:∃ m,wb.heap.size=m:=⟨_,rfl⟩
 rw [hm] at hf0
 have hml:maxLen=9223372036854775807:=rfl
 obtain ⟨w1,hr1,hf1,hg1⟩:=hf0.put 1 (fnV 77 c) (by decide) (by omega)
 obtain ⟨w2,hr2,hf2,hg2⟩:=hf1.put 2 (fnV 78 c) (by decide) (by omega)
 obtain ⟨w3,hr3,hf3,hg3⟩:=hf2.put 3 (fnV 79 c) (by decide) (by omega)
 obtain ⟨w4,hr4,hf4,hg4⟩:=hf3.put 4 (fnV 80 c) (by decide) (by omega)
 have hb4:Below wb.heap.size wb w4:=by
  have h1:=below_grown hk1 hg1 (fun g hg=>by cases hg;omega) hk1.size
  have h2:=below_grown h1 hg2 (fun g hg=>by cases hg;omega) h1.size
  have h3:=below_grown h2 hg3 (fun g hg=>by cases hg;omega) h2.size
  exact below_grown h3 hg4 (fun g hg=>by cases hg;omega) h3.size
 rw [hc] at b0
 have HB:=Lib.hid (kept_trans hk0 hb4)
 have HC:=Lib.hid ((World.cell?_of_block (w:=wb) (a:=⟨c,0,none⟩) (hb4.block c (by omega))).trans b0)
 have HM:=Lib.hid hf4
 have hcm:c≤m:=by omega
 clear hf0 hf1 hf2 hf3 hf4 hg1 hg2 hg3 hg4 hb4 hk0 hk1 hs0 b0
 unfold fnV at hr1 hr2 hr3 hr4
 go_enter Tryz.func41,Tryz.ntmps41
 go_wp2_with fail
 go_ret
 exact ⟨c,m,rfl,HC.out,HM.out,HB.out,by omega,by omega⟩
abbrev actV (a:ActD):Value:=.agg #[.int .i64 a.kind,.int .i64 a.peer,.int .i64 a.n,.bool a.flag,.string a.bytes]
theorem play1_any (a:ActD) (q:NS × List OutD × Int) (hq:((s.join a.peer a.flag).1,[],(s.join a.peer a.flag).2)=q) (c:Nat) (w:World) (hc:w.cell? ⟨c,0,none⟩=some (.pointer (some ⟨R,0,none⟩))) (h:NodeAt w F R s) :
  Calls Tryz.prog 77 #[actV a,.pointer (some ⟨c,0,none⟩)] w (SentN w F R q):=by
 obtain ⟨kd,pe,nn,fl,by'⟩:=a
 simp only at hq ⊢
 obtain ⟨wb,hwb⟩:∃ wb,w.alloc (.cells #[.int .i64 kd,.int .i64 pe,.int .i64 nn,.bool fl,.string by'] 29)=wb:=⟨_,rfl⟩
 have hk0:Below w.heap.size w wb:=hwb▸kept_new _ _
 have b0:wb.cell? ⟨w.heap.size,0,none⟩=some (.int .i64 kd):=by rw [← hwb];simp [go_sem]
 have b1:wb.cell? ⟨w.heap.size,1,none⟩=some (.int .i64 pe):=by rw [← hwb];simp [go_sem]
 have b2:wb.cell? ⟨w.heap.size,2,none⟩=some (.int .i64 nn):=by rw [← hwb];simp [go_sem]
 have b3:wb.cell? ⟨w.heap.size,3,none⟩=some (.bool fl):=by rw [← hwb];simp [go_sem]
 have b4:wb.cell? ⟨w.heap.size,4,none⟩=some (.string by'):=by rw [← hwb];simp [go_sem]
 have l0:=(cell_spot b0).2
 have e0:=kept_cell hk0 hc
 have l1:=(cell_spot e0).2
 have H:=Lib.hid (h.kept hk0)
 have HB:Hid (∀ (q:NS × List OutD × Int) (v:Value) (w':World),SentN wb F R q (.returned v) w'→SentN w F R q (.returned v) w'):=Lib.hid fun q v w' ⟨u,F',h1,h2,h3,h4,h5⟩=>⟨u,F',h1,⟨h2.1,h2.2.imp id fun ⟨g,cap,cur,q1,q2,q3⟩=>⟨g,cap,cur,q1,Nat.le_trans hk0.size q2,q3⟩⟩,h3,(Turn.of_below hk0).trans h4,h5⟩
 have HQ:=Lib.hid hq
 clear h hk0 hq hc
 go_enter Tryz.func77,Tryz.ntmps77
 go_wp2_with fail
 with_reducible refine (join_any pe fl _ rfl _ H.out).mono ?_
 rintro e w1 h1
 obtain ⟨rfl,h2⟩:=turns_sent h1
 have H2:=Lib.hid h2
 clear h1 h2
 go_wp2_with fail
 go_ret2
 rw [← HQ.out]
 exact HB.out _ _ _ H2.out
theorem play2_any (a:ActD) (q:NS × List OutD × Int) (hq:((s.leave a.peer).1,[],(s.leave a.peer).2)=q) (c:Nat) (w:World) (hc:w.cell? ⟨c,0,none⟩=some (.pointer (some ⟨R,0,none⟩))) (h:NodeAt w F R s) :
  Calls Tryz.prog 78 #[actV a,.pointer (some ⟨c,0,none⟩)] w (SentN w F R q):=by
 obtain ⟨kd,pe,nn,fl,by'⟩:=a
 simp only at hq ⊢
 obtain ⟨wb,hwb⟩:∃ wb,w.alloc (.cells #[.int .i64 kd,.int .i64 pe,.int .i64 nn,.bool fl,.string by'] 29)=wb:=⟨_,rfl⟩
 have hk0:Below w.heap.size w wb:=hwb▸kept_new _ _
 have b0:wb.cell? ⟨w.heap.size,0,none⟩=some (.int .i64 kd):=by rw [← hwb];simp [go_sem]
 have b1:wb.cell? ⟨w.heap.size,1,none⟩=some (.int .i64 pe):=by rw [← hwb];simp [go_sem]
 have b2:wb.cell? ⟨w.heap.size,2,none⟩=some (.int .i64 nn):=by rw [← hwb];simp [go_sem]
 have b3:wb.cell? ⟨w.heap.size,3,none⟩=some (.bool fl):=by rw [← hwb];simp [go_sem]
 have b4:wb.cell? ⟨w.heap.size,4,none⟩=some (.string by'):=by rw [← hwb];simp [go_sem]
 have l0:=(cell_spot b0).2
 have e0:=kept_cell hk0 hc
 have l1:=(cell_spot e0).2
 have H:=Lib.hid (h.kept hk0)
 have HB:Hid (∀ (q:NS × List OutD × Int) (v:Value) (w':World),SentN wb F R q (.returned v) w'→SentN w F R q (.returned v) w'):=Lib.hid fun q v w' ⟨u,F',h1,h2,h3,h4,h5⟩=>⟨u,F',h1,⟨h2.1,h2.2.imp id fun ⟨g,cap,cur,q1,q2,q3⟩=>⟨g,cap,cur,q1,Nat.le_trans hk0.size q2,q3⟩⟩,h3,(Turn.of_below hk0).trans h4,h5⟩
 have HQ:=Lib.hid hq
 clear h hk0 hq hc
 go_enter Tryz.func78,Tryz.ntmps78
 go_wp2_with fail
 with_reducible refine (leave_any pe _ rfl _ H.out).mono ?_
 rintro e w1 h1
 obtain ⟨rfl,h2⟩:=turns_sent h1
 have H2:=Lib.hid h2
 clear h1 h2
 go_wp2_with fail
 go_ret2
 rw [← HQ.out]
 exact HB.out _ _ _ H2.out
theorem play3_any (a:ActD) (hs:a.bytes.size≤maxLen) (hA:s.A.length≤2950000000000) (q:NS × List OutD × Int) (hq:s.send a.peer a.bytes=q) (c:Nat) (w:World) (hc:w.cell? ⟨c,0,none⟩=some (.pointer (some ⟨R,0,none⟩))) (h:NodeAt w F R s) :
  Calls Tryz.prog 79 #[actV a,.pointer (some ⟨c,0,none⟩)] w (SentN w F R q):=by
 obtain ⟨kd,pe,nn,fl,by'⟩:=a
 simp only at hs
 simp only at hq ⊢
 obtain ⟨wb,hwb⟩:∃ wb,w.alloc (.cells #[.int .i64 kd,.int .i64 pe,.int .i64 nn,.bool fl,.string by'] 29)=wb:=⟨_,rfl⟩
 have hk0:Below w.heap.size w wb:=hwb▸kept_new _ _
 have b0:wb.cell? ⟨w.heap.size,0,none⟩=some (.int .i64 kd):=by rw [← hwb];simp [go_sem]
 have b1:wb.cell? ⟨w.heap.size,1,none⟩=some (.int .i64 pe):=by rw [← hwb];simp [go_sem]
 have b2:wb.cell? ⟨w.heap.size,2,none⟩=some (.int .i64 nn):=by rw [← hwb];simp [go_sem]
 have b3:wb.cell? ⟨w.heap.size,3,none⟩=some (.bool fl):=by rw [← hwb];simp [go_sem]
 have b4:wb.cell? ⟨w.heap.size,4,none⟩=some (.string by'):=by rw [← hwb];simp [go_sem]
 have l0:=(cell_spot b0).2
 have e0:=kept_cell hk0 hc
 have l1:=(cell_spot e0).2
 have H:=Lib.hid (h.kept hk0)
 have HB:Hid (∀ (q:NS × List OutD × Int) (v:Value) (w':World),SentN wb F R q (.returned v) w'→SentN w F R q (.returned v) w'):=Lib.hid fun q v w' ⟨u,F',h1,h2,h3,h4,h5⟩=>⟨u,F',h1,⟨h2.1,h2.2.imp id fun ⟨g,cap,cur,q1,q2,q3⟩=>⟨g,cap,cur,q1,Nat.le_trans hk0.size q2,q3⟩⟩,h3,(Turn.of_below hk0).trans h4,h5⟩
 have HQ:=Lib.hid hq
 clear h hk0 hq hc
 go_enter Tryz.func79,Tryz.ntmps79
 go_wp2_with fail
 with_reducible refine (send_any pe by' hs hA _ HQ.out _ H.out).mono ?_
 rintro e w1 h1
 have h1':=h1
 obtain ⟨v,F',rfl,ho,_,_,_⟩:=h1
 obtain ⟨a5,c5,rfl,_⟩:=outs_form ho
 have H2:=Lib.hid h1'
 clear h1' ho
 obtain ⟨m,hm⟩:∃ m,q.2.1.length=m:=⟨_,rfl⟩
 obtain ⟨r,hr⟩:∃ r,q.2.2=r:=⟨_,rfl⟩
 rw [hm,hr] at H2 ⊢
 clear hm hr
 go_wp2_with fail
 go_ret2
 exact HB.out _ _ _ H2.out
theorem play4_any (a:ActD) (hfl:Fly s) (q:NS × List OutD × Int) (hq:s.pass a.n=q) (c:Nat) (w:World) (hc:w.cell? ⟨c,0,none⟩=some (.pointer (some ⟨R,0,none⟩))) (h:NodeAt w F R s) :
  Calls Tryz.prog 80 #[actV a,.pointer (some ⟨c,0,none⟩)] w (SentN w F R q):=by
 obtain ⟨kd,pe,nn,fl,by'⟩:=a
 have HFL:=Lib.hid hfl
 clear hfl
 simp only at hq ⊢
 obtain ⟨wb,hwb⟩:∃ wb,w.alloc (.cells #[.int .i64 kd,.int .i64 pe,.int .i64 nn,.bool fl,.string by'] 29)=wb:=⟨_,rfl⟩
 have hk0:Below w.heap.size w wb:=hwb▸kept_new _ _
 have b0:wb.cell? ⟨w.heap.size,0,none⟩=some (.int .i64 kd):=by rw [← hwb];simp [go_sem]
 have b1:wb.cell? ⟨w.heap.size,1,none⟩=some (.int .i64 pe):=by rw [← hwb];simp [go_sem]
 have b2:wb.cell? ⟨w.heap.size,2,none⟩=some (.int .i64 nn):=by rw [← hwb];simp [go_sem]
 have b3:wb.cell? ⟨w.heap.size,3,none⟩=some (.bool fl):=by rw [← hwb];simp [go_sem]
 have b4:wb.cell? ⟨w.heap.size,4,none⟩=some (.string by'):=by rw [← hwb];simp [go_sem]
 have l0:=(cell_spot b0).2
 have e0:=kept_cell hk0 hc
 have l1:=(cell_spot e0).2
 have H:=Lib.hid (h.kept hk0)
 have HB:Hid (∀ (q:NS × List OutD × Int) (v:Value) (w':World),SentN wb F R q (.returned v) w'→SentN w F R q (.returned v) w'):=Lib.hid fun q v w' ⟨u,F',h1,h2,h3,h4,h5⟩=>⟨u,F',h1,⟨h2.1,h2.2.imp id fun ⟨g,cap,cur,q1,q2,q3⟩=>⟨g,cap,cur,q1,Nat.le_trans hk0.size q2,q3⟩⟩,h3,(Turn.of_below hk0).trans h4,h5⟩
 have HQ:=Lib.hid hq
 clear h hk0 hq hc
 go_enter Tryz.func80,Tryz.ntmps80
 go_wp2_with fail
 with_reducible refine (wait_any nn HFL.out _ HQ.out _ H.out).mono ?_
 rintro e w1 h1
 have h1':=h1
 obtain ⟨v,F',rfl,ho,_,_,_⟩:=h1
 obtain ⟨a5,c5,rfl,_⟩:=outs_form ho
 have H2:=Lib.hid h1'
 clear h1' ho
 obtain ⟨m,hm⟩:∃ m,q.2.1.length=m:=⟨_,rfl⟩
 obtain ⟨r,hr⟩:∃ r,q.2.2=r:=⟨_,rfl⟩
 rw [hm,hr] at H2 ⊢
 clear hm hr
 go_wp2_with fail
 go_ret2
 exact HB.out _ _ _ H2.out
end
section
open Go.RowKit Go.Maps
variable {w w' wr:World} {F F' G:Nat→Prop} {R c m e n k:Nat} {s u u':NS} {v v':Value} {os os':List OutD} {f:Nat→Int}
structure RunSt (w wr:World) (G:Nat→Prop) (R:Nat) (u:NS) (c m e:Nat) (v:Value) (os:List OutD) (f:Nat→Int) (n k:Nat):Prop where
 mine:Mine w wr G R u
 box:wr.cell? ⟨c,0,none⟩=some (.pointer (some ⟨R,0,none⟩))
 map:FMap wr m 4 (actF c)
 errs:wr.rowIs e 31 n (errCells f k)
 outs:OwnOuts wr w.heap.size v os
 nF:¬ G c∧¬ G m∧¬ G e
 nv:∀ g,v.ownBlock=some g→¬ G g∧g≠c∧g≠m∧g≠e
 ne:c≠e∧m≠e
 up:w.heap.size≤e
theorem RunSt.kept (h:RunSt w wr G R u c m e v os f n k) (hb:Below wr.heap.size wr w'):RunSt w w' G R u c m e v os f n k:=
 ⟨h.mine.kept hb,kept_cell hb h.box,h.map.same (hb.block _ h.map.lt),rowIs_same h.errs (hb.block _ h.errs.lt),owns_below h.outs hb,h.nF,h.nv,h.ne,h.up⟩
theorem RunSt.turned (h:RunSt w wr G R u c m e v os f n k) (hn:NodeAt w' F' R u') (ht:Turn G F' wr w'):RunSt w w' F' R u' c m e v os f n k:=by
 have l0:=(cell_spot h.box).2
 have l1:=h.map.lt
 have l2:=h.errs.lt
 simp only at l0
 have hno:∀ g,g < wr.heap.size→¬ G g→¬ F' g:=fun g hg h1 hf=>(ht.own g hf).elim h1 (fun hle=>by omega)
 exact ⟨h.mine.turned hn ht,(World.cell?_of_block (a:=⟨c,0,none⟩) (ht.block c l0 h.nF.1)).trans h.box,h.map.same (ht.block _ l1 h.nF.2.1),rowIs_same h.errs (ht.block _ l2 h.nF.2.2),own_turn h.outs ht (fun g hg=>(h.nv g hg).1),
  ⟨hno _ l0 h.nF.1,hno _ l1 h.nF.2.1,hno _ l2 h.nF.2.2⟩,fun g hg=>⟨hno g (h.outs.lt g hg).2 (h.nv g hg).1,(h.nv g hg).2⟩,h.ne,h.up⟩
theorem RunSt.appended (h:RunSt w wr G R u c m e v os f n k) (ho:OwnOuts w' w.heap.size v' os') (hg:wr.grownBy w' v.ownBlock) (hk:∀ g,v'.ownBlock=some g→v.ownBlock=some g∨wr.heap.size≤g):RunSt w w' G R u c m e v' os' f n k:=by
 have l0:=(cell_spot h.box).2
 have l1:=h.map.lt
 have l2:=h.errs.lt
 simp only at l0
 exact ⟨⟨h.mine.node.turn (Turn.of_grown (F:=fun k=>v.ownBlock=some k) hg (fun k hk=>hk)) (fun k hf hk=>(h.nv k hk).1 hf),h.mine.above,below_grown h.mine.below hg (fun g hg=>(h.outs.lt g hg).1) h.mine.below.size⟩,
  (World.cell?_of_block (a:=⟨c,0,none⟩) (hg.block c l0 (fun e'=>(h.nv c e'.symm).2.1 rfl))).trans h.box,h.map.same (hg.block m l1 (fun e'=>(h.nv m e'.symm).2.2.1 rfl)),rowIs_same h.errs (hg.block e l2 (fun e'=>(h.nv e e'.symm).2.2.2 rfl)),ho,h.nF,
  fun g hg'=>(hk g hg').elim (h.nv g) (fun hle=>⟨fun hf=>by have:=h.mine.node.there _ hf;omega,by omega,by omega,by omega⟩),h.ne,h.up⟩
theorem RunSt.stored (h:RunSt w wr G R u c m e v os f n k):RunSt w (wr.setCell ⟨e,k,none⟩ (.int .i64 (f k))) G R u c m e v os f n (k+1):=by
 have hs:∀ i,i≠e→(wr.setCell ⟨e,k,none⟩ (.int .i64 (f k))).heap[i]?=wr.heap[i]?:=fun i hi=>Below.heap_setCell wr ⟨e,k,none⟩ _ i hi
 exact ⟨⟨h.mine.node.turn (Turn.set (F:=fun k=>k=e) wr ⟨e,k,none⟩ _ rfl) (fun _ hf hk=>h.nF.2.2 (hk▸hf)),h.mine.above,h.mine.below.setCell h.up _⟩,
  (World.cell?_of_block (a:=⟨c,0,none⟩) (hs c h.ne.1)).trans h.box,h.map.same (hs m h.ne.2),err_step h.errs,own_same h.outs (fun g hg=>hs g (h.nv g hg).2.2.2),h.nF,h.nv,h.ne,h.up⟩
theorem results_four {fn:Func} {t u v x:Tmp} (h:fn.results=#[.tmp t,.tmp u,.tmp v,.tmp x]) (tmps:Array Value) (P:Program) (w:World) :
  (results fn tmps).run P w=.ok (.tuple #[tmps.getD t undef,tmps.getD u undef,tmps.getD v undef,tmps.getD x undef]) w:=by
 simp [results,h]
def RanN (w:World) (os:List OutD) (es:List Int) (ids:List UInt64) (e:Ending) (w':World):Prop:=
 ∃ v b xa xc,e=.returned (.tuple #[v,.slice (some ⟨b,0,none⟩) es.length es.length,.slice xa ids.length xc,.int .i64 0])∧OwnOuts w' w.heap.size v os∧Tr.IntsAt w' (some ⟨b,0,none⟩) es∧IdsAt w' xa ids∧ids.length≤1000∧ids.length≤xc∧Below w.heap.size w w'
theorem action_any (a:ActD) (j:Nat) (hj:j≤2950000000000) (hi:NInv j s) (hs:a.bytes.size≤maxLen) (hk:1≤a.kind∧a.kind≤4) (q:NS × List OutD × Int) (hq:s.did a=q) (c:Nat) :
  ∃ fid,actF c a.kind=some (fnV fid c)∧(∀ (args:Array Value) (w:World),(callFunc fid args).run Tryz.prog w=.ok (.enter fid args) w) ∧
   ∀ (w:World) (F:Nat→Prop) (R:Nat),w.cell? ⟨c,0,none⟩=some (.pointer (some ⟨R,0,none⟩))→NodeAt w F R s→Calls Tryz.prog fid #[actV a,.pointer (some ⟨c,0,none⟩)] w (SentN w F R q):=by
 have hA:s.A.length≤2950000000000:=by have:=hi.sum;omega
 unfold NS.did at hq
 have hcs:a.kind=1∨a.kind=2∨a.kind=3∨a.kind=4:=by omega
 rcases hcs with h1 | h1 | h1 | h1
 ·rw [if_pos h1] at hq
  exact ⟨_,by rw [h1];rfl,fun _ _=>by kernel_rfl,fun w F R hc hn=>play1_any a q hq c w hc hn⟩
 ·rw [if_neg (by omega),if_pos h1] at hq
  exact ⟨_,by rw [h1];rfl,fun _ _=>by kernel_rfl,fun w F R hc hn=>play2_any a q hq c w hc hn⟩
 ·rw [if_neg (by omega),if_neg (by omega),if_pos h1] at hq
  exact ⟨_,by rw [h1];rfl,fun _ _=>by kernel_rfl,fun w F R hc hn=>play3_any a hs hA q hq c w hc hn⟩
 ·rw [if_neg (by omega),if_neg (by omega),if_neg (by omega),if_pos h1] at hq
  exact ⟨_,by rw [h1];rfl,fun _ _=>by kernel_rfl,fun w F R hc hn=>play4_any a hi.fly q hq c w hc hn⟩
theorem action_none (a:ActD) (hk:¬ (1≤a.kind∧a.kind≤4)) (c:Nat):actF c a.kind=none∧s.did a=(s,[],1):=by
 unfold actF NS.did
 rw [if_neg (by omega),if_neg (by omega),if_neg (by omega),if_neg (by omega),if_neg (by omega),if_neg (by omega),if_neg (by omega),if_neg (by omega)]
 exact ⟨rfl,rfl⟩
theorem run_long (salt:UInt64) (n:Nat) (a:Option Addr) (cap:Nat) (hn:60 < n) (w:World):Calls Tryz.prog 20 #[.int .u64 salt.toNat,.slice a n cap] w fun e w'=>e=.returned (.tuple #[.slice none 0 0,.slice none 0 0,.slice none 0 0,.int .i64 2])∧Below w.heap.size w w':=by
 have hn':(60:Int) < (n:Int):=by omega
 clear hn
 go_enter Tryz.func20,Tryz.ntmps20
 go_wp2_with fail
 (try simp only [Exit.inBlock,Exit.then])
 refine bodyPost_ret (results_four rfl _ _ _) rfl ?_
 exact ⟨rfl,Below.refl _ _⟩
set_option maxHeartbeats 2000000 in
theorem run_ok (salt:UInt64) (l:List ActD) (a:Option Addr) (cap:Nat) (hl:l.length≤60) (hkd:∀ i (h:i < l.length),(Lit.int .i64 l[i].kind).wf=true) (w:World) (hi:ActsAt w a l) :
  Calls Tryz.prog 20 #[.int .u64 salt.toNat,.slice a l.length cap] w (RanN w (outK (NS.new salt) l l.length) ((List.range l.length).map (errK (NS.new salt) l)) ((stK (NS.new salt) l l.length).A.map Ju.idD)):=by
 have HI:=Lib.hid hi
 have HKD:=Lib.hid hkd
 have hml:maxLen=9223372036854775807:=rfl
 obtain ⟨n,hn⟩:∃ n,l.length=n:=⟨_,rfl⟩
 rw [hn] at hl ⊢
 have HLN:=Lib.hid hn
 have hl':¬ (60:Int) < (n:Int):=by omega
 clear hi hkd hn
 go_enter Tryz.func20,Tryz.ntmps20
 go_wp2_with fail
 with_reducible refine (mine_new salt w (Below.refl _ _)).mono ?_
 rintro e w2 ⟨R,F,rfl,h2,_,_⟩
 have H2:=Lib.hid h2
 clear h2
 go_wp2_with fail
 with_reducible refine (actions_any R w2).mono ?_
 rintro e w3 ⟨c,m,rfl,hc,hm,hb3,hcu,hmu⟩
 obtain ⟨e,he⟩:∃ e,w3.heap.size=e:=⟨_,rfl⟩
 have hmk:=make_errs n (by omega) w3
 obtain ⟨w4,hw4⟩:∃ x,w3.alloc (.cells (madeCells #[.int .i64 0] n) 31)=x:=⟨_,rfl⟩
 have hrow:=made_errs w3 (errK (NS.new salt) l) n
 have hk4:Below w3.heap.size w3 w4:=hw4▸kept_new _ _
 rw [hw4] at hrow hmk
 rw [he] at hrow hmk
 have H4:Hid (RunSt w w4 F R (NS.new salt) c m e (.slice none 0 0) [] (errK (NS.new salt) l) n 0):=Lib.hid (by
  have s2:=H2.out.below.size
  have s3:=hb3.size
  have lc:=(cell_spot hc).2
  have lm:=hm.lt
  simp only at lc
  have hno:∀ g,w2.heap.size≤g→¬ F g:=fun g hg hf=>by have:=H2.out.node.there _ hf;omega
  exact ⟨(H2.out.kept hb3).kept hk4,kept_cell hk4 hc,hm.same (hk4.block _ lm),hrow,outs_nil _ _,⟨hno _ hcu,hno _ hmu,hno _ (by omega)⟩,fun g hg=>(by cases hg),⟨by omega,by omega⟩,by omega⟩)
 clear hc hm hb3 hcu hmu hrow hk4 hw4 he
 go_wp2_with fail
 go_loopw [10,30] (fun vo i wr=>∃ (k:Nat) (G:Nat→Prop) (u:NS) (os:List OutD),k≤n∧i=.int .i64 k∧Hid (RunSt w wr G R u c m e vo os (errK (NS.new salt) l) n k)∧Hid (stK (NS.new salt) l k=u)∧Hid (outK (NS.new salt) l k=os)∧Hid (NInv k u)) (fun _ i _=>n - (intOf i).toNat)
 case atStart=>exact ⟨0,F,NS.new salt,[],Nat.zero_le _,rfl,H4,Lib.hid rfl,Lib.hid rfl,Lib.hid (inv_new salt)⟩
 case round=>
  obtain ⟨k,G,u,os,hk,rfl,H5,HU,HO,HN⟩:=hrel
  rename_i vo
  by_cases hkn:k < n
  ·have hkl:k < l.length:=by rw [HLN.out];exact hkn
   have hgd:=act_at hkl
   have hwf:=HKD.out k hkl
   obtain ⟨⟨g,o,rfl,hg,c0⟩,hs⟩:=HI.out k hkl
   obtain ⟨y,hy⟩:∃ y,l[k]=y:=⟨_,rfl⟩
   rw [hy] at c0 hs hwf hgd
   obtain ⟨c0,c1,c2,c3,c4⟩:=c0
   have k0:=cell_later H5.out.mine.below c0
   have k1:=cell_later H5.out.mine.below c1
   have k2:=cell_later H5.out.mine.below c2
   have k3:=cell_later H5.out.mine.below c3
   have k4:=cell_later H5.out.mine.below c4
   have l5:=(cell_spot k0).2
   obtain ⟨D,hD⟩:∃ D,wr.heap.size=D:=⟨_,rfl⟩
   obtain ⟨wy,hwy⟩:∃ wy,wr.alloc (.cells #[.int .i64 y.kind,.int .i64 y.peer,.int .i64 y.n,.bool y.flag,.string y.bytes] 29)=wy:=⟨_,rfl⟩
   have hby:Below wr.heap.size wr wy:=hwy▸kept_new _ _
   obtain ⟨y0,y1,y2,y3,y4⟩:=box_act wr y
   rw [hwy,hD] at y0 y1 y2 y3 y4
   have l6:=(cell_spot y0).2
   have h6:=H5.out.kept hby
   have H6:=Lib.hid h6
   have hzk:(k:Int) < (n:Int):=by omega
   have hlook:=h6.map.look_ok y.kind hwf
   have HNN:Hid (NInv (k+1) (u.did y).1):=Lib.hid (did_inv HN.out h6.mine.node.good.T y)
   obtain ⟨q1,q2,q3,hq⟩:∃ q1 q2 q3,u.did y=(q1,q2,q3):=⟨_,_,_,rfl⟩
   have HQ:=Lib.hid hq
   rw [hq] at HNN
   simp only at HNN
   have HU1:Hid (stK (NS.new salt) l (k+1)=q1):=Lib.hid (by simp only [stK];rw [hgd,HU.out,hq])
   have HO1:Hid (outK (NS.new salt) l (k+1)=os ++ q2):=Lib.hid (by simp only [outK];rw [hgd,HU.out,HO.out,hq])
   have HE1:Hid (errK (NS.new salt) l k=q3):=Lib.hid (by unfold errK;rw [hgd,HU.out,hq])
   have hln:os.length≤100 * k:=by rw [← HO.out];exact out_len l k
   have hq2:q2.length≤100:=by have:=did_out u y;rw [hq] at this;exact this
   clear hy c0 c1 c2 c3 c4 hby hq hgd hwf h6
   by_cases hkd:1≤y.kind∧y.kind≤4
   ·obtain ⟨fid,hget,hcf,hcall⟩:=action_any y k (by omega) HN.out hs hkd _ HQ.out c
    have HCALL:=Lib.hid hcall
    rw [hget] at hlook
    simp only [Option.getD_some,Option.isSome_some,fnV] at hlook
    clear hcall hget hkd hs
    go_wp2_with fail
    with_reducible refine (HCALL.out _ _ _ H6.out.box H6.out.mine.node).mono ?_
    rintro e w7 ⟨v7,G7,rfl,ho7,h7,t7,_⟩
    simp only at ho7 h7 ⊢
    have H7:=Lib.hid (H6.out.turned h7 t7)
    have HO7:=Lib.hid ho7
    have HSZ:=Lib.hid H7.out.mine.below.size
    clear ho7 h7 t7 hlook hcf
    go_wp2_with (at_builtin;refine append_outs rfl _ _ rfl rfl rfl H7.out.outs HO7.out (by omega) HSZ.out ?_;intro v8 w8 ho8 hg8 hk8;refine Hid.out ?_)
    refine Lib.hid ?_
    have H8:=Lib.hid (H7.out.appended ho8 hg8 hk8)
    have e0:=H8.out.errs.cell (i:=k) hkn
    have e1:=H8.out.errs.frozen k
    have l8:=(cell_spot e0).2
    clear ho8 hg8 hk8
    go_wp2_with fail
    go_roundw
    case rel=>exact ⟨k+1,G7,q1,os ++ q2,by omega,by go_num,Lib.hid (by rw [← HE1.out];exact H8.out.stored),HU1,HO1,HNN⟩
    case measure=>simp [intOf];omega
   ·obtain ⟨hget,hdid⟩:=action_none (s:=u) y hkd c
    rw [hget] at hlook
    simp only [Option.getD_none,Option.isSome_none] at hlook
    have hqq:=HQ.out
    rw [hdid] at hqq
    simp only [Prod.mk.injEq] at hqq
    obtain ⟨rfl,rfl,rfl⟩:=hqq
    have e0:=H6.out.errs.cell (i:=k) hkn
    have e1:=H6.out.errs.frozen k
    have l8:=(cell_spot e0).2
    clear hget hdid hkd hs
    go_wp2_with fail
    go_roundw
    case rel=>exact ⟨k+1,G,u,os,by omega,by go_num,Lib.hid (by rw [← HE1.out];exact H6.out.stored),HU1,Lib.hid (by rw [HO1.out,List.append_nil]),HNN⟩
    case measure=>simp [intOf];omega
  ·obtain rfl:k=n:=by omega
   have hA:u.A.length≤10000000000000:=by have:=HN.out.sum;omega
   have hA':(u.A.map Ju.idD).length≤1000:=by have:=HN.out.sum;rw [List.length_map];omega
   go_wp2_with fail
   with_reducible refine (accepted_any hA _ H5.out.mine.node).mono ?_
   rintro e w9 ⟨xa,xc,rfl,ho9,hb9⟩
   have H9:=Lib.hid (H5.out.kept hb9)
   have HO9:=Lib.hid ho9
   clear ho9 hb9
   go_wp2_with fail
   (try simp only [Exit.inBlock,Exit.then])
   refine bodyPost_ret (results_four rfl _ _ _) rfl ?_
   rw [HU.out,HO.out]
   obtain ⟨xa',xc',e',hxc,hat,_⟩:=owns_idsAt HO9.out
   simp only [Value.slice.injEq] at e'
   obtain ⟨rfl,_,rfl⟩:=e'
   refine ⟨_,e,xa,xc,?_,H9.out.outs,row_errs H9.out.errs,hat,hA',hxc,H9.out.mine.below⟩
   simp
end
section
open Go.ChangeShapes Go.WideShapes Go.ChangeAt Go.RowKit Go.Joins Go.Deep Go.Maps
variable {w w':World} {B b o:Nat} {v:Value} {l m:List ActD}
theorem info_actr:(Tryz.prog.info? 29).map (fun i=>(i.zero,i.size,i.bytes))=some (some (.agg #[.int .i64 0,.int .i64 0,.int .i64 0,.bool false,.string ByteArray.empty]),5,48):=by kernel_rfl
end
section
open Go.RowKit
theorem eqErr_any (l m:List Int) (a b:Option Addr) (ca cb:Nat) (w:World) (hl:l.length≤maxLen) (ha:Tr.IntsAt w a l) (hb:Tr.IntsAt w b m) :
  Calls Tryz.prog 22 #[.slice a l.length ca,.slice b m.length cb] w fun e w'=>e=.returned (.bool (l == m))∧w=w':=by
 unfold maxLen at hl
 by_cases hlen:l.length=m.length
 ·have hln:((l.length:Int) != (m.length:Int))=false:=by simp [hlen]
  have HL:=Lib.hid hlen
  clear hlen
  go_enter Tryz.func22,Tryz.ntmps22
  go_wp2
  go_loop [14] (fun i=>∃ k:Nat,k≤l.length∧i=.int .i64 k∧Hid (l.take k=m.take k)) (fun i=>l.length - (intOf i).toNat)
  case atStart=>exact ⟨0,Nat.zero_le _,rfl,Lib.hid (by simp)⟩
  case round=>
   obtain ⟨k,hk,rfl,NO⟩:=hrel
   by_cases hlt:k < l.length
   ·have hlm:k < m.length:=by have:=HL.out;omega
    obtain ⟨b1,o1,rfl,hb1,hd0⟩:=ha k hlt
    obtain ⟨b2,o2,rfl,hb2,hf0⟩:=hb k hlm
    by_cases hx:l[k]=m[k]
    ·have hxb:(l[k] != m[k])=false:=by rw [bne,beq_iff_eq.2 hx];rfl
     have HX:=Lib.hid hx
     clear hx
     go_wp2
     go_round
     case rel=>exact ⟨k+1,by omega,by go_num,Lib.hid (take_eq_step hlt hlm NO.out HX.out)⟩
     case measure=>simp [intOf];omega
    ·have hxb:(l[k] != m[k])=true:=by rw [bne,beq_eq_false_iff_ne.2 hx];rfl
     have HX:=Lib.hid hx
     clear hx
     go_wp2
     go_ret
     exact ⟨ret_bool (beq_eq_false_iff_ne.2 (ne_of_at hlt hlm HX.out)).symm,rfl⟩
   ·go_wp2
    go_ret
    refine ⟨ret_bool ?_,rfl⟩
    have h1:=NO.out
    rw [List.take_of_length_le (by omega),List.take_of_length_le (by have:=HL.out;omega)] at h1
    exact (beq_iff_eq.2 h1).symm
 ·have hln:((l.length:Int) != (m.length:Int))=true:=by simp;omega
  have HL:=Lib.hid hlen
  clear hlen
  go_enter Tryz.func22,Tryz.ntmps22
  go_wp2
  go_ret
  exact ⟨ret_bool (beq_eq_false_iff_ne.2 fun h=>HL.out (by rw [h])).symm,rfl⟩
theorem eqErr_is (l m:List Int) (a b:Option Addr) (ca cb:Nat) (w:World) (r:Bool) (hl:l.length≤maxLen) (ha:Tr.IntsAt w a l) (hb:Tr.IntsAt w b m) (h:(l == m)=r) :
  Calls Tryz.prog 22 #[.slice a l.length ca,.slice b m.length cb] w fun e w'=>e=.returned (.bool r)∧w=w':=h▸eqErr_any l m a b ca cb w hl ha hb
end
section
open Go.RowKit Go.Maps
variable {w w':World} {s:NS}
theorem errs_kept {a:Option Addr} {l:List Int} (hb:Below w.heap.size w w') (h:Tr.IntsAt w a l):Tr.IntsAt w' a l:=fun i hi=>by
 obtain ⟨b,o,e,hlt,c⟩:=h i hi
 exact ⟨b,o,e,Nat.lt_of_lt_of_le hlt hb.size,kept_cell hb c⟩
theorem eqOut_n (l:List OutD) (n:Nat) (hn:l.length=n) (a b:Option Addr) (ca cb:Nat) (w:World) (hl:n≤1000000) (ha:OutsAt w a l) (hb:OutsAt w b l):Calls Tryz.prog 10 #[.slice a n ca,.slice b n cb] w fun e w'=>e=.returned (.bool true)∧Below w.heap.size w w':=by
 subst hn
 exact eqOut_same l a b ca cb w hl ha hb
theorem eqErr_n (l:List Int) (n:Nat) (hn:l.length=n) (a b:Option Addr) (ca cb:Nat) (w:World) (hl:n≤1000000) (ha:Tr.IntsAt w a l) (hb:Tr.IntsAt w b l):Calls Tryz.prog 22 #[.slice a n ca,.slice b n cb] w fun e w'=>e=.returned (.bool true)∧w=w':=by
 subst hn
 exact eqErr_is l l a b ca cb w true (by unfold maxLen;omega) ha hb (beq_self_eq_true _)
theorem eqID_n (l:List UInt64) (n:Nat) (hn:l.length=n) (a b:Option Addr) (ca cb:Nat) (w:World) (hl:n≤10000000000000) (ha:IdsAt w a l) (hb:IdsAt w b l):Calls Tryz.prog 11 #[.slice a n ca,.slice b n cb] w fun e w'=>e=.returned (.bool true)∧w=w':=by
 subst hn
 exact eqID_is l l a b ca cb w true (by unfold maxLen;omega) ha hb (beq_self_eq_true _)
structure Ran (w:World) (oa:Option Addr) (p oc:Nat) (os:List OutD) (b n:Nat) (es:List Int) (xa:Option Addr) (q xc:Nat) (ids:List UInt64):Prop where
 op:os.length=p
 oc:p≤oc
 outs:OutsAt w oa os
 en:es.length=n
 errs:Tr.IntsAt w (some ⟨b,0,none⟩) es
 xq:ids.length=q
 few:ids.length≤1000
 xcap:q≤xc
 idat:IdsAt w xa ids
theorem Ran.kept {oa xa:Option Addr} {p oc b n q xc:Nat} {os:List OutD} {es:List Int} {ids:List UInt64} (h:Ran w oa p oc os b n es xa q xc ids) (hb:Below w.heap.size w w'):Ran w' oa p oc os b n es xa q xc ids:=
 ⟨h.op,h.oc,outsAt_kept hb h.outs,h.en,errs_kept hb h.errs,h.xq,h.few,h.xcap,idsAt_kept hb h.idat⟩
theorem ran_form {os:List OutD} {es:List Int} {ids:List UInt64} {e:Ending} (h:RanN w os es ids e w') :
  ∃ oa p oc b n xa q xc,e=.returned (.tuple #[.slice oa p oc,.slice (some ⟨b,0,none⟩) n n,.slice xa q xc,.int .i64 0])∧Ran w' oa p oc os b n es xa q xc ids∧Below w.heap.size w w':=by
 obtain ⟨v,b,xa,xc,rfl,ho,he,hx,hf,hxc,hb⟩:=h
 obtain ⟨oa,oc,rfl,hc,hat⟩:=owns_outsAt ho
 exact ⟨oa,_,oc,b,_,xa,_,xc,rfl,⟨rfl,hc,hat,rfl,he,rfl,hf,hxc,hx⟩,hb⟩
theorem run_n (salt:UInt64) (l:List ActD) (n:Nat) (hn:l.length=n) (a:Option Addr) (cap:Nat) (hl:n≤60) (hkd:∀ i (h:i < l.length),(Lit.int .i64 l[i].kind).wf=true) (w:World) (hi:ActsAt w a l) :
  Calls Tryz.prog 20 #[.int .u64 salt.toNat,.slice a n cap] w (RanN w (outK (NS.new salt) l l.length) ((List.range l.length).map (errK (NS.new salt) l)) ((stK (NS.new salt) l l.length).A.map Ju.idD)):=by
 subst hn
 exact run_ok salt l a cap hl hkd w hi
end
section
open Go.RowKit Go.Maps
variable {w0 w w' wr:World} {F G G':Nat→Prop} {R B C:Nat} {s t u u':NS} {v v' x:Value} {os os':List OutD} {es l:List Int}
def erV (x:Int):Value:=.int .i64 x
abbrev OwnErr (w:World) (C:Nat) (v:Value) (l:List Int):Prop:=w.ownsRow C 31 1 v l.length (l.map erV)
theorem ownErr_nil (w:World) (C:Nat):OwnErr w C (.slice none 0 0) []:=World.ownsRow_nil w C _ 1
theorem append_err {ops:Array Oper} {rest:List Oper} {o:Oper} {a:Act} {Q:Exit→Act→World→Prop} (hgd:o.guard=none) (s x:Operand) (ho:o.op=.call { callee:=.builtin .append,args:=#[s,x],argTypes:=#[62,62] })
  (y:Int) (hs:a.eval s=v) (hx:a.eval x=.slice (some ⟨w.heap.size,0,none⟩) 1 1) (hown:OwnErr w C v l) (hlen:l.length≤1000000000000) (hB:C≤w.heap.size)
  (h:∀ g cap w',OwnErr w' C (.slice (some ⟨g,0,none⟩) (l.length+1) cap) (l ++ [y])→w.grownBy w' v.ownBlock→(v.ownBlock=some g∨w.heap.size≤g)→wpList Tryz.prog ops Q rest (a.put o.dst (.slice (some ⟨g,0,none⟩) (l.length+1) cap)) w') :
  wpList Tryz.prog ops Q (o :: rest) a (w.alloc (.cells #[.int .i64 y] 31)):=by
 obtain ⟨i0,hi0,hz0,hz1,hz2⟩:=info_parts info_err
 refine wpList_append_lies _ hgd s x 62 ho C 31 i0 (.int .i64 0) 1 8 Tryz.underlying62 hi0 hz0 hz1 hz2 rfl (by decide) v l.length (l.map erV) hs (hown.alloc _) ⟨w.heap.size,0,none⟩ 1 1 [.int .i64 y] hx rfl (cells_new w _ _) (by simp [Value.oneCell']) (by decide) (by unfold maxLen;omega) (by omega) (by simp;omega) _ rfl ?_
 intro g cap w1 hown' hgrow hat _
 refine h g cap w1 ?_ ((World.grownBy_alloc w _ _).trans hgrow) (hat.imp id fun e=>by rw [e];simp)
 unfold OwnErr
 rw [List.length_append,List.map_append]
 exact hown'
theorem owns_errsAt (h:OwnErr w C v l):∃ a cap,v=.slice a l.length cap∧Tr.IntsAt w a l:=by
 rcases h.2 with ⟨hv,hn⟩ | ⟨g,cap,cur,hv,hB,hg,hc,_,_,_⟩
 ·exact ⟨none,0,by rw [hn];exact hv,fun i hi=>absurd hi (by omega)⟩
 ·refine ⟨some ⟨g,0,none⟩,cap,hv,fun i hi=>⟨g,0,rfl,(Array.getElem?_eq_some_iff.1 hg).1,?_⟩⟩
  have hh:=h
  rw [hv] at hh
  rw [Nat.zero_add,hh.cellAt i (by omega),List.getElem?_map,List.getElem?_eq_getElem hi]
  rfl
structure RRun (w wr:World) (G:Nat→Prop) (B:Nat) (u:NS) (v:Value) (os:List OutD) (x:Value) (es:List Int):Prop where
 node:RN wr G B u
 above:∀ k,G k→w.heap.size≤k
 below:Below w.heap.size w wr
 outs:OwnOuts wr w.heap.size v os
 errs:OwnErr wr w.heap.size x es
 nv:∀ g,v.ownBlock=some g→¬ G g
 nx:∀ g,x.ownBlock=some g→¬ G g∧v.ownBlock≠some g
theorem RRun.kept (h:RRun w wr G B u v os x es) (hb:Below wr.heap.size wr w'):RRun w w' G B u v os x es:=⟨h.node.kept hb,h.above,kept_trans h.below hb,owns_below h.outs hb,owns_below h.errs hb,h.nv,h.nx⟩
theorem RRun.turned (h:RRun w wr G B u v os x es) (hn:RN w' G' B u') (hg:Gain B G G' wr w'):RRun w w' G' B u' v os x es:=
 have ht:=hg.turn h.node.gB
 ⟨hn,ht.above h.above h.below.size,h.below.trans (ht.below h.above h.below.size),own_turn h.outs ht h.nv,own_turn h.errs ht (fun g hg=>(h.nx g hg).1),
  fun g hg' hf=>(ht.own g hf).elim (h.nv g hg') (fun hle=>by have:=(h.outs.lt g hg').2;omega),
  fun g hg'=>⟨fun hf=>(ht.own g hf).elim (h.nx g hg').1 (fun hle=>by have:=(h.errs.lt g hg').2;omega),(h.nx g hg').2⟩⟩
theorem RRun.sent (h:RRun w wr G B u v os x es) (ho:OwnOuts w' w.heap.size v' os') (hg:wr.grownBy w' v.ownBlock) (hk:∀ g,v'.ownBlock=some g→v.ownBlock=some g∨wr.heap.size≤g):RRun w w' G B u v' os' x es:=
 ⟨h.node.turn (Turn.of_grown (F:=fun k=>v.ownBlock=some k) hg (fun _ hk=>hk)) (fun k hf hk=>h.nv k hk hf),h.above,below_grown h.below hg (fun g hg=>(h.outs.lt g hg).1) h.below.size,ho,own_grown h.errs hg (fun g hgg=>(h.nx g hgg).2),
  fun g hg'=>(hk g hg').elim (h.nv g) (fun hle hf=>by have:=h.node.there g hf;omega),
  fun g hg'=>⟨(h.nx g hg').1,fun e=>(hk g e).elim (h.nx g hg').2 (fun hle=>by have:=(h.errs.lt g hg').2;omega)⟩⟩
theorem RRun.erred {x':Value} {es':List Int} (h:RRun w wr G B u v os x es) (ho:OwnErr w' w.heap.size x' es') (hg:wr.grownBy w' x.ownBlock) (hk:∀ g,x'.ownBlock=some g→x.ownBlock=some g∨wr.heap.size≤g):RRun w w' G B u v os x' es':=
 ⟨h.node.turn (Turn.of_grown (F:=fun k=>x.ownBlock=some k) hg (fun _ hk=>hk)) (fun k hf hk=>(h.nx k hk).1 hf),h.above,below_grown h.below hg (fun g hg=>(h.errs.lt g hg).1) h.below.size,own_grown h.outs hg (fun g hgg e=>(h.nx g e).2 hgg),ho,h.nv,
  fun g hg'=>⟨(hk g hg').elim (fun e=>(h.nx g e).1) (fun hle hf=>by have:=h.node.there g hf;omega),(hk g hg').elim (fun e=>(h.nx g e).2) (fun hle e=>by have:=(h.outs.lt g e).2;omega)⟩⟩
def RanR (w:World) (os:List OutD) (es:List Int) (ids:List UInt64) (e:Ending) (w':World):Prop:=
 ∃ oa oc ea ec xa xc,e=.returned (.tuple #[.slice oa os.length oc,.slice ea es.length ec,.slice xa ids.length xc,.int .i64 0])∧OutsAt w' oa os∧Tr.IntsAt w' ea es∧IdsAt w' xa ids∧Below w.heap.size w w'
theorem refRun_long (salt:UInt64) (n:Nat) (a:Option Addr) (cap:Nat) (hn:60 < n) (w:World):Calls Tryz.prog 21 #[.int .u64 salt.toNat,.slice a n cap] w fun e w'=>e=.returned (.tuple #[.slice none 0 0,.slice none 0 0,.slice none 0 0,.int .i64 2])∧Below w.heap.size w w':=by
 have hn':(60:Int) < (n:Int):=by omega
 clear hn
 go_enter Tryz.func21,Tryz.ntmps21
 go_wp2_with fail
 (try simp only [Exit.inBlock,Exit.then])
 refine bodyPost_ret (results_four rfl _ _ _) rfl ?_
 exact ⟨rfl,Below.refl _ _⟩
set_option maxHeartbeats 4000000 in
theorem refRun_ok (salt:UInt64) (l:List ActD) (n:Nat) (hn:l.length=n) (a:Option Addr) (cap:Nat) (hl:n≤60) (w:World) (hi:ActsAt w a l) :
  Calls Tryz.prog 21 #[.int .u64 salt.toNat,.slice a n cap] w (RanR w (outK (NS.new salt) l l.length) ((List.range l.length).map (errK (NS.new salt) l)) ((stK (NS.new salt) l l.length).A.map Ju.idD)):=by
 have HI:=Lib.hid hi
 have HLN:=Lib.hid hn
 have hl':¬ (60:Int) < (n:Int):=by omega
 clear hi hn
 go_enter Tryz.func21,Tryz.ntmps21
 go_wp2_with fail
 with_reducible refine (rnew_any salt w).mono ?_
 rintro e w2 ⟨B,rfl,h2,h3,h4⟩
 have H2:Hid (RRun w w2 (fun k=>k=B) B (NS.new salt) (.slice none 0 0) [] (.slice none 0 0) []):=Lib.hid ⟨h2,fun k hk=>by rw [hk,h3];exact Nat.le_refl _,h4,outs_nil _ _,ownErr_nil _ _,fun g hg=>(by cases hg),fun g hg=>(by cases hg)⟩
 clear h2 h3 h4
 go_wp2_with fail
 go_loopw [9,10,22] (fun vo ve i wr=>∃ (k:Nat) (G:Nat→Prop) (u:NS) (os:List OutD) (es:List Int),k≤n∧i=.int .i64 k∧Hid (RRun w wr G B u vo os ve es)∧Hid (stK (NS.new salt) l k=u∧outK (NS.new salt) l k=os∧(List.range k).map (errK (NS.new salt) l)=es)∧Hid (BInv k u)) (fun _ _ i _=>n - (intOf i).toNat)
 case atStart=>exact ⟨0,_,NS.new salt,[],[],Nat.zero_le _,rfl,H2,Lib.hid ⟨rfl,rfl,rfl⟩,Lib.hid ⟨inv_new salt,pinv_new salt⟩⟩
 case round=>
  obtain ⟨k,G,u,os,es,hk,rfl,H5,HS,HN⟩:=hrel
  by_cases hkn:k < n
  ·have hkl:k < l.length:=by rw [HLN.out];exact hkn
   have hgd:=act_at hkl
   obtain ⟨⟨g,o,rfl,hg,c0⟩,hs⟩:=HI.out k hkl
   obtain ⟨y,hy⟩:∃ y,l[k]=y:=⟨_,rfl⟩
   rw [hy] at c0 hs hgd
   obtain ⟨c0,c1,c2,c3,c4⟩:=c0
   have k0:=cell_later H5.out.below c0
   have k1:=cell_later H5.out.below c1
   have k2:=cell_later H5.out.below c2
   have k3:=cell_later H5.out.below c3
   have k4:=cell_later H5.out.below c4
   have l5:=(cell_spot k0).2
   obtain ⟨wy,hwy⟩:∃ wy,wr.alloc (.cells #[.int .i64 y.kind,.int .i64 y.peer,.int .i64 y.n,.bool y.flag,.string y.bytes] 29)=wy:=⟨_,rfl⟩
   have hby:Below wr.heap.size wr wy:=hwy▸kept_new _ _
   obtain ⟨y0,y1,y2,y3,y4⟩:=box_act wr y
   rw [hwy] at y0 y1 y2 y3 y4
   have l6:=(cell_spot y0).2
   have H6:=Lib.hid (H5.out.kept hby)
   have HNN:Hid (BInv (k+1) (u.did y).1):=Lib.hid ⟨did_inv HN.out.inv H5.out.node.good.T y,HN.out.pool.did HN.out.inv.fly H5.out.node.good.T y⟩
   obtain ⟨q1,q2,q3,hq⟩:∃ q1 q2 q3,u.did y=(q1,q2,q3):=⟨_,_,_,rfl⟩
   have HQ:=Lib.hid hq
   rw [hq] at HNN
   have HS1:Hid (stK (NS.new salt) l (k+1)=q1∧outK (NS.new salt) l (k+1)=os ++ q2∧(List.range (k+1)).map (errK (NS.new salt) l)=es ++ [q3]):=Lib.hid ⟨by simp only [stK];rw [hgd,HS.out.1,hq],by simp only [outK];rw [hgd,HS.out.1,HS.out.2.1,hq],by
    rw [List.range_succ,List.map_append,HS.out.2.2]
    simp only [List.map_cons,List.map_nil]
    unfold errK
    rw [hgd,HS.out.1,hq]⟩
   have hln:os.length≤100 * k:=by rw [← HS.out.2.1];exact out_len l k
   have hle:es.length=k:=by rw [← HS.out.2.2,List.length_map,List.length_range]
   have hq2:q2.length≤100:=by have:=did_out u y;rw [hq] at this;exact this
   clear hy c0 c1 c2 c3 c4 hby hq hgd
   go_wp2_with fail
   with_reducible refine (rdo_any y k (by omega) HN.out.inv HN.out.pool hs _ HQ.out _ H6.out.node).mono ?_
   rintro e w7 ⟨v7,G7,rfl,ho7,h7,t7⟩
   simp only at ho7 h7 ⊢
   have H7:=Lib.hid (H6.out.turned h7 t7)
   have HO7:=Lib.hid ho7
   have HSZ:=Lib.hid H7.out.below.size
   clear ho7 h7 t7 hs
   go_wp2_with (at_builtin;refine append_outs rfl _ _ rfl rfl rfl H7.out.outs HO7.out (by omega) HSZ.out ?_;intro v8 w8 ho8 hg8 hk8;refine Hid.out ?_)
   refine Lib.hid ?_
   have H8:=Lib.hid (H7.out.sent ho8 hg8 hk8)
   have HS8:=Lib.hid H8.out.below.size
   clear ho8 hg8 hk8
   go_wp2_with (at_builtin;refine append_err rfl _ _ rfl q3 rfl rfl H8.out.errs (by omega) HS8.out ?_;intro g9 c9 w9 ho9 hg9 hk9;refine Hid.out ?_)
   refine Lib.hid ?_
   rw [hle] at ho9
   have H9:=Lib.hid (H8.out.erred ho9 hg9 (fun g hgg=>by simp only [Value.ownBlock,Option.some.injEq] at hgg;subst hgg;exact hk9))
   clear ho9 hg9 hk9
   go_wp2_with fail
   go_roundw
   case rel=>exact ⟨k+1,G7,q1,os ++ q2,es ++ [q3],by omega,by go_num,H9,HS1,HNN⟩
   case measure=>simp [intOf];omega
  ·obtain rfl:k=n:=by omega
   have hA:u.A.length≤2932031007402:=by have:=HN.out.inv.sum;omega
   obtain ⟨la,lc,ll,c3,_,_⟩:=H5.out.node.led
   have lB:=H5.out.node.lt
   go_wp2_with fail
   with_reducible refine (all_any (u:=u) H5.out.node hA c3).mono ?_
   rintro e w9 ⟨xa,xc,rfl,ho9,hb9⟩
   have H9:=Lib.hid (H5.out.kept hb9)
   have HO9:=Lib.hid ho9
   clear ho9 hb9
   go_wp2_with fail
   (try simp only [Exit.inBlock,Exit.then])
   refine bodyPost_ret (results_four rfl _ _ _) rfl ?_
   rw [HLN.out,HS.out.1,HS.out.2.1,HS.out.2.2]
   obtain ⟨oa,oc,e1,_,hat1⟩:=owns_outsAt H9.out.outs
   obtain ⟨ea,ec,e2,hat2⟩:=owns_errsAt H9.out.errs
   subst e1
   subst e2
   exact ⟨oa,oc,ea,ec,xa,xc,by simp,hat1,hat2,ids_have HO9.out,H9.out.below⟩
theorem make_acts (w:World):∃ w',(Instr.makeSlice 23 (.int .i64 61) (.int .i64 61)).run Tryz.prog w=.ok (.slice (some ⟨w.heap.size,0,none⟩) 61 61) w'∧Below w.heap.size w w':=by
 obtain ⟨i,hi,hz,hs,hb⟩:=info_parts info_actr
 have:=run_make (P:=Tryz.prog) w 23 29 i _ Tryz.underlying23 hi hz .i64 .i64 61 61 (by omega) (Int.le_refl _) (by rw [hb];omega) (by omega)
 exact ⟨_,this,kept_new _ _⟩
theorem outs_none (w:World):OutsAt w none []:=fun i hi=>absurd hi (Nat.not_lt_zero i)
theorem ints_none (w:World):Tr.IntsAt w none []:=fun i hi=>absurd hi (Nat.not_lt_zero i)
theorem ids_none (w:World):IdsAt w none []:=fun i hi=>absurd hi (Nat.not_lt_zero i)
set_option maxHeartbeats 4000000 in
theorem playRuns_walk (salt:UInt64) (l:List ActD) (a:Option Addr) (cap:Nat) (w:World) (hi:ActsAt w a l∧∀ i (h:i < l.length),(Lit.int .i64 l[i].kind).wf=true) :
  Calls Tryz.prog 5 #[.int .u64 salt.toNat,.slice a l.length cap] w fun e w'=>e=.returned (.bool true)∧Below w.heap.size w w':=by
 have HI:=Lib.hid hi.1
 have HKL:=Lib.hid hi.2
 obtain ⟨n,hn⟩:∃ n,l.length=n:=⟨_,rfl⟩
 have HNL:=Lib.hid hn
 rw [hn]
 clear hi hn
 go_enter Tryz.func5,Tryz.ntmps5
 go_wp2_with fail
 by_cases h60:60 < n
 ·with_reducible refine (run_long salt n a cap h60 _).mono ?_
  rintro e w2 ⟨rfl,hb2⟩
  have HB2:=Lib.hid hb2
  clear hb2
  go_wp2_with fail
  with_reducible refine (refRun_long salt n a cap h60 _).mono ?_
  rintro e w3 ⟨rfl,hb3⟩
  have HB3:=Lib.hid (kept_trans HB2.out hb3)
  clear hb3
  obtain ⟨w4,hmk,hb4⟩:=make_acts w3
  have HB4:=Lib.hid (kept_trans HB3.out hb4)
  clear hb4
  go_wp2_with fail
  with_reducible refine (run_long salt 61 _ _ (by decide) _).mono ?_
  rintro e w5 ⟨rfl,hb5⟩
  have HB5:=Lib.hid (kept_trans HB4.out hb5)
  clear hb5 hmk
  go_wp2_with fail
  with_reducible refine (eqOut_n [] 0 rfl none none 0 0 _ (by decide) (outs_none _) (outs_none _)).mono ?_
  rintro e w6 ⟨rfl,hb6⟩
  have HB6:=Lib.hid (kept_trans HB5.out hb6)
  clear hb6
  go_wp2_with fail
  with_reducible refine (eqErr_n [] 0 rfl none none 0 0 _ (by decide) (ints_none _) (ints_none _)).mono ?_
  rintro e w7 ⟨rfl,rfl⟩
  go_wp2_with fail
  with_reducible refine (eqID_n [] 0 rfl none none 0 0 _ (by decide) (ids_none _) (ids_none _)).mono ?_
  rintro e w8 ⟨rfl,rfl⟩
  go_wp2_with fail
  go_ret
  exact ⟨rfl,HB6.out⟩
 ·with_reducible refine (run_n salt l n HNL.out a cap (by omega) HKL.out _ HI.out).mono ?_
  intro e w2 h2
  obtain ⟨oa,p,oc,b2,n2,xa,q,xc,rfl,hr2,hb2⟩:=ran_form h2
  have HR2:=Lib.hid hr2
  have HB2:=Lib.hid hb2
  have HI2:=Lib.hid (actsAt_kept hb2 HI.out)
  clear hb2 h2 hr2
  go_wp2_with fail
  with_reducible refine (refRun_ok salt l n HNL.out a cap (by omega) _ HI2.out).mono ?_
  rintro e w3 ⟨ra,rc,ea,ec,ya,yc,rfl,ho3,he3,hx3,hb3⟩
  have HR3:=Lib.hid (HR2.out.kept hb3)
  rw [HR3.out.op,HR3.out.en,HR3.out.xq]
  have HO3:=Lib.hid ho3
  have HE3:=Lib.hid he3
  have HX3:=Lib.hid hx3
  have HB3:=Lib.hid (kept_trans HB2.out hb3)
  have hp6:p≤6000:=by
   rw [← HR3.out.op]
   have:=out_len (s:=NS.new salt) l l.length
   have:=HNL.out
   omega
  have hn6:n2≤60:=by rw [← HR3.out.en,List.length_map,List.length_range,HNL.out];omega
  have hq6:q≤1000:=by rw [← HR3.out.xq];exact HR3.out.few
  clear ho3 he3 hx3 hb3 HR2
  obtain ⟨w4,hmk,hb4⟩:=make_acts w3
  have HK4:=Lib.hid hb4
  have HB4:=Lib.hid (kept_trans HB3.out hb4)
  clear hb4
  go_wp2_with fail
  with_reducible refine (run_long salt 61 _ _ (by decide) _).mono ?_
  rintro e w5 ⟨rfl,hb5⟩
  have HK5:=Lib.hid (kept_trans HK4.out hb5)
  have HB5:=Lib.hid (kept_trans HB4.out hb5)
  clear hb5 hmk
  have HR5:=Lib.hid (HR3.out.kept HK5.out)
  go_wp2_with fail
  with_reducible refine (eqOut_n _ p HR5.out.op oa ra oc rc _ (by omega) HR5.out.outs (outsAt_kept HK5.out HO3.out)).mono ?_
  rintro e w6 ⟨rfl,hb6⟩
  have HB6:=Lib.hid (kept_trans HB5.out hb6)
  have HR6:=Lib.hid (HR5.out.kept hb6)
  have HE6:=Lib.hid (errs_kept hb6 (errs_kept HK5.out HE3.out))
  have HX6:=Lib.hid (idsAt_kept hb6 (idsAt_kept HK5.out HX3.out))
  clear hb6
  go_wp2_with fail
  with_reducible refine (eqErr_n _ n2 HR6.out.en (some ⟨b2,0,none⟩) ea n2 ec _ (by omega) HR6.out.errs HE6.out).mono ?_
  rintro e w7 ⟨rfl,rfl⟩
  go_wp2_with fail
  with_reducible refine (eqID_n _ q HR6.out.xq xa ya xc yc _ (by omega) HR6.out.idat HX6.out).mono ?_
  rintro e w8 ⟨rfl,rfl⟩
  go_wp2_with fail
  go_ret
  exact ⟨rfl,HB6.out⟩
end
end Go.Proofs.YtlboemhbealnmaaGreat
