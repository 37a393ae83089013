import Derived.Test.YtlboemhbealnmaaGreatP25
set_option maxRecDepth 20000
namespace Go.Proofs.YtlboemhbealnmaaGreat
open Go.RowKit Go.Maps
variable {w w':World} {G:Nat→Prop} {X R:Nat} {s:NS} {q:List UInt64}
def DeedBox (w:World) (b:Nat) (a:Option Addr) (cap:Nat) (d:DeedD):Prop:=w.cell? ⟨b,0,none⟩=some (.slice a d.ins.length cap)∧w.cell? ⟨b,1,none⟩=some (.int .i64 d.outs)∧w.cell? ⟨b,2,none⟩=some (.int .i64 d.weight)∧w.cell? ⟨b,3,none⟩=some (.int .i64 d.fee)
theorem DeedBox.kept {b:Nat} {a:Option Addr} {cap:Nat} {d:DeedD} (h:DeedBox w b a cap d) (hb:Below w.heap.size w w'):DeedBox w' b a cap d:=⟨kept_cell hb h.1,kept_cell hb h.2.1,kept_cell hb h.2.2.1,kept_cell hb h.2.2.2⟩
theorem DeedBox.turn {b:Nat} {a:Option Addr} {cap:Nat} {d:DeedD} {G':Nat→Prop} (h:DeedBox w b a cap d) (ht:Turn G G' w w') (hn:¬ G b):DeedBox w' b a cap d:=by
 have e:=ht.block b (cell_spot h.1).2 hn
 exact ⟨(World.cell?_of_block (w:=w) (a:=⟨b,0,none⟩) e).trans h.1,(World.cell?_of_block (w:=w) (a:=⟨b,1,none⟩) e).trans h.2.1,(World.cell?_of_block (w:=w) (a:=⟨b,2,none⟩) e).trans h.2.2.1,(World.cell?_of_block (w:=w) (a:=⟨b,3,none⟩) e).trans h.2.2.2⟩
theorem accept_len (s:NS) (x:UInt64) (d:DeedD):(s.accept x d).A.length≤s.A.length+1:=by
 show (Ju.acceptL s.A d).2.length≤_
 unfold Ju.acceptL
 split
 ·simp
 ·split
  ·simp
  ·split
   ·simp
   ·simp
theorem box_deed (w:World) (a:Option Addr) (cap:Nat) (d:DeedD):DeedBox (w.alloc (.cells #[.slice a d.ins.length cap,.int .i64 d.outs,.int .i64 d.weight,.int .i64 d.fee] 94)) w.heap.size a cap d:=⟨by simp [go_sem],by simp [go_sem],by simp [go_sem],by simp [go_sem]⟩
abbrev pays (s:NS) (d:DeedD) (c:UInt64):Bool:=decide (Ju.pairL s.A d ((Ho.deedOf s.P c).getD nod)=(0,0))
theorem seek_none {x:UInt64} {d:DeedD} (h:(Ho.childL s.P x).find? (pays s d)=none):s.seek x d=(s,[]):=by
 unfold NS.seek NS.payer
 rw [h]
theorem seek_some {x c:UInt64} {d:DeedD} (h:(Ho.childL s.P x).find? (pays s d)=some c):s.seek x d=(((s.accept x d).accept c ((Ho.deedOf s.P c).getD nod)),Ho.childL ((s.accept x d).accept c ((Ho.deedOf s.P c).getD nod)).P x ++ Ho.childL ((s.accept x d).accept c ((Ho.deedOf s.P c).getD nod)).P c):=by
 unfold NS.seek NS.payer
 rw [h]
set_option maxRecDepth 20000 in
set_option maxHeartbeats 2000000 in
theorem seek_any (x:UInt64) (d:DeedD) (a:Option Addr) (cap:Nat) (hl:s.A.length≤4000000000000) (hq:q.length≤90000) (w:World) (h:ExAt w G X R s q) (hi:InsAt w a d.ins) (hout:∀ bb o,d.ins≠[]→a=some ⟨bb,o,none⟩→¬ G bb) :
  Calls Tryz.prog 167 #[.pointer (some ⟨X,0,none⟩),.int .u64 x.toNat,.agg #[.slice a d.ins.length cap,.int .i64 d.outs,.int .i64 d.weight,.int .i64 d.fee]] w (TurnsX w G X R (.tuple #[]) (s.seek x d).1 (q ++ (s.seek x d).2)):=by
 have hk0:=kept_new w (.cells #[.slice a d.ins.length cap,.int .i64 d.outs,.int .i64 d.weight,.int .i64 d.fee] 94)
 have h0:=h.kept hk0
 have HB0:=Lib.hid (box_deed w a cap d)
 have HI0:=Lib.hid (insAt_kept hk0 hi)
 have HO:=Lib.hid hout
 have HK0:=Lib.hid hk0
 have c0:=h0.c0
 have l0:=h0.lt
 have l1:=h0.ltR
 have H0:=Lib.hid h0
 clear h h0 hk0 hi hout
 go_enter Tryz.func167,Tryz.ntmps167
 go_wp2_with fail
 obtain ⟨F0,hn0,hF0⟩:=H0.out.node
 with_reducible refine (n_childP x _ hn0).mono ?_
 rintro e w1 ⟨a1,cp1,rfl,ho1,hb1⟩
 have H1:=Lib.hid (H0.out.kept hb1)
 have HB1:=Lib.hid (HB0.out.kept hb1)
 have HI1:=Lib.hid (insAt_kept hb1 HI0.out)
 have HK1:=Lib.hid (kept_trans HK0.out hb1)
 obtain ⟨a1',cp1',e1,_,hids,_⟩:=owns_idsAt ho1
 simp only [Value.slice.injEq,true_and] at e1
 obtain ⟨rfl,rfl⟩:=e1
 have HIDS:=Lib.hid hids
 obtain ⟨cs,hcs⟩:∃ cs,Ho.childL s.P x=cs:=⟨_,rfl⟩
 have HCS:=Lib.hid hcs
 rw [hcs] at HIDS ⊢
 have hcl:cs.length≤24:=by
  have h1:=childL_len (L:=s.P) x
  have h2:=H1.out.good.P.len
  rw [hcs] at h1
  omega
 clear hn0 hF0 ho1 hb1 hids hcs
 go_wp2_with fail
 go_loopw [21] (fun i wr=>∃ k:Nat,k≤cs.length∧i=.int .i64 k∧Hid (Below w1.heap.size w1 wr)∧Hid ((cs.take k).find? (pays s d)=none)) (fun i _=>cs.length - (intOf i).toNat)
 case atStart=>exact ⟨0,Nat.zero_le _,rfl,Lib.hid (Below.refl _ _),Lib.hid rfl⟩
 case round=>
  obtain ⟨k,hk,rfl,HB,HN⟩:=hrel
  have HR:=Lib.hid (H1.out.kept HB.out)
  have HBR:=Lib.hid (HB1.out.kept HB.out)
  by_cases hkl:k < cs.length
  ·obtain ⟨g,o,rfl,hg,hc2⟩:=HIDS.out k hkl
   have hc3:=kept_cell HB.out hc2
   obtain ⟨c,hc⟩:∃ c,cs[k]=c:=⟨_,rfl⟩
   rw [hc] at hc2 hc3
   have HC:=Lib.hid hc
   have hc0:=HR.out.c0
   have hl0:=HR.out.lt
   have hl1:=HR.out.ltR
   have hg2:=(cell_spot hc3).2
   clear hc hc2
   go_wp2_with fail
   obtain ⟨F2,hn2,hF2⟩:=HR.out.node
   with_reducible refine (n_deedP c _ hn2).mono ?_
   rintro e w2 ⟨a2,cp2,rfl,hl8,hlc,hi2,hf2,hb2⟩
   obtain ⟨y,hy⟩:∃ y,(Ho.deedOf s.P c).getD nod=y:=⟨_,rfl⟩
   rw [hy] at hl8 hlc hi2 hf2 ⊢
   obtain ⟨er,her⟩:∃ er:Int,(if (Ho.deedOf s.P c).isSome then (0:Int) else 5)=er:=⟨_,rfl⟩
   rw [her]
   obtain ⟨wy,hwy⟩:∃ wy,w2.alloc (.cells #[.slice a2 y.ins.length cp2,.int .i64 y.outs,.int .i64 y.weight,.int .i64 y.fee] 94)=wy:=⟨_,rfl⟩
   have hby:Below w2.heap.size w2 wy:=hwy▸kept_new _ _
   have hbY:Below w1.heap.size w1 wy:=kept_trans HB.out (kept_trans hb2 hby)
   have HBY:=Lib.hid hbY
   have HYY:Hid (DeedBox wy w2.heap.size a2 cp2 y):=Lib.hid (hwy▸box_deed w2 a2 cp2 y)
   have HIY:=Lib.hid (insAt_kept hby hi2)
   have HF2:Hid (∀ bb o,y.ins≠[]→a2=some ⟨bb,o,none⟩→w1.heap.size≤bb):=Lib.hid fun bb o h1 h2=>Nat.le_trans HB.out.size (hf2 bb o h1 h2)
   have HS2:Hid (w1.heap.size≤w2.heap.size):=Lib.hid (Nat.le_trans HB.out.size hb2.size)
   have hbd:Below wy.heap.size wy wy.drew:=(Below.refl _ _).drew
   have HED:=H1.out.kept (kept_trans hbY hbd)
   have d0:=HED.c0
   have d1:=HED.lt
   have d2:=HED.ltR
   obtain ⟨x0,x1,x2,x3⟩:=HB1.out.kept (kept_trans hbY hbd)
   obtain ⟨y0,y1,y2,y3⟩:=HYY.out.kept hbd
   have d3:=(cell_spot x0).2
   have d4:=(cell_spot y0).2
   obtain ⟨F3,hn3,hF3⟩:=HED.node
   have HN3:=Lib.hid hn3
   have HIXd:=Lib.hid (insAt_kept (kept_trans hbY hbd) HI1.out)
   have HIYd:=Lib.hid (insAt_kept hbd HIY.out)
   obtain ⟨ps,pr,hp⟩:∃ ps pr,Ju.pairL s.A d y=(ps,pr):=⟨_,_,rfl⟩
   have HP:=Lib.hid hp
   have HY:=Lib.hid hy
   clear hbd hi2 hf2 hb2 her hn2 hF2 hp hy hl8 hlc hby hbY HED hn3 hF3
   go_upto_region 5 with fail
   go_cut [10,11,21] from 21 to 68 (fun v10 v11 i wx=>v10=.int .i64 ps∧v11=.int .i64 pr∧i=.int .i64 k∧Hid (Below wy.heap.size wy wx))
   case first=>
    go_region_law (first
     | (go_simp;go_at_call 194;(with_reducible refine (n_pair d y a a2 cap cp2 _ HN3.out HIXd.out HIYd.out ps pr HP.out).mono ?_);rintro e w4 ⟨rfl,hb4⟩))
    all_goals
     go_wp2_with fail
     go_meet
     case rel=>exact ⟨rfl,rfl,rfl,Lib.hid (kept_trans ((Below.refl _ _).drew) hb4)⟩
   case rest=>
    obtain ⟨rfl,rfl,rfl,HB4⟩:=hcut
    clear d0 d1 d2 x0 x1 x2 x3 y0 y1 y2 y3 d3 d4 HN3 HIXd HIYd
    have hb14:=kept_trans HBY.out HB4.out
    have H4:=Lib.hid (H1.out.kept hb14)
    have HBX:=Lib.hid (HB1.out.kept hb14)
    have HBYY:=Lib.hid (HYY.out.kept HB4.out)
    have HI4:=Lib.hid (insAt_kept hb14 HI1.out)
    have HJ4:=Lib.hid (insAt_kept HB4.out HIY.out)
    obtain ⟨x0,x1,x2,x3⟩:=HBX.out
    obtain ⟨y0,y1,y2,y3⟩:=HBYY.out
    have d3:=(cell_spot x0).2
    have d4:=(cell_spot y0).2
    have HB14:=Lib.hid hb14
    clear hb14
    by_cases hz:ps=0∧pr=0
    ·obtain ⟨rfl,rfl⟩:=hz
     have HFI:Hid ((Ho.childL s.P x).find? (pays s d)=some c):=Lib.hid (by
      have e:=HN.out
      rw [HCS.out,← List.take_append_drop k cs,List.find?_append,e,List.drop_eq_getElem_cons hkl,HC.out,List.find?_cons]
      have:pays s d c=true:=by
       unfold pays
       rw [HY.out,HP.out]
       rfl
      rw [this]
      rfl)
     go_wp2_with fail
     with_reducible refine (accept_any x d a cap (by omega) _ H4.out HI4.out HO.out).mono ?_
     rintro e w5 ⟨rfl,G5,h5,t5⟩
     have hTG:∀ k,G k→k < w1.heap.size:=H1.out.there
     have hnb:¬ G w2.heap.size:=fun hg=>by have:=hTG _ hg;have:=HS2.out;omega
     have hny:∀ bb o,y.ins≠[]→a2=some ⟨bb,o,none⟩→¬ G bb:=fun bb o h1 h2 hg=>by have:=hTG _ hg;have:=HF2.out bb o h1 h2;omega
     have HBY5:=Lib.hid (HBYY.out.turn t5 hnb)
     have HJ5:=Lib.hid (insAt_turn HJ4.out t5 hny)
     have HNY5:Hid (∀ bb o,y.ins≠[]→a2=some ⟨bb,o,none⟩→¬ G5 bb):=Lib.hid fun bb o h1 h2 hg=>by
      rcases t5.own bb hg with hg | hg
      ·exact hny bb o h1 h2 hg
      ·obtain ⟨b',o',e',hb',_⟩:=HJ4.out 0 (List.length_pos_iff.2 h1)
       rw [h2] at e'
       cases e'
       omega
     have HA5:Hid ((s.accept x d).A.length≤5000000000000):=Lib.hid (by have:=accept_len s x d;omega)
     have H5:=Lib.hid h5
     have T5:=Lib.hid t5
     obtain ⟨y0,y1,y2,y3⟩:=HBY5.out
     have d4:=(cell_spot y0).2
     clear h5 t5 hny hnb hTG
     go_wp2_with fail
     with_reducible refine (accept_any c y a2 cp2 HA5.out _ H5.out HJ5.out HNY5.out).mono ?_
     rintro e w6 ⟨rfl,G6,h6,t6⟩
     have H6:=Lib.hid h6
     have T6:=Lib.hid (T5.out.trans t6)
     clear h6 t6
     go_wp2_with fail
     with_reducible refine (enqueue_any x (by omega) _ H6.out).mono ?_
     rintro e w7 ⟨rfl,G7,h7,t7⟩
     have H7:=Lib.hid h7
     have T7:=Lib.hid (T6.out.trans t7)
     have HQ7:Hid ((q ++ Ho.childL ((s.accept x d).accept c y).P x).length≤100000):=Lib.hid (by
      have h1:=childL_len (L:=((s.accept x d).accept c y).P) x
      have h2:=H6.out.good.P.len
      rw [List.length_append]
      omega)
     clear h7 t7
     go_wp2_with fail
     with_reducible refine (enqueue_any c HQ7.out _ H7.out).mono ?_
     rintro e w8 ⟨rfl,G8,h8,t8⟩
     have H8:=Lib.hid h8
     have T8:=Lib.hid (T7.out.trans t8)
     clear h8 t8
     go_wp2_with fail
     first | go_end0 | refine bodyPost_ret (v:=.tuple #[]) rfl rfl ?_
     rw [seek_some HFI.out,HY.out]
     refine ⟨rfl,G8,?_,(Turn.of_below (kept_trans HK1.out HB14.out)).trans T8.out⟩
     rw [← List.append_assoc]
     exact H8.out
    ·have HNN:Hid ((cs.take (k+1)).find? (pays s d)=none):=Lib.hid (by
      rw [List.take_add_one,List.find?_append,HN.out,List.getElem?_eq_getElem hkl,HC.out]
      have:pays s d c=false:=by
       unfold pays
       rw [HY.out,HP.out]
       exact decide_eq_false (fun e=>hz (by simpa using e))
      simp [this])
     by_cases hpr:pr=0
     ·subst hpr
      have hps:¬ ps=0:=fun e=>hz ⟨e,rfl⟩
      go_wp2_with fail
      go_roundw
      case rel=>exact ⟨k+1,by omega,by go_num,HB14,HNN⟩
      case measure=>simp [intOf];omega
     ·go_wp2_with fail
      go_roundw
      case rel=>exact ⟨k+1,by omega,by go_num,HB14,HNN⟩
      case measure=>simp [intOf];omega
  ·have he:cs.take k=cs:=List.take_of_length_le (by omega)
   have HFI:Hid ((Ho.childL s.P x).find? (pays s d)=none):=Lib.hid (by have:=HN.out;rw [he] at this;rw [HCS.out];exact this)
   go_wp2_with fail
   go_end0
   rw [seek_none HFI.out,List.append_nil]
   exact ⟨rfl,G,HR.out,Turn.of_below (kept_trans HK1.out HB.out)⟩
end Go.Proofs.YtlboemhbealnmaaGreat
namespace Go.Proofs.YtlboemhbealnmaaGreat
open Go.RowKit Go.Maps
variable {w w':World} {G:Nat→Prop} {X R:Nat} {s:NS} {q:List UInt64}
theorem idsAt_turn {G G':Nat→Prop} {a:Option Addr} {l:List UInt64} (h:IdsAt w a l) (ht:Turn G G' w w') (hn:∀ bb o,l≠[]→a=some ⟨bb,o,none⟩→¬ G bb):IdsAt w' a l:=fun i hi=>by
 obtain ⟨b,o,e,hb,hc⟩:=h i hi
 refine ⟨b,o,e,Nat.lt_of_lt_of_le hb ht.size,?_⟩
 exact (World.cell?_of_block (w:=w) (a:=⟨b,o+i,none⟩) (ht.block b hb (hn b o (fun e0=>by subst e0;simp at hi) e))).trans hc
def Examined (w:World) (G:Nat→Prop) (X R:Nat) (s':NS) (q' ms:List UInt64) (e:Ending) (w':World):Prop:=
 ∃ am cm,e=.returned (.slice am ms.length cm)∧∃ G',ExAt w' G' X R s' q'∧Turn G G' w w'∧IdsAt w' am ms∧∀ bb o,ms≠[]→am=some ⟨bb,o,none⟩→¬ G' bb∧w.heap.size≤bb
theorem out_turn {G G':Nat→Prop} {a:Option Addr} {l:List UInt64} {n:Nat} (h:IdsAt w a l) (ht:Turn G G' w w') (hn:∀ bb o,l≠[]→a=some ⟨bb,o,none⟩→¬ G bb∧n≤bb):IdsAt w' a l∧∀ bb o,l≠[]→a=some ⟨bb,o,none⟩→¬ G' bb∧n≤bb:=by
 refine ⟨idsAt_turn h ht (fun bb o h1 h2=>(hn bb o h1 h2).1),fun bb o h1 h2=>⟨fun hg=>?_,(hn bb o h1 h2).2⟩⟩
 rcases ht.own bb hg with hg | hg
 ·exact (hn bb o h1 h2).1 hg
 ·obtain ⟨b',o',e',hb',_⟩:=h 0 (List.length_pos_iff.2 h1)
  rw [h2] at e'
  cases e'
  omega
theorem examine_good {x:UInt64} {d:DeedD} (h:(Ju.judgeL s.A d).1=0):s.examine x d=(s.accept x d,Ho.childL (s.accept x d).P x):=by unfold NS.examine;rw [if_pos h]
theorem examine_poor {x:UInt64} {d:DeedD} (h:(Ju.judgeL s.A d).1=1):s.examine x d=(({ s with Q:=s.Q.put x }:NS).settle x).seek x d:=by unfold NS.examine;rw [if_neg (by rw [h];decide),if_pos h]
theorem examine_wicked {x:UInt64} {d:DeedD} (h:(Ju.judgeL s.A d).1=3):s.examine x d=(({ s with W:=s.W.put x }:NS).settle x,[]):=by unfold NS.examine;rw [if_neg (by rw [h];decide),if_neg (by rw [h];decide),if_pos h]
theorem examine_lost {x:UInt64} {d:DeedD} (h0:(Ju.judgeL s.A d).1≠0) (h1:(Ju.judgeL s.A d).1≠1) (h3:(Ju.judgeL s.A d).1≠3):s.examine x d=(s,[]):=by unfold NS.examine;rw [if_neg h0,if_neg h1,if_neg h3]
set_option maxRecDepth 20000 in
set_option maxHeartbeats 2000000 in
theorem examine_any (x:UInt64) (d:DeedD) (a:Option Addr) (cap:Nat) (hl:s.A.length≤4000000000000) (hq:q.length≤80000) (ms:List UInt64) (hms:(Ju.judgeL s.A d).2.1=ms) (w:World) (h:ExAt w G X R s q) (hi:InsAt w a d.ins) (hout:∀ bb o,d.ins≠[]→a=some ⟨bb,o,none⟩→¬ G bb) :
  Calls Tryz.prog 102 #[.pointer (some ⟨X,0,none⟩),.int .u64 x.toNat,.agg #[.slice a d.ins.length cap,.int .i64 d.outs,.int .i64 d.weight,.int .i64 d.fee]] w (Examined w G X R (s.examine x d).1 (q ++ (s.examine x d).2) ms):=by
 obtain ⟨wb,hwb⟩:∃ wb,w.alloc (.cells #[.slice a d.ins.length cap,.int .i64 d.outs,.int .i64 d.weight,.int .i64 d.fee] 94)=wb:=⟨_,rfl⟩
 have hk0:Below w.heap.size w wb:=hwb▸kept_new _ _
 have hbox:DeedBox wb w.heap.size a cap d:=hwb▸box_deed w a cap d
 have hbd:Below wb.heap.size wb wb.drew:=(Below.refl _ _).drew
 have hd:=h.kept (kept_trans hk0 hbd)
 have c0:=hd.c0
 have l0:=hd.lt
 have l1:=hd.ltR
 obtain ⟨b0,b1,b2,b3⟩:=hbox.kept hbd
 have l2:=(cell_spot b0).2
 obtain ⟨F0,hn0,hF0⟩:=hd.node
 have HN0:=Lib.hid hn0
 have HI0:=Lib.hid (insAt_kept (kept_trans hk0 hbd) hi)
 have HIN:=Lib.hid hi
 have HO:=Lib.hid hout
 have HBOX:=Lib.hid hbox
 have HK0:=Lib.hid hk0
 have HE:=Lib.hid h
 obtain ⟨k,m,r,hj⟩:∃ k m r,Ju.judgeL s.A d=(k,m,r):=⟨_,_,_,rfl⟩
 obtain rfl:m=ms:=by rw [← hms,hj]
 have HJ:=Lib.hid hj
 have HTH:Hid (There w G):=Lib.hid h.there
 have HL9:Hid ((({ s with Q:=s.Q.put x }:NS).settle x).A.length≤4000000000000):=Lib.hid hl
 have HQ9:Hid (q.length≤90000):=Lib.hid (by omega)
 clear h hd hn0 hF0 hi hout hbox hk0 hbd hj hms
 go_enter Tryz.func102,Tryz.ntmps102
 go_upto_region 1 with fail
 go_cut [7,8,9] from 10 to 64 (fun v7 v8 _ wx=>∃ am cm,v7=.int .i64 k∧v8=.slice am m.length cm∧Hid (IdsAt wx am m)∧Hid (∀ bb o,m≠[]→am=some ⟨bb,o,none⟩→w.heap.size≤bb)∧Hid (Below wb.heap.size wb wx))
 case first=>
  go_region_law (first
   | (go_simp;go_at_call 162;(with_reducible refine (n_judge d a cap _ HN0.out HI0.out _ HJ.out).mono ?_);rintro e w4 ⟨am,cm,rfl,ho4,hb4⟩;have HO4:=Lib.hid ho4;have HB4:=Lib.hid hb4;clear ho4 hb4))
  all_goals
   go_wp2_with fail
   go_meet
   case rel=>
    obtain ⟨a',c',e',_,hids,hfr⟩:=owns_idsAt HO4.out
    simp only [Value.slice.injEq,true_and] at e'
    obtain ⟨rfl,rfl⟩:=e'
    have hs:w.heap.size≤wb.drew.heap.size:=HK0.out.size
    exact ⟨_,_,rfl,rfl,Lib.hid hids,Lib.hid (fun bb o _ h2=>Nat.le_trans hs (hfr bb o none h2)),Lib.hid (kept_trans ((Below.refl _ _).drew) HB4.out)⟩
 case rest=>
  obtain ⟨am,cm,rfl,rfl,HIDS,HFR,HB4⟩:=hcut
  clear c0 l0 l1 b0 b1 b2 b3 l2 HN0 HI0
  have hb4:=kept_trans HK0.out HB4.out
  have H4:=Lib.hid (HE.out.kept hb4)
  have HB5:=Lib.hid hb4
  have HI4:=Lib.hid (insAt_kept hb4 HIN.out)
  have HOUT:Hid (∀ bb o,m≠[]→am=some ⟨bb,o,none⟩→¬ G bb∧w.heap.size≤bb):=Lib.hid fun bb o h1 h2=>⟨fun hg=>by have:=HTH.out bb hg;have:=HFR.out bb o h1 h2;omega,HFR.out bb o h1 h2⟩
  have HBX:=Lib.hid (HBOX.out.kept HB4.out)
  obtain ⟨b0,b1,b2,b3⟩:=HBX.out
  have l2:=(cell_spot b0).2
  have c0:=H4.out.c0
  have l0:=H4.out.lt
  have l1:=H4.out.ltR
  clear hb4
  by_cases h0:k=0
  ·subst h0
   have hg:(Ju.judgeL s.A d).1=0:=by rw [HJ.out]
   have HX:=Lib.hid (examine_good (x:=x) hg)
   clear hg
   go_wp2_with fail
   with_reducible refine (accept_any x d a cap (by omega) _ H4.out HI4.out HO.out).mono ?_
   rintro e w5 ⟨rfl,G5,h5,t5⟩
   have H5:=Lib.hid h5
   obtain ⟨hi5,ho5⟩:=out_turn HIDS.out t5 HOUT.out
   have HI5:=Lib.hid hi5
   have HO5:=Lib.hid ho5
   have T5:=Lib.hid ((Turn.of_below HB5.out).trans t5)
   clear h5 t5 hi5 ho5
   go_wp2_with fail
   with_reducible refine (enqueue_any x (by omega) _ H5.out).mono ?_
   rintro e w6 ⟨rfl,G6,h6,t6⟩
   have H6:=Lib.hid h6
   obtain ⟨hi6,ho6⟩:=out_turn HI5.out t6 HO5.out
   have HI6:=Lib.hid hi6
   have HO6:=Lib.hid ho6
   have T6:=Lib.hid (T5.out.trans t6)
   clear h6 t6 hi6 ho6
   go_wp2_with fail
   go_ret
   rw [HX.out]
   exact ⟨am,cm,rfl,G6,H6.out,T6.out,HI6.out,HO6.out⟩
  ·by_cases h1:k=1
   ·subst h1
    have hg:(Ju.judgeL s.A d).1=1:=by rw [HJ.out]
    have HX:=Lib.hid (examine_poor (x:=x) hg)
    clear hg h0
    obtain ⟨ra,rz,hra,hrz⟩:=H4.out.rings
    have HRZ:=Lib.hid hrz
    have l3:=(cell_spot hrz).2
    go_wp2_with fail
    with_reducible refine (H4.out.calls fun F hn _=>n_putQ x _ hn HRZ.out).mono ?_
    rintro e w5 ⟨rfl,G5,h5,t5⟩
    have H5:=Lib.hid h5
    obtain ⟨hi5,ho5⟩:=out_turn HIDS.out t5 HOUT.out
    have HI5:=Lib.hid hi5
    have HO5:=Lib.hid ho5
    have HT5:=Lib.hid t5
    have T5:=Lib.hid ((Turn.of_below HB5.out).trans t5)
    clear h5 t5 hi5 ho5
    go_wp2_with fail
    with_reducible refine (settle_any x _ H5.out).mono ?_
    rintro e w6 ⟨rfl,G6,h6,t6⟩
    have H6:=Lib.hid h6
    obtain ⟨hi6,ho6⟩:=out_turn HI5.out t6 HO5.out
    have HI6:=Lib.hid hi6
    have HO6:=Lib.hid ho6
    have T6:=Lib.hid (T5.out.trans t6)
    have hnb:¬ G w.heap.size:=fun hg=>by have:=HTH.out _ hg;omega
    have t46:=HT5.out.trans t6
    have HBX6:=Lib.hid (HBX.out.turn t46 hnb)
    have HJ6:=Lib.hid (insAt_turn HI4.out t46 HO.out)
    have HNI:Hid (∀ bb o,d.ins≠[]→a=some ⟨bb,o,none⟩→¬ G6 bb):=Lib.hid fun bb o h1 h2 hg=>by
     rcases t46.own bb hg with hg | hg
     ·exact HO.out bb o h1 h2 hg
     ·obtain ⟨b',o',e',hb',_⟩:=HI4.out 0 (List.length_pos_iff.2 h1)
      rw [h2] at e'
      cases e'
      omega
    obtain ⟨b0,b1,b2,b3⟩:=HBX6.out
    have l2:=(cell_spot b0).2
    clear h6 t6 hi6 ho6 t46 hnb hra hrz l3
    go_wp2_with fail
    with_reducible refine (seek_any x d a cap HL9.out HQ9.out _ H6.out HJ6.out HNI.out).mono ?_
    rintro e w7 ⟨rfl,G7,h7,t7⟩
    have H7:=Lib.hid h7
    obtain ⟨hi7,ho7⟩:=out_turn HI6.out t7 HO6.out
    have HI7:=Lib.hid hi7
    have HO7:=Lib.hid ho7
    have T7:=Lib.hid (T6.out.trans t7)
    clear h7 t7 hi7 ho7
    go_wp2_with fail
    go_ret
    rw [HX.out]
    exact ⟨am,cm,rfl,G7,H7.out,T7.out,HI7.out,HO7.out⟩
   ·by_cases h3:k=3
    ·subst h3
     have hg:(Ju.judgeL s.A d).1=3:=by rw [HJ.out]
     have HX:=Lib.hid (examine_wicked (x:=x) hg)
     clear hg h0 h1
     obtain ⟨ra,rz,hra,hrz⟩:=H4.out.rings
     have HRA:=Lib.hid hra
     have l3:=(cell_spot hra).2
     go_wp2_with fail
     with_reducible refine (H4.out.calls fun F hn _=>n_putW x _ hn HRA.out).mono ?_
     rintro e w5 ⟨rfl,G5,h5,t5⟩
     have H5:=Lib.hid h5
     obtain ⟨hi5,ho5⟩:=out_turn HIDS.out t5 HOUT.out
     have HI5:=Lib.hid hi5
     have HO5:=Lib.hid ho5
     have T5:=Lib.hid ((Turn.of_below HB5.out).trans t5)
     clear h5 t5 hi5 ho5
     go_wp2_with fail
     with_reducible refine (settle_any x _ H5.out).mono ?_
     rintro e w6 ⟨rfl,G6,h6,t6⟩
     have H6:=Lib.hid h6
     obtain ⟨hi6,ho6⟩:=out_turn HI5.out t6 HO5.out
     have HI6:=Lib.hid hi6
     have HO6:=Lib.hid ho6
     have T6:=Lib.hid (T5.out.trans t6)
     clear h6 t6 hi6 ho6
     go_wp2_with fail
     go_ret
     rw [HX.out,List.append_nil]
     exact ⟨am,cm,rfl,G6,H6.out,T6.out,HI6.out,HO6.out⟩
    ·have e:s.examine x d=(s,[]):=examine_lost (by rw [HJ.out];exact h0) (by rw [HJ.out];exact h1) (by rw [HJ.out];exact h3)
     have HX:=Lib.hid e
     clear e
     go_wp2_with fail
     go_ret
     rw [HX.out,List.append_nil]
     exact ⟨am,cm,rfl,G,H4.out,Turn.of_below HB5.out,HIDS.out,HOUT.out⟩
end Go.Proofs.YtlboemhbealnmaaGreat
namespace Go.Proofs.YtlboemhbealnmaaGreat
open Go.RowKit Go.Maps
variable {w w':World} {G:Nat→Prop} {X R:Nat} {s:NS} {q:List UInt64}
theorem child_some {L:List Ho.LinkD} {x c:UInt64} (h:c ∈ Ho.childL L x):∃ d,Ho.deedOf L c=some d:=
 Option.isSome_iff_exists.1 ((Ho.allL_some c).2 (List.mem_filter.1 h).1)
theorem remove_remove (L:List Ho.LinkD) (x:UInt64):Ho.removeL (Ho.removeL L x) x=Ho.removeL L x:=by
 unfold Ho.removeL
 rw [List.filter_filter]
 simp
theorem acceptL_len (L:List DeedD) (d:DeedD):(Ju.acceptL L d).2.length≤L.length+1:=by
 unfold Ju.acceptL
 split
 ·simp
 ·split
  ·simp
  ·split
   ·simp
   ·simp
theorem payer_some {x c:UInt64} {d:DeedD} (h:s.payer x d=some c):∃ y,Ho.deedOf s.P c=some y:=child_some (List.mem_of_find?_eq_some h)
theorem seek_sum (s:NS) (x:UInt64) (d:DeedD) (hx:Ho.removeL s.P x=s.P):(s.seek x d).1.A.length+(s.seek x d).1.P.length≤s.A.length+s.P.length+1:=by
 unfold NS.seek
 cases hp:s.payer x d with
 | none=>simp
 | some c=>
  obtain ⟨y,hy⟩:=payer_some hp
  have h1:=acceptL_len s.A d
  have h2:=acceptL_len (Ju.acceptL s.A d).2 ((Ho.deedOf s.P c).getD nod)
  have h3:(Ho.removeL (Ho.removeL s.P x) c).length < s.P.length:=by rw [hx];exact remove_len hy
  show (Ju.acceptL (Ju.acceptL s.A d).2 ((Ho.deedOf s.P c).getD nod)).2.length+(Ho.removeL (Ho.removeL s.P x) c).length≤_
  omega
theorem examine_sum (s:NS) (x:UInt64) (d:DeedD):(s.examine x d).1.A.length+(s.examine x d).1.P.length≤s.A.length+s.P.length+1:=by
 unfold NS.examine
 split
 ·have h1:=acceptL_len s.A d
  have h2:=remove_le s.P x
  show (Ju.acceptL s.A d).2.length+(Ho.removeL s.P x).length≤_
  omega
 ·split
  ·have h1:=seek_sum (({ s with Q:=s.Q.put x }:NS).settle x) x d (remove_remove _ _)
   have h2:=remove_le s.P x
   refine Nat.le_trans h1 ?_
   show s.A.length+(Ho.removeL s.P x).length+1≤_
   omega
  ·split
   ·have h2:=remove_le s.P x
    show s.A.length+(Ho.removeL s.P x).length≤_
    omega
   ·simp
theorem examine_sum' (s:NS) (x:UInt64) (d d':DeedD) (h:Ho.deedOf s.P x=some d'):(s.examine x d).1.A.length+(s.examine x d).1.P.length≤s.A.length+s.P.length:=by
 have h2:=remove_len h
 unfold NS.examine
 split
 ·have h1:=acceptL_len s.A d
  show (Ju.acceptL s.A d).2.length+(Ho.removeL s.P x).length≤_
  omega
 ·split
  ·have h1:=seek_sum (({ s with Q:=s.Q.put x }:NS).settle x) x d (remove_remove _ _)
   refine Nat.le_trans h1 ?_
   show s.A.length+(Ho.removeL s.P x).length+1≤_
   omega
  ·split
   ·show s.A.length+(Ho.removeL s.P x).length≤_
    omega
   ·simp
theorem seek_new (s:NS) (x:UInt64) (d:DeedD):(s.seek x d).2.length≤2 * (s.seek x d).1.P.length:=by
 unfold NS.seek
 cases hp:s.payer x d with
 | none=>simp
 | some c=>
  simp only [List.length_append]
  have h1:=childL_len (L:=((s.accept x d).accept c ((Ho.deedOf s.P c).getD nod)).P) x
  have h2:=childL_len (L:=((s.accept x d).accept c ((Ho.deedOf s.P c).getD nod)).P) c
  omega
theorem examine_new (s:NS) (x:UInt64) (d:DeedD):(s.examine x d).2.length≤2 * (s.examine x d).1.P.length:=by
 unfold NS.examine
 split
 ·have h1:=childL_len (L:=(s.accept x d).P) x
  simp only
  omega
 ·split
  ·exact seek_new _ _ _
  ·split
   ·simp
   ·simp
theorem mu_step (s:NS) (x:UInt64) (d d':DeedD) (r:List UInt64) (h:Ho.deedOf s.P x=some d') (hl:s.P.length≤24):49 * (s.examine x d).1.P.length+(r ++ (s.examine x d).2).length < 49 * s.P.length+(r.length+1):=by
 have h1:=examine_new s x d
 rw [List.length_append]
 rcases examine_step s x d d' h with h2 | h2
 ·omega
 ·rw [h2]
  simp
def qlen (w:World) (X:Nat):Nat:=match w.cell? ⟨X,1,none⟩ with | some (.slice _ n _)=>n | _=>0
def muAt (w:World) (X R:Nat):Nat:=49 * Ho.lenAt w ⟨R,fun _=>.bool false⟩+qlen w X
theorem ExAt.mu (h:ExAt w G X R s q):muAt w X R=49 * s.P.length+q.length:=by
 obtain ⟨F,v,h⟩:=h
 obtain ⟨a,cap,rfl,_,_⟩:=h.queue.form
 have h1:qlen w X=q.length:=by
  unfold qlen
  rw [show w.cell? ⟨X,1,none⟩=some (.slice a q.length cap) from head_cell h.head 1]
 obtain ⟨cs,FT,FH,FJ,FW,FQ,_,_,hn⟩:=h.node
 have h2:=hn.P.2.lenAt
 unfold muAt
 rw [h1,← h2]
 rfl
set_option maxRecDepth 20000 in
set_option maxHeartbeats 2000000 in
theorem follow_any (hl:s.A.length+s.P.length≤3000000000000) (hq:q.length≤1000) (w:World) (h:ExAt w G X R s q) :
  Calls Tryz.prog 104 #[.pointer (some ⟨X,0,none⟩)] w fun e w'=>e=.returned (.tuple #[])∧∃ G',ExAt w' G' X R (s.follow q) []∧Turn G G' w w':=by
 have HE:=Lib.hid h
 have HL:=Lib.hid hl
 have HM:Hid (49 * s.P.length+q.length≤3000):=Lib.hid (by have:=h.good.P.len;omega)
 clear h hl
 go_enter Tryz.func104,Tryz.ntmps104
 go_wp2_with fail
 go_loopw [2,3,4] (fun _ _ _ wr=>∃ (G':Nat→Prop) (s':NS) (q':List UInt64),Hid (ExAt wr G' X R s' q')∧Hid (Turn G G' w wr)∧Hid (s'.follow q'=s.follow q)∧Hid (s'.A.length+s'.P.length≤3000000000000)∧Hid (49 * s'.P.length+q'.length≤3000)) (fun _ _ _ wr=>muAt wr X R)
 case atStart=>exact ⟨G,s,q,HE,Lib.hid (Turn.refl _ _),Lib.hid rfl,HL,HM⟩
 case round=>
  obtain ⟨G1,s1,q1,H1,T1,HF,HA,HQ⟩:=hrel
  obtain ⟨F1,v1,h1⟩:=H1.out
  have HX:=Lib.hid h1
  have c0:=H1.out.c0
  have l0:=H1.out.lt
  have l1:=H1.out.ltR
  cases q1 with
  | nil=>
   obtain ⟨a,cap,rfl,_,_⟩:=h1.queue.form
   have c1:wr.cell? ⟨X,1,none⟩=some (.slice a 0 cap):=head_cell h1.head 1
   clear h1
   go_wp2_with fail
   go_end0
   refine ⟨rfl,G1,?_,T1.out⟩
   rw [← HF.out,follow_nil]
   exact H1.out
  | cons x r=>
   obtain ⟨a,cap,rfl,hcap,hx,⟨g,o,rfl,hg⟩,hcut,hown⟩:=h1.queue.cut
   have c1:wr.cell? ⟨X,1,none⟩=some (.slice (some ⟨g,o,none⟩) (r.length+1) cap):=head_cell h1.head 1
   have f1:=frozen_of_row wr X 1 _ _ h1.head
   have hx:wr.cell? ⟨g,o,none⟩=some (.int .u64 x.toNat):=hx
   have HC:=Lib.hid hcut
   have HOW:=Lib.hid hown
   clear hcut hown h1
   have l2:g < wr.heap.size:=hg
   go_upto_region 2 with fail
   go_cut [2] from 5 to 41 (fun v2 wx=>v2=.int .u64 x.toNat∧∃ G2:Nat→Prop,Hid (ExAt wx G2 X R s1 r)∧Hid (Turn G G2 w wx))
   case first=>
    by_cases hc1:cap=1
    ·subst hc1
     have hr:r.length=0:=by omega
     obtain ⟨_,G2,h2,t2⟩:=HX.out.stored HC.out ⟨rfl,rfl,rfl,Nat.le_refl _,fun _ _ _=>rfl,fun k hk=>.inl (by rw [← HOW.out];exact hk)⟩
     have H2:=Lib.hid h2
     have T2:=Lib.hid (T1.out.trans t2)
     clear h2 t2
     go_wp2_with fail
     go_meet
     case rel=>exact ⟨rfl,G2,Lib.hid (by simpa [hr] using H2.out),Lib.hid (by simpa [hr] using T2.out)⟩
    ·obtain ⟨_,G2,h2,t2⟩:=HX.out.stored HC.out ⟨rfl,rfl,rfl,Nat.le_refl _,fun _ _ _=>rfl,fun k hk=>.inl (by rw [← HOW.out];exact hk)⟩
     have hadd:(⟨g,o,none⟩:Addr).add 1=⟨g,o+1,none⟩:=by unfold Addr.add;split <;> simp_all
     rw [if_neg hc1,Option.map_some,hadd] at h2 t2
     have H2:=Lib.hid h2
     have T2:=Lib.hid (T1.out.trans t2)
     clear h2 t2 hadd
     go_wp2_with fail
     go_meet
     case rel=>exact ⟨rfl,G2,Lib.hid (by simpa using H2.out),Lib.hid (by simpa using T2.out)⟩
   case rest=>
    obtain ⟨rfl,G2,H2,T2⟩:=hcut
    clear HX HC HOW c0 c1 f1 hx l0 l1 l2 hg hcap
    have c0:=H2.out.c0
    have l0:=H2.out.lt
    have l1:=H2.out.ltR
    go_wp2_with fail
    obtain ⟨F2,hn2,hF2⟩:=H2.out.node
    with_reducible refine (n_deedP x _ hn2).mono ?_
    rintro e w3 ⟨a3,cp3,rfl,hl8,hlc,hi3,hf3,hb3⟩
    clear hn2 hF2 hl8 hlc
    cases hd:Ho.deedOf s1.P x with
    | none=>
     rw [hd] at hi3 hf3
     have HD:=Lib.hid hd
     clear hd
     have HB3:=Lib.hid hb3
     simp only [Option.isSome_none,Bool.false_eq_true,if_false]
     go_wp2_with fail
     go_roundw
     case rel=>
      refine ⟨G2,s1,r,Lib.hid (H2.out.kept (kept_trans HB3.out (kept_new _ _))),Lib.hid (T2.out.trans (Turn.of_below (kept_trans HB3.out (kept_new _ _)))),Lib.hid ?_,HA,Lib.hid ?_⟩
      ·rw [← HF.out,follow_none _ _ _ HD.out]
      ·have:=HQ.out
       simp only [List.length_cons] at this
       omega
     case measure=>
      rw [(H2.out.kept (kept_trans HB3.out (kept_new _ _))).mu,H1.out.mu]
      simp
    | some y=>
     rw [hd] at hi3 hf3
     simp only [Option.getD_some,Option.isSome_some,if_true] at hi3 hf3 ⊢
     have HD:=Lib.hid hd
     obtain ⟨wy,hwy⟩:∃ wy,w3.alloc (.cells #[.slice a3 y.ins.length cp3,.int .i64 y.outs,.int .i64 y.weight,.int .i64 y.fee] 94)=wy:=⟨_,rfl⟩
     have hby:Below w3.heap.size w3 wy:=hwy▸kept_new _ _
     obtain ⟨y0,y1,y2,y3⟩:DeedBox wy w3.heap.size a3 cp3 y:=hwy▸box_deed w3 a3 cp3 y
     have HI:=Lib.hid (insAt_kept hby hi3)
     have H3:=Lib.hid (H2.out.kept (kept_trans hb3 hby))
     have HT:=Lib.hid (T2.out.trans (Turn.of_below (kept_trans hb3 hby)))
     have hth:=H2.out.there
     have HO:Hid (∀ bb o,y.ins≠[]→a3=some ⟨bb,o,none⟩→¬ G2 bb):=Lib.hid fun bb o h1 h2 hg=>by have:=hth bb hg;have:=hf3 bb o h1 h2;omega
     have hA:s1.A.length≤4000000000000:=by have:=HA.out;omega
     have hQ:r.length≤80000:=by have:=HQ.out;simp only [List.length_cons] at this;omega
     have l2:=(cell_spot y0).2
     clear hd hi3 hf3 hb3 hby hth
     go_wp2_with fail
     with_reducible refine (examine_any x y a3 cp3 hA hQ _ rfl _ H3.out HI.out HO.out).mono ?_
     rintro e w4 ⟨am,cm,rfl,G4,h4,t4,_,_⟩
     have H4:=Lib.hid h4
     have T4:=Lib.hid (HT.out.trans t4)
     clear h4 t4
     go_wp2_with fail
     go_roundw
     case rel=>
      refine ⟨G4,(s1.examine x y).1,r ++ (s1.examine x y).2,H4,T4,Lib.hid ?_,Lib.hid ?_,Lib.hid ?_⟩
      ·rw [← HF.out,follow_some _ _ _ _ HD.out]
      ·exact Nat.le_trans (examine_sum' s1 x y y HD.out) HA.out
      ·have h1:=HQ.out
       have h2:=mu_step s1 x y y r HD.out H3.out.good.P.len
       simp only [List.length_cons] at h1
       omega
     case measure=>
      rw [H4.out.mu,H1.out.mu]
      have h2:=mu_step s1 x y y r HD.out H3.out.good.P.len
      simp only [List.length_cons]
      omega
end Go.Proofs.YtlboemhbealnmaaGreat
