import Derived.Test.YtlboemhbealnmaaGreatP15
import Derived.Test.YtlboemhbealnmaaGreatP13
import Derived.Test.YtlboemhbealnmaaGreatP1
import Derived.Maps.OwnOps
import Derived.Maps.OwnSet
import Derived.Maps.RangeWalk
import Derived.BigQuiet
import Derived.Shelf.SlMaps.Clone
set_option maxRecDepth 20000
namespace Go.Proofs.YtlboemhbealnmaaGreat.Ho
open Go.RowKit Go.Maps
variable {w w':World} {F:Nat→Prop} {R:Loc} {L:List LinkD}
theorem HomeL.kept (h:HomeL w F R L) (hb:Below w.heap.size w w'):HomeL w' F R L:=by
 obtain ⟨b,ev,v,h⟩:=h
 exact ⟨b,ev,v,h.kept hb⟩
theorem homeL_full (w:World) (h:HomeL w F R L) {n:Nat} (hn:n≤1000) (hg:GoodL n L) (r:Bool) (hr:fullL L=r) :
  Calls Tryz.prog 197 #[.pointer (some ⟨R.b,27,none⟩)] w fun e w'=>e=.returned (.bool r)∧Below w.heap.size w w':=by
 obtain ⟨b,ev,v,h⟩:=h
 subst hr
 have hl:L.length≤1000:=Nat.le_trans hg.len hn
 exact isFull_any (allL L) (allL_nodup L) allL_some (Nat.le_trans (allL_len L) hl) w h (by rw [lsOf_len];exact hl) (fun l hl=>by obtain ⟨m,hm,rfl⟩:=List.mem_map.1 hl;exact hg.peer m hm)
theorem homeL_worst (w:World) (h:HomeL w F R L) {n:Nat} (hn:n≤1000) (hg:GoodL n L) :
  Calls Tryz.prog 199 #[.pointer (some ⟨R.b,27,none⟩)] w fun e w'=>e=.returned (.int .i64 (worstL L))∧Below w.heap.size w w':=by
 obtain ⟨b,ev,v,h⟩:=h
 have hl:L.length≤1000:=Nat.le_trans hg.len hn
 refine (worst_any w h (by rw [lsOf_len];exact hl) (fun l hl=>by obtain ⟨m,hm,rfl⟩:=List.mem_map.1 hl;exact hg.peer m hm)).mono ?_
 rintro e w' ⟨rfl,hb⟩
 rw [usageL_eq hg]
 exact ⟨rfl,hb⟩
theorem homeL_evict (w:World) (h:HomeL w F R L) {n:Nat} (hn:n≤1000) (hg:GoodL n L) (hf:fullL L=true) :
  Calls Tryz.prog 198 #[.pointer (some ⟨R.b,27,none⟩),.int .i64 (worstL L)] w fun e w'=>e=.returned (.tuple #[])∧∃ F',HomeL w' F' R (evictL L)∧Turn F F' w w':=by
 obtain ⟨b,ev,v,h⟩:=h
 have hl:L.length≤1000:=Nat.le_trans hg.len hn
 obtain ⟨m,hm,e⟩:=worst_has hg hf
 obtain ⟨i,hi⟩:∃ i,(lsOf L).findIdx? (fun l=>l.peer == worstL L)=some i:=by
  cases hx:(lsOf L).findIdx? (fun l=>l.peer == worstL L) with
  | some i=>exact ⟨i,rfl⟩
  | none=>
   have:=List.findIdx?_eq_none_iff.1 hx (ldOf m) (List.mem_map_of_mem hm)
   simp [ldOf,e] at this
 have hil:=(List.findIdx?_eq_some_iff_getElem.1 hi).1
 refine (removeOldest_any (worstL L) i hil hi w h (by rw [lsOf_len];exact hl)).mono ?_
 rintro e w' ⟨rfl,F',ev',v',h1,h2⟩
 rw [filter_first _ _ _ hil hg.nodup hi,lsOf_eraseP] at h1
 refine ⟨rfl,F',⟨b,ev',v',?_⟩,h2⟩
 have:=deedOf_sub hg (evict_sub L)
 rw [← this]
 exact h1
theorem homeL_new {b:Nat} {ev:UInt64→Option Value} {v:Value} {p:Nat} {x:UInt64} {d:DeedD} {M:UInt64→Option DeedD} (h:HomeAt w F R none (lsOf L ++ [⟨p,x⟩]) M b ev v) (hM:∀ y,M y=deedOf (newL L p x d) y):HomeL w F R (newL L p x d):=
 ⟨b,ev,v,by
  have e:lsOf (newL L p x d)=lsOf L ++ [⟨p,x⟩]:=by simp [newL,lsOf,ldOf]
  rw [e]
  exact h.as hM⟩
set_option maxRecDepth 20000 in
set_option maxHeartbeats 2000000 in
theorem add_new (p:Nat) (hp:p < 8) (x:UInt64) (d:DeedD) (hd:checkD d=0) (ht:¬ ∃ l ∈ L,l.peer=p∧l.id=x) (a:Option Addr) (cap:Nat) (w:World) (hi:InsAt w a d.ins) (hout:∀ bb o,d.ins≠[]→a=some ⟨bb,o,none⟩→¬ F bb) (h:HomeL w F R L) (hg:GoodL 24 L) :
  Calls Tryz.prog 168 #[.pointer (some ⟨R.b,27,none⟩),.int .i64 p,.int .u64 x.toNat,.agg #[.slice a d.ins.length cap,.int .i64 d.outs,.int .i64 d.weight,.int .i64 d.fee]] w fun e w'=>e=.returned (.tuple #[.bool (deedOf (room (newL L p x d)) x).isSome,.int .i64 0])∧∃ F',HomeL w' F' R (room (newL L p x d))∧Turn F F' w w':=by
 obtain ⟨b,ev,v,h⟩:=h
 have hk:=kept_new w (.cells #[.slice a d.ins.length cap,.int .i64 d.outs,.int .i64 d.weight,.int .i64 d.fee] 94)
 have HI:=Lib.hid (insAt_kept hk hi)
 have HD:=Lib.hid hd
 have HK:=Lib.hid hk
 have H:=Lib.hid (h.kept hk)
 have HBX:Hid (BoxIs w.heap.size a cap d (w.alloc (.cells #[.slice a d.ins.length cap,.int .i64 d.outs,.int .i64 d.weight,.int .i64 d.fee] 94))):=Lib.hid (heap_alloc_new _ _)
 have HNB:Hid (∀ g,F g→g < w.heap.size):=Lib.hid h.there
 have HG:=Lib.hid hg
 have HG1:=Lib.hid (newL_good hg hp hd ht)
 have HOUT:=Lib.hid hout
 have hl24:(lsOf L).length≤24:=by rw [lsOf_len];exact hg.len
 have HT:Hid ((lsOf L).any (fun y=>decide ((⟨p,x⟩:LD)=y))=false):=Lib.hid (by
  rw [List.any_eq_false]
  intro y hy
  obtain ⟨l,hl,rfl⟩:=List.mem_map.1 hy
  simp only [ldOf,decide_eq_true_eq,LD.mk.injEq,not_and]
  intro e1 e2
  exact ht ⟨l,hl,e1.symm,e2.symm⟩)
 obtain ⟨iE,hiE,hz0,hz1,hz2⟩:=info_parts info_link
 clear hi hd hk h hg ht hout
 go_enter Tryz.func168,Tryz.ntmps168
 go_wp2_with fail
 with_reducible refine (isPeer_yes p p rfl hp _).mono ?_
 rintro e w1 ⟨rfl,rfl⟩
 go_wp2_with fail
 with_reducible refine (check_is d a cap _ 0 HI.out HD.out).mono ?_
 rintro e w1 ⟨rfl,hb1⟩
 obtain ⟨wd,hwd⟩:∃ wd,(w1.alloc (.cells #[.int .i64 p,.int .u64 x.toNat] 136)).drew=wd:=⟨_,rfl⟩
 have hbd:Below w1.heap.size w1 wd:=hwd▸(kept_new _ _).drew
 have HH:=H.out.kept (kept_trans hb1 hbd)
 obtain ⟨la,lcap,rfl,_,hat⟩:=HH.linkForm
 have hlc:=HH.linkc.1
 have hlt:=HH.lt
 have d0:wd.cell? ⟨w1.heap.size,0,none⟩=some (.int .i64 p):=by rw [← hwd];show (w1.alloc _).cell? _=_;simp [go_sem]
 have d1:wd.cell? ⟨w1.heap.size,1,none⟩=some (.int .u64 x.toNat):=by rw [← hwd];show (w1.alloc _).cell? _=_;simp [go_sem]
 have hs1:=(cell_spot d0).2
 have HWD:=Lib.hid hwd
 have HAT:=Lib.hid hat
 have HB:=Lib.hid (kept_trans HK.out (kept_trans hb1 hbd))
 have HBX1:=Lib.hid (boxIs_kept HBX.out (kept_trans hb1 hbd))
 have HI1:=Lib.hid (insAt_kept (kept_trans hb1 hbd) HI.out)
 have HHD:=Lib.hid HH
 clear hwd hat HH hbd hb1
 go_wp2_with fail
 refine region_tail 5 (by kernel_rfl) (by kernel_rfl) HWD.out ?_
 simp only [List.take_succ_cons,List.take_zero,List.drop_succ_cons,List.drop_zero]
 repeat still_step
 refine wpStill_nil ?_
 go_wp2_with fail
 with_reducible refine (linkHas_any ⟨p,x⟩ (lsOf L) la lcap _ (by omega) HAT.out).mono ?_
 rintro e w2 ⟨rfl,hb2⟩
 rw [HT.out]
 have HH2:=HHD.out.kept hb2
 have hlc2:=HH2.linkc.1
 have hlt2:=HH2.lt
 have d20:=kept_cell hb2 d0
 have d21:=kept_cell hb2 d1
 have hs2:=(cell_spot d20).2
 have HDD:=Lib.hid (HH2.kept (w':=w2.drew) ((Below.refl _ _).drew))
 have HO2:Hid (OwnLinks w2.drew (.slice la (lsOf L).length lcap) (lsOf L)):=Lib.hid HDD.out.links
 have HBX2:=Lib.hid (boxIs_kept HBX1.out (kept_trans hb2 ((Below.refl _ _).drew)))
 have HI2:=Lib.hid (insAt_kept (kept_trans hb2 ((Below.refl _ _).drew)) HI1.out)
 have HB2:=Lib.hid (kept_trans HB.out (kept_trans hb2 ((Below.refl _ _).drew)))
 have hone:∀ u ∈ linkC ⟨p,x⟩,u.oneCell'=true:=by simp [linkC,Value.oneCell']
 clear HH2 hb2 hlc hlt d0 d1 hs1
 go_upto_region 9 with fail
 go_cut [] from 29 to 38 (fun wx=>∃ F4:Nat→Prop,Hid (∃ v4,HomeAt wx F4 R none (lsOf L ++ [⟨p,x⟩]) (deedOf L) b ev v4)∧Hid (Turn F F4 w wx)∧Hid (BoxIs w.heap.size a cap d wx)∧Hid (InsAt wx a d.ins))
 case first=>
  go_region_law (first
   | (refine step_append_lies _ (by rfl) _ _ _ (by rfl) 0 136 iE _ 2 16 Tryz.underlying73 hiE hz0 hz1 hz2 rfl (by omega) (.slice la (lsOf L).length lcap) (lsOf L).length _ (by rfl) (HO2.out.alloc _) ⟨w2.drew.heap.size,0,none⟩ 1 1 (linkC ⟨p,x⟩) (by rfl) (by rfl) (cells_new w2.drew _ _) hone (by omega) (by unfold maxLen;omega) (by omega) (by omega) _ rfl ?_;intro g5 cap5 w5 hown5 hgrow5 hat5 hlt5;obtain ⟨⟨l0,l1,l2⟩,F6,t6,u6⟩:=HDD.out.appended (x:=⟨p,x⟩) hgrow5 hown5 (hat5.imp id (fun e=>e.trans (by simp)));have T6:=Lib.hid t6;have U6:=Lib.hid u6;clear t6 u6 hown5 hgrow5 hat5 hlt5))
  all_goals
   go_wp2_with fail
   go_meet
   case rel=>exact ⟨F6,Lib.hid ⟨_,T6.out⟩,Lib.hid ((Turn.of_below HB2.out).trans U6.out),Lib.hid ((U6.out.block _ (boxIs_cells HBX2.out).2.2.2.2 (fun hF=>by have:=HNB.out _ hF;omega)).trans HBX2.out),Lib.hid (insAt_turn HI2.out U6.out HOUT.out)⟩
 case rest=>
  obtain ⟨F4,H4,T4,HBX4,HI4⟩:=hcut
  obtain ⟨v4,h4⟩:=H4.out
  have HH4:=Lib.hid h4
  clear h4 H4 HDD HO2 HBX2 HI2 HB2 hlc2 hlt2 d20 d21 hs2
  cases hx:(deedOf L x).isSome with
  | true=>
    have HX:=Lib.hid hx
    clear hx
    go_wp2_with fail
    with_reducible refine (has_home_is x _ HH4.out true HX.out).mono ?_
    rintro e w6 ⟨rfl,hb6⟩
    have H5:Hid (HomeL w6 F4 R (newL L p x d)):=Lib.hid (homeL_new (HH4.out.kept hb6) (fun y=>by rw [deedOf_new,if_pos HX.out]))
    have T5:=Lib.hid (T4.out.trans (Turn.of_below hb6))
    clear hb6
    clear HH4 T4 HBX4 HI4 HAT HHD HI1 HBX1 HB HWD HT HG
    go_wp2_with fail
    go_loopw [47] (fun _ wr=>∃ (F':Nat→Prop) (L':List LinkD),Hid (HomeL wr F' R L')∧Hid (Turn F F' w wr)∧Hid (GoodL 25 L')∧Hid (room L'=room (newL L p x d))) (fun _ wr=>lenAt wr R)
    case atStart=>exact ⟨F4,_,H5,T5,HG1,Lib.hid rfl⟩
    case round=>
     obtain ⟨F',L',H6,T6,HG6,HR6⟩:=hrel
     cases hf:fullL L' with
     | true=>
      have HF:=Lib.hid hf
      clear hf
      go_wp2_with fail
      with_reducible refine (homeL_full _ H6.out (by omega) HG6.out true HF.out).mono ?_
      rintro e w6 ⟨rfl,hb6⟩
      have H7:=Lib.hid (H6.out.kept hb6)
      have T7:=Lib.hid (T6.out.trans (Turn.of_below hb6))
      clear hb6
      go_wp2_with fail
      with_reducible refine (homeL_worst _ H7.out (by omega) HG6.out).mono ?_
      rintro e w7 ⟨rfl,hb7⟩
      have H8:=Lib.hid (H7.out.kept hb7)
      have T8:=Lib.hid (T7.out.trans (Turn.of_below hb7))
      clear hb7
      go_wp2_with fail
      with_reducible refine (homeL_evict _ H8.out (by omega) HG6.out HF.out).mono ?_
      rintro e w8 ⟨rfl,F9,h9,t9⟩
      have H9:=Lib.hid h9
      have T9:=Lib.hid (T8.out.trans t9)
      clear h9 t9
      go_wp2_with fail
      go_roundw
      case rel=>exact ⟨F9,_,H9,T9,Lib.hid (HG6.out.sub (evict_sub _)),Lib.hid ((room_full HG6.out HF.out).symm.trans HR6.out)⟩
      case measure=>
       rw [H9.out.lenAt,H6.out.lenAt]
       have:=evict_len HG6.out HF.out
       omega
     | false=>
      have HE:Hid (L'=room (newL L p x d)):=Lib.hid ((room_not hf).symm.trans HR6.out)
      have HF:=Lib.hid hf
      clear hf
      go_wp2_with fail
      with_reducible refine (homeL_full _ H6.out (by omega) HG6.out false HF.out).mono ?_
      rintro e w6 ⟨rfl,hb6⟩
      obtain ⟨b7,ev7,v7,h7⟩:=H6.out.kept hb6
      have H7:=Lib.hid h7
      have T7:=Lib.hid (T6.out.trans (Turn.of_below hb6))
      clear hb6 h7
      go_wp2_with fail
      with_reducible refine (has_home x _ H7.out).mono ?_
      rintro e w7 ⟨rfl,hb7⟩
      have HB7:=Lib.hid hb7
      clear hb7
      go_wp2_with fail
      go_ret2
      rw [← HE.out]
      exact ⟨rfl,F',⟨b7,ev7,v7,H7.out.kept HB7.out⟩,T7.out.trans (Turn.of_below HB7.out)⟩
  | false=>
    have HX:=Lib.hid hx
    clear hx
    go_wp2_with fail
    with_reducible refine (has_home_is x _ HH4.out false HX.out).mono ?_
    rintro e w6 ⟨rfl,hb6⟩
    obtain ⟨q0,q1,q2,q3,q4⟩:=boxIs_cells (boxIs_kept HBX4.out hb6)
    have HI6:=Lib.hid (insAt_kept hb6 HI4.out)
    have HB6:=Lib.hid hb6
    clear hb6
    go_wp2_with fail
    with_reducible refine (keep_any x d a cap (allL L) (fun y hy=>(allL_some y).1 hy) (Nat.le_trans (allL_len L) (Nat.le_trans HG.out.len (by omega))) HD.out _ (HH4.out.kept HB6.out) HI6.out).mono ?_
    rintro e w7 ⟨rfl,F7,ev7,h7,t7⟩
    have H5:Hid (HomeL w7 F7 R (newL L p x d)):=Lib.hid (homeL_new h7 (fun y=>by rw [deedOf_new,if_neg (by rw [HX.out];simp)]))
    have T5:=Lib.hid ((T4.out.trans (Turn.of_below HB6.out)).trans t7)
    clear h7 t7 q0 q1 q2 q3 q4 HI6 HB6
    clear HH4 T4 HBX4 HI4 HAT HHD HI1 HBX1 HB HWD HT HG
    go_wp2_with fail
    go_loopw [47] (fun _ wr=>∃ (F':Nat→Prop) (L':List LinkD),Hid (HomeL wr F' R L')∧Hid (Turn F F' w wr)∧Hid (GoodL 25 L')∧Hid (room L'=room (newL L p x d))) (fun _ wr=>lenAt wr R)
    case atStart=>exact ⟨F7,_,H5,T5,HG1,Lib.hid rfl⟩
    case round=>
     obtain ⟨F',L',H6,T6,HG6,HR6⟩:=hrel
     cases hf:fullL L' with
     | true=>
      have HF:=Lib.hid hf
      clear hf
      go_wp2_with fail
      with_reducible refine (homeL_full _ H6.out (by omega) HG6.out true HF.out).mono ?_
      rintro e w6 ⟨rfl,hb6⟩
      have H7:=Lib.hid (H6.out.kept hb6)
      have T7:=Lib.hid (T6.out.trans (Turn.of_below hb6))
      clear hb6
      go_wp2_with fail
      with_reducible refine (homeL_worst _ H7.out (by omega) HG6.out).mono ?_
      rintro e w7 ⟨rfl,hb7⟩
      have H8:=Lib.hid (H7.out.kept hb7)
      have T8:=Lib.hid (T7.out.trans (Turn.of_below hb7))
      clear hb7
      go_wp2_with fail
      with_reducible refine (homeL_evict _ H8.out (by omega) HG6.out HF.out).mono ?_
      rintro e w8 ⟨rfl,F9,h9,t9⟩
      have H9:=Lib.hid h9
      have T9:=Lib.hid (T8.out.trans t9)
      clear h9 t9
      go_wp2_with fail
      go_roundw
      case rel=>exact ⟨F9,_,H9,T9,Lib.hid (HG6.out.sub (evict_sub _)),Lib.hid ((room_full HG6.out HF.out).symm.trans HR6.out)⟩
      case measure=>
       rw [H9.out.lenAt,H6.out.lenAt]
       have:=evict_len HG6.out HF.out
       omega
     | false=>
      have HE:Hid (L'=room (newL L p x d)):=Lib.hid ((room_not hf).symm.trans HR6.out)
      have HF:=Lib.hid hf
      clear hf
      go_wp2_with fail
      with_reducible refine (homeL_full _ H6.out (by omega) HG6.out false HF.out).mono ?_
      rintro e w6 ⟨rfl,hb6⟩
      obtain ⟨b7,ev7,v7,h7⟩:=H6.out.kept hb6
      have H7:=Lib.hid h7
      have T7:=Lib.hid (T6.out.trans (Turn.of_below hb6))
      clear hb6 h7
      go_wp2_with fail
      with_reducible refine (has_home x _ H7.out).mono ?_
      rintro e w7 ⟨rfl,hb7⟩
      have HB7:=Lib.hid hb7
      clear hb7
      go_wp2_with fail
      go_ret2
      rw [← HE.out]
      exact ⟨rfl,F',⟨b7,ev7,v7,H7.out.kept HB7.out⟩,T7.out.trans (Turn.of_below HB7.out)⟩
end Go.Proofs.YtlboemhbealnmaaGreat.Ho
namespace Go.Proofs.YtlboemhbealnmaaGreat.Ho
open Go.RowKit Go.Maps
variable {w w':World} {F:Nat→Prop} {R:Loc} {it:Option It} {ls:List LD} {M:UInt64→Option DeedD} {b:Nat} {ev:UInt64→Option Value} {v:Value}
def DeedAnsF (w:World) (m:Option DeedD) (e:Ending) (w':World):Prop:=
 ∃ a c,e=.returned (.tuple #[.agg #[.slice a (m.getD nod).ins.length c,.int .i64 (m.getD nod).outs,.int .i64 (m.getD nod).weight,.int .i64 (m.getD nod).fee],.int .i64 (if m.isSome then 0 else 5)])∧(m.getD nod).ins.length≤8∧(m.getD nod).ins.length≤c∧InsAt w' a (m.getD nod).ins∧(∀ bb o,(m.getD nod).ins≠[]→a=some ⟨bb,o,none⟩→w.heap.size≤bb)∧Below w.heap.size w w'
set_option maxRecDepth 20000 in
theorem deedF_none (x:UInt64) (w:World) (h:HomeAt w F R it ls M b ev v) (hx:M x=none) :
  Calls Tryz.prog 169 #[.pointer (some ⟨R.b,27,none⟩),.int .u64 x.toNat] w (DeedAnsF w none):=by
 have H:=Lib.hid (h.kept (kept_new w (.cells #[.slice none 0 0,.int .i64 0,.int .i64 0,.int .i64 0] 94)))
 have HX:Hid ((M x).isSome=false):=Lib.hid (by rw [hx];rfl)
 clear h hx
 go_enter Tryz.func169,Tryz.ntmps169
 go_wp2_with fail
 with_reducible refine (has_home_is x _ H.out false HX.out).mono ?_
 rintro e w1 ⟨rfl,hb1⟩
 have hB:=(hb1.block w.heap.size (by simp)).trans (heap_alloc_new w _)
 have c0:=(head_cell hB 0).trans rfl
 have c1:=(head_cell hB 1).trans rfl
 have c2:=(head_cell hB 2).trans rfl
 have c3:=(head_cell hB 3).trans rfl
 have f0:=frozen_of_row w1 _ 0 _ _ hB
 have f1:=frozen_of_row w1 _ 1 _ _ hB
 have f2:=frozen_of_row w1 _ 2 _ _ hB
 have f3:=frozen_of_row w1 _ 3 _ _ hB
 have hs:=(cell_spot c0).2
 have HB:=Lib.hid (kept_trans (kept_new _ _) hb1)
 clear hB hb1
 go_wp2_with fail
 refine bodyPost_ret (v:=.tuple #[.agg #[.slice none 0 0,.int .i64 0,.int .i64 0,.int .i64 0],.int .i64 5]) (by simp [results,Tryz.results169,go_sem,c0,c1,c2,c3]) rfl ?_
 have ht:=turn_set4 w1 w.heap.size (.slice none 0 0) (.int .i64 0) (.int .i64 0) (.int .i64 0)
 exact ⟨none,0,rfl,Nat.zero_le _,Nat.zero_le _,fun i hi=>absurd hi (by simp [nod]),(fun bb o hne=>absurd rfl hne),HB.out.trans (ht.below (fun k hk=>by omega) HB.out.size)⟩
set_option maxRecDepth 20000 in
theorem deedF_some (x:UInt64) (d:DeedD) (w:World) (h:HomeAt w F R it ls M b ev v) (hx:M x=some d) :
  Calls Tryz.prog 169 #[.pointer (some ⟨R.b,27,none⟩),.int .u64 x.toNat] w (DeedAnsF w (some d)):=by
 have H:=Lib.hid (h.kept (kept_new w (.cells #[.slice none 0 0,.int .i64 0,.int .i64 0,.int .i64 0] 94)))
 have HX:Hid ((M x).isSome=true):=Lib.hid (by rw [hx];rfl)
 have HXD:=Lib.hid hx
 have HF:=Lib.hid (h.fine x d hx)
 clear h hx
 go_enter Tryz.func169,Tryz.ntmps169
 go_wp2_with fail
 with_reducible refine (has_home_is x _ H.out true HX.out).mono ?_
 rintro e w1 ⟨rfl,hb1⟩
 have H1:=H.out.kept hb1
 have hmc:=H1.mapc
 have hlt:=H1.lt
 have hlk:=H1.look x
 obtain ⟨a,c,hv,hl,hc,hi⟩:=H1.deed x
 rw [HXD.out] at hv hl hc hi
 rw [hv] at hlk
 simp only [Option.getD_some] at hlk hl hc hi
 unfold deedV at hlk
 have hB:=(hb1.block w.heap.size (by simp)).trans (heap_alloc_new w _)
 have HB1:=Lib.hid hB
 have HB:=Lib.hid (kept_trans (kept_new _ _) hb1)
 have HI:=Lib.hid hi
 clear hB hb1 H1 hi hv
 go_wp2_with fail
 with_reducible refine (clone_any d a c _ hl HI.out).mono ?_
 rintro e w2 ⟨v2,rfl,a2,k2,rfl,ho2,hb2⟩
 have hB:=(hb2.block w.heap.size (cell_spot (head_cell HB1.out 0)).2).trans HB1.out
 have c0:=(head_cell hB 0).trans rfl
 have c1:=(head_cell hB 1).trans rfl
 have c2:=(head_cell hB 2).trans rfl
 have c3:=(head_cell hB 3).trans rfl
 have f0:=frozen_of_row w2 _ 0 _ _ hB
 have f1:=frozen_of_row w2 _ 1 _ _ hB
 have f2:=frozen_of_row w2 _ 2 _ _ hB
 have f3:=frozen_of_row w2 _ 3 _ _ hB
 have hs:=(cell_spot c0).2
 have HO:=Lib.hid ho2
 have HB2:=Lib.hid (kept_trans HB.out hb2)
 have HS:Hid (w.heap.size < w1.heap.size):=Lib.hid (cell_spot (head_cell HB1.out 0)).2
 clear hB hb2 ho2
 go_wp2_with fail
 refine bodyPost_ret (v:=.tuple #[.agg #[.slice a2 d.ins.length k2,.int .i64 d.outs,.int .i64 d.weight,.int .i64 d.fee],.int .i64 0]) (by simp [results,Tryz.results169,go_sem,c0,c1,c2,c3]) rfl ?_
 have ht:=turn_set4 w2 w.heap.size (.slice a2 d.ins.length k2) (.int .i64 d.outs) (.int .i64 d.weight) (.int .i64 d.fee)
 have ho3:=own_turn HO.out ht (fun k hk e=>by have:=(HO.out.lt k hk).1;have:=HS.out;omega)
 have ho4:OwnIns _ _ d.ins:=⟨ho3.1,ho3.2.imp id fun ⟨g,cap,cur,q1,_,q3⟩=>⟨g,cap,cur,q1,Nat.zero_le _,q3⟩⟩
 obtain ⟨_,hc4,hi4⟩:=ownIns_slice ho4 (ins_ok HF.out)
 exact ⟨a2,k2,rfl,hl,hc4,hi4,(fun bb o _ e=>by subst e;have:=(HO.out.lt bb rfl).1;have:=HS.out;omega),HB2.out.trans (ht.below (fun k hk=>by omega) HB2.out.size)⟩
theorem deedF_any (x:UInt64) (w:World) (h:HomeAt w F R it ls M b ev v) :
  Calls Tryz.prog 169 #[.pointer (some ⟨R.b,27,none⟩),.int .u64 x.toNat] w (DeedAnsF w (M x)):=by
 cases hx:M x with
 | none=>exact deedF_none x w h hx
 | some d=>exact deedF_some x d w h hx
end Go.Proofs.YtlboemhbealnmaaGreat.Ho
namespace Go.Proofs.YtlboemhbealnmaaGreat.Ho
open Go.RowKit Go.Maps
def HL (w:World) (F:Nat→Prop) (R:Loc) (L:List LinkD):Prop:=GoodL 24 L∧HomeL w F R L
variable {w0 w w':World} {R:Loc} {L:List LinkD} {F:Nat→Prop}
theorem HL.kept (h:HL w F R L) (hb:Below w.heap.size w w'):HL w' F R L:=⟨h.1,h.2.kept hb⟩
theorem HL.there (h:HL w F R L):There w F:=by
 obtain ⟨_,_,_,_,h⟩:=h
 exact h.there
theorem good_none:GoodL 24 []:=⟨by simp,fun l hl=>by simp at hl,fun l hl=>by simp at hl,fun l hl=>by simp at hl,by simp [lsOf]⟩
theorem room_good {p:Nat} {x:UInt64} {d:DeedD} (hg:GoodL 24 L) (hp:p < 8) (hd:checkD d=0) (ht:¬ ∃ l ∈ L,l.peer=p∧l.id=x):GoodL 24 (room (newL L p x d)):=by
 have h1:=newL_good hg hp hd ht
 have h2:=h1.sub (room_sub _)
 have h3:=room_fine _ _ rfl h1
 unfold fullL fullF at h3
 rw [Bool.or_eq_false_iff] at h3
 have h4:=of_decide_eq_false h3.2
 rw [lsOf_len] at h4
 exact ⟨by omega,h2.peer,h2.fine,h2.one,h2.nodup⟩
def addC (L:List LinkD) (p:Int) (x:UInt64) (d:DeedD):(Bool × Int) × List LinkD:=
 if ¬ goodP p then ((false,1),L) else if checkD d≠0 then ((false,checkD d),L) else if L.any (fun l=>l.peer == p.toNat && l.id == x) then ((false,6),L) else (((deedOf (room (newL L p.toNat x d)) x).isSome,0),room (newL L p.toNat x d))
theorem any_twice {p:Nat} {x:UInt64}:L.any (fun l=>l.peer == p && l.id == x)=true ↔ ∃ l ∈ L,l.peer=p∧l.id=x:=by
 rw [List.any_eq_true]
 constructor
 ·rintro ⟨l,hl,e⟩
  simp only [Bool.and_eq_true,beq_iff_eq] at e
  exact ⟨l,hl,e⟩
 ·rintro ⟨l,hl,e⟩
  exact ⟨l,hl,by simpa using e⟩
theorem addC_good (hg:GoodL 24 L) (p:Int) (x:UInt64) (d:DeedD):GoodL 24 (addC L p x d).2:=by
 unfold addC
 split
 ·exact hg
 ·split
  ·exact hg
  ·split
   ·exact hg
   ·rename_i h1 h2 h3
    obtain ⟨n,rfl,hn,hnn⟩:=peer_nat (Classical.not_not.1 h1)
    rw [hnn] at h3 ⊢
    exact room_good hg hn (Classical.not_not.1 h2) (fun h=>h3 (any_twice.2 h))
theorem hl_add (p:Int) (x:UInt64) (d:DeedD) (a:Option Addr) (cap:Nat) (w:World) (h:HL w F R L) (hi:InsAt w a d.ins) (hout:∀ bb o,d.ins≠[]→a=some ⟨bb,o,none⟩→¬ F bb) :
  Calls Tryz.prog 168 #[.pointer (some ⟨R.b,27,none⟩),.int .i64 p,.int .u64 x.toNat,.agg #[.slice a d.ins.length cap,.int .i64 d.outs,.int .i64 d.weight,.int .i64 d.fee]] w fun e w'=>
   e=.returned (.tuple #[.bool (addC L p x d).1.1,.int .i64 (addC L p x d).1.2])∧∃ F',HL w' F' R (addC L p x d).2∧Turn F F' w w':=by
 unfold addC
 by_cases hp:goodP p
 ·rw [if_neg (not_not_intro hp)]
  obtain ⟨n,rfl,hn,hnn⟩:=peer_nat hp
  rw [hnn]
  by_cases hd:checkD d=0
  ·rw [if_neg (not_not_intro hd)]
   by_cases ht:∃ l ∈ L,l.peer=n∧l.id=x
   ·rw [if_pos (any_twice.2 ht)]
    refine (add_twice n hn x d hd ht a cap w hi h.2 h.1).mono ?_
    rintro e w' ⟨rfl,hb⟩
    exact ⟨rfl,F,h.kept hb,Turn.of_below hb⟩
   ·rw [if_neg (fun hh=>ht (any_twice.1 hh))]
    refine (add_new n hn x d hd ht a cap w hi hout h.2 h.1).mono ?_
    rintro e w' ⟨rfl,F',h4,h5⟩
    exact ⟨rfl,F',⟨room_good h.1 hn hd ht,h4⟩,h5⟩
  ·rw [if_pos hd]
   refine (add_check n hn x d _ rfl hd a cap w hi).mono ?_
   rintro e w' ⟨rfl,hb⟩
   exact ⟨rfl,F,h.kept hb,Turn.of_below hb⟩
 ·rw [if_pos hp]
  refine (add_arg p hp x d a cap w).mono ?_
  rintro e w' ⟨rfl,hb⟩
  exact ⟨rfl,F,h.kept hb,Turn.of_below hb⟩
def removeL (L:List LinkD) (x:UInt64):List LinkD:=L.filter fun l=>!(l.id == x)
theorem hl_remove (x:UInt64) (w:World) (h:HL w F R L) :
  Calls Tryz.prog 193 #[.pointer (some ⟨R.b,27,none⟩),.int .u64 x.toNat] w fun e w'=>e=.returned (.bool (deedOf L x).isSome)∧∃ F',HL w' F' R (removeL L x)∧Turn F F' w w':=by
 obtain ⟨hg,b,ev,v,h3⟩:=h
 refine (remove_any x w h3 (by rw [lsOf_len];have:=hg.len;omega)).mono ?_
 rintro e w' ⟨rfl,F',ev',v',h4,h5⟩
 rw [lsOf_filter] at h4
 have hs:(removeL L x).Sublist L:=List.filter_sublist
 rw [show (L.filter fun l=>!((ldOf l).id == x))=removeL L x from rfl,deedOf_sub hg hs] at h4
 exact ⟨rfl,F',⟨hg.sub hs,b,ev',v',h4⟩,h5⟩
def dropL (L:List LinkD) (p:Nat):List LinkD:=L.filter fun l=>!(l.peer == p)
theorem hl_drop (p:Nat) (hp:p < 8) (w:World) (h:HL w F R L) :
  Calls Tryz.prog 45 #[.pointer (some ⟨R.b,27,none⟩),.int .i64 p] w fun e w'=>e=.returned (.int .i64 0)∧∃ F',HL w' F' R (dropL L p)∧Turn F F' w w':=by
 obtain ⟨hg,b,ev,v,h3⟩:=h
 refine (drop_yes p hp w h3 (by rw [lsOf_len];have:=hg.len;omega)).mono ?_
 rintro e w' ⟨rfl,F',ev',v',h4,h5⟩
 rw [lsOf_filter] at h4
 have hs:(dropL L p).Sublist L:=List.filter_sublist
 rw [show (L.filter fun l=>!((ldOf l).peer == p))=dropL L p from rfl,deedOf_sub hg hs] at h4
 exact ⟨rfl,F',⟨hg.sub hs,b,ev',v',h4⟩,h5⟩
theorem hl_has (x:UInt64) (w:World) (h:HL w F R L) (r:Bool) (hr:(deedOf L x).isSome=r) :
  Calls Tryz.prog 149 #[.pointer (some ⟨R.b,27,none⟩),.int .u64 x.toNat] w fun e w'=>e=.returned (.bool r)∧Below w.heap.size w w':=by
 obtain ⟨_,b,ev,v,h3⟩:=h
 exact has_home_is x w h3 r hr
theorem hl_deed (x:UInt64) (w:World) (h:HL w F R L) :
  Calls Tryz.prog 169 #[.pointer (some ⟨R.b,27,none⟩),.int .u64 x.toNat] w (DeedAnsF w (deedOf L x)):=by
 obtain ⟨_,b,ev,v,h3⟩:=h
 exact deedF_any x w h3
def childL (L:List LinkD) (x:UInt64):List UInt64:=(allL L).filter fun y=>spendsD ((deedOf L y).getD nod) x
theorem hl_children (x:UInt64) (w:World) (h:HL w F R L) :
  Calls Tryz.prog 191 #[.pointer (some ⟨R.b,27,none⟩),.int .u64 x.toNat] w (GaveIds w (childL L x)):=by
 obtain ⟨hg,b,ev,v,h3⟩:=h
 exact children_any x w h3 (by rw [lsOf_len];have:=hg.len;omega)
end Go.Proofs.YtlboemhbealnmaaGreat.Ho
set_option maxRecDepth 20000
namespace Go.Proofs.YtlboemhbealnmaaGreat.Ri
structure RingS where
 size:Nat
 cur:List UInt64
 prev:List UInt64
def RingS.put (s:RingS) (x:UInt64):RingS:=
 if s.cur.contains x=true then s else if s.size≤s.cur.length then ⟨s.size,[x],s.cur⟩ else ⟨s.size,s.cur ++ [x],s.prev⟩
def RingS.has (s:RingS) (x:UInt64):Bool:=s.cur.contains x || s.prev.contains x
def RingS.none (n:Nat):RingS:=⟨n,[],[]⟩
def RingS.Good (s:RingS):Prop:=1≤s.size∧s.size≤50∧s.cur.length≤s.size∧s.prev.length≤s.size∧s.cur.Nodup∧s.prev.Nodup
theorem put_there {s:RingS} {x:UInt64} (h:s.cur.contains x=true):s.put x=s:=by unfold RingS.put;rw [if_pos h]
theorem put_full {s:RingS} {x:UInt64} (h:s.cur.contains x=false) (hf:s.size≤s.cur.length):s.put x=⟨s.size,[x],s.cur⟩:=by
 unfold RingS.put;rw [if_neg (by rw [h];decide),if_pos hf]
theorem put_room {s:RingS} {x:UInt64} (h:s.cur.contains x=false) (hf:s.cur.length < s.size):s.put x=⟨s.size,s.cur ++ [x],s.prev⟩:=by
 unfold RingS.put;rw [if_neg (by rw [h];decide),if_neg (by omega)]
theorem put_ways (s:RingS) (x:UInt64):(x ∈ s.cur∧s.put x=s)∨(x ∉ s.cur∧s.size≤s.cur.length∧s.put x=⟨s.size,[x],s.cur⟩)∨(x ∉ s.cur∧s.cur.length < s.size∧s.put x=⟨s.size,s.cur ++ [x],s.prev⟩):=by
 by_cases h:x ∈ s.cur
 ·exact .inl ⟨h,put_there (List.contains_iff_mem.2 h)⟩
 ·have h':s.cur.contains x=false:=by rw [← Bool.not_eq_true,List.contains_iff_mem];exact h
  rcases Nat.lt_or_ge s.cur.length s.size with hl | hl
  ·exact .inr (.inr ⟨h,hl,put_room h' hl⟩)
  ·exact .inr (.inl ⟨h,hl,put_full h' hl⟩)
theorem nodup_snoc' {l:List UInt64} {x:UInt64} (h:l.Nodup) (hx:x ∉ l):(l ++ [x]).Nodup:=by
 rw [List.nodup_append]
 exact ⟨h,by simp,fun a ha b hb=>by rw [List.mem_singleton.1 hb];exact fun e=>hx (e▸ha)⟩
theorem put_good {s:RingS} (h:s.Good) (x:UInt64):(s.put x).Good:=by
 obtain ⟨h1,h2,h3,h4,h5,h6⟩:=h
 rcases put_ways s x with ⟨_,e⟩ | ⟨_,hl,e⟩ | ⟨hx,hl,e⟩ <;> rw [e]
 ·exact ⟨h1,h2,h3,h4,h5,h6⟩
 ·exact ⟨h1,h2,by simpa using h1,h3,by simp,h5⟩
 ·exact ⟨h1,h2,by simp;omega,h4,nodup_snoc' h5 hx,h6⟩
theorem none_good {n:Nat} (h1:1≤n) (h2:n≤50):(RingS.none n).Good:=⟨h1,h2,Nat.zero_le _,Nat.zero_le _,List.nodup_nil,List.nodup_nil⟩
end Go.Proofs.YtlboemhbealnmaaGreat.Ri
namespace Go.Proofs.YtlboemhbealnmaaGreat.Ri
open Go.RowKit Go.Maps
theorem u64_keyed:Maps.Keyed Tryz.prog 22:=int_keyed Tryz.underlying22
theorem u64_key (x:UInt64):keyOf Tryz.prog 22 (.int .u64 x.toNat)=some (.int .u64 x.toNat):=keyOf_int_mk Tryz.underlying22 (wf_u64_of x)
theorem lit_ne {x y:UInt64} (h:x≠y):Lit.int .u64 x.toNat≠Lit.int .u64 y.toNat:=fun e=>h (by simp only [Lit.int.injEq,true_and] at e;exact u64_inj e)
def MapAt (w:World) (b:Nat) (ks:List UInt64):Prop:=
 ∃ D:DataW Unit,w.ownsMap Tryz.prog 22 (plainElem Tryz.prog 4) b ks.length D∧Maps.size D=ks.length∧(∀ x:UInt64,Maps.has D (.int .u64 x.toNat)=ks.contains x) ∧
  ∀ x:UInt64,D.atKey (.int .u64 x.toNat) (.lit (.bool false))=.lit (.bool (ks.contains x))
def GenAt (w:World) (p:Option Nat) (ks:List UInt64):Prop:=(p=none∧ks=[])∨∃ b,p=some b∧MapAt w b ks
theorem map_same {w w':World} {b:Nat} {ks:List UInt64} (h:MapAt w b ks) (e:w'.heap[b]?=w.heap[b]?):MapAt w' b ks:=by
 obtain ⟨D,⟨es,clock,hb,r⟩,r2⟩:=h
 exact ⟨D,⟨es,clock,e.trans hb,r⟩,r2⟩
theorem gen_same {w w':World} {p:Option Nat} {ks:List UInt64} (h:GenAt w p ks) (e:∀ b,p=some b→w'.heap[b]?=w.heap[b]?):GenAt w' p ks:=by
 rcases h with h | ⟨b,hp,h⟩
 ·exact .inl h
 ·exact .inr ⟨b,hp,map_same h (e b hp)⟩
theorem map_new (w:World):MapAt (w.alloc (.map #[] 0)) w.heap.size []:=⟨.map [],World.ownsMap_made w _ _ _,rfl,fun _=>rfl,fun _=>rfl⟩
theorem map_look {w:World} {b:Nat} {ks:List UInt64} (h:MapAt w b ks) (x:UInt64):(Instr.lookup 145 (.map (some b)) (.int .u64 x.toNat) false).run Tryz.prog w=.ok (.bool (ks.contains x)) w:=by
 obtain ⟨D,hD,_,_,hat⟩:=h
 obtain ⟨u,ps,hrun,hu⟩:=hD.lookup u64_keyed Tryz.underlying145 (zero_bool w) (plainElem_bool Tryz.underlying4 false) (u64_key x)
 rw [hat x] at hu
 rw [hrun]
 unfold plainElem at hu
 rw [Tryz.underlying4] at hu
 cases u <;> simp at hu
 rw [hu.1]
 simp
theorem gen_look {w:World} {p:Option Nat} {ks:List UInt64} (h:GenAt w p ks) (x:UInt64):(Instr.lookup 145 (.map p) (.int .u64 x.toNat) false).run Tryz.prog w=.ok (.bool (ks.contains x)) w:=by
 rcases h with ⟨rfl,rfl⟩ | ⟨b,rfl,h⟩
 ·exact Maps.look_nil false u64_keyed Tryz.underlying145 (zero_bool w) (u64_key x)
 ·exact map_look h x
theorem map_len {w:World} {b:Nat} {ks:List UInt64} (h:MapAt w b ks) (ty:TypeId):(Builtin.len_ #[145] ty #[.map (some b)]).run Tryz.prog w=.ok (.int .i64 ks.length) w:=by
 obtain ⟨D,hD,hs,_⟩:=h
 have:=hD.len Tryz.underlying145 ty
 rw [hs] at this
 exact this
theorem map_put {w:World} {b:Nat} {ks:List UInt64} (h:MapAt w b ks) (x:UInt64) (hx:ks.contains x=false) (hn:ks.length < maxLen) :
  ∃ w',(Instr.mapUpdate 145 (.map (some b)) (.int .u64 x.toNat) (.bool true)).run Tryz.prog w=.ok () w'∧MapAt w' b (ks ++ [x])∧w.grownBy w' (some b):=by
 obtain ⟨D,hD,hs,hat,hv⟩:=h
 obtain ⟨w',hrun,hown,hg⟩:=hD.update u64_keyed Tryz.underlying145 hn (u64_key x) (plainElem_bool Tryz.underlying4 true)
 have hsz:=size_put (hD.tidy u64_keyed) (k:=.int .u64 x.toNat) (.lit (.bool true))
 rw [hat,hs,if_neg (by rw [hx];decide)] at hsz
 have hl:(ks ++ [x]).length=ks.length+1:=by simp
 have hc:∀ y,(ks ++ [x]).contains y=(ks.contains y || y == x):=fun y=>by
  rw [Bool.eq_iff_iff]
  simp
 refine ⟨w',hrun,⟨_,by rw [hl];exact hown,by rw [hl];exact hsz,fun y=>?_,fun y=>?_⟩,hg⟩
 ·rw [hc]
  by_cases hyx:y=x
  ·rw [hyx,has_put_same hD.isMap (u64_keyed.key (u64_key _))]
   simp
  ·rw [has_put_other (lit_ne hyx),hat y]
   simp [hyx]
 ·rw [hc]
  by_cases hyx:y=x
  ·rw [hyx,atKey_put_same hD.isMap (u64_keyed.key (u64_key _))]
   simp
  ·rw [atKey_put_other (lit_ne hyx),hv y]
   simp [hyx]
theorem map_clear {w:World} {b:Nat} {ks:List UInt64} (h:MapAt w b ks) :
  ∃ w',(∀ ty,(Builtin.clear_ #[145] ty #[.map (some b)]).run Tryz.prog w=.ok (.tuple #[]) w')∧MapAt w' b []∧w.grownBy w' (some b):=by
 obtain ⟨D,⟨es,clock,hb,F,_⟩,_⟩:=h
 refine ⟨ChangeMaps.setBlock w b (.map #[] clock),fun ty=>?_,⟨.map [],⟨#[],clock,ChangeMaps.heap_setBlock_same hb _,⟨by simp,MapKept.stamped_empty clock,by simp⟩,Nat.le_refl _,rfl⟩,rfl,fun _=>rfl,fun _=>rfl⟩,
  ⟨rfl,rfl,rfl,by simp [ChangeMaps.setBlock],fun i _ hi=>ChangeMaps.heap_setBlock_other hb _ (fun e=>hi (by rw [e]))⟩⟩
 simp [Builtin.clear_,run_underlying Tryz.underlying145,MapKept.run_getObj_map hb,MapKept.run_setObj_map _ hb,Result.andThen,ChangeMaps.setBlock]
theorem map_clone {w:World} {b:Nat} {ks:List UInt64} (h:MapAt w b ks):∃ es clock,w.heap[b]?=some (.map es clock)∧MapAt (w.alloc (.map es clock)) w.heap.size ks:=by
 obtain ⟨D,⟨es,clock,hb,r⟩,r2⟩:=h
 exact ⟨es,clock,hb,D,⟨es,clock,(MapKept.heap_alloc w _).1,r⟩,r2⟩
end Go.Proofs.YtlboemhbealnmaaGreat.Ri
namespace Go.Proofs.YtlboemhbealnmaaGreat.Ri
open Go.RowKit Go.Maps
def RingAt (w:World) (F:Nat→Prop) (R:Nat) (s:RingS):Prop:=
 ∃ c p,(w.cell? ⟨R,0,none⟩=some (.int .i64 s.size)∧w.cell? ⟨R,1,none⟩=some (.map (some c))∧w.cell? ⟨R,2,none⟩=some (.map p)∧w.frozen? ⟨R,2,none⟩=false)∧MapAt w c s.cur∧GenAt w p s.prev ∧
  (c≠R∧∀ b,p=some b→b≠R∧b≠c)∧(F R∧F c∧∀ b,p=some b→F b)∧There w F
theorem ringAt_same {w w':World} {F:Nat→Prop} {R:Nat} {s:RingS} (h:RingAt w F R s) (e:∀ k,k < w.heap.size→F k→w'.heap[k]?=w.heap[k]?) (hs:w.heap.size≤w'.heap.size):RingAt w' F R s:=by
 obtain ⟨c,p,⟨c0,c1,c2,f2⟩,hc,hp,hn,⟨hFR,hFc,hFp⟩,ht⟩:=h
 have hR:=e R (ht R hFR) hFR
 refine ⟨c,p,⟨?_,?_,?_,?_⟩,map_same hc (e c (ht c hFc) hFc),gen_same hp (fun b hb=>e b (ht b (hFp b hb)) (hFp b hb)),hn,⟨hFR,hFc,hFp⟩,ht.later hs⟩
 ·exact (World.cell?_of_block (w:=w) (a:=⟨R,0,none⟩) hR).trans c0
 ·exact (World.cell?_of_block (w:=w) (a:=⟨R,1,none⟩) hR).trans c1
 ·exact (World.cell?_of_block (w:=w) (a:=⟨R,2,none⟩) hR).trans c2
 ·exact (World.frozen?_of_block (w:=w) (a:=⟨R,2,none⟩) hR).trans f2
theorem ringAt_kept {w w':World} {F:Nat→Prop} {R:Nat} {s:RingS} (h:RingAt w F R s) (hb:Below w.heap.size w w'):RingAt w' F R s:=ringAt_same h (fun k hk _=>hb.block k hk) hb.size
theorem ringAt_turn {w w':World} {F G G':Nat→Prop} {R:Nat} {s:RingS} (h:RingAt w F R s) (ht:Turn G G' w w') (ha:Apart F G):RingAt w' F R s:=ringAt_same h (fun k hk hf=>ht.block k hk (ha k hf)) ht.size
theorem ringAt_there {w:World} {F:Nat→Prop} {R:Nat} {s:RingS} (h:RingAt w F R s):There w F:=by
 obtain ⟨_,_,_,_,_,_,_,h⟩:=h
 exact h
theorem ring_made (w:World) (n:Nat):RingAt ((w.alloc (.map #[] 0)).alloc (.cells #[.int .i64 n,.map (some w.heap.size),.map none] 147)) (fun k=>k=w.heap.size∨k=w.heap.size+1) (w.heap.size+1) (RingS.none n):=by
 refine ⟨w.heap.size,none,⟨by simp [go_sem,RingS.none],by simp [go_sem],by simp [go_sem],by simp [go_sem]⟩,map_same (map_new w) (Below.heap_alloc _ _ _ (by simp)),.inl ⟨rfl,rfl⟩,⟨by omega,fun b hb=>by cases hb⟩,⟨.inr rfl,.inl rfl,fun b hb=>by cases hb⟩,fun k hk=>?_⟩
 simp
 omega
theorem ring_new (n:Nat) (w:World) (h1:1≤n) (h2:n≤50) :
  Calls Tryz.prog 42 #[.int .i64 n] w fun e w'=>e=.returned (.tuple #[.pointer (some ⟨w.heap.size+1,0,none⟩),.int .i64 0]) ∧
   RingAt w' (fun k=>k=w.heap.size∨k=w.heap.size+1) (w.heap.size+1) (RingS.none n)∧Below w.heap.size w w':=by
 have hmm:=@run_makeMap Tryz.prog
 have HM:=Lib.hid (ring_made w n)
 have ha:¬ (n:Int) < 1:=by omega
 have hb:¬ (n:Int) > 50:=by omega
 go_enter Tryz.func42,Tryz.ntmps42
 go_wp2
 go_ret2
 exact ⟨rfl,HM.out,kept_alloc (kept_new _ _) _⟩
theorem ring_has (F:Nat→Prop) (R:Nat) (s:RingS) (x:UInt64) (r:Bool) (hr:s.has x=r) (w:World) (h:RingAt w F R s) :
  Calls Tryz.prog 101 #[.pointer (some ⟨R,0,none⟩),.int .u64 x.toNat] w fun e w'=>e=.returned (.bool r)∧w=w':=by
 obtain ⟨c,p,⟨c0,c1,c2,f2⟩,hc,hp,hn,hF,ht⟩:=h
 have l1:=map_look hc x
 have l2:=gen_look hp x
 generalize e1:s.cur.contains x=b1 at l1
 generalize e2:s.prev.contains x=b2 at l2
 have HR:Hid ((b1 || b2)=r):=Lib.hid (by rw [← e1,← e2];exact hr)
 clear hc hp hn hF ht hr e1 e2
 cases b1
 ·go_enter Tryz.func101,Tryz.ntmps101
  go_wp2
  go_ret
  exact ⟨ret_bool HR.out,rfl⟩
 ·go_enter Tryz.func101,Tryz.ntmps101
  go_wp2
  go_ret
  exact ⟨ret_bool HR.out,rfl⟩
end Go.Proofs.YtlboemhbealnmaaGreat.Ri
namespace Go.Proofs.YtlboemhbealnmaaGreat.Ri
open Go.RowKit Go.Maps
theorem eql_nil (w:World) (b:Nat):(binOp .eql 145 (.map (some b)) (.map none)).run Tryz.prog w=.ok (.bool false) w:=run_eql_map_nil_sl (P:=Tryz.prog) w 145 _ _ (some b) Tryz.underlying145
theorem clone_any (b:Nat) (es:Array MapEntry) (clock:Nat) (w:World) (hb:w.heap[b]?=some (.map es clock)) :
  Calls Tryz.prog 211 #[.map (some b)] w fun e w'=>e=.returned (.map (some w.heap.size))∧w'=w.alloc (.map es clock):=by
 have hq:=eql_nil
 go_enter Tryz.func211,Tryz.ntmps211
 go_wp2
 rw [run_callFunc_extern Tryz.func226 (by kernel_rfl) (by kernel_rfl) (by kernel_rfl) (e:=Extern.MapsClone.clone) (by kernel_rfl),run_maps_clone_sl w 145 hb]
 simp only [Result.andThen]
 rw [Oper.upon_value]
 go_wp2
 rw [run_typeAssert_map_sl _ 145 20 _ _ _ Tryz.underlying145]
 simp only [Result.andThen]
 rw [Oper.upon_value]
 go_wp2
 go_ret
 exact ⟨rfl,rfl⟩
theorem ring_turn (F:Nat→Prop) (R:Nat) (s:RingS) (w:World) (h:RingAt w F R s) :
  Calls Tryz.prog 192 #[.pointer (some ⟨R,0,none⟩)] w fun e w'=>e=.returned (.tuple #[])∧∃ F',RingAt w' F' R ⟨s.size,[],s.cur⟩∧Turn F F' w w':=by
 obtain ⟨c,p,⟨c0,c1,c2,f2⟩,hc,hp,⟨hcR,hpn⟩,⟨hFR,hFc,hFp⟩,ht⟩:=h
 obtain ⟨es,clock,hb,hcl⟩:=map_clone hc
 have hlt:R < w.heap.size:=ht R hFR
 have hclt:c < w.heap.size:=ht c hFc
 -- behind the copy and the store
 have hcs:MapAt ((w.alloc (.map es clock)).setCell ⟨R,2,none⟩ (.map (some w.heap.size))) c s.cur:=map_same hc ((Below.heap_setCell _ _ _ _ hcR).trans (Below.heap_alloc _ _ _ hclt))
 have hps:MapAt ((w.alloc (.map es clock)).setCell ⟨R,2,none⟩ (.map (some w.heap.size))) w.heap.size s.cur:=map_same hcl (Below.heap_setCell _ _ _ _ (by show w.heap.size≠R;omega))
 have d0:((w.alloc (.map es clock)).setCell ⟨R,2,none⟩ (.map (some w.heap.size))).cell? ⟨R,0,none⟩=some (.int .i64 s.size):=by simp [go_sem,c0,hlt]
 have d1:((w.alloc (.map es clock)).setCell ⟨R,2,none⟩ (.map (some w.heap.size))).cell? ⟨R,1,none⟩=some (.map (some c)):=by simp [go_sem,c1,hlt]
 have d2:((w.alloc (.map es clock)).setCell ⟨R,2,none⟩ (.map (some w.heap.size))).cell? ⟨R,2,none⟩=some (.map (some w.heap.size)):=by simp [go_sem,c2,hlt]
 have g2:((w.alloc (.map es clock)).setCell ⟨R,2,none⟩ (.map (some w.heap.size))).frozen? ⟨R,2,none⟩=false:=by simp [go_sem,f2,hlt]
 rw [World.setCell_alloc_past _ _ _ _ hlt] at hcs hps d0 d1 d2 g2
 obtain ⟨w3,hrun,h3,hg3⟩:=map_clear hcs
 have hsz:((w.setCell ⟨R,2,none⟩ (.map (some w.heap.size))).alloc (.map es clock)).heap.size=w.heap.size+1:=by simp
 have hR3:w3.heap[R]?=((w.setCell ⟨R,2,none⟩ (.map (some w.heap.size))).alloc (.map es clock)).heap[R]?:=hg3.block R (by omega) (fun e=>hcR (Option.some.inj e).symm)
 have c1':w3.cell? ⟨R,1,none⟩=some (.map (some c)):=(World.cell?_of_block (a:=⟨R,1,none⟩) hR3).trans d1
 have HE:Hid (∃ F',RingAt w3 F' R ⟨s.size,[],s.cur⟩∧Turn F F' w w3):=Lib.hid (by
  refine ⟨fun k=>F k∨k=w.heap.size,⟨c,some w.heap.size,⟨?_,c1',?_,?_⟩,h3,.inr ⟨_,rfl,map_same hps (hg3.block _ (by omega) (fun e=>by have:=Option.some.inj e;omega))⟩,⟨hcR,fun b hb=>?_⟩,⟨.inl hFR,.inl hFc,fun b hb=>?_⟩,fun k hk=>?_⟩,?_⟩
  ·exact (World.cell?_of_block (a:=⟨R,0,none⟩) hR3).trans d0
  ·exact (World.cell?_of_block (a:=⟨R,2,none⟩) hR3).trans d2
  ·exact (World.frozen?_of_block (a:=⟨R,2,none⟩) hR3).trans g2
  ·cases hb;exact ⟨by omega,by omega⟩
  ·cases hb;exact .inr rfl
  ·have:=hg3.size
   rcases hk with hk | hk
   ·have:=ht k hk;omega
   ·omega
  ·have t1:Turn F F w (w.setCell ⟨R,2,none⟩ (.map (some w.heap.size))):=Turn.set _ _ _ hFR
   have t2:Turn F F (w.setCell ⟨R,2,none⟩ (.map (some w.heap.size))) ((w.setCell ⟨R,2,none⟩ (.map (some w.heap.size))).alloc (.map es clock)):=Turn.of_below (kept_new _ _)
   have t3:Turn F F ((w.setCell ⟨R,2,none⟩ (.map (some w.heap.size))).alloc (.map es clock)) w3:=Turn.of_grown hg3 (fun k hk=>by cases hk;exact hFc)
   exact ((t1.trans t2).trans t3).more (fun k hk=>hk.imp id (fun e=>by omega)))
 have hq:=eql_nil
 clear hc hp hcl hcs hps d0 d2 g2 h3 hg3 hsz hR3 hpn hFp
 go_enter Tryz.func192,Tryz.ntmps192
 go_wp2_with (first | (go_at_call 211;refine (clone_any c es clock _ hb).mono ?_;rintro e w1 ⟨rfl,rfl⟩) | go_in)
 go_end0
 exact ⟨rfl,HE.out⟩
theorem ring_stored {w w':World} {F:Nat→Prop} {R c:Nat} {p:Option Nat} {s:RingS} {x:UInt64} (hcell:w.cell? ⟨R,0,none⟩=some (.int .i64 s.size)∧w.cell? ⟨R,1,none⟩=some (.map (some c))∧w.cell? ⟨R,2,none⟩=some (.map p)∧w.frozen? ⟨R,2,none⟩=false)
  (hp:GenAt w p s.prev) (hn:c≠R∧∀ b,p=some b→b≠R∧b≠c) (hF:F R∧F c∧∀ b,p=some b→F b) (ht:There w F) (hm:MapAt w' c (s.cur ++ [x])) (hg:w.grownBy w' (some c)) :
  RingAt w' F R ⟨s.size,s.cur ++ [x],s.prev⟩∧Turn F F w w':=by
 obtain ⟨c0,c1,c2,f2⟩:=hcell
 have hR:=hg.block R (ht R hF.1) (fun e=>hn.1 (Option.some.inj e).symm)
 refine ⟨⟨c,p,⟨?_,?_,?_,?_⟩,hm,gen_same hp (fun b hb=>hg.block b (ht b (hF.2.2 b hb)) (fun e=>(hn.2 b hb).2 (Option.some.inj e))),hn,hF,ht.later hg.size⟩,Turn.of_grown hg (fun k hk=>by cases hk;exact hF.2.1)⟩
 ·exact (World.cell?_of_block (a:=⟨R,0,none⟩) hR).trans c0
 ·exact (World.cell?_of_block (a:=⟨R,1,none⟩) hR).trans c1
 ·exact (World.cell?_of_block (a:=⟨R,2,none⟩) hR).trans c2
 ·exact (World.frozen?_of_block (a:=⟨R,2,none⟩) hR).trans f2
theorem ring_put (F:Nat→Prop) (R:Nat) (s:RingS) (x:UInt64) (w:World) (h:RingAt w F R s) (hg:s.Good) :
  Calls Tryz.prog 165 #[.pointer (some ⟨R,0,none⟩),.int .u64 x.toNat] w fun e w'=>e=.returned (.tuple #[])∧∃ F',RingAt w' F' R (s.put x)∧Turn F F' w w':=by
 have hlen:=hg.2.2.1
 have hlen2:=hg.2.1
 cases hx:s.cur.contains x with
 | true=>
  have HE:Hid (∃ F',RingAt w F' R (s.put x)∧Turn F F' w w):=Lib.hid ⟨F,by rw [put_there hx];exact h,Turn.refl F w⟩
  obtain ⟨c,p,⟨c0,c1,c2,f2⟩,hc,hp,hn,hF,ht⟩:=h
  have l1:=map_look hc x
  rw [hx] at l1
  clear hc hp hn hF ht hg hx hlen hlen2
  go_enter Tryz.func165,Tryz.ntmps165
  go_wp2
  refine bodyPost_ret (results_none rfl _ _ _) rfl ?_
  exact ⟨rfl,HE.out⟩
 | false=>
  have H:=Lib.hid h
  obtain ⟨c,p,⟨c0,c1,c2,f2⟩,hc,hp,hn,hF,ht⟩:=h
  have l1:=map_look hc x
  have l2:=fun n ty=>map_len (map_same hc (w':=w.drewN n) rfl) ty
  rw [hx] at l1
  have HC:=Lib.hid hc
  have HP:=Lib.hid hp
  have HN:=Lib.hid hn
  have HF:=Lib.hid hF
  have HT:=Lib.hid ht
  have HX:=Lib.hid hx
  have HG:=Lib.hid hg
  clear hc hp hn hF ht hx hg
  by_cases hfull:s.size≤s.cur.length
  ·go_enter Tryz.func165,Tryz.ntmps165
   go_wp2_with fail
   go_quiet (fail)
   generalize hw2:World.drewN w nq=w2
   have hb2:Below w.heap.size w w2:=hw2▸below_drewN (Below.refl _ _) _
   have H2:=ringAt_kept H.out hb2
   clear hw2
   go_wp2_with fail
   with_reducible refine (ring_turn F R s _ H2).mono ?_
   rintro e w3 ⟨rfl,F',h3,t3⟩
   obtain ⟨c',p',⟨k0,k1,k2,g2⟩,hc',hp',hn',hF',ht'⟩:=h3
   obtain ⟨w4,hput,hm4,hg4⟩:=map_put hc' x (by simp) (by unfold maxLen;simp)
   have HE:Hid (∃ F'',RingAt w4 F'' R (s.put x)∧Turn F F'' w w4):=Lib.hid (by
    obtain ⟨r1,r2⟩:=ring_stored (s:=⟨s.size,[],s.cur⟩) ⟨k0,k1,k2,g2⟩ hp' hn' hF' ht' hm4 hg4
    exact ⟨F',by rw [put_full HX.out hfull];exact r1,((Turn.of_below hb2).trans t3).trans r2⟩)
   clear hc' hp' hn' hF' ht' hm4 hg4 k2 g2 H2 t3
   go_wp2_with fail
   go_end0
   exact ⟨rfl,HE.out⟩
  ·go_enter Tryz.func165,Tryz.ntmps165
   go_wp2_with fail
   go_quiet (fail)
   generalize hw2:World.drewN w nq=w2
   have hb2:Below w.heap.size w w2:=hw2▸below_drewN (Below.refl _ _) _
   have H2:=ringAt_kept H.out hb2
   clear hw2
   obtain ⟨c',p',⟨k0,k1,k2,g2⟩,hc',hp',hn',hF',ht'⟩:=H2
   obtain ⟨w4,hput,hm4,hg4⟩:=map_put hc' x HX.out (by unfold maxLen;omega)
   have HE:Hid (∃ F'',RingAt w4 F'' R (s.put x)∧Turn F F'' w w4):=Lib.hid (by
    obtain ⟨r1,r2⟩:=ring_stored ⟨k0,k1,k2,g2⟩ hp' hn' hF' ht' hm4 hg4
    exact ⟨F,by rw [put_room HX.out (by omega)];exact r1,(Turn.of_below hb2).trans r2⟩)
   clear hc' hp' hn' hF' ht' hm4 hg4 k2 g2
   go_wp2_with fail
   go_end0
   exact ⟨rfl,HE.out⟩
end Go.Proofs.YtlboemhbealnmaaGreat.Ri
