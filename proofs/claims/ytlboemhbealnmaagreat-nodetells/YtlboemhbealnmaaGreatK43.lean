import Derived.Test.YtlboemhbealnmaaGreatK42
import Derived.Deep.RegionHeld3
set_option maxRecDepth 20000
namespace Go.Proofs.YtlboemhbealnmaaGreat
open Go.RowKit Go.Maps
structure Both (w0 w:World) (F:Nat→Prop) (R:Nat) (s:NS) (G:Nat→Prop) (B:Nat) (t:NS):Prop where
 one:NodeAt w F R s
 two:RN w G B t
 apart:Apart F G
 above1:∀ k,F k→w0.heap.size≤k
 above2:∀ k,G k→w0.heap.size≤k
 below:Below w0.heap.size w0 w
variable {w0 w w':World} {F G:Nat→Prop} {R B:Nat} {s t:NS}
theorem Both.kept (h:Both w0 w F R s G B t) (hb:Below w.heap.size w w'):Both w0 w' F R s G B t:=⟨h.one.kept hb,h.two.kept hb,h.apart,h.above1,h.above2,kept_trans h.below hb⟩
theorem Both.turn1 {F':Nat→Prop} {s':NS} (h:Both w0 w F R s G B t) (hn:NodeAt w' F' R s') (ht:Turn F F' w w'):Both w0 w' F' R s' G B t:=
 ⟨hn,h.two.turn ht h.apart.symm,ht.apart h.apart h.two.there,ht.above h.above1 h.below.size,h.above2,h.below.trans (ht.below h.above1 h.below.size)⟩
theorem Both.turn2 {G':Nat→Prop} {t':NS} (h:Both w0 w F R s G B t) (hn:RN w' G' B t') (hg:Gain B G G' w w'):Both w0 w' F R s G' B t':=
 have ht:=hg.turn h.two.gB
 ⟨h.one.turn ht h.apart,hn,(ht.apart h.apart.symm h.one.there).symm,h.above1,ht.above h.above2 h.below.size,h.below.trans (ht.below h.above2 h.below.size)⟩
theorem Both.ltB (h:Both w0 w F R s G B t):w0.heap.size≤B:=h.above2 B h.two.gB
theorem both_new {w0:World} (salt:UInt64) (w:World) (h:Mine w0 w F R s):Calls Tryz.prog 7 #[.int .u64 salt.toNat] w fun e w'=>∃ B,e=.returned (.pointer (some ⟨B,0,none⟩))∧Both w0 w' F R s (fun k=>k=B) B (NS.new salt):=
 (rnew_any salt w).mono fun _ _ ⟨B,h1,h2,h3,h4⟩=>⟨B,h1,h.node.kept h4,h2,fun k hf hg=>by have:=h.node.there k hf;omega,h.above,fun k hk=>by rw [hk,h3];exact h.below.size,kept_trans h.below h4⟩
theorem all_any {wr:World} {G1:Nat→Prop} {u:NS} (h:RN wr G1 B u) (hn:u.A.length≤2932031007402) {la:Option Addr} {ll lc:Nat} (hc:wr.cell? ⟨B,3,none⟩=some (.slice la ll lc)) :
  Calls Tryz.prog 13 #[.agg #[.slice la ll lc]] wr (GaveIds wr (u.A.map Ju.idD)):=by
 obtain ⟨a',c',l,hc',hl,hrow⟩:=h.led
 rw [hc] at hc'
 simp only [Option.some.injEq,Value.slice.injEq] at hc'
 obtain ⟨rfl,rfl,rfl⟩:=hc'
 rw [← hl] at hn ⊢
 rw [Ju.dOf_len] at hn
 exact Ju.refAllJ_any _ wr hrow hn
theorem ids_have {w:World} {C:Nat} {a:Option Addr} {cap:Nat} {l:List UInt64} (h:OwnIds w C (.slice a l.length cap) l):IdsAt w a l:=by
 obtain ⟨a',c',e,_,hi,_⟩:=owns_idsAt h
 simp only [Value.slice.injEq] at e
 rw [e.1]
 exact hi
structure BInv (k:Nat) (s:NS):Prop where
 inv:NInv k s
 pool:PInv s
end Go.Proofs.YtlboemhbealnmaaGreat
set_option maxRecDepth 20000
namespace Go.Proofs.YtlboemhbealnmaaGreat
open Go.RowKit Go.Maps
set_option maxRecDepth 20000 in
set_option maxHeartbeats 4000000 in
theorem nodeTells_walk (salt:UInt64) (l:List ActD) (a:Option Addr) (cap:Nat) (peer:Int) (hl:l.length≤2932031007402) (_hpr:-9223372036854775808≤peer∧peer≤9223372036854775807) (w:World) (hi:ActsAt w a l):Calls Tryz.prog 4 #[.int .u64 salt.toNat,.slice a l.length cap,.int .i64 peer] w fun e w'=>e=.returned (.bool true)∧Below w.heap.size w w':=by
 have HI:=Lib.hid hi
 clear hi
 go_enter Tryz.func4,Tryz.ntmps4
 go_wp2_with fail
 with_reducible refine (mine_new salt _ (Below.refl _ _)).mono ?_
 rintro e w2 ⟨R,F,rfl,h2,_,_⟩
 have H2:=Lib.hid h2
 clear h2
 go_wp2_with fail
 with_reducible refine (both_new salt _ H2.out).mono ?_
 rintro e w3 ⟨B,rfl,h3⟩
 have H3:=Lib.hid h3
 clear h3
 go_wp2_with fail
 go_loopw [27] (fun i wr=>∃ (k:Nat) (F1 G1:Nat→Prop) (u:NS),k≤l.length∧i=.int .i64 k∧Hid (Both w wr F1 R u G1 B u)∧Hid (BInv k u)) (fun i _=>l.length - (intOf i).toNat)
 case atStart=>exact ⟨0,F,_,NS.new salt,Nat.zero_le _,rfl,H3,Lib.hid ⟨inv_new salt,pinv_new salt⟩⟩
 case round=>
  obtain ⟨k,F1,G1,u,hk,rfl,H4,HN4⟩:=hrel
  by_cases hkl:k < l.length
  ·obtain ⟨⟨g,o,rfl,hg,c0⟩,hs⟩:=HI.out k hkl
   obtain ⟨y,hy⟩:∃ y,l[k]=y:=⟨_,rfl⟩
   rw [hy] at c0 hs
   obtain ⟨c0,c1,c2,c3,c4⟩:=c0
   have k0:=cell_later H4.out.below c0
   have k1:=cell_later H4.out.below c1
   have k2:=cell_later H4.out.below c2
   have k3:=cell_later H4.out.below c3
   have k4:=cell_later H4.out.below c4
   have l5:=(cell_spot k0).2
   obtain ⟨wy,hwy⟩:∃ wy,wr.alloc (.cells #[.int .i64 y.kind,.int .i64 y.peer,.int .i64 y.n,.bool y.flag,.string y.bytes] 29)=wy:=⟨_,rfl⟩
   have hby:Below wr.heap.size wr wy:=hwy▸kept_new _ _
   obtain ⟨y0,y1,y2,y3,y4⟩:=box_act wr y
   rw [hwy] at y0 y1 y2 y3 y4
   have l6:=(cell_spot y0).2
   have H5:=Lib.hid (H4.out.kept hby)
   have HNN:Hid (BInv (k+1) (u.did y).1):=Lib.hid ⟨did_inv HN4.out.inv H4.out.one.good.T y,HN4.out.pool.did HN4.out.inv.fly H4.out.one.good.T y⟩
   have hk2:k≤2950000000000:=by omega
   have HNX:Hid (¬ F1 wr.heap.size∧wr.heap.size≠B):=Lib.hid ⟨fun hf=>by have:=H4.out.one.there _ hf;omega,by have:=H4.out.two.lt;omega⟩
   obtain ⟨q1,q2,q3,hq⟩:∃ q1 q2 q3,u.did y=(q1,q2,q3):=⟨_,_,_,rfl⟩
   have HQ:=Lib.hid hq
   rw [hq] at HNN
   clear hy c0 c1 c2 c3 c4 hby hq
   go_wp2_with fail
   with_reducible refine (ldid_any y k hk2 HN4.out.inv hs _ HQ.out _ H5.out.one).mono ?_
   rintro e w6 ⟨v6,F6,rfl,ho6,h6,t6,hn6⟩
   simp only at ho6 h6 ⊢
   obtain ⟨a6,c6,rfl,_,hat6⟩:=owns_outsAt ho6
   have H6:=Lib.hid (H5.out.turn1 h6 t6)
   have HO6:=Lib.hid ho6
   have e6:=t6.block wr.heap.size l6 HNX.out.1
   have z0:=(World.cell?_of_block (w:=wy) (a:=⟨wr.heap.size,0,none⟩) e6).trans y0
   have z1:=(World.cell?_of_block (w:=wy) (a:=⟨wr.heap.size,1,none⟩) e6).trans y1
   have z2:=(World.cell?_of_block (w:=wy) (a:=⟨wr.heap.size,2,none⟩) e6).trans y2
   have z3:=(World.cell?_of_block (w:=wy) (a:=⟨wr.heap.size,3,none⟩) e6).trans y3
   have z4:=(World.cell?_of_block (w:=wy) (a:=⟨wr.heap.size,4,none⟩) e6).trans y4
   have l7:=(cell_spot z0).2
   have hyB:B < wy.heap.size:=H5.out.two.lt
   have HYB:=Lib.hid hyB
   clear h6 t6 hn6 e6 y0 y1 y2 y3 y4 hat6 ho6 hyB
   go_wp2_with fail
   with_reducible refine (rdo_any y k (by omega) HN4.out.inv HN4.out.pool hs _ HQ.out _ H6.out.two).mono ?_
   rintro e w7 ⟨v7,G7,rfl,ho7,h7,t7⟩
   simp only at ho7 h7 ⊢
   obtain ⟨a7,c7,rfl,_,hat7⟩:=owns_outsAt ho7
   have H7:=Lib.hid (H6.out.turn2 h7 t7)
   have ho67:OwnOuts w7 wy.heap.size (.slice a6 q2.length c6) q2:=own_same HO6.out fun g hgg=>t7.block g (HO6.out.lt g hgg).2 (by have:=(HO6.out.lt g hgg).1;have:=HYB.out;omega)
   obtain ⟨a6',c6',e6',_,hat6⟩:=owns_outsAt ho67
   simp only [Value.slice.injEq,true_and] at e6'
   obtain ⟨rfl,rfl⟩:=e6'
   have hql:q2.length≤1000000:=did_few HQ.out
   have hbd:Below w7.heap.size w7 w7.drew:=(Below.refl _ _).drew
   have HB0:=Lib.hid (H7.out.kept hbd)
   have HPL:Hid ((Ho.allL q1.P).length≤maxLen):=Lib.hid (by have h1:=Ho.allL_len q1.P;have h2:=HB0.out.one.good.P.len;have h3:maxLen=9223372036854775807:=rfl;omega)
   have u1:=kept_cell hbd ((World.cell?_of_block (w:=w6) (a:=⟨wr.heap.size,1,none⟩) (t7.block wr.heap.size l7 HNX.out.2)).trans z1)
   clear h7 t7 ho7 hat7 ho67 hat6 hbd z0 z2 z3 z4 l7
   go_loud (go_wp2_with fail)
   go_region_law (first
    | (go_simp;go_at_call 16;(with_reducible refine (orphans_any (s:=q1) _ HB0.out.one).mono ?_);rintro e wa ⟨aa,ca,rfl,hoa,hba⟩;have HIa:=Lib.hid (ids_have hoa);have HBa:=Lib.hid (HB0.out.kept hba);have ua:=kept_cell hba u1;clear hoa hba)
    | (go_simp;go_at_call 17;(with_reducible refine (r_allP (s:=q1) _ HBa.out.two).mono ?_);rintro e wl ⟨al,cl,rfl,hol,hbl⟩;have HIl:=Lib.hid (ids_have hol);have HBl:=Lib.hid (HBa.out.kept hbl);have HIa2:=Lib.hid (idsAt_kept hbl HIa.out);have ul:=kept_cell hbl ua;clear hol hbl)
    | (go_simp;go_at_call 11;have hE:=eqID_is (Ho.allL q1.P) (Ho.allL q1.P) aa al ca cl wl true HPL.out HIa2.out HIl.out (beq_self_eq_true _);(with_reducible refine hE.mono ?_);clear hE;rintro e we2 ⟨rfl,rfl⟩))
   all_goals
    go_wp2_with fail
    obtain ⟨wm,hwm⟩:∃ wm,wl.alloc (.cells #[.int .i64 peer,.int .i64 y.peer] 3)=wm:=⟨_,rfl⟩
    have hbm:Below wl.heap.size wl wm:=hwm▸kept_new _ _
    have p0:wm.cell? ⟨wl.heap.size,0,none⟩=some (.int .i64 peer):=by rw [← hwm];simp [go_sem]
    have p1:wm.cell? ⟨wl.heap.size,1,none⟩=some (.int .i64 y.peer):=by rw [← hwm];simp [go_sem]
    rw [hwm]
    have HBm:=Lib.hid (HBl.out.kept hbm)
    have HPP:=Lib.hid (And.intro p0 p1)
    clear p0 p1 hbm hwm ul u1
    go_loopw [50] (fun i wz=>∃ k2:Nat,k2≤2∧i=.int .i64 k2∧Hid (Both w wz F6 R q1 G7 B q1)∧Hid (wz.cell? ⟨wl.heap.size,0,none⟩=some (.int .i64 peer)∧wz.cell? ⟨wl.heap.size,1,none⟩=some (.int .i64 y.peer))) (fun i _=>2 - (intOf i).toNat)
    case atStart=>exact ⟨0,by omega,rfl,HBm,HPP⟩
    case round=>
     obtain ⟨k2,hk2',rfl,HBz,HPz⟩:=hrel
     by_cases hk3:k2 < 2
     ·obtain ⟨p,hp⟩:∃ p:Int,wr.cell? ⟨wl.heap.size,k2,none⟩=some (.int .i64 p):=by
       rcases (show k2=0∨k2=1 by omega) with rfl | rfl
       ·exact ⟨_,HPz.out.1⟩
       ·exact ⟨_,HPz.out.2⟩
      have hlp:=(cell_spot hp).2
      go_wp2_with fail
      obtain ⟨n1,m1,k1,hk⟩:∃ n m k,(if Tr.goodP p then (((q1.T.filter fun e=>e.peer == p.toNat).length:Int),((q1.T.filter fun e=>e.peer == p.toNat && e.st == 2).length:Int),(0:Int)) else (0,0,1))=(n,m,k):=⟨_,_,_,rfl⟩
      have HK:=Lib.hid hk
      clear hk
      with_reducible refine (countsN_any (s:=q1) p n1 m1 k1 HK.out _ HBz.out.one).mono ?_
      rintro e wx ⟨rfl,hbx⟩
      have HBx:=Lib.hid (HBz.out.kept hbx)
      have HPx:=Lib.hid (And.intro (kept_cell hbx HPz.out.1) (kept_cell hbx HPz.out.2))
      clear hbx hp
      go_wp2_with fail
      with_reducible refine (r_counts (s:=q1) p n1 m1 k1 HK.out _ HBx.out.two).mono ?_
      rintro e wv ⟨rfl,hbv⟩
      have HBv:=Lib.hid (HBx.out.kept hbv)
      have HPv:=Lib.hid (And.intro (kept_cell hbv HPx.out.1) (kept_cell hbv HPx.out.2))
      clear hbv
      go_wp2_with fail
      go_roundw
      case rel=>exact ⟨k2+1,by omega,by go_num,HBv,HPv⟩
      case measure=>simp [intOf];omega
     ·go_wp2_with fail
      go_roundw
      case rel=>exact ⟨k+1,F6,G7,q1,by omega,by go_num,HBz,HNN⟩
      case measure=>simp [intOf];omega
  ·go_wp2_with fail
   have HJ:Hid (u.join (-1) true=(u,1)):=Lib.hid (by unfold NS.join;rw [if_pos (by omega)])
   with_reducible refine (join_any (-1) true _ HJ.out _ H4.out.one).mono ?_
   rintro e w5 ⟨rfl,F5,h5,t5⟩
   have HB5:=Lib.hid (H4.out.turn1 h5 t5).below
   clear h5 t5
   go_wp2_with fail
   go_ret
   exact ⟨rfl,HB5.out⟩
end Go.Proofs.YtlboemhbealnmaaGreat
