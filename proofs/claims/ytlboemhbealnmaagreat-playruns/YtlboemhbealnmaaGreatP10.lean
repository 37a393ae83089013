import Derived.Test.YtlboemhbealnmaaGreatP7
import Derived.Test.YtlboemhbealnmaaGreatP9
import Derived.Deep.RegionHeld3
import Derived.Test.YtlboemhbealnmaaGreatP8
set_option maxRecDepth 20000
namespace Go.Proofs.YtlboemhbealnmaaGreat.Tr
open Go.RowKit Go.Maps
def cmp3 (a b:Int):Int:=if a < b then -1 else if b < a then 1 else 0
theorem compareU_any (x y:UInt64) (c:Int) (hc:cmp3 x.toNat y.toNat=c) (w:World):Calls Tryz.prog 220 #[.int .u64 x.toNat,.int .u64 y.toNat] w fun e w'=>e=.returned (.int .i64 c)∧w=w':=by
 have HC:=Lib.hid hc
 clear hc
 by_cases h1:(x.toNat:Int) < y.toNat
 ·have HE:Hid ((-1:Int)=c):=Lib.hid (by rw [← HC.out];unfold cmp3;rw [if_pos h1])
  go_enter Tryz.func220,Tryz.ntmps220
  go_wp2
  go_ret
  exact ⟨ret_i64 HE.out,rfl⟩
 ·by_cases h2:(x.toNat:Int) > y.toNat
  ·have HE:Hid ((1:Int)=c):=Lib.hid (by rw [← HC.out];unfold cmp3;rw [if_neg h1,if_pos h2])
   go_enter Tryz.func220,Tryz.ntmps220
   go_wp2
   go_ret
   exact ⟨ret_i64 HE.out,rfl⟩
  ·have HE:Hid ((0:Int)=c):=Lib.hid (by rw [← HC.out];unfold cmp3;rw [if_neg h1,if_neg h2])
   go_enter Tryz.func220,Tryz.ntmps220
   go_wp2
   go_ret
   exact ⟨ret_i64 HE.out,rfl⟩
theorem compareI_any (x y:Int) (c:Int) (hc:cmp3 x y=c) (w:World):Calls Tryz.prog 222 #[.int .i64 x,.int .i64 y] w fun e w'=>e=.returned (.int .i64 c)∧w=w':=by
 have HC:=Lib.hid hc
 clear hc
 by_cases h1:x < y
 ·have HE:Hid ((-1:Int)=c):=Lib.hid (by rw [← HC.out];unfold cmp3;rw [if_pos h1])
  go_enter Tryz.func222,Tryz.ntmps222
  go_wp2
  go_ret
  exact ⟨ret_i64 HE.out,rfl⟩
 ·by_cases h2:x > y
  ·have HE:Hid ((1:Int)=c):=Lib.hid (by rw [← HC.out];unfold cmp3;rw [if_neg h1,if_pos h2])
   go_enter Tryz.func222,Tryz.ntmps222
   go_wp2
   go_ret
   exact ⟨ret_i64 HE.out,rfl⟩
  ·have HE:Hid ((0:Int)=c):=Lib.hid (by rw [← HC.out];unfold cmp3;rw [if_neg h1,if_neg h2])
   go_enter Tryz.func222,Tryz.ntmps222
   go_wp2
   go_ret
   exact ⟨ret_i64 HE.out,rfl⟩
theorem or_any (x y r:Int) (hr:(if x=0 then y else x)=r) (g:Nat) (w:World) (c0:w.cell? ⟨g,0,none⟩=some (.int .i64 x)) (c1:w.cell? ⟨g,1,none⟩=some (.int .i64 y)):Calls Tryz.prog 219 #[.slice (some ⟨g,0,none⟩) 2 2] w fun e w'=>e=.returned (.int .i64 r)∧w=w':=by
 have hg:=(cell_spot c0).2
 have HR:=Lib.hid hr
 clear hr
 go_enter Tryz.func219,Tryz.ntmps219
 go_wp2
 go_loop [8] (fun i=>∃ k:Nat,k≤2∧i=.int .i64 k∧Hid (1≤k→x=0)∧Hid (2≤k→y=0)) (fun i=>2 - (intOf i).toNat)
 case atStart=>exact ⟨0,by omega,rfl,Lib.hid (fun h=>by omega),Lib.hid (fun h=>by omega)⟩
 case round=>
  obtain ⟨k,hk,rfl,HX,HY⟩:=hrel
  match k,hk with
  | 0,_=>
   by_cases hx:x=0
   ·have hxb:(x != 0)=false:=by simpa using hx
    have HX0:=Lib.hid hx
    clear hx
    go_wp2
    go_round
    case rel=>exact ⟨1,by omega,rfl,Lib.hid (fun _=>HX0.out),Lib.hid (fun h=>by omega)⟩
    case measure=>simp [intOf]
   ·have hxb:(x != 0)=true:=by simpa using hx
    have HX0:=Lib.hid hx
    clear hx
    go_wp2
    go_ret
    exact ⟨ret_i64 (by rw [← HR.out,if_neg HX0.out]),rfl⟩
  | 1,_=>
   by_cases hy:y=0
   ·have hyb:(y != 0)=false:=by simpa using hy
    have HY0:=Lib.hid hy
    clear hy
    go_wp2
    go_round
    case rel=>exact ⟨2,by omega,rfl,Lib.hid (fun _=>HX.out (by omega)),Lib.hid (fun _=>HY0.out)⟩
    case measure=>simp [intOf]
   ·have hyb:(y != 0)=true:=by simpa using hy
    have HY0:=Lib.hid hy
    clear hy
    go_wp2
    go_ret
    exact ⟨ret_i64 (by rw [← HR.out,if_pos (HX.out (by omega))]),rfl⟩
  | 2,_=>
   go_wp2
   go_ret
   exact ⟨ret_i64 (by rw [← HR.out,if_pos (HX.out (by omega)),HY.out (by omega)]),rfl⟩
def rankU (salt:UInt64) (e:TEnt):UInt64:=mixU salt (UInt64.ofNat e.peer) e.id
theorem conv_peer (p:Nat) (h:p < 8):IntKind.u64.wrap (p:Int)=((UInt64.ofNat p).toNat:Int):=by
 rw [UInt64.toNat_ofNat_of_lt' (by show p < 18446744073709551616;omega)]
 show (p:Int) % 18446744073709551616=_
 omega
set_option maxRecDepth 20000 in
theorem rank_any (salt:UInt64) (R:Loc) (e:TEnt) (k:UInt64) (hk:rankU salt e=k) (hp:e.peer < 8) (w:World) (hs:w.cell? ⟨R.b,17,none⟩=some (.int .u64 salt.toNat)):Calls Tryz.prog 221 #[.pointer (some ⟨R.b,17,none⟩),.agg #[.int .i64 e.peer,.int .u64 e.id.toNat,.bool e.pref,.int .i64 e.st,.int .i64 e.till]] w fun x w'=>x=.returned (.int .u64 k.toNat)∧Below w.heap.size w w':=by
 have hR:=(cell_spot hs).2
 have hc:=conv_peer e.peer hp
 have HK:=Lib.hid hk
 clear hk
 go_enter Tryz.func221,Tryz.ntmps221
 obtain ⟨w2,hw2⟩:∃ w2,(w.alloc (.cells #[.int .i64 e.peer,.int .u64 e.id.toNat,.bool e.pref,.int .i64 e.st,.int .i64 e.till] 142)).drew=w2:=⟨_,rfl⟩
 have hb2:Below w.heap.size w w2:=hw2▸(kept_new _ _).drew
 have d0:w2.cell? ⟨w.heap.size,0,none⟩=some (.int .i64 e.peer):=hw2▸(by show (w.alloc _).cell? _=_;simp [go_sem])
 have d1:w2.cell? ⟨w.heap.size,1,none⟩=some (.int .u64 e.id.toNat):=hw2▸(by show (w.alloc _).cell? _=_;simp [go_sem])
 have hs2:=kept_cell hb2 hs
 have hR2:=(cell_spot hs2).2
 have hl2:=(cell_spot d0).2
 have HW2:=Lib.hid hw2
 clear hw2
 go_wp2_with fail
 refine region_tail 9 (by kernel_rfl) (by kernel_rfl) HW2.out ?_
 simp only [List.take_succ_cons,List.take_zero,List.drop_succ_cons,List.drop_zero]
 repeat still_step
 refine wpStill_nil ?_
 go_wp2_with fail
 rw [show ((e.peer:Int) % 18446744073709551616)=((UInt64.ofNat e.peer).toNat:Int) from hc]
 with_reducible refine (mix_any salt (UInt64.ofNat e.peer) e.id _).mono ?_
 rintro y w3 ⟨rfl,rfl⟩
 go_wp2_with fail
 go_ret
 exact ⟨ret_u64 (by rw [← HK.out];rfl),hb2⟩
def beatsB (salt:UInt64) (a b:TEnt):Bool:=if a.pref=b.pref then (if rankU salt a=rankU salt b then decide (a.peer < b.peer) else decide ((rankU salt b).toNat < (rankU salt a).toNat)) else a.pref
theorem cmp3_neg (a b:Int):cmp3 a b < 0 ↔ a < b:=by unfold cmp3;split <;> (try split) <;> omega
theorem cmp3_zero (a b:Int):cmp3 a b=0 ↔ a=b:=by unfold cmp3;split <;> (try split) <;> omega
theorem beats_or {salt:UInt64} {a b:TEnt} (h:a.pref=b.pref):decide ((if cmp3 (rankU salt b).toNat (rankU salt a).toNat=0 then cmp3 a.peer b.peer else cmp3 (rankU salt b).toNat (rankU salt a).toNat) < 0)=beatsB salt a b:=by
 unfold beatsB
 rw [if_pos h]
 generalize rankU salt a=x
 generalize rankU salt b=y
 by_cases hr:x=y
 ·rw [if_pos hr,hr,if_pos ((cmp3_zero _ _).2 rfl),decide_eq_decide,cmp3_neg]
  omega
 ·have hne:x.toNat≠y.toNat:=fun e=>hr (UInt64.toNat_inj.1 e)
  rw [if_neg hr,if_neg (fun e=>by have:=(cmp3_zero _ _).1 e;omega),decide_eq_decide,cmp3_neg]
  omega
theorem two_kept {w w1 w2:World} {A B:Nat} {a0 a1 a2 a3 a4 b0 b1 b2 b3 b4:Value} (h0:w.cell? ⟨A,0,none⟩=some a0) (h1:w.cell? ⟨A,1,none⟩=some a1) (h2:w.cell? ⟨A,2,none⟩=some a2) (h3:w.cell? ⟨A,3,none⟩=some a3) (h4:w.cell? ⟨A,4,none⟩=some a4)
  (k0:w.cell? ⟨B,0,none⟩=some b0) (k1:w.cell? ⟨B,1,none⟩=some b1) (k2:w.cell? ⟨B,2,none⟩=some b2) (k3:w.cell? ⟨B,3,none⟩=some b3) (k4:w.cell? ⟨B,4,none⟩=some b4) (hb:Below w.heap.size w w1) (hb2:Below w1.heap.size w1 w2) :
  ((w2.cell? ⟨A,0,none⟩=some a0∧w2.cell? ⟨A,1,none⟩=some a1∧w2.cell? ⟨A,2,none⟩=some a2∧w2.cell? ⟨A,3,none⟩=some a3∧w2.cell? ⟨A,4,none⟩=some a4) ∧
   (w2.cell? ⟨B,0,none⟩=some b0∧w2.cell? ⟨B,1,none⟩=some b1∧w2.cell? ⟨B,2,none⟩=some b2∧w2.cell? ⟨B,3,none⟩=some b3∧w2.cell? ⟨B,4,none⟩=some b4))∧Below w.heap.size w w2:=by
 have h:=kept_trans hb hb2
 exact ⟨⟨⟨kept_cell h h0,kept_cell h h1,kept_cell h h2,kept_cell h h3,kept_cell h h4⟩,⟨kept_cell h k0,kept_cell h k1,kept_cell h k2,kept_cell h k3,kept_cell h k4⟩⟩,h⟩
set_option maxHeartbeats 1600000 in
theorem compare_any (salt:UInt64) (R:Loc) (a b:TEnt) (ha:a.peer < 8) (hb:b.peer < 8) (w:World) (hs:w.cell? ⟨R.b,17,none⟩=some (.int .u64 salt.toNat)) :
  Calls Tryz.prog 203 #[.pointer (some ⟨R.b,17,none⟩),entV a,entV b] w fun e w'=>∃ c,e=.returned (.int .i64 c)∧decide (c < 0)=beatsB salt a b∧Below w.heap.size w w':=by
 have hR:=(cell_spot hs).2
 by_cases hpr:a.pref=b.pref
 ·have HB:=Lib.hid (beats_or (salt:=salt) hpr)
  obtain ⟨ka,hka⟩:∃ k,rankU salt a=k:=⟨_,rfl⟩
  obtain ⟨kb,hkb⟩:∃ k,rankU salt b=k:=⟨_,rfl⟩
  rw [hka,hkb] at HB
  obtain ⟨c1,hc1⟩:∃ c,cmp3 kb.toNat ka.toNat=c:=⟨_,rfl⟩
  obtain ⟨c2,hc2⟩:∃ c,cmp3 a.peer b.peer=c:=⟨_,rfl⟩
  rw [hc1,hc2] at HB
  obtain ⟨r,hr⟩:∃ r,(if c1=0 then c2 else c1)=r:=⟨_,rfl⟩
  rw [hr] at HB
  have HRR:=Lib.hid hr
  have HKA:=Lib.hid hka
  have HKB:=Lib.hid hkb
  have HC1:=Lib.hid hc1
  have HC2:=Lib.hid hc2
  have HSA:=Lib.hid ha
  have HSB:=Lib.hid hb
  have hpb:(!(a.pref == b.pref))=false:=by simp [hpr]
  clear hka hkb hc1 hc2 ha hb hpr hr
  unfold entV
  go_enter Tryz.func203,Tryz.ntmps203
  go_wp2_with fail
  obtain ⟨wX,hwX⟩:∃ x,x=((w.alloc (.cells #[.int .i64 a.peer,.int .u64 a.id.toNat,.bool a.pref,.int .i64 a.st,.int .i64 a.till] 142)).alloc (.cells #[.int .i64 b.peer,.int .u64 b.id.toNat,.bool b.pref,.int .i64 b.st,.int .i64 b.till] 142)):=⟨_,rfl⟩
  have hbX:Below w.heap.size w wX:=hwX▸kept_alloc (kept_new _ _) _
  have hbX':w.heap.size≤wX.heap.size:=hbX.size
  obtain ⟨a0,a1,a2,a3,a4⟩:EntAt wX w.heap.size 0 a:=hwX▸⟨by simp [go_sem],by simp [go_sem],by simp [go_sem],by simp [go_sem],by simp [go_sem]⟩
  obtain ⟨b0,b1,b2,b3,b4⟩:EntAt wX (w.heap.size+1) 0 b:=hwX▸⟨by simp [go_sem],by simp [go_sem],by simp [go_sem],by simp [go_sem],by simp [go_sem]⟩
  have hsX:=kept_cell hbX hs
  rw [← hwX]
  clear hwX hs
  go_region_held3 (fun w'=>((w'.cell? ⟨w.heap.size,0,none⟩=some (.int .i64 a.peer)∧w'.cell? ⟨w.heap.size,1,none⟩=some (.int .u64 a.id.toNat)∧w'.cell? ⟨w.heap.size,2,none⟩=some (.bool a.pref)∧w'.cell? ⟨w.heap.size,3,none⟩=some (.int .i64 a.st)∧w'.cell? ⟨w.heap.size,4,none⟩=some (.int .i64 a.till)) ∧
    (w'.cell? ⟨w.heap.size+1,0,none⟩=some (.int .i64 b.peer)∧w'.cell? ⟨w.heap.size+1,1,none⟩=some (.int .u64 b.id.toNat)∧w'.cell? ⟨w.heap.size+1,2,none⟩=some (.bool b.pref)∧w'.cell? ⟨w.heap.size+1,3,none⟩=some (.int .i64 b.st)∧w'.cell? ⟨w.heap.size+1,4,none⟩=some (.int .i64 b.till)))∧Below wX.heap.size wX w')
   (first | exact ⟨⟨⟨a0,a1,a2,a3,a4⟩,⟨b0,b1,b2,b3,b4⟩⟩,(Below.refl _ _).drew⟩ | exact two_kept a0 a1 a2 a3 a4 b0 b1 b2 b3 b4 ((Below.refl _ _).drew) hb2 | (go_split_ands;exact two_kept a0 a1 a2 a3 a4 b0 b1 b2 b3 b4 (by assumption) hb2) | (go_split_ands;exact two_kept a0 a1 a2 a3 a4 b0 b1 b2 b3 b4 (by assumption) (Below.refl _ _)) | (go_split_ands;exact two_kept a0 a1 a2 a3 a4 b0 b1 b2 b3 b4 (by assumption) (kept_new _ _)))
   (first
    | (go_at_call 221;(go_split_ands;(with_reducible refine (rank_any salt R b kb HKB.out HSB.out _ (kept_cell (by assumption) hsX)).mono ?_);rintro e w2 ⟨rfl,hb2⟩))
    | (go_at_call 221;(go_split_ands;(with_reducible refine (rank_any salt R a ka HKA.out HSA.out _ (kept_cell (by assumption) hsX)).mono ?_);rintro e w2 ⟨rfl,hb2⟩))
    | (go_at_call 220;(go_split_ands;(with_reducible refine (compareU_any kb ka c1 HC1.out _).mono ?_);rintro e w2 ⟨rfl,rfl⟩))
    | (go_at_call 222;(go_split_ands;(with_reducible refine (compareI_any a.peer b.peer c2 HC2.out _).mono ?_);rintro e w2 ⟨rfl,rfl⟩))
    | (go_at_call 219;(go_split_ands;(with_reducible refine (or_any c1 c2 r HRR.out _ _ (by simp [go_sem]) (by simp [go_sem])).mono ?_);rintro e w2 ⟨rfl,rfl⟩)))
  go_split_ands
  go_wp2_with fail
  go_ret
  exact ⟨r,rfl,HB.out,kept_trans hbX (by assumption)⟩
 ·have HB:Hid (beatsB salt a b=a.pref):=Lib.hid (by unfold beatsB;rw [if_neg hpr])
  unfold entV
  cases hap:a.pref with
  | true=>
   have hbp:b.pref=false:=by
    cases hq:b.pref with
    | true=>exact absurd (hap.trans hq.symm) hpr
    | false=>rfl
   rw [hap] at HB
   clear hpr ha hb
   go_enter Tryz.func203,Tryz.ntmps203
   go_wp2
   go_ret
   exact ⟨-1,rfl,by rw [HB.out];rfl,kept_alloc (kept_new _ _) _⟩
  | false=>
   have hbp:b.pref=true:=by
    cases hq:b.pref with
    | false=>exact absurd (hap.trans hq.symm) hpr
    | true=>rfl
   rw [hap] at HB
   clear hpr ha hb
   go_enter Tryz.func203,Tryz.ntmps203
   go_wp2
   go_ret
   exact ⟨1,rfl,by rw [HB.out];rfl,kept_alloc (kept_new _ _) _⟩
end Go.Proofs.YtlboemhbealnmaaGreat.Tr
namespace Go.Proofs.YtlboemhbealnmaaGreat.Tr
open Go.RowKit Go.Maps
variable {w w':World} {F:Nat→Prop} {R:Loc} {it:Option It} {s:TS} {b:Nat} {ev:UInt64→Option Value} {pv:Nat→Value}
theorem info_ent2:(Tryz.prog.info? 142).map (fun i=>(i.zero,i.size,i.bytes))=some (some (.agg #[.int .i64 0,.int .u64 0,.bool false,.int .i64 0,.int .i64 0]),5,40):=by kernel_rfl
theorem entC_one (l:List TEnt):∀ u ∈ entsC l,u.oneCell'=true:=fun u hu=>by
 obtain ⟨e,_,he⟩:=List.mem_flatMap.1 hu
 simp only [entC,List.mem_cons,List.not_mem_nil,or_false] at he
 rcases he with rfl | rfl | rfl | rfl | rfl <;> rfl
theorem own_zero {B:Nat} {e:TypeId} {size n:Nat} {v:Value} {xs:List Value} (h:w.ownsRow B e size v n xs):w.ownsRow 0 e size v n xs:=⟨h.1,h.2.imp id fun ⟨g,cap,cur,h1,_,h3⟩=>⟨g,cap,cur,h1,Nat.zero_le _,h3⟩⟩
theorem ents_nil_eq (w:World) (a:Option Addr) (l c:Nat):(binOp .eql 148 (.slice a l c) (.slice none 0 0)).run Tryz.prog w=.ok (.bool a.isNone) w:=by
 simp [binOp,run_equal_slice_nil w 148 _ a l c Tryz.underlying148]
theorem clone_any (l:List TEnt) (v:Value) (w:World) (hl:l.length≤8) (ho:OwnEnts w v l) (hne:v.ownBlock≠none→l≠[]) :
  Calls Tryz.prog 200 #[v] w fun e w'=>∃ a cap,e=.returned (.slice a l.length cap)∧(OwnEnts w' (.slice a l.length cap) l∧(∀ k,(Value.slice a l.length cap).ownBlock=some k→w.heap.size≤k)∧Below w.heap.size w w'):=by
 have hq:=ents_nil_eq
 rcases ho.2 with ⟨rfl,hn⟩ | ⟨g,cap,cur,rfl,_,hg,hnc,hcm,hcs,htk⟩
 ·obtain rfl:l=[]:=List.eq_nil_of_length_eq_zero hn
  have HE:Hid (∃ a cap,Ending.returned (.slice none 0 0)=.returned (.slice a ([]:List TEnt).length cap)∧(OwnEnts w (.slice a ([]:List TEnt).length cap) []∧(∀ k,(Value.slice a ([]:List TEnt).length cap).ownBlock=some k→w.heap.size≤k)∧Below w.heap.size w w)):=Lib.hid ⟨none,0,rfl,World.ownsRow_nil _ _ _ _,(fun k hk=>by cases hk),Below.refl _ _⟩
  go_enter Tryz.func200,Tryz.ntmps200
  go_wp2
  go_ret
  exact HE.out
 ·obtain ⟨iE,hiE,hz0,hz1,hz2⟩:=info_parts info_ent2
  have hpos:0 < l.length:=List.length_pos_iff.2 (hne (by simp [Value.ownBlock]))
  have HO:=Lib.hid ho
  have hnews:∀ j u,(entsC l)[j]?=some u→(w.alloc (.cells #[] 142)).cell? ((⟨g,0,none⟩:Addr).add j)=some u:=fun j u hj=>(HO.out.alloc _).cells rfl j u hj
  have hmade:(w.alloc (.cells #[] 142)).ownsRow w.heap.size 142 5 (.slice (some ⟨w.heap.size,0,none⟩) 0 0) 0 []:=World.ownsRow_made w #[] 0 (Nat.le_refl _) (Nat.zero_le _) rfl
  have HN:=Lib.hid hnews
  have HM:=Lib.hid hmade
  clear hg hcs htk ho hne hnews hmade
  go_enter Tryz.func200,Tryz.ntmps200
  go_wp2_with (at_builtin;refine wpList_append_lies _ rfl _ _ 148 rfl w.heap.size 142 iE _ 5 40 Tryz.underlying148 hiE hz0 hz1 hz2 rfl (by decide) (.slice (some ⟨w.heap.size,0,none⟩) 0 0) 0 [] rfl HM.out ⟨g,0,none⟩ l.length cap (entsC l) rfl (entsC_length l) HN.out (entC_one l) hpos (by unfold maxLen;omega) (by omega) (by simp) _ rfl ?_;intro g2 cap2 w2 hown2 hgrow2 hat2 hlt2)
  have HE:Hid (∃ a cap,Ending.returned (.slice (some ⟨g2,0,none⟩) l.length cap2)=.returned (.slice a l.length cap)∧(OwnEnts w2 (.slice a l.length cap) l∧(∀ k,(Value.slice a l.length cap).ownBlock=some k→w.heap.size≤k)∧Below w.heap.size w w2)):=Lib.hid (by
   rw [Nat.zero_add] at hown2
   refine ⟨some ⟨g2,0,none⟩,cap2,rfl,own_zero hown2,fun k hk=>(World.ownsRow.lt hown2 k hk).1,?_⟩
   have h1:Below w.heap.size w (w.alloc (.cells #[] 142)):=kept_new _ _
   exact h1.grown hgrow2 (by simp) (fun j hj=>by cases hj;exact Nat.le_refl _))
  clear hown2 hgrow2 hat2
  go_wp2
  go_ret
  exact HE.out
def minE (salt:UInt64) (m:TEnt) (l:List TEnt):TEnt:=l.foldl (fun m e=>if beatsB salt e m then e else m) m
theorem minE_snoc (salt:UInt64) (m:TEnt) (l:List TEnt) (e:TEnt):minE salt m (l ++ [e])=if beatsB salt e (minE salt m l) then e else minE salt m l:=by
 unfold minE
 rw [List.foldl_append]
 rfl
theorem minE_mem (salt:UInt64):∀ (l:List TEnt) (m:TEnt),minE salt m l=m∨minE salt m l ∈ l
 | [],m=>.inl rfl
 | a :: r,m=>by
  show minE salt (if beatsB salt a m then a else m) r=m∨minE salt (if beatsB salt a m then a else m) r ∈ a :: r
  rcases minE_mem salt r (if beatsB salt a m then a else m) with h | h
  ·rw [h]
   split
   ·exact .inr (by simp)
   ·exact .inl rfl
  ·exact .inr (by simp [h])
def VarIs (w:World) (B:Nat) (e:TEnt):Prop:=w.heap[B]?=some (.cells #[.int .i64 e.peer,.int .u64 e.id.toNat,.bool e.pref,.int .i64 e.st,.int .i64 e.till] 142 (0,0))
theorem varIs_at {B:Nat} {e:TEnt} (h:VarIs w B e):EntAt w B 0 e∧(∀ j,w.frozen? ⟨B,j,none⟩=false)∧B < w.heap.size:=
 ⟨⟨head_cell h 0,head_cell h 1,head_cell h 2,head_cell h 3,head_cell h 4⟩,fun j=>frozen_of_row w B j _ _ h,(Array.getElem?_eq_some_iff.1 h).1⟩
theorem varIs_kept {B:Nat} {e:TEnt} (h:VarIs w B e) (hb:Below w.heap.size w w'):VarIs w' B e:=(hb.block B (varIs_at h).2.2).trans h
def setV (w:World) (B:Nat) (e:TEnt):World:=
 ((((w.setCell ⟨B,0,none⟩ (.int .i64 e.peer)).setCell ⟨B,1,none⟩ (.int .u64 e.id.toNat)).setCell ⟨B,2,none⟩ (.bool e.pref)).setCell ⟨B,3,none⟩ (.int .i64 e.st)).setCell ⟨B,4,none⟩ (.int .i64 e.till)
theorem setV_is {B:Nat} {e:TEnt} (e':TEnt) (h:VarIs w B e):VarIs (setV w B e') B e':=
 heap_setCell_same _ B 4 _ _ _ (heap_setCell_same _ B 3 _ _ _ (heap_setCell_same _ B 2 _ _ _ (heap_setCell_same _ B 1 _ _ _ (heap_setCell_same w B 0 _ _ (.int .i64 e'.peer) h))))
theorem setV_other {B k:Nat} (e:TEnt) (hk:k≠B):(setV w B e).heap[k]?=w.heap[k]?:=
 (Below.heap_setCell _ ⟨B,4,none⟩ _ k hk).trans ((Below.heap_setCell _ ⟨B,3,none⟩ _ k hk).trans ((Below.heap_setCell _ ⟨B,2,none⟩ _ k hk).trans ((Below.heap_setCell _ ⟨B,1,none⟩ _ k hk).trans (Below.heap_setCell w ⟨B,0,none⟩ _ k hk))))
theorem setV_below {n B:Nat} {e:TEnt} {a:World} (h:Below n a w) (hB:n≤B):Below n a (setV w B e):=((((h.setCell hB _).setCell hB _).setCell hB _).setCell hB _).setCell hB _
theorem take_drop_step {α:Type} {l:List α} {k:Nat} (h1:1≤k) (h:k < l.length):(l.take (k+1)).drop 1=(l.take k).drop 1 ++ [l[k]]:=by
 rw [List.take_succ_eq_append_getElem h,List.drop_append_of_le_length (by rw [List.length_take];omega)]
theorem min_peer {salt:UInt64} {l l':List TEnt} {m:TEnt} (hm:m ∈ l) (hs:∀ e ∈ l',e ∈ l) (hp:∀ e ∈ l,e.peer < 8):(minE salt m l').peer < 8:=by
 rcases minE_mem salt l' m with h | h
 ·rw [h];exact hp m hm
 ·exact hp _ (hs _ h)
set_option maxRecDepth 20000 in
set_option maxHeartbeats 800000 in
theorem minFunc_any (salt:UInt64) (R:Loc) (l:List TEnt) (a:Option Addr) (cap:Nat) (hpos:0 < l.length) (hl:l.length≤8) (hp:∀ e ∈ l,e.peer < 8) (w:World) (hs:w.cell? ⟨R.b,17,none⟩=some (.int .u64 salt.toNat)) (hat:EntsAt w a l) :
  Calls Tryz.prog 202 #[.slice a l.length cap,.func (.func 203) #[.pointer (some ⟨R.b,17,none⟩)] #[]] w fun e w'=>e=.returned (entV (minE salt l[0] (l.drop 1)))∧Below w.heap.size w w':=by
 have hR:=(cell_spot hs).2
 obtain ⟨g,o,rfl,hg,z0,z1,z2,z3,z4⟩:=hat 0 hpos
 rw [Nat.zero_mul,Nat.add_zero] at z0 z1 z2 z3 z4
 have HP:=Lib.hid hp
 have HA:=Lib.hid hat
 have hnl:¬ ((l.length:Int) < 1):=by omega
 clear hp hat
 go_enter Tryz.func202,Tryz.ntmps202
 go_wp2
 go_loopw [6] (fun i wr=>∃ k:Nat,1≤k∧k≤l.length∧i=.int .i64 k∧Hid (VarIs wr w.heap.size ⟨0,0,false,0,0⟩)∧Hid (VarIs wr (w.heap.size+1) (minE salt l[0] ((l.take k).drop 1)))∧Hid (Below w.heap.size w wr)) (fun i _=>l.length - (intOf i).toNat)
 case atStart=>
  refine ⟨1,Nat.le_refl _,hpos,rfl,Lib.hid ?_,Lib.hid ?_,Lib.hid (kept_alloc (kept_new _ _) _)⟩
  ·exact (Below.heap_alloc _ _ _ (by simp)).trans (heap_alloc_new w _)
  ·have h1:minE salt l[0] ((l.take 1).drop 1)=l[0]:=by
    rw [List.drop_eq_nil_of_le (by rw [List.length_take];omega)]
    rfl
   rw [h1]
   have:=heap_alloc_new (w.alloc (.cells #[.int .i64 0,.int .u64 0,.bool false,.int .i64 0,.int .i64 0] 142)) (.cells #[.int .i64 l[0].peer,.int .u64 l[0].id.toNat,.bool l[0].pref,.int .i64 l[0].st,.int .i64 l[0].till] 142)
   simp only [World.size_alloc] at this
   exact this
 case round=>
  obtain ⟨k,hk1,hk,rfl,HV0,HV,HB⟩:=hrel
  obtain ⟨m,hm⟩:∃ m,minE salt l[0] ((l.take k).drop 1)=m:=⟨_,rfl⟩
  have hmp:m.peer < 8:=by
   rw [← hm]
   exact min_peer (List.getElem_mem hpos) (fun e he=>List.mem_of_mem_take (List.mem_of_mem_drop he)) HP.out
  rw [hm] at HV
  have HM:=Lib.hid hm
  clear hm
  by_cases hlt:k < l.length
  ·obtain ⟨w2,hw2⟩:∃ w2,wr.drew=w2:=⟨_,rfl⟩
   have hb2:Below wr.heap.size wr w2:=hw2▸(Below.refl _ _).drew
   have HV2:=varIs_kept HV.out hb2
   obtain ⟨⟨m0,m1,m2,m3,m4⟩,hmf,hml⟩:=varIs_at HV2
   obtain ⟨g',o',e',hg',hc5⟩:=entsAt_kept (kept_trans HB.out hb2) HA.out k hlt
   simp only [Option.some.injEq,Addr.mk.injEq,and_true] at e'
   obtain ⟨rfl,rfl⟩:=e'
   have hep:l[k].peer < 8:=HP.out _ (List.getElem_mem hlt)
   obtain ⟨e0,he0⟩:∃ e0,l[k]=e0:=⟨_,rfl⟩
   rw [he0] at hc5 hep
   obtain ⟨c0,c1,c2,c3,c4⟩:=hc5
   have HE0:=Lib.hid he0
   have hs2:=kept_cell (kept_trans HB.out hb2) hs
   have HW2:=Lib.hid hw2
   have HVV:=Lib.hid HV2
   have hki:(k:Int) < l.length:=by omega
   clear hw2 he0 HV2 hmf z0 z1 z2 z3 z4
   go_wp2_with fail
   refine region_tail 6 (by kernel_rfl) (by kernel_rfl) HW2.out ?_
   simp only [List.take_succ_cons,List.take_zero,List.drop_succ_cons,List.drop_zero]
   repeat still_step
   refine wpStill_nil ?_
   go_wp2_with fail
   refine (compare_any salt R e0 m hep hmp _ hs2).mono ?_
   rintro e w3 ⟨c,rfl,hcb,hb3⟩
   obtain ⟨⟨n0,n1,n2,n3,n4⟩,hnf,hnl3⟩:=varIs_at (varIs_kept HVV.out hb3)
   have f0:=hnf 0
   have f1:=hnf 1
   have f2:=hnf 2
   have f3:=hnf 3
   have f4:=hnf 4
   have k0:=kept_cell hb3 c0
   have k1:=kept_cell hb3 c1
   have k2:=kept_cell hb3 c2
   have k3:=kept_cell hb3 c3
   have k4:=kept_cell hb3 c4
   have hg3:=(cell_spot k0).2
   have hB3:=kept_trans (kept_trans HB.out hb2) hb3
   have hstep:=minE_snoc salt l[0] ((l.take k).drop 1) l[k]
   rw [← take_drop_step hk1 hlt,HM.out,HE0.out] at hstep
   have HB3:=Lib.hid hB3
   have HV03:=Lib.hid (varIs_kept (varIs_kept HV0.out hb2) hb3)
   have HV3:=Lib.hid (varIs_kept HVV.out hb3)
   by_cases hneg:c < 0
   ·rw [decide_eq_true hneg] at hcb
    rw [← hcb,if_pos rfl] at hstep
    have HS:=Lib.hid hstep
    clear hstep hcb hnf hB3 m0 m1 m2 m3 m4 c0 c1 c2 c3 c4
    go_wp2_with fail
    go_roundw
    case rel=>exact ⟨k+1,by omega,by omega,by go_num,Lib.hid ((setV_other e0 (by omega)).trans HV03.out),Lib.hid (by rw [HS.out];exact setV_is e0 HV3.out),Lib.hid (setV_below HB3.out (by omega))⟩
    case measure=>simp [intOf];omega
   ·rw [decide_eq_false hneg] at hcb
    rw [← hcb,if_neg (by decide)] at hstep
    have HS:=Lib.hid hstep
    clear hstep hcb hnf hB3 m0 m1 m2 m3 m4 c0 c1 c2 c3 c4
    go_wp2_with fail
    go_roundw
    case rel=>exact ⟨k+1,by omega,by omega,by go_num,HV03,Lib.hid (by rw [HS.out];exact HV3.out),HB3⟩
    case measure=>simp [intOf];omega
  ·obtain ⟨⟨m0,m1,m2,m3,m4⟩,hmf,hml⟩:=varIs_at HV.out
   obtain ⟨⟨n0,n1,n2,n3,n4⟩,hnf,hnl3⟩:=varIs_at HV0.out
   have f0:=hnf 0
   have f1:=hnf 1
   have f2:=hnf 2
   have f3:=hnf 3
   have f4:=hnf 4
   have hki:¬ (k:Int) < l.length:=by omega
   have he:(l.take k).drop 1=l.drop 1:=by rw [List.take_of_length_le (by omega)]
   have HM2:=HM.out
   rw [he] at HM2
   have HME:=Lib.hid HM2
   obtain ⟨⟨r0,r1,r2,r3,r4⟩,_,_⟩:=varIs_at (setV_is m HV0.out)
   unfold setV at r0 r1 r2 r3 r4
   clear hnf hmf HM2 he z0 z1 z2 z3 z4
   go_wp2_with fail
   refine bodyPost_ret (v:=entV m) (by simp [results,Tryz.results202,go_sem,entV,n0,n1,n2,n3,n4]) rfl ?_
   exact ⟨by have h5:=HME.out;rw [List.drop_one] at h5;rw [h5],setV_below HB.out (Nat.le_refl _)⟩
end Go.Proofs.YtlboemhbealnmaaGreat.Tr
namespace Go.Proofs.YtlboemhbealnmaaGreat.Tr
open Go.RowKit Go.Maps
variable {w w':World} {F:Nat→Prop} {R:Loc} {it:Option It} {s:TS} {b:Nat} {ev:UInt64→Option Value} {pv:Nat→Value}
theorem deleteEnt_nil (K:World→Prop) (hK:∀ a b,K a→Below a.heap.size a b→K b) (f:FuncId) (fc:Array Value) (q:TEnt→Bool) (hp:Picks K f fc q) (w:World) (hw:K w) :
  Calls Tryz.prog 81 #[.slice none 0 0,.func (.func f) #[] fc] w fun e w'=>e=.returned (.slice none 0 0)∧Below w.heap.size w w':=by
 have HP:=Lib.hid hp
 have HK:=Lib.hid hK
 have HW:=Lib.hid hw
 clear hp hK hw
 go_enter Tryz.func81,Tryz.ntmps81
 go_wp2_with fail
 refine (indexFunc_any K HK.out f fc q HP.out [] none 0 w HW.out (by decide) (entsAt_nil _ _)).mono ?_
 rintro e w1 ⟨rfl,hb1⟩
 have e1:firstAt q []=-1:=rfl
 rw [e1]
 clear e1
 go_wp2
 go_ret
 exact ⟨rfl,hb1⟩
theorem deleteEnt_new (f:FuncId) (q:TEnt→Bool) (hp:Picks (fun _=>True) f #[] q) (l:List TEnt) (a:Option Addr) (cap:Nat) (w:World) (hl:l.length≤8) (ho:OwnEnts w (.slice a l.length cap) l) {n:Nat} (hn:n≤w.heap.size) (hf:∀ k,(Value.slice a l.length cap).ownBlock=some k→n≤k) :
  Calls Tryz.prog 81 #[.slice a l.length cap,.func (.func f) #[] #[]] w fun e w'=>∃ a m c,e=.returned (.slice a m c)∧OwnEnts w' (.slice a m c) (l.filter fun e=>!q e)∧Below n w w':=by
 rcases ho.2 with ⟨hv,hn0⟩ | ⟨g,cap',cur,hv,_,_,_,_,_,_⟩
 ·simp only [Value.slice.injEq] at hv
  obtain ⟨rfl,hl0,rfl⟩:=hv
  obtain rfl:l=[]:=List.eq_nil_of_length_eq_zero hn0
  exact (deleteEnt_nil (fun _=>True) (fun _ _ _ _=>trivial) f #[] q hp w trivial).mono fun e w' ⟨he,hb⟩=>⟨none,0,0,he,World.ownsRow_nil _ _ _ _,hb.mono hn⟩
 ·simp only [Value.slice.injEq,true_and] at hv
  obtain ⟨rfl,rfl⟩:=hv
  exact (deleteFunc_any (fun _=>True) (fun _ _ _ _=>trivial) f #[] q hp l g cap w trivial (fun _ _ _ _=>trivial) hl ho).mono fun e w' ⟨m,c,he,h1,h2⟩=>⟨_,m,c,he,h1,h2.below (fun k hk=>by rw [hk];exact hf g rfl) hn⟩
def TS.Full (s:TS):Prop:=∀ x l,s.E x=some l→l≠[]
def TS.best (s:TS) (x:UInt64):Option TEnt:=
 if (s.ents x).findIdx? (fun e=>e.st == 2)=none then
  match (s.ents x).filter (fun e=>!(e.st != 1)) with
  | []=>none
  | m :: r=>some (minE s.salt m r)
 else none
def GaveBest (o:Option TEnt) (e:Ending):Prop:=(o=none∧e=.returned (.tuple #[entV ⟨0,0,false,0,0⟩,.bool false]))∨∃ m,o=some m∧e=.returned (.tuple #[entV m,.bool true])
set_option maxRecDepth 20000 in
theorem best_any (x:UInt64) (w:World) (h:TrackAt w F R it s b ev pv) (hf:s.Fine) (hfull:s.Full) :
  Calls Tryz.prog 170 #[.pointer (some ⟨R.b,17,none⟩),.int .u64 x.toNat] w fun e w'=>GaveBest (s.best x) e∧Below w.heap.size w w':=by
 have H:=Lib.hid h
 have HF:=Lib.hid hf
 have HFU:=Lib.hid hfull
 have HV0:Hid (VarIs (w.alloc (.cells #[.int .i64 0,.int .u64 0,.bool false,.int .i64 0,.int .i64 0] 142)) w.heap.size ⟨0,0,false,0,0⟩):=Lib.hid (heap_alloc_new w _)
 have hnb:=kept_new w (.cells #[.int .i64 0,.int .u64 0,.bool false,.int .i64 0,.int .i64 0] 142)
 have HNB:=Lib.hid hnb
 clear h hf hfull hnb
 go_enter Tryz.func170,Tryz.ntmps170
 go_wp2_with fail
 with_reducible refine (flight_any x _ (H.out.kept HNB.out) HF.out).mono ?_
 rintro e w1 ⟨r,rfl,hr,hb1⟩
 have HB1:Hid (Below w.heap.size w w1):=Lib.hid (kept_trans HNB.out hb1)
 have HV1:=Lib.hid (varIs_kept HV0.out hb1)
 obtain ⟨⟨n0,n1,n2,n3,n4⟩,hnf,hnl⟩:=varIs_at HV1.out
 have f0:=hnf 0
 have f1:=hnf 1
 have f2:=hnf 2
 have f3:=hnf 3
 have f4:=hnf 4
 clear hnf
 rcases hr with ⟨rfl,hr⟩ | ⟨g',n',cap',i',he',rfl,hr⟩
 ·have H1:=H.out.kept HB1.out
  have hlk:=H1.look x
  have hmc:=H1.mapc
  have hRlt:=H1.lt
  obtain ⟨v,hvx⟩:∃ v,(ev x).getD (.slice none 0 0)=v:=⟨_,rfl⟩
  have hsl:=H1.slice x
  rw [hvx] at hlk hsl
  have HNE:Hid (v.ownBlock≠none→s.ents x≠[]):=Lib.hid (fun hv=>by
   rcases H1.ents x with ⟨h1,h2⟩ | ⟨u,l,h1,h2,h3⟩
   ·rw [h1] at hvx
    rw [← hvx] at hv
    exact absurd rfl hv
   ·unfold TS.ents
    rw [h2]
    exact HFU.out x l h2)
  obtain ⟨hl8,hp8⟩:=HF.out.1 x
  have HSL:=Lib.hid hsl
  have HR:=Lib.hid hr
  have HP8:=Lib.hid hp8
  have hsalt:=H1.salt
  have HH1:=Lib.hid H1
  clear hvx hsl hr hp8 H1
  go_wp2_with fail
  with_reducible refine (clone_any (s.ents x) v _ hl8 HSL.out HNE.out).mono ?_
  rintro e w2 ⟨a2,cap2,rfl,ho2,hfr2,hb2⟩
  have HO2:=Lib.hid ho2
  have HFR2:=Lib.hid hfr2
  clear ho2 hfr2
  go_wp2_with fail
  with_reducible refine (deleteEnt_new _ _ picks_unready (s.ents x) a2 cap2 _ hl8 HO2.out hb2.size HFR2.out).mono ?_
  rintro e w3 ⟨a3,m3,cap3,rfl,ho3,hb3⟩
  have hb13:Below w1.heap.size w1 w3:=hb2.trans hb3
  obtain ⟨a4,cap4,e4,_,hat3⟩:=ownEnts_form ho3
  simp only [Value.slice.injEq] at e4
  obtain ⟨rfl,rfl,rfl⟩:=e4
  have HV3:=Lib.hid (varIs_kept HV1.out hb13)
  obtain ⟨⟨q0,q1,q2,q3,q4⟩,hqf,hql⟩:=varIs_at HV3.out
  have g0:=hqf 0
  have g1:=hqf 1
  have g2:=hqf 2
  have g3:=hqf 3
  have g4:=hqf 4
  have HAT:=Lib.hid hat3
  have hs3:=kept_cell hb13 hsalt
  clear hqf ho3 hat3
  cases hcand:(s.ents x).filter (fun e=>!(e.st != 1)) with
  | nil=>
   have HBE:Hid (s.best x=none):=Lib.hid (by unfold TS.best;rw [if_pos HR.out,hcand])
   rw [hcand] at HAT
   clear hcand
   go_wp2_with fail
   refine bodyPost_ret (v:=.tuple #[entV ⟨0,0,false,0,0⟩,.bool false]) (by simp [results,Tryz.results170,go_sem,entV,q0,q1,q2,q3,q4]) rfl ?_
   exact ⟨.inl ⟨HBE.out,rfl⟩,setV_below (e:=⟨0,0,false,0,0⟩) (kept_trans HB1.out hb13) (Nat.le_refl _)⟩
  | cons m r=>
   have HBE:Hid (s.best x=some (minE s.salt m r)):=Lib.hid (by unfold TS.best;rw [if_pos HR.out,hcand])
   have hlen:(m :: r).length≤8:=by rw [← hcand];exact Nat.le_trans (List.length_filter_le _ _) hl8
   have HPM:Hid (∀ e ∈ m :: r,e.peer < 8):=Lib.hid (fun e he=>HP8.out e (by rw [← hcand] at he;exact (List.mem_filter.1 he).1))
   rw [hcand] at HAT
   have hne0:(((m :: r).length:Int) == 0)=false:=by rw [beq_eq_false_iff_ne];simp only [List.length_cons];omega
   clear hcand
   go_wp2_with fail
   refine (minFunc_any s.salt R (m :: r) _ _ (by simp) hlen HPM.out _ hs3 HAT.out).mono ?_
   rintro e w4 ⟨rfl,hb4⟩
   have HV4:=Lib.hid (varIs_kept HV3.out hb4)
   obtain ⟨⟨p0,p1,p2,p3,p4⟩,hpf,hpl⟩:=varIs_at HV4.out
   have k0:=hpf 0
   have k1:=hpf 1
   have k2:=hpf 2
   have k3:=hpf 3
   have k4:=hpf 4
   have emin:minE s.salt (m :: r)[0] ((m :: r).drop 1)=minE s.salt m r:=rfl
   rw [emin]
   obtain ⟨z,hz⟩:∃ z,minE s.salt m r=z:=⟨_,rfl⟩
   rw [hz] at HBE ⊢
   unfold entV
   clear hpf emin hz
   go_wp2_with fail
   refine bodyPost_ret (v:=.tuple #[entV z,.bool true]) (by simp [results,Tryz.results170,go_sem,entV,p0,p1,p2,p3,p4]) rfl ?_
   exact ⟨.inr ⟨z,HBE.out,rfl⟩,setV_below (e:=z) (kept_trans (kept_trans HB1.out hb13) hb4) (Nat.le_refl _)⟩
 ·have HBE:Hid (s.best x=none):=Lib.hid (by unfold TS.best;rw [if_neg (by rw [hr];simp)])
  clear hr he'
  go_wp2_with fail
  refine bodyPost_ret (v:=.tuple #[entV ⟨0,0,false,0,0⟩,.bool false]) (by simp [results,Tryz.results170,go_sem,entV,n0,n1,n2,n3,n4]) rfl ?_
  exact ⟨.inl ⟨HBE.out,rfl⟩,setV_below (e:=⟨0,0,false,0,0⟩) HB1.out (Nat.le_refl _)⟩
def TS.isNext (s:TS) (p:Nat) (x:UInt64):Bool:=match s.best x with
 | none=>false
 | some m=>m.peer == p
def GaveIds (w0:World) (l:List UInt64) (e:Ending) (w':World):Prop:=∃ a cap,e=.returned (.tuple #[.slice a l.length cap,.int .i64 0])∧l.length≤cap∧IdsAt w' a l∧Fresh w0.heap.size a
theorem filter_step {α:Type} {q:α→Bool} {l:List α} {k:Nat} (h:k < l.length):(l.take (k+1)).filter q=(l.take k).filter q ++ if q l[k] then [l[k]] else []:=by
 rw [List.take_succ_eq_append_getElem h,List.filter_append]
 cases hq:q l[k] <;> simp [hq]
set_option maxRecDepth 20000 in
set_option maxHeartbeats 800000 in
theorem next_any (p:Nat) (hp:p < 8) (w:World) (h:TrackAt w F R it s b ev pv) (hf:s.Fine) (hfull:s.Full) :
  Calls Tryz.prog 107 #[.pointer (some ⟨R.b,17,none⟩),.int .i64 p] w fun e w'=>GaveIds w ((s.I p).filter (s.isNext p)) e w'∧Below w.heap.size w w':=by
 obtain ⟨i0,_⟩:=h.idc p hp
 obtain ⟨a,cp,hv,hcp,hat,_⟩:=owns_idsAt (h.ids p hp)
 rw [hv] at i0
 have hpi:(p:Int) < 8:=by omega
 have hlt:=h.lt
 have hl20:=hf.2 p hp
 have H:=Lib.hid h
 have HF:=Lib.hid hf
 have HFU:=Lib.hid hfull
 have HA:=Lib.hid hat
 clear h hf hat hv hfull
 go_enter Tryz.func107,Tryz.ntmps107
 go_wp2_with fail
 with_reducible refine (isPeer_yes p p rfl hp _).mono ?_
 rintro e w1 ⟨rfl,rfl⟩
 go_wp2_with fail
 go_loopw [6,21] (fun v i wr=>∃ k:Nat,k≤(s.I p).length∧i=.int .i64 k∧Hid (OwnIds wr w.heap.size v (((s.I p).take k).filter (s.isNext p)))∧Hid (Below w.heap.size w wr)) (fun _ i _=>(s.I p).length - (intOf i).toNat)
 case atStart=>exact ⟨0,Nat.zero_le _,rfl,Lib.hid (ownIds_nil _ _),Lib.hid (Below.refl _ _)⟩
 case round=>
  obtain ⟨k,hk,rfl,HO,HB⟩:=hrel
  rename_i u6
  by_cases hkl:k < (s.I p).length
  ·obtain ⟨g,o,rfl,hg,c0⟩:=idsAt_kept HB.out HA.out k hkl
   obtain ⟨x,hx⟩:∃ x,(s.I p)[k]=x:=⟨_,rfl⟩
   rw [hx] at c0
   have hstep:=filter_step (q:=s.isNext p) hkl
   rw [hx] at hstep
   have HST:=Lib.hid hstep
   have hlen20:(((s.I p).take k).filter (s.isNext p)).length≤20:=Nat.le_trans (List.length_filter_le _ _) (Nat.le_trans (List.length_take_le _ _) (by omega))
   clear hstep hx
   go_wp2_with fail
   with_reducible refine (best_any x _ (H.out.kept HB.out) HF.out HFU.out).mono ?_
   rintro e w2 ⟨hgb,hb2⟩
   rcases hgb with ⟨hbe,rfl⟩ | ⟨m,hbe,rfl⟩
   ·have HN:Hid (s.isNext p x=false):=Lib.hid (by unfold TS.isNext;rw [hbe])
    clear hbe
    unfold entV
    go_wp2_with fail
    go_roundw
    case rel=>exact ⟨k+1,by omega,by go_num,Lib.hid (by rw [HST.out,HN.out];simp only [Bool.false_eq_true,if_false,List.append_nil];exact ownIds_below HO.out (kept_alloc hb2 _)),Lib.hid (kept_alloc (kept_trans HB.out hb2) _)⟩
    case measure=>simp [intOf];omega
   ·have HN:Hid (s.isNext p x=(m.peer == p)):=Lib.hid (by unfold TS.isNext;rw [hbe])
    have hbq:=beq_nat m.peer p
    unfold entV
    cases hbb:m.peer == p with
    | true=>
     rw [hbb] at HN hbq
     clear hbe hbb
     have HO2:=Lib.hid (ownIds_below HO.out (kept_alloc hb2 (.cells #[.int .i64 m.peer,.int .u64 m.id.toNat,.bool m.pref,.int .i64 m.st,.int .i64 m.till] 142)))
     have HB2:=Lib.hid (kept_alloc (kept_trans HB.out hb2) (.cells #[.int .i64 m.peer,.int .u64 m.id.toNat,.bool m.pref,.int .i64 m.st,.int .i64 m.till] 142))
     go_wp2_with (at_builtin;refine append_id rfl _ _ rfl x rfl (Eq.trans (b:=.slice (some ⟨w2.heap.size+1,0,none⟩) 1 1) rfl (by simp)) HO2.out (by omega) HB2.out.size ?_;intro g2 cap2 w4 ho4 hg4 hg4')
     have HO4:=Lib.hid ho4
     have HB4:=Lib.hid (HB2.out.grown hg4' HB2.out.size (fun j hj=>(ownIds_block HO2.out j hj).1))
     clear ho4 hg4 hg4'
     go_wp2_with fail
     go_roundw
     case rel=>exact ⟨k+1,by omega,by go_num,Lib.hid (by rw [HST.out,HN.out];simp only [if_true];exact HO4.out),HB4⟩
     case measure=>simp [intOf];omega
    | false=>
     rw [hbb] at HN hbq
     clear hbe hbb
     go_wp2_with fail
     go_roundw
     case rel=>exact ⟨k+1,by omega,by go_num,Lib.hid (by rw [HST.out,HN.out];simp only [Bool.false_eq_true,if_false,List.append_nil];exact ownIds_below HO.out (kept_alloc hb2 _)),Lib.hid (kept_alloc (kept_trans HB.out hb2) _)⟩
     case measure=>simp [intOf];omega
  ·have he:(s.I p).take k=s.I p:=List.take_of_length_le (by omega)
   have HO':=HO.out
   rw [he] at HO'
   obtain ⟨a5,cap5,e5,hc5,hat5,hfr5⟩:=owns_idsAt HO'
   subst e5
   have HE:=Lib.hid (And.intro hc5 (And.intro hat5 hfr5))
   clear HO' hat5 hfr5 he
   go_wp2_with fail
   go_ret2
   exact ⟨⟨a5,cap5,rfl,HE.out.1,HE.out.2.1,HE.out.2.2⟩,HB.out⟩
end Go.Proofs.YtlboemhbealnmaaGreat.Tr
