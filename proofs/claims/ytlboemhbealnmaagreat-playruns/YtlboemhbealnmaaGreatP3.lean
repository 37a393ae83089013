import Derived.Test.YtlboemhbealnmaaGreatP2
import Derived.Maps.OwnOps
import Derived.Maps.Own
import Derived.StillTailTactics
import Derived.Test.YtlboemhbealnmaaGreatP1
import Derived.Maps.OwnSet
import Derived.Maps.RangeWalk
set_option maxRecDepth 20000
namespace Go.Proofs.YtlboemhbealnmaaGreat
open Go.RowKit
abbrev Seen (w:World) (b n:Nat) (ks:List InD):Prop:=SetIs Tryz.prog 180 4 inOk inKey w b n ks
theorem repeats_any (l:List InD) (a:Option Addr) (cap:Nat) (w:World) (hl:l.length≤8) (hi:InsAt w a l) :
  Calls Tryz.prog 160 #[.slice a l.length cap] w fun e w'=>e=.returned (.bool (dupB l))∧Below w.heap.size w w':=by
 have hmm:=@run_makeMap Tryz.prog
 go_enter Tryz.func160,Tryz.ntmps160
 go_wp2
 go_loopw [9] (fun i wr=>∃ k:Nat,k≤l.length∧i=.int .i64 k∧Hid ((l.take k).Nodup)∧Hid (Seen wr w.heap.size k (l.take k))∧Below w.heap.size w wr) (fun i _=>l.length - (intOf i).toNat)
 case atStart=>exact ⟨0,Nat.zero_le _,rfl,Lib.hid (by simp),Lib.hid (set_new w),kept_new w _⟩
 case round=>
  obtain ⟨k,hk,rfl,NO,SE,hbel⟩:=hrel
  by_cases hlt:k < l.length
  ·obtain ⟨b,o,rfl,hb,hd0,hd1,hok⟩:=insAt_kept hbel hi k hlt
   have SA:=set_alloc SE.out (.cells #[.int .u64 l[k].1.toNat,.int .i64 l[k].2] 180)
   have hlook:=set_look SA in_keyed Tryz.underlying78 Tryz.underlying4 (zero_bool _) hok (in_key _ hok)
   by_cases hx:(l.take k).contains l[k]=true
   ·rw [hx] at hlook
    have HX:=Lib.hid hx
    clear hx
    go_wp2
    go_ret
    exact ⟨ret_bool (dup_at hlt HX.out).symm,kept_alloc hbel _⟩
   ·rw [Bool.not_eq_true] at hx
    rw [hx] at hlook
    obtain ⟨w1,hput,S1,hg⟩:=set_put SA in_keyed Tryz.underlying78 Tryz.underlying4 (by unfold maxLen;omega) hok (in_key _ hok) (fun y hy e=>inKey_inj hy hok e)
    have HX:=Lib.hid hx
    clear hx
    go_wp2
    go_roundw
    case rel=>exact ⟨k+1,by omega,by go_num,Lib.hid (nodup_take hlt NO.out HX.out),Lib.hid (take_snoc hlt▸S1),(kept_alloc hbel _).grown hg (by have:=hbel.size;simp;omega) (fun j hj=>by cases hj;exact Nat.le_refl _)⟩
    case measure=>simp [intOf];omega
  ·go_wp2
   go_ret
   exact ⟨ret_bool (dup_none (by omega) NO.out).symm,hbel⟩
theorem repeats_is (l:List InD) (a:Option Addr) (cap:Nat) (w:World) (r:Bool) (hl:l.length≤8) (hi:InsAt w a l) (h:dupB l=r) :
  Calls Tryz.prog 160 #[.slice a l.length cap] w fun e w'=>e=.returned (.bool r)∧Below w.heap.size w w':=h▸repeats_any l a cap w hl hi
theorem within_yes (n lo hi:Int) (w:World) (h:within n lo hi=true):Calls Tryz.prog 159 #[.int .i64 n,.int .i64 lo,.int .i64 hi] w fun e w'=>e=.returned (.bool true)∧w=w':=by
 unfold within at h
 have h:=of_decide_eq_true h
 obtain ⟨h1,h2⟩:=h
 go_enter Tryz.func159,Tryz.ntmps159
 go_wp2
 go_ret
 exact ⟨rfl,rfl⟩
theorem within_no (n lo hi:Int) (w:World) (h:within n lo hi=false):Calls Tryz.prog 159 #[.int .i64 n,.int .i64 lo,.int .i64 hi] w fun e w'=>e=.returned (.bool false)∧w=w':=by
 unfold within at h
 have h:=of_decide_eq_false h
 by_cases h1:lo≤n
 ·have h2:¬ n≤hi:=fun h2=>h ⟨h1,h2⟩
  clear h
  go_enter Tryz.func159,Tryz.ntmps159
  go_wp2
  go_ret
  exact ⟨rfl,rfl⟩
 ·clear h
  go_enter Tryz.func159,Tryz.ntmps159
  go_wp2
  go_ret
  exact ⟨rfl,rfl⟩
def deedV (a:Option Addr) (cap:Nat) (d:DeedD):Value:=.agg #[.slice a d.ins.length cap,.int .i64 d.outs,.int .i64 d.weight,.int .i64 d.fee]
theorem check_large (l:List InD) (o g f:Int) (a:Option Addr) (cap:Nat) (w:World) (hl:8 < l.length) :
  Calls Tryz.prog 98 #[.agg #[.slice a l.length cap,.int .i64 o,.int .i64 g,.int .i64 f]] w fun e w'=>e=.returned (.int .i64 2)∧Below w.heap.size w w':=by
 go_enter Tryz.func98,Tryz.ntmps98
 go_wp2
 go_ret
 exact ⟨rfl,kept_new _ _⟩
def checkS (l:List InD) (o g f:Int):Int:=if atsB l=false then 1 else if dupB l=true then 6 else if restB o g f=false then 1 else 0
set_option maxHeartbeats 2000000 in
theorem check_small (l:List InD) (o g f:Int) (a:Option Addr) (cap:Nat) (w:World) (hl:l.length≤8) (hi:InsAt w a l) :
  Calls Tryz.prog 98 #[.agg #[.slice a l.length cap,.int .i64 o,.int .i64 g,.int .i64 f]] w fun e w'=>e=.returned (.int .i64 (checkS l o g f))∧Below w.heap.size w w':=by
 have hi0:=insAt_kept (kept_new w (.cells #[.slice a l.length cap,.int .i64 o,.int .i64 g,.int .i64 f] 94)) hi
 go_enter Tryz.func98,Tryz.ntmps98
 go_wp2
 go_loopw [13] (fun i wr=>∃ k:Nat,k≤l.length∧i=.int .i64 k∧Hid (atsB (l.take k)=true)∧Below (w.alloc (.cells #[.slice a l.length cap,.int .i64 o,.int .i64 g,.int .i64 f] 94)).heap.size (w.alloc (.cells #[.slice a l.length cap,.int .i64 o,.int .i64 g,.int .i64 f] 94)) wr) (fun i _=>l.length - (intOf i).toNat)
 case atStart=>exact ⟨0,Nat.zero_le _,rfl,Lib.hid rfl,Below.refl _ _⟩
 case round=>
  obtain ⟨k,hk,rfl,NO,hbel⟩:=hrel
  have hkw:=kept_trans (kept_new _ _) hbel
  by_cases hlt:k < l.length
  ·obtain ⟨b,oo,rfl,hb,hd0,hd1,hok⟩:=insAt_kept hbel hi0 k hlt
   by_cases hx:within l[k].2 0 15=true
   ·have HX:=Lib.hid hx
    clear hx
    go_wp2_with fail
    with_reducible refine (within_yes _ _ _ _ HX.out).mono ?_
    rintro e w' ⟨rfl,rfl⟩
    go_wp2_with fail
    go_roundw
    case rel=>exact ⟨k+1,by omega,by go_num,Lib.hid (atsB_take hlt NO.out HX.out),kept_alloc hbel _⟩
    case measure=>simp [intOf];omega
   ·rw [Bool.not_eq_true] at hx
    have HX:=Lib.hid hx
    clear hx
    go_wp2_with fail
    with_reducible refine (within_no _ _ _ _ HX.out).mono ?_
    rintro e w' ⟨rfl,rfl⟩
    go_wp2_with fail
    go_ret
    exact ⟨ret_i64 (by unfold checkS;rw [if_pos (atsB_bad hlt HX.out)]),kept_alloc hkw _⟩
  ·have hats:=NO.out
   rw [List.take_of_length_le (by omega)] at hats
   have HA:=Lib.hid hats
   clear hats NO
   obtain ⟨c0,c1,c2,c3,hws⟩:=box_four hbel
   have hir:=insAt_kept hbel hi0
   by_cases hdup:dupB l=true
   ·have HD:=Lib.hid hdup
    clear hdup
    go_wp2_with fail
    with_reducible refine (repeats_is l _ _ _ true hl hir HD.out).mono ?_
    rintro e w1 ⟨rfl,hb1⟩
    go_wp2_with fail
    go_ret
    exact ⟨ret_i64 (by unfold checkS;rw [if_neg (by rw [HA.out];decide),if_pos HD.out]),kept_trans hkw hb1⟩
   ·rw [Bool.not_eq_true] at hdup
    have HD:=Lib.hid hdup
    clear hdup
    have base:checkS l o g f=if restB o g f=false then 1 else 0:=by unfold checkS;rw [if_neg (by rw [HA.out];decide),if_neg (by rw [HD.out];decide)]
    have HB:=Lib.hid base
    clear base
    go_wp2_with fail
    with_reducible refine (repeats_is l _ _ _ false hl hir HD.out).mono ?_
    rintro e w1 ⟨rfl,hb1⟩
    obtain ⟨d0,d1,d2,d3,hws1⟩:=box_four (kept_trans hbel hb1)
    have hk1:=kept_trans hkw hb1
    clear hb1 hbel hkw hir
    by_cases ho:within o 1 16=true
    ·by_cases hg:within g 1 1000=true
     ·by_cases hf:within f 0 1000=true
      ·have HR:=Lib.hid (show restB o g f=true by unfold restB;rw [ho,hg,hf];rfl)
       have HO:=Lib.hid ho
       have HG:=Lib.hid hg
       have HF:=Lib.hid hf
       clear ho hg hf
       go_wp2_with fail
       with_reducible refine (within_yes _ _ _ _ HO.out).mono ?_
       rintro e w' ⟨rfl,rfl⟩
       go_wp2_with fail
       with_reducible refine (within_yes _ _ _ _ HG.out).mono ?_
       rintro e w' ⟨rfl,rfl⟩
       go_wp2_with fail
       with_reducible refine (within_yes _ _ _ _ HF.out).mono ?_
       rintro e w' ⟨rfl,rfl⟩
       go_wp2_with fail
       go_ret
       exact ⟨ret_i64 (by rw [HB.out,if_neg (by rw [HR.out];decide)]),hk1⟩
      ·rw [Bool.not_eq_true] at hf
       have HR:=Lib.hid (show restB o g f=false by unfold restB;rw [ho,hg,hf];rfl)
       have HO:=Lib.hid ho
       have HG:=Lib.hid hg
       have HF:=Lib.hid hf
       clear ho hg hf
       go_wp2_with fail
       with_reducible refine (within_yes _ _ _ _ HO.out).mono ?_
       rintro e w' ⟨rfl,rfl⟩
       go_wp2_with fail
       with_reducible refine (within_yes _ _ _ _ HG.out).mono ?_
       rintro e w' ⟨rfl,rfl⟩
       go_wp2_with fail
       with_reducible refine (within_no _ _ _ _ HF.out).mono ?_
       rintro e w' ⟨rfl,rfl⟩
       go_wp2_with fail
       go_ret
       exact ⟨ret_i64 (by rw [HB.out,if_pos HR.out]),hk1⟩
     ·rw [Bool.not_eq_true] at hg
      have HR:=Lib.hid (show restB o g f=false by unfold restB;rw [ho,hg];rfl)
      have HO:=Lib.hid ho
      have HG:=Lib.hid hg
      clear ho hg
      go_wp2_with fail
      with_reducible refine (within_yes _ _ _ _ HO.out).mono ?_
      rintro e w' ⟨rfl,rfl⟩
      go_wp2_with fail
      with_reducible refine (within_no _ _ _ _ HG.out).mono ?_
      rintro e w' ⟨rfl,rfl⟩
      go_wp2_with fail
      go_ret
      exact ⟨ret_i64 (by rw [HB.out,if_pos HR.out]),hk1⟩
    ·rw [Bool.not_eq_true] at ho
     have HR:=Lib.hid (show restB o g f=false by unfold restB;rw [ho];rfl)
     have HO:=Lib.hid ho
     clear ho
     go_wp2_with fail
     with_reducible refine (within_no _ _ _ _ HO.out).mono ?_
     rintro e w' ⟨rfl,rfl⟩
     go_wp2_with fail
     go_ret
     exact ⟨ret_i64 (by rw [HB.out,if_pos HR.out]),hk1⟩
end Go.Proofs.YtlboemhbealnmaaGreat
namespace Go.Proofs.YtlboemhbealnmaaGreat
open Go.RowKit
theorem insAt_take {w:World} {a:Option Addr} {l:List InD} (k:Nat) (h:InsAt w a l):InsAt w a (l.take k):=fun i hi=>by
 have h1:i < l.length:=by rw [List.length_take] at hi;omega
 rw [List.getElem_take]
 exact h i h1
theorem has_take (l:List InD) (k:Nat) (r:Bool) (x:InD) (a:Option Addr) (cap:Nat) (w:World) (hk:k≤l.length) (hl:l.length≤maxLen) (hi:InsAt w a l) (h:(l.take k).contains x=r) :
  Calls Tryz.prog 173 #[.slice a k cap,.agg #[.int .u64 x.1.toNat,.int .i64 x.2]] w fun e w'=>e=.returned (.bool r)∧Below w.heap.size w w':=by
 have:=has_any (l.take k) x a cap w (by rw [List.length_take];omega) (insAt_take k hi)
 rw [List.length_take,Nat.min_eq_left hk,h] at this
 exact this
theorem refCheck_large (l:List InD) (o g f:Int) (a:Option Addr) (cap:Nat) (w:World) (hl:8 < l.length) :
  Calls Tryz.prog 122 #[.agg #[.slice a l.length cap,.int .i64 o,.int .i64 g,.int .i64 f]] w fun e w'=>e=.returned (.int .i64 2)∧Below w.heap.size w w':=by
 go_enter Tryz.func122,Tryz.ntmps122
 go_wp2
 go_ret
 exact ⟨rfl,kept_new _ _⟩
set_option maxHeartbeats 2000000 in
set_option maxRecDepth 20000 in
theorem refCheck_small (l:List InD) (o g f:Int) (a:Option Addr) (cap:Nat) (w:World) (hl:l.length≤8) (hc:l.length≤cap) (hi:InsAt w a l) :
  Calls Tryz.prog 122 #[.agg #[.slice a l.length cap,.int .i64 o,.int .i64 g,.int .i64 f]] w fun e w'=>e=.returned (.int .i64 (checkS l o g f))∧Below w.heap.size w w':=by
 have hi0:=insAt_kept (kept_new w (.cells #[.slice a l.length cap,.int .i64 o,.int .i64 g,.int .i64 f] 94)) hi
 go_enter Tryz.func122,Tryz.ntmps122
 go_wp2
 go_loopw [14] (fun i wr=>∃ k:Nat,k≤l.length∧i=.int .i64 k∧Hid (atsB (l.take k)=true)∧Below (w.alloc (.cells #[.slice a l.length cap,.int .i64 o,.int .i64 g,.int .i64 f] 94)).heap.size (w.alloc (.cells #[.slice a l.length cap,.int .i64 o,.int .i64 g,.int .i64 f] 94)) wr) (fun i _=>l.length - (intOf i).toNat)
 case atStart=>exact ⟨0,Nat.zero_le _,rfl,Lib.hid rfl,Below.refl _ _⟩
 case round=>
  obtain ⟨k,hk,rfl,NO,hbel⟩:=hrel
  have hkw:=kept_trans (kept_new _ _) hbel
  by_cases hlt:k < l.length
  ·obtain ⟨b,oo,rfl,hb,hd0,hd1,hok⟩:=insAt_kept hbel hi0 k hlt
   by_cases hx:within l[k].2 0 15=true
   ·have HX:=Lib.hid hx
    clear hx
    go_wp2_with fail
    with_reducible refine (outside_no _ _ _ _ HX.out).mono ?_
    rintro e w' ⟨rfl,rfl⟩
    go_wp2_with fail
    go_roundw
    case rel=>exact ⟨k+1,by omega,by go_num,Lib.hid (atsB_take hlt NO.out HX.out),kept_alloc hbel _⟩
    case measure=>simp [intOf];omega
   ·rw [Bool.not_eq_true] at hx
    have HX:=Lib.hid hx
    clear hx
    go_wp2_with fail
    with_reducible refine (outside_yes _ _ _ _ HX.out).mono ?_
    rintro e w' ⟨rfl,rfl⟩
    go_wp2_with fail
    go_ret
    exact ⟨ret_i64 (by unfold checkS;rw [if_pos (atsB_bad hlt HX.out)]),kept_alloc hkw _⟩
  ·have hats:=NO.out
   rw [List.take_of_length_le (by omega)] at hats
   have HA:=Lib.hid hats
   clear hats NO
   obtain ⟨c0,c1,c2,c3,hws⟩:=box_four hbel
   go_wp2_with fail
   clear c0 c1 c2 c3 hws hkw hlt hk
   go_loopw [25] (fun i wr=>∃ k:Nat,k≤l.length∧i=.int .i64 k∧Hid ((l.take k).Nodup)∧Below (w.alloc (.cells #[.slice a l.length cap,.int .i64 o,.int .i64 g,.int .i64 f] 94)).heap.size (w.alloc (.cells #[.slice a l.length cap,.int .i64 o,.int .i64 g,.int .i64 f] 94)) wr) (fun i _=>l.length - (intOf i).toNat)
   case atStart=>exact ⟨0,Nat.zero_le _,rfl,Lib.hid (by simp),hbel⟩
   case round=>
    clear hbel
    obtain ⟨k,hk,rfl,NO,hbel⟩:=hrel
    have hkw:=kept_trans (kept_new _ _) hbel
    obtain ⟨c0,c1,c2,c3,hws⟩:=box_four hbel
    by_cases hlt:k < l.length
    ·have hir:=insAt_kept hbel hi0
     obtain ⟨b,oo,rfl,hb,hd0,hd1,hok⟩:=hir k hlt
     have hkc:k≤cap:=by omega
     obtain ⟨w2,hw2⟩:∃ w2,(wr.alloc (.cells #[.int .u64 l[k].1.toNat,.int .i64 l[k].2] 180)).drew=w2:=⟨_,rfl⟩
     have hb2:Below (wr.alloc (.cells #[.int .u64 l[k].1.toNat,.int .i64 l[k].2] 180)).heap.size (wr.alloc (.cells #[.int .u64 l[k].1.toNat,.int .i64 l[k].2] 180)) w2:=hw2▸(Below.refl _ _).drew
     have hbr:=kept_trans (kept_new _ _) hb2
     obtain ⟨g0,g1,_⟩:=box_pair hb2
     obtain ⟨e0,_,_,_,_⟩:=box_four (kept_trans hbel hbr)
     have hi2:=insAt_kept hbr hir
     have HW:=Lib.hid hw2
     clear hw2 hb2
     by_cases hx:(l.take k).contains l[k]=true
     ·have HX:=Lib.hid hx
      clear hx
      go_wp2_with fail
      refine region_tail 5 (by kernel_rfl) (by kernel_rfl) HW.out ?_
      simp only [List.take_succ_cons,List.take_zero,List.drop_succ_cons,List.drop_zero]
      repeat still_step
      refine wpStill_nil ?_
      go_wp2_with fail
      with_reducible refine (has_take l k true l[k] _ _ _ (by omega) (by unfold maxLen;omega) hi2 HX.out).mono ?_
      rintro e w' ⟨rfl,hb3⟩
      go_wp2_with fail
      go_ret
      exact ⟨ret_i64 (by unfold checkS;rw [if_neg (by rw [HA.out];decide),if_pos (dup_at hlt HX.out)]),kept_trans (kept_trans hkw hbr) hb3⟩
     ·rw [Bool.not_eq_true] at hx
      have HX:=Lib.hid hx
      clear hx
      go_wp2_with fail
      refine region_tail 5 (by kernel_rfl) (by kernel_rfl) HW.out ?_
      simp only [List.take_succ_cons,List.take_zero,List.drop_succ_cons,List.drop_zero]
      repeat still_step
      refine wpStill_nil ?_
      go_wp2_with fail
      with_reducible refine (has_take l k false l[k] _ _ _ (by omega) (by unfold maxLen;omega) hi2 HX.out).mono ?_
      rintro e w' ⟨rfl,hb3⟩
      go_wp2_with fail
      go_roundw
      case rel=>exact ⟨k+1,by omega,by go_num,Lib.hid (nodup_take hlt NO.out HX.out),kept_trans (kept_trans hbel hbr) hb3⟩
      case measure=>simp [intOf];omega
    ·have HD:=Lib.hid (dup_none (by omega) NO.out)
     have HB:=Lib.hid (show checkS l o g f=if restB o g f=false then 1 else 0 by unfold checkS;rw [if_neg (by rw [HA.out];decide),if_neg (by rw [HD.out];decide)])
     clear hbel NO hi0
     by_cases ho:within o 1 16=true
     ·by_cases hg:within g 1 1000=true
      ·by_cases hf:within f 0 1000=true
       ·have HR:=Lib.hid (show restB o g f=true by unfold restB;rw [ho,hg,hf];rfl)
        have HO:=Lib.hid ho
        have HG:=Lib.hid hg
        have HF:=Lib.hid hf
        clear ho hg hf
        go_wp2_with fail
        with_reducible refine (outside_no _ _ _ _ HO.out).mono ?_
        rintro e w' ⟨rfl,rfl⟩
        go_wp2_with fail
        with_reducible refine (outside_no _ _ _ _ HG.out).mono ?_
        rintro e w' ⟨rfl,rfl⟩
        go_wp2_with fail
        with_reducible refine (outside_no _ _ _ _ HF.out).mono ?_
        rintro e w' ⟨rfl,rfl⟩
        go_wp2_with fail
        go_ret
        exact ⟨ret_i64 (by rw [HB.out,if_neg (by rw [HR.out];decide)]),hkw⟩
       ·rw [Bool.not_eq_true] at hf
        have HR:=Lib.hid (show restB o g f=false by unfold restB;rw [ho,hg,hf];rfl)
        have HO:=Lib.hid ho
        have HG:=Lib.hid hg
        have HF:=Lib.hid hf
        clear ho hg hf
        go_wp2_with fail
        with_reducible refine (outside_no _ _ _ _ HO.out).mono ?_
        rintro e w' ⟨rfl,rfl⟩
        go_wp2_with fail
        with_reducible refine (outside_no _ _ _ _ HG.out).mono ?_
        rintro e w' ⟨rfl,rfl⟩
        go_wp2_with fail
        with_reducible refine (outside_yes _ _ _ _ HF.out).mono ?_
        rintro e w' ⟨rfl,rfl⟩
        go_wp2_with fail
        go_ret
        exact ⟨ret_i64 (by rw [HB.out,if_pos HR.out]),hkw⟩
      ·rw [Bool.not_eq_true] at hg
       have HR:=Lib.hid (show restB o g f=false by unfold restB;rw [ho,hg];rfl)
       have HO:=Lib.hid ho
       have HG:=Lib.hid hg
       clear ho hg
       go_wp2_with fail
       with_reducible refine (outside_no _ _ _ _ HO.out).mono ?_
       rintro e w' ⟨rfl,rfl⟩
       go_wp2_with fail
       with_reducible refine (outside_yes _ _ _ _ HG.out).mono ?_
       rintro e w' ⟨rfl,rfl⟩
       go_wp2_with fail
       go_ret
       exact ⟨ret_i64 (by rw [HB.out,if_pos HR.out]),hkw⟩
     ·rw [Bool.not_eq_true] at ho
      have HR:=Lib.hid (show restB o g f=false by unfold restB;rw [ho];rfl)
      have HO:=Lib.hid ho
      clear ho
      go_wp2_with fail
      with_reducible refine (outside_yes _ _ _ _ HO.out).mono ?_
      rintro e w' ⟨rfl,rfl⟩
      go_wp2_with fail
      go_ret
      exact ⟨ret_i64 (by rw [HB.out,if_pos HR.out]),hkw⟩
theorem check_any (d:DeedD) (a:Option Addr) (cap:Nat) (w:World) (hi:InsAt w a d.ins) :
  Calls Tryz.prog 98 #[deedV a cap d] w fun e w'=>e=.returned (.int .i64 (checkD d))∧Below w.heap.size w w':=by
 by_cases h:8 < d.ins.length
 ·refine (check_large d.ins d.outs d.weight d.fee a cap w h).mono ?_
  rintro e w' ⟨rfl,hb⟩
  exact ⟨ret_i64 (by unfold checkD;rw [if_pos h]),hb⟩
 ·refine (check_small d.ins d.outs d.weight d.fee a cap w (by omega) hi).mono ?_
  rintro e w' ⟨rfl,hb⟩
  exact ⟨ret_i64 (by unfold checkD checkS;rw [if_neg h]),hb⟩
theorem refCheck_any (d:DeedD) (a:Option Addr) (cap:Nat) (w:World) (hc:d.ins.length≤cap) (hi:InsAt w a d.ins) :
  Calls Tryz.prog 122 #[deedV a cap d] w fun e w'=>e=.returned (.int .i64 (checkD d))∧Below w.heap.size w w':=by
 by_cases h:8 < d.ins.length
 ·refine (refCheck_large d.ins d.outs d.weight d.fee a cap w h).mono ?_
  rintro e w' ⟨rfl,hb⟩
  exact ⟨ret_i64 (by unfold checkD;rw [if_pos h]),hb⟩
 ·refine (refCheck_small d.ins d.outs d.weight d.fee a cap w (by omega) hc hi).mono ?_
  rintro e w' ⟨rfl,hb⟩
  exact ⟨ret_i64 (by unfold checkD checkS;rw [if_neg h]),hb⟩
end Go.Proofs.YtlboemhbealnmaaGreat
namespace Go.Proofs.YtlboemhbealnmaaGreat
open Go.RowKit
theorem check_ok {d:DeedD} (h:checkD d=0):d.ins.length≤8∧(∀ k (hk:k < d.ins.length),0≤(d.ins[k]).2∧(d.ins[k]).2≤15)∧dupB d.ins=false∧(1≤d.outs∧d.outs≤16)∧(1≤d.weight∧d.weight≤1000)∧(0≤d.fee∧d.fee≤1000):=by
 unfold checkD at h
 split at h
 ·cases h
 ·split at h
  ·cases h
  ·split at h
   ·cases h
   ·split at h
    ·cases h
    ·rename_i h1 h2 h3 h4
     simp only [Bool.not_eq_false,Bool.not_eq_true] at h2 h3 h4
     refine ⟨by omega,fun k hk=>?_,h3,?_⟩
     ·have:=List.all_eq_true.1 h2 _ (List.getElem_mem hk)
      exact of_decide_eq_true this
     ·unfold restB within at h4
      simp only [Bool.and_eq_true,decide_eq_true_eq] at h4
      exact ⟨h4.1.1,h4.1.2,h4.2⟩
theorem check_is (d:DeedD) (a:Option Addr) (cap:Nat) (w:World) (r:Int) (hi:InsAt w a d.ins) (h:checkD d=r) :
  Calls Tryz.prog 98 #[.agg #[.slice a d.ins.length cap,.int .i64 d.outs,.int .i64 d.weight,.int .i64 d.fee]] w fun e w'=>e=.returned (.int .i64 r)∧Below w.heap.size w w':=h▸check_any d a cap w hi
theorem refCheck_is (d:DeedD) (a:Option Addr) (cap:Nat) (w:World) (r:Int) (hc:d.ins.length≤cap) (hi:InsAt w a d.ins) (h:checkD d=r) :
  Calls Tryz.prog 122 #[.agg #[.slice a d.ins.length cap,.int .i64 d.outs,.int .i64 d.weight,.int .i64 d.fee]] w fun e w'=>e=.returned (.int .i64 r)∧Below w.heap.size w w':=h▸refCheck_any d a cap w hc hi
theorem four_kept {w w':World} (hg:w.grownBy w' none) {b:Nat} {u0 u1 u2 u3:Value} (h0:w.cell? ⟨b,0,none⟩=some u0) (h1:w.cell? ⟨b,1,none⟩=some u1) (h2:w.cell? ⟨b,2,none⟩=some u2) (h3:w.cell? ⟨b,3,none⟩=some u3) :
  w'.cell? ⟨b,0,none⟩=some u0∧w'.cell? ⟨b,1,none⟩=some u1∧w'.cell? ⟨b,2,none⟩=some u2∧w'.cell? ⟨b,3,none⟩=some u3:=
 ⟨hg.cell h0 (by simp),hg.cell h1 (by simp),hg.cell h2 (by simp),hg.cell h3 (by simp)⟩
end Go.Proofs.YtlboemhbealnmaaGreat
namespace Go.Proofs.YtlboemhbealnmaaGreat
open Go.RowKit
def inC (x:InD):List Value:=[.int .u64 x.1.toNat,.int .i64 x.2]
def insC (l:List InD):List Value:=l.flatMap inC
theorem insC_length (l:List InD):(insC l).length=l.length * 2:=by
 induction l with
 | nil=>rfl
 | cons a r ih=>simp only [insC,List.flatMap_cons,List.length_append,List.length_cons,inC,List.length_nil] at ih ⊢;omega
theorem insC_at:∀ (l:List InD) (i:Nat) (h:i < l.length) (j:Nat),j < 2→(insC l)[i * 2+j]?=(inC l[i])[j]?
 | [],i,h,_,_=>absurd h (by simp)
 | a :: r,0,_,j,hj=>by
  show (inC a ++ insC r)[0 * 2+j]?=_
  rw [List.getElem?_append_left (by simp [inC];omega)]
  simp
 | a :: r,i+1,h,j,hj=>by
  show (inC a ++ insC r)[(i+1) * 2+j]?=_
  rw [List.getElem?_append_right (by simp [inC];omega),show (inC a).length=2 from rfl,show (i+1) * 2+j - 2=i * 2+j by omega,insC_at r i (by simpa using h) j hj]
  rfl
abbrev OwnIns (w:World) (v:Value) (l:List InD):Prop:=w.ownsRow 0 180 2 v l.length (insC l)
theorem ownIns_at {w:World} {v:Value} {l:List InD} (h:OwnIns w v l) (hok:∀ x ∈ l,inOk x):∃ a cap,v=.slice a l.length cap∧l.length≤cap∧InsAt w a l:=by
 rcases h.2 with ⟨hv,hn⟩ | ⟨g,cap,cur,hv,hB,hg,hc,_,_,_⟩
 ·exact ⟨none,0,by rw [hn];exact hv,by omega,fun i hi=>absurd hi (by omega)⟩
 ·refine ⟨some ⟨g,0,none⟩,cap,hv,hc,fun i hi=>⟨g,0,rfl,(Array.getElem?_eq_some_iff.1 hg).1,?_⟩⟩
  have hh:=h
  rw [hv] at hh
  have hat:∀ j,j < 2→w.cell? ⟨g,0+i * 2+j,none⟩=(inC l[i])[j]?:=fun j hj=>by
   rw [Nat.zero_add,hh.cellAt (i * 2+j) (by omega)]
   exact insC_at l i hi j hj
  exact ⟨hat 0 (by omega),hat 1 (by omega),hok _ (List.getElem_mem hi)⟩
theorem ownIns_slice {w:World} {a:Option Addr} {n cap:Nat} {l:List InD} (h:OwnIns w (.slice a n cap) l) (hok:∀ x ∈ l,inOk x):n=l.length∧n≤cap∧InsAt w a l:=by
 obtain ⟨a',cap',e,hc,hi⟩:=ownIns_at h hok
 simp only [Value.slice.injEq] at e
 obtain ⟨rfl,rfl,rfl⟩:=e
 exact ⟨rfl,hc,hi⟩
def PicksN (K:World→Prop) (f:FuncId) (cap:Array Value) (q:InD→Bool):Prop:=
 (∀ (args:Array Value) (w:World),(callFunc f args).run Tryz.prog w=.ok (.enter f args) w) ∧
 ∀ (e:InD) (w:World),K w→Calls Tryz.prog f (#[inV e] ++ cap) w fun x w'=>x=.returned (.bool (q e))∧Below w.heap.size w w'
theorem inIndex_any (K:World→Prop) (hK:∀ a b,K a→Below a.heap.size a b→K b) (f:FuncId) (cap:Array Value) (q:InD→Bool) (hp:PicksN K f cap q) (l:List InD) (a:Option Addr) (cp:Nat) (w:World) (hw:K w) (hl:l.length≤1000) (hi:InsAt w a l) :
  Calls Tryz.prog 224 #[.slice a l.length cp,.func (.func f) #[] cap] w fun e w'=>e=.returned (.int .i64 (firstAt q l))∧Below w.heap.size w w':=by
 have hcf:=hp.1
 have HP:=Lib.hid hp.2
 have HK:=Lib.hid hK
 have HW:=Lib.hid hw
 clear hp hK hw
 go_enter Tryz.func224,Tryz.ntmps224
 go_wp2
 go_loopw [8] (fun i wr=>∃ k:Nat,k≤l.length∧i=.int .i64 k∧Hid ((l.take k).findIdx? q=none)∧Below w.heap.size w wr) (fun i _=>l.length - (intOf i).toNat)
 case atStart=>exact ⟨0,Nat.zero_le _,rfl,Lib.hid rfl,Below.refl _ _⟩
 case round=>
  obtain ⟨k,hk,rfl,NO,hbel⟩:=hrel
  by_cases hlt:k < l.length
  ·obtain ⟨b,o,rfl,hb,c0,c1,_⟩:=insAt_kept hbel hi k hlt
   go_wp2_with fail
   refine (HP.out l[k] _ (HK.out _ _ HW.out hbel)).mono ?_
   rintro e w1 ⟨rfl,hb1⟩
   cases hq:q l[k] with
   | true=>
    have HQ:=Lib.hid hq
    clear hq
    go_wp2
    go_ret
    refine ⟨ret_i64 ?_,kept_trans hbel hb1⟩
    exact (firstAt_hit hlt NO.out HQ.out).symm
   | false=>
    have HQ:=Lib.hid hq
    clear hq
    go_wp2
    go_roundw
    case rel=>exact ⟨k+1,by omega,by go_num,Lib.hid (firstAt_miss hlt NO.out HQ.out),kept_trans hbel hb1⟩
    case measure=>simp [intOf];omega
  ·go_wp2
   go_ret
   refine ⟨ret_i64 ?_,hbel⟩
   have:=NO.out
   rw [List.take_of_length_le (by omega)] at this
   unfold firstAt
   rw [this]
theorem inContains_any (K:World→Prop) (hK:∀ a b,K a→Below a.heap.size a b→K b) (f:FuncId) (fc:Array Value) (q:InD→Bool) (hp:PicksN K f fc q) (l:List InD) (a:Option Addr) (cp:Nat) (w:World) (hw:K w) (hl:l.length≤1000) (hi:InsAt w a l) :
  Calls Tryz.prog 206 #[.slice a l.length cp,.func (.func f) #[] fc] w fun e w'=>e=.returned (.bool (l.any q))∧Below w.heap.size w w':=by
 have HP:=Lib.hid hp
 have HK:=Lib.hid hK
 have HW:=Lib.hid hw
 have HI:=Lib.hid hi
 clear hp hK hw hi
 go_enter Tryz.func206,Tryz.ntmps206
 go_wp2_with fail
 refine (inIndex_any K HK.out f fc q HP.out l _ _ w HW.out hl HI.out).mono ?_
 rintro e w1 ⟨rfl,hb1⟩
 have e1:=firstAt_neg q l
 obtain ⟨i,hi⟩:∃ i,firstAt q l=i:=⟨_,rfl⟩
 rw [hi] at e1 ⊢
 go_wp2
 go_ret
 exact ⟨rfl,hb1⟩
theorem picks_spends (c:Nat) (x:UInt64):PicksN (CellIs c (.int .u64 x.toNat)) 225 #[.pointer (some ⟨c,0,none⟩)] (fun e=>e.1 == x):=by
 refine ⟨fun _ _=>by kernel_rfl,fun e w hw=>?_⟩
 unfold inV
 have hc:=cell_spot hw
 have hw:w.cell? ⟨c,0,none⟩=some (.int .u64 x.toNat):=hw
 have hlt:c < w.heap.size:=hc.2
 clear hc
 have hq:((e.1.toNat:Int) == (x.toNat:Int))=(e.1 == x):=u64_beq e.1 x
 show Calls Tryz.prog 225 #[.agg #[.int .u64 e.1.toNat,.int .i64 e.2],.pointer (some ⟨c,0,none⟩)] w _
 go_enter Tryz.func225,Tryz.ntmps225
 go_wp2
 go_ret
 exact ⟨rfl,kept_new _ _⟩
def spendsD (d:DeedD) (x:UInt64):Bool:=d.ins.any fun e=>e.1 == x
theorem spends_any (d:DeedD) (x:UInt64) (a:Option Addr) (cap:Nat) (w:World) (hl:d.ins.length≤1000) (hi:InsAt w a d.ins) :
  Calls Tryz.prog 210 #[.agg #[.slice a d.ins.length cap,.int .i64 d.outs,.int .i64 d.weight,.int .i64 d.fee],.int .u64 x.toNat] w fun e w'=>e=.returned (.bool (spendsD d x))∧Below w.heap.size w w':=by
 have hk:Below w.heap.size w ((w.alloc (.cells #[.slice a d.ins.length cap,.int .i64 d.outs,.int .i64 d.weight,.int .i64 d.fee] 94)).alloc (.cells #[.int .u64 x.toNat] 22)):=kept_alloc (kept_new _ _) _
 have HI:=Lib.hid (insAt_kept hk hi)
 have HC:Hid (CellIs (w.heap.size+1) (.int .u64 x.toNat) ((w.alloc (.cells #[.slice a d.ins.length cap,.int .i64 d.outs,.int .i64 d.weight,.int .i64 d.fee] 94)).alloc (.cells #[.int .u64 x.toNat] 22))):=Lib.hid (by
  have:=cellIs_new (w.alloc (.cells #[.slice a d.ins.length cap,.int .i64 d.outs,.int .i64 d.weight,.int .i64 d.fee] 94)) (.int .u64 x.toNat) 22
  simpa using this)
 clear hi
 go_enter Tryz.func210,Tryz.ntmps210
 go_wp2_with fail
 refine (inContains_any _ (cellIs_kept _ _) _ _ _ (picks_spends (w.heap.size+1) x) d.ins _ _ _ HC.out hl HI.out).mono ?_
 rintro e w1 ⟨rfl,hb1⟩
 go_wp2
 go_ret
 exact ⟨rfl,kept_trans hk hb1⟩
end Go.Proofs.YtlboemhbealnmaaGreat
namespace Go.Proofs.YtlboemhbealnmaaGreat
open Go.RowKit Go.Maps
theorem u64_keyed:Maps.Keyed Tryz.prog 22:=int_keyed Tryz.underlying22
theorem u64_key (x:UInt64):keyOf Tryz.prog 22 (.int .u64 x.toNat)=some (.int .u64 x.toNat):=keyOf_int_mk Tryz.underlying22 (wf_u64_of x)
theorem lit_ne {x y:UInt64} (h:x≠y):Lit.int .u64 x.toNat≠Lit.int .u64 y.toNat:=fun e=>h (by simp only [Lit.int.injEq,true_and] at e;exact u64_inj e)
theorem same_lit (x y:UInt64):(Lit.int .u64 x.toNat).sameKey (.int .u64 y.toNat)=(x == y):=by
 rw [Bool.eq_iff_iff]
 constructor
 ·intro h
  have:=WideAt.sameKey_eq h
  simp only [Lit.int.injEq,true_and] at this
  exact beq_iff_eq.2 (u64_inj this)
 ·intro h
  rw [beq_iff_eq.1 h]
  exact WideAt.sameKey_self (u64_keyed.key (u64_key y))
def exactE (v:Value):Option (DataW Value × List MemPlace):=some (.held v,[])
structure It where
 r:Nat
 left:Lit→Bool
 cnt:Nat
def MapIs (w:World) (b:Nat) (it:Option It) (D:DataW Value):Prop:=
 ∃ n,match it with
 | none=>w.ownsMap Tryz.prog 22 exactE b n D
 | some i=>w.ranges Tryz.prog 22 exactE b i.r n D i.left i.cnt
theorem mapIs_owns {w:World} {b:Nat} {it:Option It} {D:DataW Value} (h:MapIs w b it D):∃ n,w.ownsMap Tryz.prog 22 exactE b n D:=by
 obtain ⟨n,h⟩:=h
 cases it with
 | none=>exact ⟨n,h⟩
 | some i=>exact ⟨n,World.ranges.owns h⟩
def TMap (w:World) (b:Nat) (it:Option It) (ev:UInt64→Option Value):Prop:=
 ∃ D,MapIs w b it D∧(∀ x v,ev x=some v→∀ z,D.atKey (.int .u64 x.toNat) z=.held v)∧(∀ x,Maps.has D (.int .u64 x.toNat)=(ev x).isSome)
theorem tmap_same {w w':World} {b:Nat} {it:Option It} {ev:UInt64→Option Value} (h:TMap w b it ev) (e:w'.heap[b]?=w.heap[b]?) (er:∀ i,it=some i→w'.heap[i.r]?=w.heap[i.r]?):TMap w' b it ev:=by
 obtain ⟨D,⟨n,hm⟩,r2⟩:=h
 refine ⟨D,⟨n,?_⟩,r2⟩
 cases it with
 | none=>
  obtain ⟨es,clock,hb,r⟩:=hm
  exact ⟨es,clock,e.trans hb,r⟩
 | some i=>
  obtain ⟨es,clock,since,seen,c0,hb,q1,q2,q3,hr,r⟩:=hm
  exact ⟨es,clock,since,seen,c0,e.trans hb,q1,q2,q3,(er i rfl).trans hr,r⟩
theorem tmap_new (w:World):TMap (w.alloc (.map #[] 0)) w.heap.size none (fun _=>none):=⟨.map [],⟨0,World.ownsMap_made w _ _ _⟩,fun x v h=>by simp at h,fun x=>rfl⟩
abbrev zeroD:Value:=.agg #[.slice none 0 0,.int .i64 0,.int .i64 0,.int .i64 0]
theorem zero_deed (w:World):(zeroValue 94).run Tryz.prog w=.ok zeroD w:=by kernel_rfl
theorem tmap_look {w:World} {b:Nat} {it:Option It} {ev:UInt64→Option Value} (h:TMap w b it ev) (x:UInt64) :
  (Instr.lookup 72 (.map (some b)) (.int .u64 x.toNat) false).run Tryz.prog w=.ok ((ev x).getD zeroD) w:=by
 obtain ⟨D,hm,hat,hhas⟩:=h
 obtain ⟨n,hD⟩:=mapIs_owns hm
 obtain ⟨u,ps,hrun,hu⟩:=hD.lookup u64_keyed Tryz.underlying72 (zero_deed w) (zd:=.held zeroD) (zp:=[]) rfl (u64_key x)
 rw [hrun]
 unfold exactE at hu
 simp only [Option.some.injEq,Prod.mk.injEq] at hu
 cases hx:ev x with
 | some v=>
  rw [hat x v hx] at hu
  have:=hu.1
  simp only [DataW.held.injEq] at this
  rw [this]
  rfl
 | none=>
  have h0:=hhas x
  rw [hx] at h0
  rw [atKey_of_not_has h0] at hu
  have:=hu.1
  simp only [DataW.held.injEq] at this
  rw [this]
  rfl
theorem tmap_look_ok {w:World} {b:Nat} {it:Option It} {ev:UInt64→Option Value} (h:TMap w b it ev) (x:UInt64) :
  (Instr.lookup 72 (.map (some b)) (.int .u64 x.toNat) true).run Tryz.prog w=.ok (.tuple #[(ev x).getD zeroD,.bool (ev x).isSome]) w:=by
 obtain ⟨D,hm,hat,hhas⟩:=h
 obtain ⟨n,hD⟩:=mapIs_owns hm
 obtain ⟨u,ps,hrun,hu⟩:=hD.look_ok u64_keyed Tryz.underlying72 (zero_deed w) (zd:=.held zeroD) (zp:=[]) rfl (u64_key x)
 rw [hrun,hhas x]
 unfold exactE at hu
 simp only [Option.some.injEq,Prod.mk.injEq] at hu
 cases hx:ev x with
 | some v=>
  rw [hat x v hx] at hu
  have:=hu.1
  simp only [DataW.held.injEq] at this
  rw [this]
  rfl
 | none=>
  have h0:=hhas x
  rw [hx] at h0
  rw [atKey_of_not_has h0] at hu
  have:=hu.1
  simp only [DataW.held.injEq] at this
  rw [this]
  rfl
def It.drop (i:It) (x:UInt64) (n:Nat):It:=⟨i.r,fun z=>i.left z && !z.sameKey (.int .u64 x.toNat),n⟩
theorem mapTurned_turn {w w':World} {b:Nat} (h:w.mapTurned w' b):Turn (fun k=>k=b) (fun k=>k=b) w w':=Turn.of_grown h.grown (fun k hk=>by cases hk;rfl)
theorem del_has {D:DataW Value} {ev:UInt64→Option Value} (h:∀ x:UInt64,Maps.has D (.int .u64 x.toNat)=(ev x).isSome) (x y:UInt64):Maps.has (D.del (.int .u64 x.toNat)) (.int .u64 y.toNat)=(if y=x then none else ev y).isSome:=by
 by_cases e:y=x
 ·rw [e,if_pos rfl,has_del_same];rfl
 ·rw [if_neg e,has_del_other (lit_ne e),h y]
theorem del_at {D:DataW Value} {ev:UInt64→Option Value} (h:∀ x v,ev x=some v→∀ z,D.atKey (.int .u64 x.toNat) z=.held v) (x y:UInt64) (v:Value) (hy:(if y=x then none else ev y)=some v) (z:DataW Value):(D.del (.int .u64 x.toNat)).atKey (.int .u64 y.toNat) z=.held v:=by
 by_cases e:y=x
 ·rw [if_pos e] at hy;cases hy
 ·rw [if_neg e] at hy
  rw [atKey_del_other (lit_ne e),h y v hy]
theorem tmap_delete {w:World} {b:Nat} {it:Option It} {ev:UInt64→Option Value} (h:TMap w b it ev) (x:UInt64) :
  ∃ w',(∀ ty,(Builtin.delete_ #[72,22] ty #[.map (some b),.int .u64 x.toNat]).run Tryz.prog w=.ok (.tuple #[]) w') ∧
   (∃ n,(∀ i,it=some i→n≤i.cnt)∧TMap w' b (it.map fun i=>i.drop x n) (fun y=>if y=x then none else ev y))∧Turn (fun k=>k=b) (fun k=>k=b) w w':=by
 obtain ⟨D,⟨n,hm⟩,hat,hhas⟩:=h
 cases it with
 | none=>
  obtain ⟨w',hrun,ho,ht⟩:=World.ownsMap.drop hm u64_keyed Tryz.underlying72 (u64_key x) 0
  exact ⟨w',fun ty=>hrun,⟨0,(fun i hi=>by cases hi),_,⟨n,ho⟩,fun y v hy z=>del_at hat x y v hy z,fun y=>del_has hhas x y⟩,mapTurned_turn ht⟩
 | some i=>
  obtain ⟨w',cnt',hrun,ho,hc,ht⟩:=World.ranges.drop hm u64_keyed Tryz.underlying72 (u64_key x) 0
  exact ⟨w',fun ty=>hrun,⟨cnt',(fun j hj=>by cases hj;exact hc),_,⟨n,ho⟩,fun y v hy z=>del_at hat x y v hy z,fun y=>del_has hhas x y⟩,mapTurned_turn ht⟩
theorem nodup_le:∀ {a b:List UInt64},a.Nodup→(∀ x ∈ a,x ∈ b)→a.length≤b.length
 | [],_,_,_=>Nat.zero_le _
 | x :: r,b,hn,hs=>by
  obtain ⟨hx,hr⟩:=List.nodup_cons.1 hn
  have hxb:x ∈ b:=hs x (by simp)
  have:=nodup_le hr (b:=b.erase x) (fun y hy=>(List.mem_erase_of_ne (show y≠x from fun e=>hx (e▸hy))).2 (hs y (by simp [hy])))
  rw [List.length_erase_of_mem hxb] at this
  have h1:0 < b.length:=List.length_pos_of_mem hxb
  simp only [List.length_cons]
  omega
def litId:Lit→UInt64
 | .int _ a=>UInt64.ofNat a.toNat
 | _=>0
theorem litId_mk (x:UInt64):litId (.int .u64 x.toNat)=x:=by simp [litId]
theorem tmap_small {w:World} {b:Nat} {D:DataW Value} {n:Nat} (h:w.ownsMap Tryz.prog 22 exactE b n D) (ks:List UInt64) (hks:∀ x:UInt64,Maps.has D (.int .u64 x.toNat)=true→x ∈ ks):w.ownsMap Tryz.prog 22 exactE b ks.length D:=by
 obtain ⟨es,clock,hb,F,hs,hD⟩:=h
 refine ⟨es,clock,hb,F,?_,hD⟩
 have hkeys:∀ p ∈ es.toList.map (WideElems.rg Tryz.prog 22 exactE),∃ x:UInt64,p.1=.int .u64 x.toNat:=fun p hp=>by
  obtain ⟨v,hv⟩:=fit_keys F p hp
  obtain ⟨a,_,e,hw⟩:=keyOf_int_inv Tryz.underlying22 hv
  obtain ⟨u,rfl⟩:=wf_u64 hw
  exact ⟨u,e⟩
 have hap:=fit_apart u64_keyed F
 have hnd:((es.toList.map (WideElems.rg Tryz.prog 22 exactE)).map fun p=>litId p.1).Nodup:=by
  unfold List.Nodup
  rw [List.pairwise_map]
  refine List.Pairwise.imp_of_mem (fun {p q} hp hq hne=>?_) hap
  obtain ⟨x,hx⟩:=hkeys p hp
  obtain ⟨y,hy⟩:=hkeys q hq
  rw [hx,hy,litId_mk,litId_mk]
  intro e
  exact hne (by rw [hx,hy,e])
 have hsub:∀ x ∈ (es.toList.map (WideElems.rg Tryz.prog 22 exactE)).map (fun p=>litId p.1),x ∈ ks:=fun x hx=>by
  obtain ⟨p,hp,rfl⟩:=List.mem_map.1 hx
  obtain ⟨y,hy⟩:=hkeys p hp
  rw [hy,litId_mk]
  refine hks y ?_
  rw [hD,has_eq,List.any_eq_true]
  exact ⟨p,mem_sorted.2 hp,by rw [hy,same_lit];simp⟩
 have:=nodup_le hnd hsub
 simpa using this
theorem tmap_put {w:World} {b:Nat} {ev:UInt64→Option Value} (h:TMap w b none ev) (ks:List UInt64) (hks:∀ x,(ev x).isSome=true→x ∈ ks) (hkl:ks.length≤1000) (x:UInt64) (v:Value) :
  ∃ w',(Instr.mapUpdate 72 (.map (some b)) (.int .u64 x.toNat) v).run Tryz.prog w=.ok () w'∧TMap w' b none (fun y=>if y=x then some v else ev y)∧Turn (fun k=>k=b) (fun k=>k=b) w w':=by
 obtain ⟨D,⟨n,hm⟩,hat,hhas⟩:=h
 have hm2:=tmap_small hm ks (fun y hy=>hks y (by rw [← hhas y];exact hy))
 obtain ⟨w',hrun,ho,hg⟩:=hm2.update u64_keyed Tryz.underlying72 (by unfold maxLen;omega) (u64_key x) (val:=v) (d:=.held v) (ps:=[]) rfl
 refine ⟨w',hrun,⟨_,⟨_,ho⟩,fun y u hy z=>?_,fun y=>?_⟩,Turn.of_grown hg (fun k hk=>by cases hk;rfl)⟩
 ·replace hy:(if y=x then some v else ev y)=some u:=hy
  by_cases e:y=x
  ·rw [if_pos e] at hy
   cases hy
   rw [e,atKey_put_same hm2.isMap (u64_keyed.key (u64_key _))]
  ·rw [if_neg e] at hy
   rw [atKey_put_other (lit_ne e),hat y u hy]
 ·show _=(if y=x then some v else ev y).isSome
  by_cases e:y=x
  ·rw [e,if_pos rfl,has_put_same hm2.isMap (u64_keyed.key (u64_key _))]
   rfl
  ·rw [if_neg e,has_put_other (lit_ne e),hhas y]
end Go.Proofs.YtlboemhbealnmaaGreat
