import Derived.Test.YtlboemhbealnmaaGreatK29
import Derived.Test.YtlboemhbealnmaaGreatK11
import Derived.Test.YtlboemhbealnmaaGreatK5
import Derived.Deep.Slices
import Derived.Test.YtlboemhbealnmaaGreatK2
import Derived.Test.YtlboemhbealnmaaGreatK1
import Derived.Test.YtlboemhbealnmaaGreatK16
import Derived.Test.YtlboemhbealnmaaGreatK4
import Derived.Deep.OwnRows
import Derived.BigQuiet
set_option maxRecDepth 20000
namespace Go.Proofs.YtlboemhbealnmaaGreat
open Go.RowKit Go.Maps
variable {w w':World} {F:Nat→Prop} {R:Nat} {s:NS}
def rawC (salt:UInt64) (t h j k:Nat):Array Value:=#[.bool false,.bool false,.bool false,.bool false,.bool false,.bool false,.bool false,.bool false,.bool false,.bool false,.bool false,.bool false,.bool false,.bool false,.bool false,.bool false,.int .i64 0,.int .u64 salt.toNat,.map (some t),.slice none 0 0,.slice none 0 0,.slice none 0 0,.slice none 0 0,.slice none 0 0,.slice none 0 0,.slice none 0 0,.slice none 0 0,.map (some h),.slice none 0 0,.map (some j),.slice none 0 0,.map (some k),.pointer none,.pointer none]
def rawW (w:World) (salt:UInt64):World:=(((((((w.alloc (.map #[] 0)).alloc (.cells #[.int .u64 salt.toNat,.map (some w.heap.size),.slice none 0 0,.slice none 0 0,.slice none 0 0,.slice none 0 0,.slice none 0 0,.slice none 0 0,.slice none 0 0,.slice none 0 0] 69)).alloc (.map #[] 0)).alloc (.cells #[.map (some (w.heap.size+2)),.slice none 0 0] 75)).alloc (.map #[] 0)).alloc (.map #[] 0)).alloc (.cells #[.map (some (w.heap.size+4)),.slice none 0 0,.map (some (w.heap.size+5))] 80)).alloc (.cells (rawC salt w.heap.size (w.heap.size+2) (w.heap.size+4) (w.heap.size+5)) 88)
theorem raw_below (w:World) (salt:UInt64):Below w.heap.size w (rawW w salt):=kept_alloc (kept_alloc (kept_alloc (kept_alloc (kept_alloc (kept_alloc (kept_alloc (kept_new _ _) _) _) _) _) _) _) _
theorem raw_size (w:World) (salt:UInt64):(rawW w salt).heap.size=w.heap.size+8:=by unfold rawW;simp
theorem raw_head (w:World) (salt:UInt64):Cells (rawW w salt) (w.heap.size+7) (rawC salt w.heap.size (w.heap.size+2) (w.heap.size+4) (w.heap.size+5)):=by
 unfold rawW
 have:=heap_alloc_new (((((((w.alloc (.map #[] 0)).alloc (.cells #[.int .u64 salt.toNat,.map (some w.heap.size),.slice none 0 0,.slice none 0 0,.slice none 0 0,.slice none 0 0,.slice none 0 0,.slice none 0 0,.slice none 0 0,.slice none 0 0] 69)).alloc (.map #[] 0)).alloc (.cells #[.map (some (w.heap.size+2)),.slice none 0 0] 75)).alloc (.map #[] 0)).alloc (.map #[] 0)).alloc (.cells #[.map (some (w.heap.size+4)),.slice none 0 0,.map (some (w.heap.size+5))] 80)) (.cells (rawC salt w.heap.size (w.heap.size+2) (w.heap.size+4) (w.heap.size+5)) 88)
 simp only [World.size_alloc] at this
 exact this
theorem raw_T (w:World) (salt:UInt64):Tr.TL (rawW w salt) (fun k=>k=w.heap.size∨k=w.heap.size+7) ⟨w.heap.size+7,ocOf (rawC salt w.heap.size (w.heap.size+2) (w.heap.size+4) (w.heap.size+5))⟩ salt []:=by
 refine ⟨Tr.good_nil,w.heap.size,fun _=>none,fun _=>.slice none 0 0,?_⟩
 have hz:=raw_size w salt
 exact {
  head:=raw_head w salt
  map:=Tr.tmap_same (Tr.tmap_new w) (by
   unfold rawW
   rw [heap_alloc_old _ _ (by simp <;> omega),heap_alloc_old _ _ (by simp <;> omega),heap_alloc_old _ _ (by simp <;> omega),heap_alloc_old _ _ (by simp <;> omega),heap_alloc_old _ _ (by simp <;> omega),heap_alloc_old _ _ (by simp <;> omega),heap_alloc_old _ _ (by simp)]) (fun i hi=>by cases hi)
  ents:=fun x=>.inl ⟨rfl,rfl⟩
  ids:=fun p _=>World.ownsRow_nil _ _ _ _
  eapart:=fun x y u v g h=>by cases h
  papart:=fun p q g _ _ h=>by cases h
  fR:=.inr rfl
  fb:=.inl rfl
  fe:=fun x v g h=>by cases h
  fp:=fun p g _ h=>by cases h
  there:=fun k hk=>by rw [hz];omega
  out:=fun i hi=>by cases hi }
theorem raw_P (w:World) (salt:UInt64):Ho.HL (rawW w salt) (fun k=>k=w.heap.size+2∨k=w.heap.size+7) ⟨w.heap.size+7,ocOf (rawC salt w.heap.size (w.heap.size+2) (w.heap.size+4) (w.heap.size+5))⟩ []:=by
 refine ⟨Ho.good_none,w.heap.size+2,fun _=>none,.slice none 0 0,?_⟩
 have hz:=raw_size w salt
 have hm:=tmap_new ((w.alloc (.map #[] 0)).alloc (.cells #[.int .u64 salt.toNat,.map (some w.heap.size),.slice none 0 0,.slice none 0 0,.slice none 0 0,.slice none 0 0,.slice none 0 0,.slice none 0 0,.slice none 0 0,.slice none 0 0] 69))
 simp only [World.size_alloc] at hm
 exact {
  head:=raw_head w salt
  map:=tmap_same hm (by
   unfold rawW
   rw [heap_alloc_old _ _ (by simp <;> omega),heap_alloc_old _ _ (by simp <;> omega),heap_alloc_old _ _ (by simp <;> omega),heap_alloc_old _ _ (by simp <;> omega),heap_alloc_old _ _ (by simp)]) (fun i hi=>by cases hi)
  deeds:=fun x=>.inl ⟨rfl,rfl⟩
  fine:=fun x d h=>by cases h
  links:=World.ownsRow_nil _ _ _ _
  fR:=.inr rfl
  fb:=.inl rfl
  fv:=fun g hg=>by cases hg
  there:=fun k hk=>by rw [hz];omega
  out:=fun i hi=>by cases hi }
theorem raw_A (w:World) (salt:UInt64):Ju.LedL (rawW w salt) (fun k=>k=w.heap.size+4∨k=w.heap.size+5∨k=w.heap.size+7) ⟨w.heap.size+7,ocOf (rawC salt w.heap.size (w.heap.size+2) (w.heap.size+4) (w.heap.size+5))⟩ []:=by
 refine ⟨w.heap.size+4,w.heap.size+5,0,fun _=>none,.slice none 0 0,Nat.le_refl _,?_⟩
 have hz:=raw_size w salt
 have hm:=tmap_new ((((w.alloc (.map #[] 0)).alloc (.cells #[.int .u64 salt.toNat,.map (some w.heap.size),.slice none 0 0,.slice none 0 0,.slice none 0 0,.slice none 0 0,.slice none 0 0,.slice none 0 0,.slice none 0 0,.slice none 0 0] 69)).alloc (.map #[] 0)).alloc (.cells #[.map (some (w.heap.size+2)),.slice none 0 0] 75))
 simp only [World.size_alloc] at hm
 have hS:=set_new (P:=Tryz.prog) (k:=180) (e:=4) (ok:=inOk) (kl:=inKey) (((((w.alloc (.map #[] 0)).alloc (.cells #[.int .u64 salt.toNat,.map (some w.heap.size),.slice none 0 0,.slice none 0 0,.slice none 0 0,.slice none 0 0,.slice none 0 0,.slice none 0 0,.slice none 0 0,.slice none 0 0] 69)).alloc (.map #[] 0)).alloc (.cells #[.map (some (w.heap.size+2)),.slice none 0 0] 75)).alloc (.map #[] 0))
 simp only [World.size_alloc] at hS
 exact {
  head:=raw_head w salt
  map:=tmap_same hm (by
   unfold rawW
   rw [heap_alloc_old _ _ (by simp <;> omega),heap_alloc_old _ _ (by simp <;> omega),heap_alloc_old _ _ (by simp)]) (fun i hi=>by cases hi)
  deeds:=fun x=>.inl ⟨rfl,rfl⟩
  fine:=fun x d h=>by cases h
  order:=World.ownsRow_nil _ _ _ _
  spent:=Ju.seen_same hS (by
   unfold rawW
   rw [heap_alloc_old _ _ (by simp <;> omega),heap_alloc_old _ _ (by simp)])
  ne:=by omega
  fR:=.inr (.inr rfl)
  fb:=.inl rfl
  fs:=.inr (.inl rfl)
  fv:=fun g hg=>by cases hg
  there:=fun k hk=>by rw [hz];omega }
theorem rawC_size (salt:UInt64) (t h j k:Nat):(rawC salt t h j k).size=34:=rfl
theorem ring50 (w:World):Calls Tryz.prog 42 #[.int .i64 50] w fun e w'=>e=.returned (.tuple #[.pointer (some ⟨w.heap.size+1,0,none⟩),.int .i64 0])∧Ri.RingAt w' (fun k=>k=w.heap.size∨k=w.heap.size+1) (w.heap.size+1) (Ri.RingS.none 50)∧Below w.heap.size w w':=Ri.ring_new 50 w (by decide) (by decide)
theorem ring20 (w:World):Calls Tryz.prog 42 #[.int .i64 20] w fun e w'=>e=.returned (.tuple #[.pointer (some ⟨w.heap.size+1,0,none⟩),.int .i64 0])∧Ri.RingAt w' (fun k=>k=w.heap.size∨k=w.heap.size+1) (w.heap.size+1) (Ri.RingS.none 20)∧Below w.heap.size w w':=Ri.ring_new 20 w (by decide) (by decide)
set_option maxRecDepth 20000 in
theorem filters_any (cs:Array Value) (hs:cs.size=34) (w:World) (h:Cells w R cs):Calls Tryz.prog 26 #[.pointer (some ⟨R,0,none⟩)] w fun e w'=>e=.returned (.tuple #[])∧∃ (a z:Nat) (FW FQ:Nat→Prop),Cells w' R ((cs.setIfInBounds 32 (.pointer (some ⟨a,0,none⟩))).setIfInBounds 33 (.pointer (some ⟨z,0,none⟩)))∧Ri.RingAt w' FW a (Ri.RingS.none 50)∧Ri.RingAt w' FQ z (Ri.RingS.none 20)∧(∀ k,FW k→w.heap.size≤k)∧(∀ k,FQ k→w.heap.size≤k)∧Apart FW FQ∧Turn (fun k=>k=R) (fun k=>k=R) w w':=by
 have hlt:R < w.heap.size:=(Array.getElem?_eq_some_iff.1 h).1
 have HC:=Lib.hid h
 clear h
 go_enter Tryz.func26,Tryz.ntmps26
 go_wp2_with fail
 with_reducible refine (ring50 _).mono ?_
 rintro e w1 ⟨rfl,h1,hb1⟩
 have hc1:Cells w1 R cs:=(hb1.block R hlt).trans HC.out
 obtain ⟨c32,f32⟩:=cells_at hc1 (i:=32) (u:=cs[32]'(by omega)) (Array.getElem?_eq_getElem _)
 have l1:R < w1.heap.size:=Nat.lt_of_lt_of_le hlt hb1.size
 have t1:Turn (fun k=>k=R) (fun k=>k=R) w (w1.setCell ⟨R,32,none⟩ (.pointer (some ⟨w.heap.size+1,0,none⟩))):=(Turn.of_below hb1).trans (Turn.set w1 ⟨R,32,none⟩ _ rfl)
 have hc2:Cells (w1.setCell ⟨R,32,none⟩ (.pointer (some ⟨w.heap.size+1,0,none⟩))) R (cs.setIfInBounds 32 (.pointer (some ⟨w.heap.size+1,0,none⟩))):=heap_setCell_same w1 R 32 _ _ _ hc1
 have r1:=Ri.ringAt_turn h1 (Turn.set (F:=fun k=>k=R) w1 ⟨R,32,none⟩ (.pointer (some ⟨w.heap.size+1,0,none⟩)) rfl) (fun k hk e=>by omega)
 have T1:=Lib.hid t1
 have HC2:=Lib.hid hc2
 have HR1:=Lib.hid r1
 have HSZ:Hid (w.heap.size+1 < w1.heap.size):=Lib.hid (Ri.ringAt_there h1 _ (.inr rfl))
 clear hc1 h1 hb1 t1 hc2 r1
 go_wp2_with fail
 with_reducible refine (ring20 _).mono ?_
 rintro e w2 ⟨rfl,h2,hb2⟩
 have hsz2:(w1.setCell ⟨R,32,none⟩ (.pointer (some ⟨w.heap.size+1,0,none⟩))).heap.size=w1.heap.size:=World.size_setCell ..
 rw [hsz2] at h2 ⊢
 have hc3:Cells w2 R (cs.setIfInBounds 32 (.pointer (some ⟨w.heap.size+1,0,none⟩))):=(hb2.block R (by omega)).trans HC2.out
 obtain ⟨c33,f33⟩:=cells_at hc3 (i:=33) (u:=(cs.setIfInBounds 32 (.pointer (some ⟨w.heap.size+1,0,none⟩)))[33]'(by rw [Array.size_setIfInBounds];omega)) (Array.getElem?_eq_getElem _)
 have l2:R < w2.heap.size:=by have:=hb2.size;omega
 have t2:Turn (fun k=>k=R) (fun k=>k=R) w (w2.setCell ⟨R,33,none⟩ (.pointer (some ⟨w1.heap.size+1,0,none⟩))):=(T1.out.trans (Turn.of_below hb2)).trans (Turn.set w2 ⟨R,33,none⟩ _ rfl)
 have hc4:Cells (w2.setCell ⟨R,33,none⟩ (.pointer (some ⟨w1.heap.size+1,0,none⟩))) R ((cs.setIfInBounds 32 (.pointer (some ⟨w.heap.size+1,0,none⟩))).setIfInBounds 33 (.pointer (some ⟨w1.heap.size+1,0,none⟩))):=heap_setCell_same w2 R 33 _ _ _ hc3
 have ts:=Turn.set (F:=fun k=>k=R) w2 ⟨R,33,none⟩ (.pointer (some ⟨w1.heap.size+1,0,none⟩)) rfl
 have r2:=Ri.ringAt_turn h2 ts (fun k hk e=>by omega)
 have r3:=Ri.ringAt_turn (Ri.ringAt_kept HR1.out hb2) ts (fun k hk e=>by omega)
 have T2:=Lib.hid t2
 have HC4:=Lib.hid hc4
 have HR2:=Lib.hid r2
 have HR3:=Lib.hid r3
 clear hc3 h2 hb2 t2 hc4 r2 r3 ts
 go_wp2_with fail
 go_end0
 exact ⟨rfl,_,_,_,_,HC4.out,HR3.out,HR2.out,fun k hk=>by omega,fun k hk=>by have:=HSZ.out;omega,fun k h1 h2=>by have:=HSZ.out;omega,T2.out⟩
theorem raw_node (salt:UInt64) (w:World) {a z:Nat} {FW FQ:Nat→Prop} {cs:Array Value} (hcs:(((rawC salt w.heap.size (w.heap.size+2) (w.heap.size+4) (w.heap.size+5)).setIfInBounds 32 (.pointer (some ⟨a,0,none⟩))).setIfInBounds 33 (.pointer (some ⟨z,0,none⟩)))=cs) (hc:Cells w' (w.heap.size+7) cs) (hW:Ri.RingAt w' FW a (Ri.RingS.none 50)) (hQ:Ri.RingAt w' FQ z (Ri.RingS.none 20)) (hw:∀ k,FW k→w.heap.size+8≤k) (hq:∀ k,FQ k→w.heap.size+8≤k) (ha:Apart FW FQ) (ht:Turn (fun k=>k=w.heap.size+7) (fun k=>k=w.heap.size+7) (rawW w salt) w') :
  ∃ F,NodeAt w' F (w.heap.size+7) (NS.new salt)∧∀ k,F k→w.heap.size≤k:=by
 have hs:cs.size=34:=by rw [← hcs];rfl
 have hb:∀ G:Nat→Prop,But G (w.heap.size+7) (rawW w salt) w':=fun G=>⟨ht.size,fun k hk _ hn=>ht.block k hk hn⟩
 have ho:∀ i,i < 32→cs[i]?=(rawC salt w.heap.size (w.heap.size+2) (w.heap.size+4) (w.heap.size+5))[i]?:=fun i hi=>by rw [← hcs,Array.getElem?_setIfInBounds_ne (by omega),Array.getElem?_setIfInBounds_ne (by omega)]
 refine ⟨fun k=>(k=w.heap.size∨k=w.heap.size+7)∨(k=w.heap.size+2∨k=w.heap.size+7)∨(k=w.heap.size+4∨k=w.heap.size+5∨k=w.heap.size+7)∨FW k∨FQ k,⟨cs,fun k=>k=w.heap.size∨k=w.heap.size+7,fun k=>k=w.heap.size+2∨k=w.heap.size+7,fun k=>k=w.heap.size+4∨k=w.heap.size+5∨k=w.heap.size+7,FW,FQ,a,z,?_⟩,?_⟩
 ·exact {
   head:=hc
   size:=hs
   peers:=fun p hp=>by
    rw [ho _ (by omega),ho _ (by omega)]
    match p,hp with
    | 0,_=>exact ⟨rfl,rfl⟩
    | 1,_=>exact ⟨rfl,rfl⟩
    | 2,_=>exact ⟨rfl,rfl⟩
    | 3,_=>exact ⟨rfl,rfl⟩
    | 4,_=>exact ⟨rfl,rfl⟩
    | 5,_=>exact ⟨rfl,rfl⟩
    | 6,_=>exact ⟨rfl,rfl⟩
    | 7,_=>exact ⟨rfl,rfl⟩
   now:=by rw [ho _ (by omega)];rfl
   T:=TL_again (raw_T w salt) (raw_head w salt) hc hs (fun i _ h2=>ho i (by omega)) (hb _)
   P:=HL_again (raw_P w salt) (raw_head w salt) hc hs (fun i _ h2=>ho i (by omega)) (hb _)
   A:=LedL_again (raw_A w salt) (raw_head w salt) hc hs (fun i _ h2=>ho i (by omega)) (hb _)
   cW:=by rw [← hcs];rfl
   cQ:=by rw [← hcs];rfl
   W:=hW
   Q:=hQ
   good:=⟨⟨(by decide:(0:Int)≤0),(by decide:(0:Int)≤1099511627776)⟩,Tr.good_nil,Ho.good_none,⟨fun d hd=>by simp [NS.new] at hd,by simp [NS.new]⟩,Ri.none_good (by decide) (by decide),Ri.none_good (by decide) (by decide)⟩
   th:=fun k h1 h2=>by omega
   tj:=fun k h1 h2=>by omega
   hj:=fun k h1 h2=>by omega
   tw:=fun k h1 h2=>by have:=hw k h2;omega
   hw:=fun k h1 h2=>by have:=hw k h2;omega
   jw:=fun k h1 h2=>by have:=hw k h2;omega
   tq:=fun k h1 h2=>by have:=hq k h2;omega
   hq:=fun k h1 h2=>by have:=hq k h2;omega
   jq:=fun k h1 h2=>by have:=hq k h2;omega
   wq:=ha
   all:=fun k=>Iff.rfl }
 ·intro k hk
  rcases hk with hk | hk | hk | hk | hk
  ·omega
  ·omega
  ·omega
  ·have:=hw k hk;omega
  ·have:=hq k hk;omega
set_option maxRecDepth 20000 in
set_option maxHeartbeats 4000000 in
theorem new_any (salt:UInt64) (w:World):Calls Tryz.prog 6 #[.int .u64 salt.toNat] w fun e w'=>∃ R F,e=.returned (.pointer (some ⟨R,0,none⟩))∧NodeAt w' F R (NS.new salt)∧(∀ k,F k→w.heap.size≤k)∧Below w.heap.size w w':=by
 go_enter Tryz.func6,Tryz.ntmps6
 go_upto_region 1 with fail
 go_cut [3] from 4 to 18 (fun v3 wx=>v3=.pointer (some ⟨w.heap.size+7,0,none⟩)∧wx=rawW w.drew salt)
 case first=>
  go_region_law (first
   | (go_simp;go_at_call 23;(with_reducible refine (Tr.new_any salt _).mono ?_);rintro e w1 ⟨rfl,rfl⟩)
   | (go_simp;go_at_call 24;(with_reducible refine (Ho.home_new _).mono ?_);rintro e w1 ⟨rfl,rfl⟩)
   | (go_simp;go_at_call 25;(with_reducible refine (Ju.led_new _).mono ?_);rintro e w1 ⟨rfl,rfl⟩))
  all_goals
   go_wp2_with fail
   go_meet
   case rel=>exact ⟨rfl,rfl⟩
 case rest=>
  obtain ⟨rfl,hwx⟩:=hcut
  have hd:w.drew.heap.size=w.heap.size:=rfl
  obtain ⟨wx,hx⟩:∃ wx,rawW w.drew salt=wx:=⟨_,rfl⟩
  have HH:Hid (Cells wx (w.heap.size+7) (rawC salt w.heap.size (w.heap.size+2) (w.heap.size+4) (w.heap.size+5))):=Lib.hid (hx▸raw_head w.drew salt)
  have HX:=Lib.hid hx
  have hz:wx.heap.size=w.heap.size+8:=hx▸raw_size w.drew salt
  have HB:Hid (Below w.heap.size w wx):=Lib.hid (kept_trans ((Below.refl w.heap.size w).drew) (hx▸raw_below w.drew salt))
  rw [hwx,hx]
  clear hwx hx hd
  go_wp2_with fail
  with_reducible refine (filters_any _ (rawC_size _ _ _ _ _) _ HH.out).mono ?_
  rintro e w2 ⟨rfl,a,z,FW,FQ,h1,h2,h3,h4,h5,h6,h7⟩
  obtain ⟨F,hn,hF⟩:=raw_node salt w.drew rfl h1 h2 h3 (fun k hk=>by have:=h4 k hk;show w.heap.size+8≤k;omega) (fun k hk=>by have:=h5 k hk;show w.heap.size+8≤k;omega) h6 (HX.out▸h7)
  have HN:=Lib.hid hn
  have HF:Hid (∀ k,F k→w.heap.size≤k):=Lib.hid hF
  have HB2:Hid (Below w.heap.size w w2):=Lib.hid (HB.out.trans (h7.below (fun k hk=>by omega) (by omega)))
  clear h1 h2 h3 h4 h5 h6 h7 hn hF
  go_wp2_with fail
  go_ret
  exact ⟨_,F,rfl,HN.out,HF.out,HB2.out⟩
end Go.Proofs.YtlboemhbealnmaaGreat
namespace Go.Proofs.YtlboemhbealnmaaGreat
open Go.RowKit Go.Maps
variable {w w':World} {F:Nat→Prop} {R:Nat} {s:NS}
end Go.Proofs.YtlboemhbealnmaaGreat
namespace Go.Proofs.YtlboemhbealnmaaGreat
open Go.RowKit Go.Maps
variable {w w':World} {F:Nat→Prop} {R:Nat} {s:NS}
theorem message_none (p:Nat):message p ⟨2,[],⟨#[]⟩⟩=[]:=by unfold message;rw [if_neg (by decide)]
theorem asks_none (h:s.T=[]) (p:Nat):s.asks p=[]:=by unfold NS.asks;rw [h];rfl
theorem wait_none (h:s.T=[]):∀ k,s.wait k=(s,[])
 | 0=>rfl
 | k+1=>by
  have ih:=wait_none h k
  simp only [NS.wait,ih]
  unfold NS.request
  rw [asks_none h,message_none]
  rfl
theorem fly_none (h:s.T=[]):Fly s:=fun p _=>by unfold flies;rw [h];simp
structure Mine (w0 w:World) (F:Nat→Prop) (R:Nat) (s:NS):Prop where
 node:NodeAt w F R s
 above:∀ k,F k→w0.heap.size≤k
 below:Below w0.heap.size w0 w
theorem Mine.kept {w0:World} (h:Mine w0 w F R s) (hb:Below w.heap.size w w'):Mine w0 w' F R s:=⟨h.node.kept hb,h.above,kept_trans h.below hb⟩
theorem mine_new {w0:World} (salt:UInt64) (w:World) (hb:Below w0.heap.size w0 w):Calls Tryz.prog 6 #[.int .u64 salt.toNat] w fun e w'=>∃ R F,e=.returned (.pointer (some ⟨R,0,none⟩))∧Mine w0 w' F R (NS.new salt)∧(∀ k,F k→w.heap.size≤k)∧Below w.heap.size w w':=
 (new_any salt w).mono fun _ _ ⟨R,F,h1,h2,h3,h4⟩=>⟨R,F,h1,⟨h2,fun k hk=>Nat.le_trans hb.size (h3 k hk),kept_trans hb h4⟩,h3,h4⟩
end Go.Proofs.YtlboemhbealnmaaGreat
namespace Go.Proofs.YtlboemhbealnmaaGreat
open Go.ChangeShapes Go.WideShapes Go.ChangeAt Go.RowKit Go.Joins Go.Deep
structure ActD where
 kind:Int
 peer:Int
 n:Int
 flag:Bool
 bytes:ByteArray
instance : Inhabited ActD:=⟨⟨0,0,0,false,⟨#[]⟩⟩⟩
def ActCells (w:World) (b o:Nat) (d:ActD):Prop:=
 w.cell? ⟨b,o,none⟩=some (.int .i64 d.kind)∧w.cell? ⟨b,o+1,none⟩=some (.int .i64 d.peer)∧w.cell? ⟨b,o+2,none⟩=some (.int .i64 d.n)∧w.cell? ⟨b,o+3,none⟩=some (.bool d.flag)∧w.cell? ⟨b,o+4,none⟩=some (.string d.bytes)
def ActsAt (w:World) (a:Option Addr) (l:List ActD):Prop:=∀ i (h:i < l.length),(∃ b o,a=some ⟨b,o,none⟩∧b < w.heap.size∧ActCells w b (o+i * 5) l[i])∧l[i].bytes.size≤maxLen
end Go.Proofs.YtlboemhbealnmaaGreat
namespace Go.Proofs.YtlboemhbealnmaaGreat
open Go.RowKit Go.Maps
variable {w w':World} {F:Nat→Prop} {R:Nat} {s:NS}
def Calm (T T':List Tr.TEnt):Prop:=∀ p,flies T' p≤flies T p
theorem Calm.refl (T:List Tr.TEnt):Calm T T:=fun _=>Nat.le_refl _
theorem Calm.trans {a b c:List Tr.TEnt} (h:Calm a b) (k:Calm b c):Calm a c:=fun p=>Nat.le_trans (k p) (h p)
theorem calm_forget (T:List Tr.TEnt) (x:UInt64):Calm T (Tr.forgetL T x):=fun p=>flies_sub List.filter_sublist p
theorem calm_answer (T:List Tr.TEnt) (p:Int) (x:UInt64):Calm T (Tr.answerC T p x).2:=fun q=>by
 unfold Tr.answerC
 split
 ·unfold Tr.answerL
  split
  ·refine Nat.le_trans (flies_settle _ q) (flies_map q fun e _ h=>?_)
   unfold Tr.doneE at h
   split at h
   ·simp at h
   ·exact h
  ·exact Nat.le_refl _
 ·exact Nat.le_refl _
theorem calm_ann (T:List Tr.TEnt) (p:Int) (x:UInt64) (t:Int) (f:Bool):Calm T (Tr.annC T p x t f).2:=fun q=>by
 unfold Tr.annC
 split
 ·unfold Tr.annL
  split
  ·exact Nat.le_refl _
  ·split
   ·exact Nat.le_refl _
   ·unfold flies
    rw [List.filter_append]
    simp
 ·exact Nat.le_refl _
theorem calm_drop (T:List Tr.TEnt) (p:Nat):Calm T (Tr.dropL T p):=fun q=>Nat.le_trans (flies_settle _ q) (flies_sub List.filter_sublist q)
structure Grow (n:Nat) (s t:NS):Prop where
 sum:t.A.length+t.P.length≤s.A.length+s.P.length+n
 calm:Calm s.T t.T
theorem Grow.refl (s:NS):Grow 0 s s:=⟨Nat.le_refl _,Calm.refl _⟩
theorem Grow.trans {a b:Nat} {s t u:NS} (h:Grow a s t) (k:Grow b t u):Grow (a+b) s u:=⟨by have:=h.sum;have:=k.sum;omega,h.calm.trans k.calm⟩
theorem Grow.mono {a b:Nat} {s t:NS} (h:Grow a s t) (hab:a≤b):Grow b s t:=⟨by have:=h.sum;omega,h.calm⟩
theorem settle_T (s:NS) (x:UInt64):Calm s.T (s.settle x).T:=calm_forget _ _
theorem accept_T (s:NS) (x:UInt64) (d:DeedD):Calm s.T (s.accept x d).T:=calm_forget _ _
theorem seek_T (s:NS) (x:UInt64) (d:DeedD):Calm s.T (s.seek x d).1.T:=by
 unfold NS.seek
 split
 ·exact Calm.refl _
 ·exact (accept_T _ _ _).trans (accept_T _ _ _)
theorem examine_T (s:NS) (x:UInt64) (d:DeedD):Calm s.T (s.examine x d).1.T:=by
 unfold NS.examine
 split
 ·exact accept_T _ _ _
 ·split
  ·exact (settle_T { s with Q:=s.Q.put x } x).trans (seek_T _ x d)
  ·split
   ·exact settle_T { s with W:=s.W.put x } x
   ·exact Calm.refl _
theorem follow_grow (s:NS) (q:List UInt64):Grow 0 s (s.follow q):=by
 induction s,q using NS.follow.induct with
 | case1 s=>rw [follow_nil];exact Grow.refl _
 | case2 s x r h ih=>rw [follow_none _ _ _ h];exact ih
 | case3 s x r d h ih=>
  rw [follow_some _ _ _ _ h]
  have h1:Grow 0 s (s.examine x d).1:=⟨examine_sum' s x d d h,examine_T s x d⟩
  exact h1.trans ih
theorem want_grow (s:NS) (p:Nat) (x:UInt64):Grow 0 s (s.want p x):=by
 unfold NS.want
 split
 ·exact Grow.refl _
 ·exact ⟨Nat.le_refl _,calm_ann _ _ _ _ _⟩
theorem wants_grow (p:Nat):∀ (l:List UInt64) (s:NS),Grow 0 s (l.foldl (fun s m=>s.want p m) s)
 | [],_=>Grow.refl _
 | x :: r,s=>(want_grow s p x).trans (wants_grow p r _)
theorem add_len (L:List Ho.LinkD) (p:Int) (x:UInt64) (d:DeedD):(Ho.addC L p x d).2.length≤L.length+1:=by
 unfold Ho.addC
 split
 ·simp
 ·split
  ·simp
  ·split
   ·simp
   ·have:=(Ho.room_sub (Ho.newL L p.toNat x d)).length_le
    refine Nat.le_trans this ?_
    unfold Ho.newL
    simp
theorem adopt_grow (s:NS) (p:Nat) (x:UInt64) (d:DeedD) (ms:List UInt64):Grow 1 s (s.adopt p x d ms):=by
 have h1:Grow 1 s { s with T:=Tr.forgetL s.T x,P:=(Ho.addC s.P p x d).2 }:=⟨by have:=add_len s.P p x d;show s.A.length+(Ho.addC s.P p x d).2.length≤_;omega,calm_forget _ _⟩
 unfold NS.adopt
 simp only
 split
 ·exact h1.trans (wants_grow p ms _)
 ·exact h1
theorem miss_lost {L:List DeedD} {d:DeedD} (h:(Ju.judgeL L d).2.1≠[]):(Ju.judgeL L d).1=2:=by
 unfold Ju.judgeL at h ⊢
 split at h
 ·exact absurd rfl h
 ·rename_i hc
  rw [if_neg hc]
  show Ju.stateL L d=2
  unfold Ju.stateL Ju.stateM
  rw [if_pos h]
theorem bring_grow (s:NS) (p:Nat) (d:DeedD):Grow 1 s (s.bring p d):=by
 have h0:Grow 0 s { s with T:=(Tr.answerC s.T p (Ju.idD d)).2 }:=⟨Nat.le_refl _,calm_answer _ _ _⟩
 by_cases hk:((Ju.findL s.A (Ju.idD d)).isSome || s.W.has (Ju.idD d))=true
 ·rw [bring_known hk]
  exact h0.mono (by omega)
 ·rw [Bool.not_eq_true,Bool.or_eq_false_iff] at hk
  rw [bring_new rfl hk.1 hk.2]
  refine h0.trans (Grow.trans (a:=1) ?_ (follow_grow _ _))
  split
  ·rename_i hm
   have hl:=miss_lost hm
   have he:=examine_lost (s:=({ s with T:=(Tr.answerC s.T p (Ju.idD d)).2 }:NS)) (x:=Ju.idD d) (d:=d) (by rw [hl];decide) (by rw [hl];decide) (by rw [hl];decide)
   rw [he]
   exact adopt_grow _ _ _ _ _
  ·exact ⟨examine_sum _ _ _,examine_T _ _ _⟩
theorem ann1_grow (s:NS) (p:Nat) (x:UInt64):Grow 0 s (s.announce1 p x):=by
 unfold NS.announce1
 split
 ·exact Grow.refl _
 ·exact ⟨Nat.le_refl _,calm_ann _ _ _ _ _⟩
theorem announce_grow (p:Nat):∀ (l:List UInt64) (s:NS),Grow 0 s (s.announce p l)
 | [],_=>Grow.refl _
 | x :: r,s=>(ann1_grow s p x).trans (announce_grow p r _)
theorem missing_grow (p:Nat):∀ (l:List UInt64) (s:NS),Grow 0 s (s.missing p l)
 | [],_=>Grow.refl _
 | x :: r,s=>(show Grow 0 s { s with T:=(Tr.answerC s.T p x).2 } from ⟨Nat.le_refl _,calm_answer _ _ _⟩).trans (missing_grow p r _)
theorem send_grow (s:NS) (p:Int) (b:ByteArray):Grow 1 s (s.send p b).1:=by
 unfold NS.send
 simp only
 split
 ·exact (Grow.refl _).mono (by omega)
 ·split
  ·exact (Grow.refl _).mono (by omega)
  ·split
   ·exact (announce_grow _ _ _).mono (by omega)
   ·split
    ·exact (missing_grow _ _ _).mono (by omega)
    ·split
     ·exact (Grow.refl _).mono (by omega)
     ·split
      ·exact (Grow.refl _).mono (by omega)
      ·exact bring_grow _ _ _
theorem asks_good (p:Nat):∀ (l:List UInt64) (u:NS),Tr.Good u.T→Tr.Good (l.foldl (fun s x=>{ s with T:=(Tr.askC s.T p x (s.later 10)).2 }) u).T
 | [],_,h=>h
 | x :: r,u,h=>asks_good p r { u with T:=(Tr.askC u.T p x (u.later 10)).2 } (askC_good h p x _)
theorem asks_rest (p:Nat):∀ (l:List UInt64) (u:NS),(l.foldl (fun s x=>{ s with T:=(Tr.askC s.T p x (s.later 10)).2 }) u).A=u.A∧(l.foldl (fun s x=>{ s with T:=(Tr.askC s.T p x (s.later 10)).2 }) u).P=u.P
 | [],_=>⟨rfl,rfl⟩
 | x :: r,u=>asks_rest p r { u with T:=(Tr.askC u.T p x (u.later 10)).2 }
theorem wait_keeps (u:NS) (hf:Fly u) (hg:Tr.Good u.T):∀ k,Fly (u.wait k).1∧Tr.Good (u.wait k).1.T∧(u.wait k).1.A=u.A∧(u.wait k).1.P=u.P
 | 0=>⟨hf,hg,rfl,rfl⟩
 | k+1=>by
  obtain ⟨h1,h2,h3,h4⟩:=wait_keeps u hf hg k
  simp only [NS.wait]
  refine ⟨fly_request h1 h2 k,asks_good k _ _ h2,?_,?_⟩
  ·unfold NS.request
   rw [(asks_rest k _ _).1,h3]
  ·unfold NS.request
   rw [(asks_rest k _ _).2,h4]
theorem pass_keeps (hf:Fly s) (hg:Tr.Good s.T) (k:Int):Fly (s.pass k).1∧(s.pass k).1.A=s.A∧(s.pass k).1.P=s.P:=by
 by_cases hk:k < 0∨k > 1099511627776 - s.now
 ·have:s.pass k=(s,[],1):=by unfold NS.pass;rw [if_pos hk]
  rw [this]
  exact ⟨hf,rfl,rfl⟩
 ·obtain ⟨u,hu⟩:∃ u:NS,({ s with now:=s.now+k,T:=Tr.dueL (s.now+k) s.T }:NS)=u:=⟨_,rfl⟩
  have he:s.pass k=((u.wait 8).1,(u.wait 8).2,0):=by unfold NS.pass;rw [if_neg hk,hu]
  have hA:u.A=s.A:=by rw [← hu]
  have hP:u.P=s.P:=by rw [← hu]
  have hF:Fly u:=by rw [← hu];exact fun p hp=>Nat.le_trans (flies_due _ _ p) (hf p hp)
  have hG:Tr.Good u.T:=by rw [← hu];exact Tr.good_due hg _
  have hk:=wait_keeps u hF hG 8
  obtain ⟨r,hr⟩:∃ r,u.wait 8=r:=⟨_,rfl⟩
  rw [hr] at hk he
  obtain ⟨h1,_,h3,h4⟩:=hk
  rw [he]
  exact ⟨h1,h3.trans hA,h4.trans hP⟩
structure NInv (n:Nat) (s:NS):Prop where
 fly:Fly s
 sum:s.A.length+s.P.length≤n
theorem Grow.inv {n:Nat} {t:NS} (h:Grow 1 s t) (hi:NInv n s):NInv (n+1) t:=⟨fun p hp=>Nat.le_trans (h.calm p) (hi.fly p hp),by have:=h.sum;have:=hi.sum;omega⟩
theorem inv_new (salt:UInt64):NInv 0 (NS.new salt):=⟨fly_none rfl,Nat.le_refl _⟩
def NS.did (s:NS) (a:ActD):NS × List OutD × Int:=
 if a.kind=1 then ((s.join a.peer a.flag).1,[],(s.join a.peer a.flag).2)
 else if a.kind=2 then ((s.leave a.peer).1,[],(s.leave a.peer).2)
 else if a.kind=3 then s.send a.peer a.bytes
 else if a.kind=4 then s.pass a.n
 else (s,[],1)
theorem join_grow (s:NS) (p:Int) (f:Bool):Grow 1 s (s.join p f).1:=by
 unfold NS.join
 split
 ·exact (Grow.refl _).mono (by omega)
 ·split
  ·exact (Grow.refl _).mono (by omega)
  ·exact ⟨by show s.A.length+s.P.length≤_;omega,Calm.refl _⟩
theorem leave_grow (s:NS) (p:Int):Grow 1 s (s.leave p).1:=by
 unfold NS.leave
 split
 ·exact (Grow.refl _).mono (by omega)
 ·refine ⟨?_,calm_drop _ _⟩
  have:(Ho.dropL s.P p.toNat).length≤s.P.length:=List.length_filter_le _ _
  show s.A.length+(Ho.dropL s.P p.toNat).length≤_
  omega
theorem did_inv {n:Nat} (hi:NInv n s) (hg:Tr.Good s.T) (a:ActD):NInv (n+1) (s.did a).1:=by
 unfold NS.did
 split
 ·exact (join_grow s _ _).inv hi
 ·split
  ·exact (leave_grow s _).inv hi
  ·split
   ·exact (send_grow s _ _).inv hi
   ·split
    ·obtain ⟨h1,h2,h3⟩:=pass_keeps hi.fly hg a.n
     exact ⟨h1,by rw [h2,h3];have:=hi.sum;omega⟩
    ·exact ((Grow.refl s).mono (by omega)).inv hi
theorem turns_sent {v:Int} {s':NS} {e:Ending} (h:TurnsN w F R (.int .i64 v) s' e w'):e=.returned (.int .i64 v)∧SentN w F R (s',[],v) (.returned (.tuple #[.slice none 0 0,.int .i64 v])) w':=by
 obtain ⟨he,F',h1,h2⟩:=h
 exact ⟨he,sent_none h1 h2⟩
end Go.Proofs.YtlboemhbealnmaaGreat
set_option maxRecDepth 20000
namespace Go.Proofs.YtlboemhbealnmaaGreat
open Go.RowKit
structure Gain (B:Nat) (G G':Nat→Prop) (w w':World):Prop where
 os:w'.os=w.os
 tape:w'.tape=w.tape
 output:w'.output=w.output
 size:w.heap.size≤w'.heap.size
 block:∀ k,k < w.heap.size→k≠B→w'.heap[k]?=w.heap[k]?
 own:∀ k,G' k→G k∨w.heap.size≤k
 more:∀ k,G k→G' k
theorem Gain.refl {B:Nat} (G:Nat→Prop) (w:World):Gain B G G w w:=⟨rfl,rfl,rfl,Nat.le_refl _,fun _ _ _=>rfl,fun _ h=>.inl h,fun _ h=>h⟩
theorem Gain.trans {B:Nat} {G G' G'':Nat→Prop} {a b c:World} (h:Gain B G G' a b) (k:Gain B G' G'' b c):Gain B G G'' a c where
 os:=k.os.trans h.os
 tape:=k.tape.trans h.tape
 output:=k.output.trans h.output
 size:=Nat.le_trans h.size k.size
 block:=fun i hi hn=>(k.block i (Nat.lt_of_lt_of_le hi h.size) hn).trans (h.block i hi hn)
 own:=fun i hi=>(k.own i hi).elim (fun hf=>h.own i hf) (fun hle=>.inr (Nat.le_trans h.size hle))
 more:=fun i hi=>k.more i (h.more i hi)
theorem Gain.of_below {B:Nat} {G:Nat→Prop} {w w':World} (h:Below w.heap.size w w'):Gain B G G w w':=⟨h.os,h.tape,h.output,h.size,fun k hk _=>h.block k hk,fun _ hf=>.inl hf,fun _ hf=>hf⟩
theorem Gain.set {B:Nat} {G:Nat→Prop} (w:World) (p:Addr) (u:Value) (hp:p.block=B):Gain B G G w (w.setCell p u):=
 ⟨rfl,rfl,rfl,by simp,fun k _ hn=>Below.heap_setCell w p u k (fun e=>hn (e.trans hp)),fun _ hf=>.inl hf,fun _ hf=>hf⟩
theorem Gain.put {B:Nat} {G G':Nat→Prop} {w0 w:World} (h:Gain B G G' w0 w) (p:Addr) (u:Value) (hp:w0.heap.size≤p.block):Gain B G G' w0 (w.setCell p u):=
 ⟨h.os,h.tape,h.output,by simpa using h.size,fun k hk hn=>(Below.heap_setCell w p u k (fun e=>by rw [e] at hk;omega)).trans (h.block k hk hn),h.own,h.more⟩
theorem Gain.turn {B:Nat} {G G':Nat→Prop} {w w':World} (h:Gain B G G' w w') (hB:G B):Turn G G' w w':=⟨h.os,h.tape,h.output,h.size,fun k hk hn=>h.block k hk (fun e=>hn (e▸hB)),h.own⟩
theorem Gain.wide {B:Nat} {G G':Nat→Prop} {w w':World} (h:Gain B G G' w w') {X:Nat→Prop} (hm:∀ k,G k→X k) (hx:∀ k,X k→G' k∨w.heap.size≤k∨G k):Gain B G X w w':=⟨h.os,h.tape,h.output,h.size,h.block,fun k hk=>(hx k hk).elim (h.own k) (fun h=>h.elim .inr .inl),hm⟩
def refTC (oc:Nat→Value) (salt:UInt64) (v:Value):Array Value:=#[.int .u64 salt.toNat,v,oc 2,oc 3,oc 4,oc 5,oc 6,oc 7,oc 8,oc 9,oc 10,oc 11,oc 12,oc 13,oc 14,oc 15,oc 16,oc 17,oc 18]
def refHC (oc:Nat→Value) (v:Value):Array Value:=#[oc 0,oc 1,v,oc 3,oc 4,oc 5,oc 6,oc 7,oc 8,oc 9,oc 10,oc 11,oc 12,oc 13,oc 14,oc 15,oc 16,oc 17,oc 18]
def refJC (oc:Nat→Value) (v:Value):Array Value:=#[oc 0,oc 1,oc 2,v,oc 4,oc 5,oc 6,oc 7,oc 8,oc 9,oc 10,oc 11,oc 12,oc 13,oc 14,oc 15,oc 16,oc 17,oc 18]
def refWC (oc:Nat→Value) (n:Int) (y o:Value):Array Value:=#[oc 0,oc 1,oc 2,oc 3,.int .i64 n,y,o,oc 7,oc 8,oc 9,oc 10,oc 11,oc 12,oc 13,oc 14,oc 15,oc 16,oc 17,oc 18]
def refQC (oc:Nat→Value) (n:Int) (y o:Value):Array Value:=#[oc 0,oc 1,oc 2,oc 3,oc 4,oc 5,oc 6,.int .i64 n,y,o,oc 10,oc 11,oc 12,oc 13,oc 14,oc 15,oc 16,oc 17,oc 18]
end Go.Proofs.YtlboemhbealnmaaGreat
set_option maxRecDepth 20000
namespace Go.Proofs.YtlboemhbealnmaaGreat.Ri
open Go.RowKit Go.Maps
def RowAt (w:World) (G:Nat→Prop) (B:Nat) (v:Value) (l:List UInt64):Prop:=
 (l=[]∧v=.slice none 0 0)∨∃ b c,v=.slice (some ⟨b,0,none⟩) l.length c∧0 < l.length∧G b∧b≠B∧IdsAt w (some ⟨b,0,none⟩) l
theorem idsAt_block {w w':World} {b o:Nat} {l:List UInt64} (h:IdsAt w (some ⟨b,o,none⟩) l) (e:w'.heap[b]?=w.heap[b]?) (hs:w.heap.size≤w'.heap.size):IdsAt w' (some ⟨b,o,none⟩) l:=fun i hi=>by
 obtain ⟨b',o',he,hb,hc⟩:=h i hi
 cases he
 exact ⟨_,_,rfl,Nat.lt_of_lt_of_le hb hs,(World.cell?_of_block (a:=⟨b,o+i,none⟩) e).trans hc⟩
theorem rowAt_same {w w':World} {G G':Nat→Prop} {B:Nat} {v:Value} {l:List UInt64} (h:RowAt w G B v l) (e:∀ k,G k→k≠B→w'.heap[k]?=w.heap[k]?) (hG:∀ k,G k→G' k) (hs:w.heap.size≤w'.heap.size):RowAt w' G' B v l:=by
 rcases h with h | ⟨b,c,h1,h2,h3,h4,h5⟩
 ·exact .inl h
 ·exact .inr ⟨b,c,h1,h2,hG b h3,h4,idsAt_block h5 (e b h3 h4) hs⟩
theorem rowAt_form {w:World} {G:Nat→Prop} {B:Nat} {v:Value} {l:List UInt64} (h:RowAt w G B v l):∃ a c,v=.slice a l.length c∧IdsAt w a l:=by
 rcases h with ⟨rfl,rfl⟩ | ⟨b,c,h1,_,_,_,h5⟩
 ·exact ⟨none,0,rfl,idsAt_nil w none⟩
 ·exact ⟨_,c,h1,h5⟩
theorem rowAt_nil (w:World) (G:Nat→Prop) (B:Nat):RowAt w G B (.slice none 0 0) []:=.inl ⟨rfl,rfl⟩
def RefAt (w:World) (G:Nat→Prop) (R:Loc) (s:RingS):Prop:=
 ∃ y o,w.heap[R.b]?=some (.cells (refWC R.oc s.size y o) 54 (0,0))∧RowAt w G R.b y s.cur∧RowAt w G R.b o s.prev∧G R.b∧There w G
theorem refAt_same {w w':World} {G:Nat→Prop} {R:Loc} {s:RingS} (h:RefAt w G R s) (e:∀ k,k < w.heap.size→G k→w'.heap[k]?=w.heap[k]?) (hs:w.heap.size≤w'.heap.size):RefAt w' G R s:=by
 obtain ⟨y,o,h1,h2,h3,h4,h5⟩:=h
 exact ⟨y,o,(e R.b (h5 R.b h4) h4).trans h1,rowAt_same h2 (fun k hk _=>e k (h5 k hk) hk) (fun _ hk=>hk) hs,rowAt_same h3 (fun k hk _=>e k (h5 k hk) hk) (fun _ hk=>hk) hs,h4,h5.later hs⟩
theorem refAt_kept {w w':World} {G:Nat→Prop} {R:Loc} {s:RingS} (h:RefAt w G R s) (hb:Below w.heap.size w w'):RefAt w' G R s:=refAt_same h (fun k hk _=>hb.block k hk) hb.size
theorem boxR_set1 {w:World} {b:Nat} {oc:Nat→Value} {n:Int} {y o u:Value} (h:w.heap[b]?=some (.cells (refWC oc n y o) 54 (0,0))):(w.setCell ⟨b,5,none⟩ u).heap[b]?=some (.cells (refWC oc n u o) 54 (0,0)):=
 heap_setCell_same w b 5 _ _ u h
theorem boxR_set2 {w:World} {b:Nat} {oc:Nat→Value} {n:Int} {y o u:Value} (h:w.heap[b]?=some (.cells (refWC oc n y o) 54 (0,0))):(w.setCell ⟨b,6,none⟩ u).heap[b]?=some (.cells (refWC oc n y u) 54 (0,0)):=
 heap_setCell_same w b 6 _ _ u h
theorem boxR_cells {w:World} {b:Nat} {oc:Nat→Value} {n:Int} {y o:Value} (h:w.heap[b]?=some (.cells (refWC oc n y o) 54 (0,0))) :
  (w.cell? ⟨b,4,none⟩=some (.int .i64 n)∧w.cell? ⟨b,5,none⟩=some y∧w.cell? ⟨b,6,none⟩=some o)∧w.frozen? ⟨b,4,none⟩=false∧w.frozen? ⟨b,5,none⟩=false∧w.frozen? ⟨b,6,none⟩=false:=
 ⟨⟨head_cell h 4,head_cell h 5,head_cell h 6⟩,frozen_of_row w b 4 _ _ h,frozen_of_row w b 5 _ _ h,frozen_of_row w b 6 _ _ h⟩
theorem copy_any (G:Nat→Prop) (B:Nat) (v:Value) (l:List UInt64) (w:World) (h:RowAt w G B v l) (hl:l.length≤1000) :
  Calls Tryz.prog 175 #[v] w fun e w'=>∃ v',e=.returned v'∧OwnIds w' w.heap.size v' l∧Below w.heap.size w w':=by
 obtain ⟨i0,hi0,hz0,hz1,hz2⟩:=info_parts info_u64
 rcases h with ⟨rfl,rfl⟩ | ⟨b,c,rfl,hpos,hG,hne,hi⟩
 ·have hnil:=ownIds_nil w w.heap.size
  go_enter Tryz.func175,Tryz.ntmps175
  go_wp2_with (at_builtin;refine wpList_append_own_none rfl _ _ 39 rfl w.heap.size 22 i0 1 Tryz.underlying39 hi0 _ 0 [] rfl hnil rfl ?_)
  go_ret
  exact ⟨_,rfl,hnil,Below.refl _ _⟩
 ·have hnews:∀ j u,(l.map idV)[j]?=some u→w.cell? ((⟨b,0,none⟩:Addr).add j)=some u:=fun j u hu=>by
   have hj:j < l.length:=by
    rcases Nat.lt_or_ge j l.length with h | h
    ·exact h
    ·rw [List.getElem?_eq_none (by simpa using h)] at hu;cases hu
   obtain ⟨b',o',e,_,hc⟩:=hi j hj
   cases e
   have f0:(⟨b,0,none⟩:Addr).add j=⟨b,0+j,none⟩:=by unfold Addr.add;split <;> simp_all
   rw [f0,hc]
   rw [List.getElem?_map,List.getElem?_eq_getElem hj] at hu
   exact hu
  have hone:∀ u ∈ l.map idV,u.oneCell'=true:=fun u hu=>by
   obtain ⟨z,_,rfl⟩:=List.mem_map.1 hu
   rfl
  have hnil:=World.ownsRow_nil w w.heap.size 22 1
  clear hi
  go_enter Tryz.func175,Tryz.ntmps175
  go_wp2_with (at_builtin;refine wpList_append_lies _ rfl _ _ 39 rfl w.heap.size 22 i0 (.int .u64 0) 1 8 Tryz.underlying39 hi0 hz0 hz1 hz2 rfl (by decide) _ 0 [] rfl hnil ⟨b,0,none⟩ l.length c (l.map idV) rfl (by simp) hnews hone hpos (by unfold maxLen;omega) (by omega) (Nat.le_refl _) _ rfl ?_;intro g cap w1 hown hgrow hat hlt)
  go_ret
  refine ⟨_,rfl,?_,(Below.refl _ _).grown hgrow (Nat.le_refl _) (fun k hk=>by cases hk)⟩
  simpa using hown
end Go.Proofs.YtlboemhbealnmaaGreat.Ri
set_option maxRecDepth 20000
namespace Go.Proofs.YtlboemhbealnmaaGreat.Ri
open Go.RowKit Go.Maps
theorem ref_has (G:Nat→Prop) (R:Loc) (s:RingS) (x:UInt64) (r:Bool) (hr:s.has x=r) (w:World) (h:RefAt w G R s) (hg:s.Good) :
  Calls Tryz.prog 61 #[.pointer (some ⟨R.b,4,none⟩),.int .u64 x.toNat] w fun e w'=>e=.returned (.bool r)∧w=w':=by
 obtain ⟨y,o,h1,h2,h3,h4,h5⟩:=h
 obtain ⟨⟨c0,c1,c2⟩,_⟩:=boxR_cells h1
 obtain ⟨ya,yc,rfl,yi⟩:=rowAt_form h2
 obtain ⟨oa,oc,rfl,oi⟩:=rowAt_form h3
 obtain ⟨_,g2,g3,g4,_⟩:=hg
 have hl1:s.cur.length≤maxLen:=by unfold maxLen;omega
 have hl2:s.prev.length≤maxLen:=by unfold maxLen;omega
 clear h1 h2 h3 h4 h5 g2 g3 g4
 unfold RingS.has at hr
 cases hx:s.cur.contains x with
 | true=>
  have HR:Hid (true=r):=Lib.hid (by rw [← hr,hx];rfl)
  clear hr
  go_enter Tryz.func61,Tryz.ntmps61
  go_wp2_with fail
  with_reducible refine (hasID_any s.cur x true (Lib.hid hx) _ _ _ hl1 yi).mono ?_
  rintro e w1 ⟨rfl,rfl⟩
  clear hx
  go_wp2_with fail
  go_ret
  exact ⟨ret_bool HR.out,rfl⟩
 | false=>
  have HR:Hid (s.prev.contains x=r):=Lib.hid (by rw [← hr,hx];rfl)
  clear hr
  go_enter Tryz.func61,Tryz.ntmps61
  go_wp2_with fail
  with_reducible refine (hasID_any s.cur x false (Lib.hid hx) _ _ _ hl1 yi).mono ?_
  rintro e w1 ⟨rfl,rfl⟩
  clear hx
  go_wp2_with fail
  with_reducible refine (hasID_any s.prev x r HR _ _ _ hl2 oi).mono ?_
  rintro e w1 ⟨rfl,rfl⟩
  go_wp2_with fail
  go_ret
  exact ⟨rfl,rfl⟩
theorem ref_turned {w:World} {G:Nat→Prop} {R:Loc} {s:RingS} {y o:Value} (h1:w.heap[R.b]?=some (.cells (refWC R.oc s.size y o) 54 (0,0))) (h2:RowAt w G R.b y s.cur) (h4:G R.b) (h5:There w G) :
  RefAt ((w.setCell ⟨R.b,6,none⟩ y).setCell ⟨R.b,5,none⟩ (.slice none 0 0)) G R ⟨s.size,[],s.cur⟩∧Gain R.b G G w ((w.setCell ⟨R.b,6,none⟩ y).setCell ⟨R.b,5,none⟩ (.slice none 0 0)):=by
 refine ⟨⟨_,_,boxR_set1 (boxR_set2 h1),.inl ⟨rfl,rfl⟩,rowAt_same h2 (fun k _ hk=>?_) (fun _ hk=>hk) (by simp),h4,fun k hk=>by simpa using h5 k hk⟩,(Gain.set w ⟨R.b,6,none⟩ y rfl).trans (Gain.set _ ⟨R.b,5,none⟩ _ rfl)⟩
 exact (Below.heap_setCell _ _ _ _ hk).trans (Below.heap_setCell _ _ _ _ hk)
theorem ref_stored {w w4:World} {G:Nat→Prop} {R:Loc} {g cap:Nat} {s:RingS} {x:UInt64} (h:RefAt w G R s) (hb:Below w.heap.size w w4) (ho:OwnIds w4 w.heap.size (.slice (some ⟨g,0,none⟩) (s.cur.length+1) cap) (s.cur ++ [x])) :
  ∃ G',RefAt (w4.setCell ⟨R.b,5,none⟩ (.slice (some ⟨g,0,none⟩) (s.cur.length+1) cap)) G' R ⟨s.size,s.cur ++ [x],s.prev⟩∧Gain R.b G G' w (w4.setCell ⟨R.b,5,none⟩ (.slice (some ⟨g,0,none⟩) (s.cur.length+1) cap)):=by
 have hgb:=ownIds_block ho g rfl
 obtain ⟨a,c,hv,_,hi,_⟩:=owns_idsAt ho
 obtain ⟨y,o,h1,h2,h3,h4,h5⟩:=refAt_kept h hb
 obtain ⟨_,_,_,_,_,_,h5w⟩:=h
 have hBlt:=h5w R.b h4
 simp only [Value.slice.injEq] at hv
 obtain ⟨rfl,_,_⟩:=hv
 refine ⟨fun k=>G k∨k=g,⟨_,_,boxR_set1 h1,.inr ⟨g,cap,by simp,by simp,.inr rfl,by omega,idsAt_block hi (Below.heap_setCell _ _ _ _ (by show g≠R.b;omega)) (by simp)⟩,rowAt_same h3 (fun k _ hk=>Below.heap_setCell _ _ _ _ hk) (fun k hk=>.inl hk) (by simp),.inl h4,fun k hk=>?_⟩,?_⟩
 ·rw [World.size_setCell]
  rcases hk with hk | hk
  ·exact h5 k hk
  ·omega
 ·exact ((Gain.of_below hb).trans (Gain.set w4 ⟨R.b,5,none⟩ _ rfl)).wide (fun k hk=>.inl hk) (fun k hk=>hk.imp id (fun e=>.inl (by omega)))
theorem ref_put (G:Nat→Prop) (R:Loc) (s s':RingS) (x:UInt64) (hs:s.put x=s') (w:World) (h:RefAt w G R s) (hg:s.Good) :
  Calls Tryz.prog 127 #[.pointer (some ⟨R.b,4,none⟩),.int .u64 x.toNat] w fun e w'=>e=.returned (.tuple #[])∧∃ G',RefAt w' G' R s'∧Gain R.b G G' w w':=by
 have H:=Lib.hid h
 obtain ⟨y,o,h1,h2,h3,h4,h5⟩:=h
 obtain ⟨⟨c0,c1,c2⟩,f0,f1,f2⟩:=boxR_cells h1
 obtain ⟨ya,yc,rfl,yi⟩:=rowAt_form h2
 have hlen:=hg.2.2.1
 have hlen2:=hg.2.1
 have hl1:s.cur.length≤maxLen:=by unfold maxLen;omega
 have hBlt:=h5 R.b h4
 cases hx:s.cur.contains x with
 | true=>
  have HE:Hid (∃ G',RefAt w G' R s'∧Gain R.b G G' w w):=Lib.hid ⟨G,by rw [← hs,put_there hx];exact H.out,Gain.refl G w⟩
  clear h1 h2 h3 h4 h5 hs hg
  go_enter Tryz.func127,Tryz.ntmps127
  go_wp2_with fail
  with_reducible refine (hasID_any s.cur x true (Lib.hid hx) _ _ _ hl1 yi).mono ?_
  rintro e w1 ⟨rfl,rfl⟩
  clear hx
  go_wp2_with fail
  refine bodyPost_ret (results_none rfl _ _ _) rfl ?_
  exact ⟨rfl,HE.out⟩
 | false=>
  have HX:=Lib.hid hx
  have HS:=Lib.hid hs
  clear hs
  by_cases hfull:s.size≤s.cur.length
  ·go_enter Tryz.func127,Tryz.ntmps127
   go_wp2_with fail
   with_reducible refine (hasID_any s.cur x false (Lib.hid hx) _ _ _ hl1 yi).mono ?_
   rintro e w1 ⟨rfl,rfl⟩
   have H1:=Lib.hid h1
   have H2:=Lib.hid h2
   clear hx h1 h2 h3
   go_wp2_with fail
   go_quiet (fail)
   generalize hw2:World.drewN w nq=w2
   have hb2:Below w.heap.size w w2:=hw2▸below_drewN (Below.refl _ _) _
   obtain ⟨k1,k2⟩:=ref_turned (G:=G) (w:=w2) ((hb2.block R.b hBlt).trans H1.out) (rowAt_same H2.out (fun k hk _=>hb2.block k (h5 k hk)) (fun _ hk=>hk) hb2.size) h4 (h5.later hb2.size)
   obtain ⟨⟨d0,d1,d2⟩,g0,g1,g2⟩:=boxR_cells ((hb2.block R.b hBlt).trans H1.out)
   have hB2:R.b < w2.heap.size:=Nat.lt_of_lt_of_le hBlt hb2.size
   have K1:=Lib.hid k1
   have K2:=Lib.hid k2
   clear hw2 c0 c1 c2 f0 f1 f2 k1 k2
   go_wp2_with fail
   clear d0 d1 d2 g0 g1 g2
   generalize (w2.setCell ⟨R.b,6,none⟩ (.slice ya s.cur.length yc)).setCell ⟨R.b,5,none⟩ (.slice none 0 0)=wA at K1 K2 ⊢
   with_reducible refine (copy_any G R.b _ [] wA (rowAt_nil wA G R.b) (by decide)).mono ?_
   rintro e w3 ⟨v3,rfl,ho3,hb3⟩
   go_wp2_with (at_builtin;refine append_id rfl _ _ rfl x rfl rfl ho3 (by decide) hb3.size ?_;intro g cap w4 ho4 hg4 hg4';have hb4:Below wA.heap.size wA w4:=hb3.grown hg4' hb3.size (fun k hk=>(ownIds_block ho3 k hk).1);obtain ⟨_,_,q1,_⟩:=refAt_kept K1.out hb4;obtain ⟨⟨_,q2,_⟩,_,q3,_⟩:=boxR_cells q1)
   go_end0
   obtain ⟨G',z1,z2⟩:=ref_stored (x:=x) K1.out hb4 ho4
   exact ⟨rfl,G',by rw [← HS.out,put_full HX.out hfull];exact z1,((Gain.of_below hb2).trans K2.out).trans z2⟩
  ·go_enter Tryz.func127,Tryz.ntmps127
   go_wp2_with fail
   with_reducible refine (hasID_any s.cur x false (Lib.hid hx) _ _ _ hl1 yi).mono ?_
   rintro e w1 ⟨rfl,rfl⟩
   have H1:=Lib.hid h1
   have H2:=Lib.hid h2
   clear hx h1 h2 h3
   go_wp2_with fail
   go_quiet (fail)
   generalize hw2:World.drewN w nq=w2
   have hb2:Below w.heap.size w w2:=hw2▸below_drewN (Below.refl _ _) _
   obtain ⟨⟨d0,d1,d2⟩,g0,g1,g2⟩:=boxR_cells ((hb2.block R.b hBlt).trans H1.out)
   have HRow:=Lib.hid (rowAt_same H2.out (fun k hk _=>hb2.block k (h5 k hk)) (fun _ hk=>hk) hb2.size)
   have K1:=Lib.hid (refAt_kept H.out hb2)
   clear hw2 c0 c1 c2 f0 f1 f2
   go_wp2_with fail
   with_reducible refine (copy_any G R.b _ s.cur w2 HRow.out (by omega)).mono ?_
   rintro e w3 ⟨v3,rfl,ho3,hb3⟩
   clear d0 d1 d2 g0 g1 g2
   go_wp2_with (at_builtin;refine append_id rfl _ _ rfl x rfl rfl ho3 (by omega) hb3.size ?_;intro g cap w4 ho4 hg4 hg4';have hb4:Below w2.heap.size w2 w4:=hb3.grown hg4' hb3.size (fun k hk=>(ownIds_block ho3 k hk).1);obtain ⟨_,_,q1,_⟩:=refAt_kept K1.out hb4;obtain ⟨⟨_,q2,_⟩,_,q3,_⟩:=boxR_cells q1)
   go_end0
   obtain ⟨G',z1,z2⟩:=ref_stored (x:=x) K1.out hb4 ho4
   exact ⟨rfl,G',by rw [← HS.out,put_room HX.out (by omega)];exact z1,(Gain.of_below hb2).trans z2⟩
end Go.Proofs.YtlboemhbealnmaaGreat.Ri
set_option maxRecDepth 20000
namespace Go.Proofs.YtlboemhbealnmaaGreat.Rq
open Go.Proofs.YtlboemhbealnmaaGreat.Ri
open Go.RowKit Go.Maps
def RefAt (w:World) (G:Nat→Prop) (R:Loc) (s:RingS):Prop:=
 ∃ y o,w.heap[R.b]?=some (.cells (refQC R.oc s.size y o) 54 (0,0))∧RowAt w G R.b y s.cur∧RowAt w G R.b o s.prev∧G R.b∧There w G
theorem refAt_same {w w':World} {G:Nat→Prop} {R:Loc} {s:RingS} (h:RefAt w G R s) (e:∀ k,k < w.heap.size→G k→w'.heap[k]?=w.heap[k]?) (hs:w.heap.size≤w'.heap.size):RefAt w' G R s:=by
 obtain ⟨y,o,h1,h2,h3,h4,h5⟩:=h
 exact ⟨y,o,(e R.b (h5 R.b h4) h4).trans h1,rowAt_same h2 (fun k hk _=>e k (h5 k hk) hk) (fun _ hk=>hk) hs,rowAt_same h3 (fun k hk _=>e k (h5 k hk) hk) (fun _ hk=>hk) hs,h4,h5.later hs⟩
theorem refAt_kept {w w':World} {G:Nat→Prop} {R:Loc} {s:RingS} (h:RefAt w G R s) (hb:Below w.heap.size w w'):RefAt w' G R s:=refAt_same h (fun k hk _=>hb.block k hk) hb.size
theorem boxR_set1 {w:World} {b:Nat} {oc:Nat→Value} {n:Int} {y o u:Value} (h:w.heap[b]?=some (.cells (refQC oc n y o) 54 (0,0))):(w.setCell ⟨b,8,none⟩ u).heap[b]?=some (.cells (refQC oc n u o) 54 (0,0)):=
 heap_setCell_same w b 8 _ _ u h
theorem boxR_set2 {w:World} {b:Nat} {oc:Nat→Value} {n:Int} {y o u:Value} (h:w.heap[b]?=some (.cells (refQC oc n y o) 54 (0,0))):(w.setCell ⟨b,9,none⟩ u).heap[b]?=some (.cells (refQC oc n y u) 54 (0,0)):=
 heap_setCell_same w b 9 _ _ u h
theorem boxR_cells {w:World} {b:Nat} {oc:Nat→Value} {n:Int} {y o:Value} (h:w.heap[b]?=some (.cells (refQC oc n y o) 54 (0,0))) :
  (w.cell? ⟨b,7,none⟩=some (.int .i64 n)∧w.cell? ⟨b,8,none⟩=some y∧w.cell? ⟨b,9,none⟩=some o)∧w.frozen? ⟨b,7,none⟩=false∧w.frozen? ⟨b,8,none⟩=false∧w.frozen? ⟨b,9,none⟩=false:=
 ⟨⟨head_cell h 7,head_cell h 8,head_cell h 9⟩,frozen_of_row w b 7 _ _ h,frozen_of_row w b 8 _ _ h,frozen_of_row w b 9 _ _ h⟩
end Go.Proofs.YtlboemhbealnmaaGreat.Rq
