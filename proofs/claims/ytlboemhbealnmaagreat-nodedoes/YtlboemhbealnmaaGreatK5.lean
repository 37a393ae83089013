import Derived.Test.YtlboemhbealnmaaGreatK3
import Derived.Test.YtlboemhbealnmaaGreatK4
import Derived.Test.YtlboemhbealnmaaGreatK1
import Derived.Test.YtlboemhbealnmaaGreatK2
import Derived.ChangeSlices
import Derived.Lib.SmallJoins
import Derived.Deep.SlicePairs
import Derived.Deep.Slices
set_option maxRecDepth 20000
namespace Go.Proofs.YtlboemhbealnmaaGreat
open Go.RowKit
theorem size_any (n:Nat) (w:World) (hn:n≤255):Calls Tryz.prog 154 #[.int .i64 n] w fun e w'=>e=.returned (.int .i64 ((7+9 * n:Nat):Int))∧w=w':=by
 go_enter Tryz.func154,Tryz.ntmps154
 go_wp2
 go_ret
 exact ⟨ret_i64 (by omega),rfl⟩
theorem four_below {w w':World} {B:Nat} (hg:Below B w w') {b:Nat} (hb:b < B) {u0 u1 u2 u3:Value} (h0:w.cell? ⟨b,0,none⟩=some u0) (h1:w.cell? ⟨b,1,none⟩=some u1) (h2:w.cell? ⟨b,2,none⟩=some u2) (h3:w.cell? ⟨b,3,none⟩=some u3) :
  w'.cell? ⟨b,0,none⟩=some u0∧w'.cell? ⟨b,1,none⟩=some u1∧w'.cell? ⟨b,2,none⟩=some u2∧w'.cell? ⟨b,3,none⟩=some u3:=
 ⟨(hg.cell (p:=⟨b,0,none⟩) hb).trans h0,(hg.cell (p:=⟨b,1,none⟩) hb).trans h1,(hg.cell (p:=⟨b,2,none⟩) hb).trans h2,(hg.cell (p:=⟨b,3,none⟩) hb).trans h3⟩
theorem two_bytes (n:Nat) (h:n≤255):[Value.int .u8 68,.int .u8 n]=[68,UInt8.ofNat n].map byteV:=by
 have:(UInt8.ofNat n).toNat=n:=by rw [UInt8.toNat_ofNat'];omega
 simp [byteV,this]
theorem enc_ne (d:DeedD):encB d≠[]:=fun h=>by
 have:=encB_length d
 rw [h] at this
 simp at this
 omega
theorem encode_err (d:DeedD) (a:Option Addr) (cap:Nat) (w:World) (r:Int) (hi:InsAt w a d.ins) (h:checkD d=r) (hr:r≠0) :
  Calls Tryz.prog 95 #[.agg #[.slice a d.ins.length cap,.int .i64 d.outs,.int .i64 d.weight,.int .i64 d.fee]] w fun e w'=>e=.returned (.tuple #[.string ⟨#[]⟩,.int .i64 r])∧Below w.heap.size w w':=by
 have HR:=Lib.hid h
 clear h
 have hrb:(r != 0)=true:=by simpa using hr
 have hi0:=insAt_kept (kept_new w (.cells #[.slice a d.ins.length cap,.int .i64 d.outs,.int .i64 d.weight,.int .i64 d.fee] 94)) hi
 have hk:=kept_new w (.cells #[.slice a d.ins.length cap,.int .i64 d.outs,.int .i64 d.weight,.int .i64 d.fee] 94)
 go_enter Tryz.func95,Tryz.ntmps95
 go_wp2_with fail
 with_reducible refine (check_is d _ _ _ r hi0 HR.out).mono ?_
 rintro e w1 ⟨rfl,hb1⟩
 go_wp2_with fail
 go_ret2
 exact ⟨rfl,kept_trans hk hb1⟩
set_option maxHeartbeats 2000000 in
theorem encode_ok (d:DeedD) (a:Option Addr) (cap:Nat) (w:World) (hi:InsAt w a d.ins) (h:checkD d=0) :
  Calls Tryz.prog 95 #[.agg #[.slice a d.ins.length cap,.int .i64 d.outs,.int .i64 d.weight,.int .i64 d.fee]] w fun e w'=>e=.returned (.tuple #[.string ⟨(encB d).toArray⟩,.int .i64 0])∧Below w.heap.size w w':=by
 obtain ⟨i0,hi0,hz0,hz1,hz2⟩:=info_parts info_u8
 obtain ⟨hl8,hat,_,ho,hg,hf⟩:=check_ok h
 obtain ⟨ho1,ho2⟩:=ho
 obtain ⟨hg1,hg2⟩:=hg
 obtain ⟨hf1,hf2⟩:=hf
 have HAT:=Lib.hid hat
 have HR:=Lib.hid h
 clear h hat
 have hia:=insAt_kept (kept_new w (.cells #[.slice a d.ins.length cap,.int .i64 d.outs,.int .i64 d.weight,.int .i64 d.fee] 94)) hi
 have hk:=kept_new w (.cells #[.slice a d.ins.length cap,.int .i64 d.outs,.int .i64 d.weight,.int .i64 d.fee] 94)
 go_enter Tryz.func95,Tryz.ntmps95
 go_wp2_with fail
 with_reducible refine (check_is d _ _ _ 0 hia HR.out).mono ?_
 rintro e w1 ⟨rfl,hb1⟩
 obtain ⟨c0,c1,c2,c3,hws⟩:=box_four hb1
 have hi1:=insAt_kept hb1 hia
 have hk1:=kept_trans hk hb1
 clear hk hb1 hia hi
 go_wp2_with fail
 with_reducible refine (size_any _ _ (by omega)).mono ?_
 rintro e w' ⟨rfl,rfl⟩
 go_wp2_with (first
  | (at_make;refine wpList_make_own _ rfl _ _ 189 rfl w1.heap.size 5 i0 (.int .u8 0) 1 Tryz.underlying189 hi0 hz0 hz1 _ _ _ (7+9 * d.ins.length) rfl rfl rfl (by rw [hz2];omega) (by unfold maxLen;omega) (Nat.le_refl _) ?_;intro w2 hown2 hgrow2;obtain ⟨e0,e1,e2,e3⟩:=four_kept hgrow2 c0 c1 c2 c3)
  | (at_builtin;refine wpList_append_bytes Tryz.underlying189 hi0 hz0 hz1 hz2 rfl _ _ rfl (B:=w1.heap.size) (l:=[]) (news:=[68,UInt8.ofNat d.ins.length]) rfl rfl (two_bytes _ (by omega)) hown2 (by simp) hgrow2.size ?_;intro v3 w3 hb3;obtain ⟨f0,f1,f2,f3⟩:=four_below (buf_below (l0:=[]) hown2 hgrow2.size hb3) hws e0 e1 e2 e3))
 have hbd3:=(grown_below hgrow2).trans (buf_below (l0:=[]) hown2 hgrow2.size hb3)
 have hi3:=insAt_kept hbd3 hi1
 have HV:=Lib.hid hb3
 have hs3:w1.heap.size≤w3.heap.size:=hbd3.size
 clear hb3 hown2 hgrow2 c0 c1 c2 c3 e0 e1 e2 e3
 go_loopw [5,28] (fun u i wr=>∃ k:Nat,k≤d.ins.length∧i=.int .i64 k∧Hid (Buf 5 w1.heap.size w3 v3 wr u ([68,UInt8.ofNat d.ins.length] ++ encL (d.ins.take k)))) (fun _ i _=>d.ins.length - (intOf i).toNat)
 case atStart=>exact ⟨0,Nat.zero_le _,rfl,Lib.hid (by simpa [encL] using buf_refl HV.out.own)⟩
 case round=>
  obtain ⟨k,hk,rfl,HB⟩:=hrel
  have hbr:=buf_below HV.out.own hs3 HB.out
  have hlen:([68,UInt8.ofNat d.ins.length] ++ encL (d.ins.take k)).length≤100:=by
   rw [List.length_append,encL_length,List.length_take];simp;omega
  have hsr:w1.heap.size≤wr.heap.size:=Nat.le_trans hs3 hbr.size
  by_cases hlt:k < d.ins.length
  ·obtain ⟨hat1,hat2⟩:=HAT.out k hlt
   obtain ⟨b,oo,rfl,hb,hd0,hd1,hok⟩:=insAt_kept (hbd3.trans hbr) hi1 k hlt
   have hown:=(buf_alloc HB.out (.cells #[.int .u64 d.ins[k].1.toNat,.int .i64 d.ins[k].2] 180)).own
   have hne:=own_ne HB.out.own
   have hbx:=box_pair (Below.refl _ (wr.alloc (.cells #[.int .u64 d.ins[k].1.toNat,.int .i64 d.ins[k].2] 180)))
   obtain ⟨x0,x1,_⟩:=hbx
   obtain ⟨E8,hE8⟩:∃ E,str (be 8 d.ins[k].1.toNat)=E:=⟨_,rfl⟩
   have hE8l:E8.data.toList=be 8 d.ins[k].1.toNat:=by rw [← hE8,str_list]
   have hE8s:E8.size=8:=by rw [← hE8,str_size,be_length]
   have HE8:=Lib.hid hE8
   clear hE8
   have hsa:w1.heap.size≤(wr.alloc (.cells #[.int .u64 d.ins[k].1.toNat,.int .i64 d.ins[k].2] 180)).heap.size:=by simp;omega
   have hba:=buf_alloc HB.out (.cells #[.int .u64 d.ins[k].1.toNat,.int .i64 d.ins[k].2] 180)
   go_wp2_with fail
   with_reducible refine (encodeID_is _ E8 _ HE8.out).mono ?_
   rintro e w4 ⟨rfl,hb4⟩
   have y1:=kept_cell hb4 x1
   have hB4:=buf_later hba hb4
   have hs4:w1.heap.size≤w4.heap.size:=Nat.le_trans hsa hb4.size
   have hl4:([68,UInt8.ofNat d.ins.length] ++ encL (d.ins.take k)).length+E8.size≤1000000:=by omega
   have hl5:([68,UInt8.ofNat d.ins.length] ++ encL (d.ins.take k) ++ E8.data.toList).length+[UInt8.ofNat d.ins[k].2.toNat].length≤1000000:=by rw [List.length_append,hE8l,be_length];simp at hlen ⊢;omega
   clear hba hown hb4
   go_wp2_with (first
    | (at_builtin;refine wpList_append_str Tryz.underlying189 Tryz.underlying9 hi0 hz0 hz1 hz2 rfl _ _ rfl (B:=w1.heap.size) (l:=[68,UInt8.ofNat d.ins.length] ++ encL (d.ins.take k)) (s:=E8) rfl rfl hB4.own hl4 hs4 ?_;intro v5 w5 hb5;have z1:=buf_cell hb5 y1 hne;have hs5:w1.heap.size≤w5.heap.size:=Nat.le_trans hs4 hb5.grown.size)
    | (at_builtin;refine wpList_append_bytes Tryz.underlying189 hi0 hz0 hz1 hz2 rfl _ _ rfl (B:=w1.heap.size) (news:=[UInt8.ofNat d.ins[k].2.toNat]) rfl rfl (one_byte _ hat1 (by omega)) hb5.own hl5 hs5 ?_;intro v6 w6 hb6))
   go_roundw
   case rel=>
    refine ⟨k+1,by omega,by go_num,Lib.hid ?_⟩
    have:=buf_trans (buf_trans hB4 hb5) hb6
    rw [encL_take hlt,← hE8l]
    simpa using this
   case measure=>simp [intOf];omega
  ·have HB':=HB.out
   rw [List.take_of_length_le (by omega)] at HB'
   have HE:=Lib.hid HB'
   have hle:(encL d.ins).length≤72:=by rw [encL_length];omega
   obtain ⟨g0,g1,g2,g3⟩:=four_below hbr hws f0 f1 f2 f3
   clear HB HB' hlen f0 f1 f2 f3
   go_wp2_with (at_builtin;refine wpList_append_bytes Tryz.underlying189 hi0 hz0 hz1 hz2 rfl _ _ rfl (B:=w1.heap.size) (news:=[UInt8.ofNat d.outs.toNat]) rfl rfl (one_byte _ (by omega) (by omega)) HE.out.own (by simp;omega) hsr ?_;intro v4 w4 hb4;obtain ⟨q0,q1,q2,q3⟩:=four_below (buf_below HE.out.own hsr hb4) hws g0 g1 g2 g3)
   have hs4:w1.heap.size≤w4.heap.size:=Nat.le_trans hsr hb4.grown.size
   with_reducible refine (appendNumber2 _ w1.heap.size v4 _ _ (by omega) (by omega) ?_ hs4 hb4.own).mono ?_
   ·simp;omega
   rintro e w5 ⟨v5,rfl,hb5⟩
   obtain ⟨r0,r1,r2,r3⟩:=four_below (buf_below hb4.own hs4 hb5) hws q0 q1 q2 q3
   have hs5:w1.heap.size≤w5.heap.size:=Nat.le_trans hs4 hb5.grown.size
   have H4:=Lib.hid hb4
   have H5:=Lib.hid hb5
   clear q0 q1 q2 q3 g0 g1 g2 g3 hb4 hb5
   go_wp2_with fail
   with_reducible refine (appendNumber2 _ w1.heap.size v5 _ _ (by omega) (by omega) ?_ hs5 H5.out.own).mono ?_
   ·simp [be_length];omega
   rintro e w6 ⟨v6,rfl,hb6⟩
   obtain ⟨E,hE⟩:∃ E:ByteArray,⟨(encB d).toArray⟩=E:=⟨_,rfl⟩
   have hconv:(convert 189 9 v6).run Tryz.prog w6=.ok (.string E) w6:=by
    rw [← hE]
    exact conv_bytes 189 9 Tryz.underlying189 Tryz.underlying5 Tryz.underlying9 hb6.own (enc_ne d)
   have HEE:=Lib.hid hE
   have hfin:=buf_trans (buf_trans H4.out H5.out) hb6
   have hend:=(hbd3.trans hbr).trans (buf_below HE.out.own hsr hfin)
   clear hb6 hfin r0 r1 r2 r3 hE
   go_wp2_with fail
   go_ret2
   exact ⟨by rw [HEE.out];rfl,kept_trans hk1 hend⟩
end Go.Proofs.YtlboemhbealnmaaGreat
namespace Go.Proofs.YtlboemhbealnmaaGreat
open Go.RowKit
set_option maxHeartbeats 2000000 in
theorem bytesOf_ok (d:DeedD) (a:Option Addr) (cap:Nat) (w:World) (hi:InsAt w a d.ins) (h:checkD d=0) :
  Calls Tryz.prog 65 #[.agg #[.slice a d.ins.length cap,.int .i64 d.outs,.int .i64 d.weight,.int .i64 d.fee]] w fun e w'=>e=.returned (.string (str (encB d)))∧Below w.heap.size w w':=by
 obtain ⟨hl8,hat,_,ho,hg,hf⟩:=check_ok h
 obtain ⟨ho1,ho2⟩:=ho
 obtain ⟨hg1,hg2⟩:=hg
 obtain ⟨hf1,hf2⟩:=hf
 have HAT:=Lib.hid hat
 clear h hat
 obtain ⟨s1,hs1⟩:∃ s1,s1=str [UInt8.ofNat (d.ins.length:Int).toNat]:=⟨_,rfl⟩
 have hz1:s1.size=1:=by rw [hs1,str_size];rfl
 have hq1:¬ 9223372036854775807 < 1+s1.size:=by omega
 have H1:=Lib.hid hs1
 clear hs1 hz1
 have hk:=kept_new w (.cells #[.slice a d.ins.length cap,.int .i64 d.outs,.int .i64 d.weight,.int .i64 d.fee] 94)
 have hia:=insAt_kept hk hi
 go_enter Tryz.func65,Tryz.ntmps65
 go_wp2_with fail
 with_reducible refine (digits1 _ s1 _ (by omega) (by omega) H1.out).mono ?_
 rintro e w1 ⟨rfl,hb1⟩
 obtain ⟨c0,c1,c2,c3,hws⟩:=box_four hb1
 have hi1:=insAt_kept hb1 hia
 have hk1:=kept_trans hk hb1
 clear hk hb1 hia hi
 go_wp2_with fail
 go_loopw [3,15] (fun u i wr=>∃ (k:Nat) (S:ByteArray),k≤d.ins.length∧i=.int .i64 k∧u=.string S∧Hid (S=str ([68,UInt8.ofNat d.ins.length] ++ encL (d.ins.take k)))∧Below w1.heap.size w1 wr) (fun _ i _=>d.ins.length - (intOf i).toNat)
 case atStart=>exact ⟨0,_,Nat.zero_le _,rfl,rfl,Lib.hid (by rw [H1.out];rfl),Below.refl _ _⟩
 case round=>
  obtain ⟨k,S,hk,rfl,rfl,HS,hbr⟩:=hrel
  have hSz:S.size≤100:=by rw [HS.out,str_size,List.length_append,encL_length,List.length_take];simp;omega
  by_cases hlt:k < d.ins.length
  ·obtain ⟨hat1,hat2⟩:=HAT.out k hlt
   obtain ⟨b,oo,rfl,hb,hd0,hd1,hok⟩:=insAt_kept hbr hi1 k hlt
   obtain ⟨s8,hs8⟩:∃ s,s=str (be 8 d.ins[k].1.toNat):=⟨_,rfl⟩
   obtain ⟨sa,hsa⟩:∃ s,s=str [UInt8.ofNat d.ins[k].2.toNat]:=⟨_,rfl⟩
   have hz8:s8.size=8:=by rw [hs8,str_size,be_length]
   have hza:sa.size=1:=by rw [hsa,str_size];rfl
   have hq8:¬ 9223372036854775807 < s8.size+sa.size:=by omega
   have hqS:¬ 9223372036854775807 < S.size+(s8.size+sa.size):=by omega
   have hwr:IntKind.u64.wrap d.ins[k].2=d.ins[k].2:=by rw [IntKind.wrap_u64];omega
   have H8:=Lib.hid hs8
   have HA:=Lib.hid hsa
   have HN:Hid (S ++ (s8 ++ sa)=str ([68,UInt8.ofNat d.ins.length] ++ encL (d.ins.take (k+1)))):=Lib.hid (by
    rw [encL_take hlt,HS.out,hs8,hsa,← str_append,← str_append]
    simp)
   clear hs8 hsa hz8 hza hSz
   obtain ⟨x0,x1,hsx⟩:=box_pair (Below.refl _ (wr.alloc (.cells #[.int .u64 d.ins[k].1.toNat,.int .i64 d.ins[k].2] 180)))
   have hbx:=kept_alloc hbr (.cells #[.int .u64 d.ins[k].1.toNat,.int .i64 d.ins[k].2] 180)
   generalize hwx:wr.alloc (.cells #[.int .u64 d.ins[k].1.toNat,.int .i64 d.ins[k].2] 180)=wx at *
   have HW:=Lib.hid hwx
   clear hwx
   go_wp2_with fail
   rw [HW.out]
   go_region_held3 (fun w'=>w'.cell? ⟨wr.heap.size,0,none⟩=some (.int .u64 d.ins[k].1.toNat)∧w'.cell? ⟨wr.heap.size,1,none⟩=some (.int .i64 d.ins[k].2)∧Below w1.heap.size w1 w')
    (first | exact ⟨x0,x1,hbx.drew⟩ | (go_split_ands;exact ⟨kept_cell hb2 (by assumption),kept_cell hb2 (by assumption),kept_trans (by assumption) hb2⟩))
    (first | (go_at_call 121;((with_reducible refine (digits8 _ s8 _ H8.out).mono ?_);rintro e w2 ⟨rfl,hb2⟩)) | (go_at_call 121;((with_reducible refine (digits1 _ sa _ hat1 (by omega) HA.out).mono ?_);rintro e w2 ⟨rfl,hb2⟩)))
   go_wp2_with fail
   go_split_ands
   go_roundw
   case rel=>exact ⟨k+1,_,by omega,by go_num,rfl,Lib.hid HN.out,by assumption⟩
   case measure=>simp [intOf];omega
  ·have HS':=HS.out
   rw [List.take_of_length_le (by omega)] at HS'
   obtain ⟨g0,g1,g2,g3⟩:=four_below hbr hws c0 c1 c2 c3
   obtain ⟨so,hso⟩:∃ s,s=str [UInt8.ofNat d.outs.toNat]:=⟨_,rfl⟩
   obtain ⟨sw,hsw⟩:∃ s,s=str (be 2 d.weight.toNat):=⟨_,rfl⟩
   obtain ⟨sf,hsf⟩:∃ s,s=str (be 2 d.fee.toNat):=⟨_,rfl⟩
   have hzo:so.size=1:=by rw [hso,str_size];rfl
   have hzw:sw.size=2:=by rw [hsw,str_size,be_length]
   have hzf:sf.size=2:=by rw [hsf,str_size,be_length]
   have hr1:¬ 9223372036854775807 < S.size+so.size:=by omega
   have hr2:¬ 9223372036854775807 < S.size+so.size+sw.size:=by omega
   have hr3:¬ 9223372036854775807 < S.size+so.size+sw.size+sf.size:=by omega
   have hw1:IntKind.u64.wrap d.outs=d.outs:=by rw [IntKind.wrap_u64];omega
   have hw2:IntKind.u64.wrap d.weight=d.weight:=by rw [IntKind.wrap_u64];omega
   have hw3:IntKind.u64.wrap d.fee=d.fee:=by rw [IntKind.wrap_u64];omega
   have HN:Hid (str (encB d)=S ++ so ++ sw ++ sf):=Lib.hid (by
    rw [HS',hso,hsw,hsf,← str_append,← str_append,← str_append]
    rfl)
   have HO:=Lib.hid hso
   have HWT:=Lib.hid hsw
   have HF:=Lib.hid hsf
   clear hso hsw hsf hzo hzw hzf HS' HS hSz
   go_wp2_with fail
   go_region_held3 (fun w'=>w'.cell? ⟨w.heap.size,0,none⟩=some (.slice a d.ins.length cap)∧w'.cell? ⟨w.heap.size,1,none⟩=some (.int .i64 d.outs)∧w'.cell? ⟨w.heap.size,2,none⟩=some (.int .i64 d.weight)∧w'.cell? ⟨w.heap.size,3,none⟩=some (.int .i64 d.fee)∧Below w1.heap.size w1 w')
    (first | exact ⟨g0,g1,g2,g3,hbr.drew⟩ | (go_split_ands;exact ⟨kept_cell hb2 (by assumption),kept_cell hb2 (by assumption),kept_cell hb2 (by assumption),kept_cell hb2 (by assumption),kept_trans (by assumption) hb2⟩))
    (first | (go_at_call 121;((with_reducible refine (digits1 _ so _ (by omega) (by omega) HO.out).mono ?_);rintro e w2 ⟨rfl,hb2⟩)) | (go_at_call 121;((with_reducible refine (digits2 _ sw _ ?_ ?_ HWT.out).mono ?_);(omega);(omega);rintro e w2 ⟨rfl,hb2⟩)) | (go_at_call 121;((with_reducible refine (digits2 _ sf _ ?_ ?_ HF.out).mono ?_);(omega);(omega);rintro e w2 ⟨rfl,hb2⟩)))
   go_wp2_with fail
   go_split_ands
   go_ret
   exact ⟨by rw [HN.out];rfl,kept_trans hk1 (by assumption)⟩
end Go.Proofs.YtlboemhbealnmaaGreat
namespace Go.Proofs.YtlboemhbealnmaaGreat
open Go.RowKit
theorem k4_u64 (a:UInt64):IntKind.u64.wrap ((a.toNat:Int) * 1099511628211)=((a * 1099511628211).toNat:Int):=wrap_mul_u64 a 1099511628211
theorem of_take (s:ByteArray) (k:Nat) (h:k < s.size):ofU (s.data.toList.take (k+1))=ofStep (ofU (s.data.toList.take k)) s[k]:=by
 rw [List.take_succ_eq_append_getElem (by simpa using h),of_snoc];rfl
theorem of_any (s:ByteArray) (w:World) (hs:s.size≤maxLen) :
  Calls Tryz.prog 161 #[.string s] w fun e w'=>e=.returned (.int .u64 (ofU s.data.toList).toNat)∧w=w':=by
 unfold maxLen at hs
 go_enter Tryz.func161,Tryz.ntmps161
 go_wp2
 go_loop [3,7] (fun x i=>∃ k:Nat,k≤s.size∧i=.int .i64 k∧x=.int .u64 (ofU (s.data.toList.take k)).toNat) (fun _ i=>s.size - (intOf i).toNat)
 case atStart=>exact ⟨0,Nat.zero_le _,rfl,rfl⟩
 case round=>
  obtain ⟨k,hk,rfl,rfl⟩:=hrel
  by_cases hlt:k < s.size
  ·have HS:=Lib.hid (of_take s k hlt)
   go_wp2
   go_round
   case rel=>
    refine ⟨k+1,by omega,by go_num,?_⟩
    rw [HS.out,wrap_byte_u64,xor_u64,k4_u64]
    rfl
   case measure=>simp [intOf];omega
  ·go_wp2
   go_ret
   exact ⟨ret_u64 (by rw [List.take_of_length_le (by simp;omega)]),rfl⟩
theorem refSum_any (s:ByteArray) (w:World) (hs:s.size≤maxLen) :
  Calls Tryz.prog 72 #[.string s] w fun e w'=>e=.returned (.int .u64 (ofU s.data.toList).toNat)∧Below w.heap.size w w':=by
 unfold maxLen at hs
 have hcv:=fun w=>Lib.run_convert_string_bytes (P:=Tryz.prog) w 9 189 5 s Tryz.underlying9 Tryz.underlying189 Tryz.underlying5
 go_enter Tryz.func72,Tryz.ntmps72
 go_wp2
 have hcell:=Lib.bytesWorld_cell w 5 s
 go_loop [3,9] (fun x i=>∃ k:Nat,k≤s.size∧i=.int .i64 k∧x=.int .u64 (ofU (s.data.toList.take k)).toNat) (fun _ i=>s.size - (intOf i).toNat)
 case atStart=>exact ⟨0,Nat.zero_le _,rfl,rfl⟩
 case round=>
  obtain ⟨k,hk,rfl,rfl⟩:=hrel
  by_cases hlt:k < s.size
  ·have HS:=Lib.hid (of_take s k hlt)
   have hc:=hcell k hlt
   go_wp2
   go_round
   case rel=>
    refine ⟨k+1,by omega,by go_num,?_⟩
    rw [HS.out,wrap_byte_u64,xor_u64,k4_u64]
    rfl
   case measure=>simp [intOf];omega
  ·go_wp2
   go_ret
   exact ⟨ret_u64 (by rw [List.take_of_length_le (by simp;omega)]),bytesWorld_below w _ s⟩
theorem of_is (s:ByteArray) (p:UInt64) (w:World) (h:ofU s.data.toList=p) (hs:s.size≤maxLen) :
  Calls Tryz.prog 161 #[.string s] w fun e w'=>e=.returned (.int .u64 p.toNat)∧w=w':=h▸of_any s w hs
theorem refSum_is (s:ByteArray) (p:UInt64) (w:World) (h:ofU s.data.toList=p) (hs:s.size≤maxLen) :
  Calls Tryz.prog 72 #[.string s] w fun e w'=>e=.returned (.int .u64 p.toNat)∧Below w.heap.size w w':=h▸refSum_any s w hs
end Go.Proofs.YtlboemhbealnmaaGreat
namespace Go.Proofs.YtlboemhbealnmaaGreat
open Go.ChangeShapes Go.WideShapes Go.ChangeAt Go.RowKit Go.Joins
end Go.Proofs.YtlboemhbealnmaaGreat
namespace Go.Proofs.YtlboemhbealnmaaGreat
open Go.ChangeShapes Go.WideShapes Go.ChangeAt Go.RowKit Go.Joins Go.Deep
end Go.Proofs.YtlboemhbealnmaaGreat
namespace Go.Proofs.YtlboemhbealnmaaGreat
open Go.ChangeShapes Go.WideShapes Go.ChangeAt Go.RowKit Go.Joins Go.Deep
structure DeedH where
 ia:Option Addr
 ic:Nat
 d:DeedD
instance : Inhabited DeedH:=⟨⟨none,0,⟨[],0,0,0⟩⟩⟩
def DeedHCells (w:World) (b o:Nat) (q:DeedH):Prop:=
 w.cell? ⟨b,o,none⟩=some (.slice q.ia q.d.ins.length q.ic)∧w.cell? ⟨b,o+1,none⟩=some (.int .i64 q.d.outs)∧w.cell? ⟨b,o+2,none⟩=some (.int .i64 q.d.weight)∧w.cell? ⟨b,o+3,none⟩=some (.int .i64 q.d.fee)
end Go.Proofs.YtlboemhbealnmaaGreat
namespace Go.Proofs.YtlboemhbealnmaaGreat
open Go.RowKit
theorem eqID_any (l m:List UInt64) (a b:Option Addr) (ca cb:Nat) (w:World) (hl:l.length≤maxLen) (ha:IdsAt w a l) (hb:IdsAt w b m) :
  Calls Tryz.prog 11 #[.slice a l.length ca,.slice b m.length cb] w fun e w'=>e=.returned (.bool (l == m))∧w=w':=by
 unfold maxLen at hl
 by_cases hlen:l.length=m.length
 ·have hln:((l.length:Int) != (m.length:Int))=false:=by simp [hlen]
  have HL:=Lib.hid hlen
  clear hlen
  go_enter Tryz.func11,Tryz.ntmps11
  go_wp2
  go_loop [14] (fun i=>∃ k:Nat,k≤l.length∧i=.int .i64 k∧Hid (l.take k=m.take k)) (fun i=>l.length - (intOf i).toNat)
  case atStart=>exact ⟨0,Nat.zero_le _,rfl,Lib.hid (by simp)⟩
  case round=>
   obtain ⟨k,hk,rfl,NO⟩:=hrel
   by_cases hlt:k < l.length
   ·have hlm:k < m.length:=by have:=HL.out;omega
    obtain ⟨b1,o1,rfl,hb1,hd0⟩:=ha k hlt
    obtain ⟨b2,o2,rfl,hb2,hf0⟩:=hb k hlm
    by_cases hx:l[k]=m[k]
    ·have hxb:((l[k].toNat:Int) != (m[k].toNat:Int))=false:=by rw [bne,u64_beq,beq_iff_eq.2 hx];rfl
     have HX:=Lib.hid hx
     clear hx
     go_wp2
     go_round
     case rel=>exact ⟨k+1,by omega,by go_num,Lib.hid (take_eq_step hlt hlm NO.out HX.out)⟩
     case measure=>simp [intOf];omega
    ·have hxb:((l[k].toNat:Int) != (m[k].toNat:Int))=true:=by rw [bne,u64_beq,beq_eq_false_iff_ne.2 hx];rfl
     have HX:=Lib.hid hx
     clear hx
     go_wp2
     go_ret
     exact ⟨ret_bool (beq_eq_false_iff_ne.2 (ne_of_at hlt hlm HX.out)).symm,rfl⟩
   ·go_wp2
    go_ret
    refine ⟨ret_bool ?_,rfl⟩
    have h1:=NO.out
    rw [List.take_of_length_le (by omega),List.take_of_length_le (by have:=HL.out;omega)] at h1
    exact (beq_iff_eq.2 h1).symm
 ·have hln:((l.length:Int) != (m.length:Int))=true:=by simp;omega
  have HL:=Lib.hid hlen
  clear hlen
  go_enter Tryz.func11,Tryz.ntmps11
  go_wp2
  go_ret
  exact ⟨ret_bool (beq_eq_false_iff_ne.2 fun h=>HL.out (by rw [h])).symm,rfl⟩
theorem eqID_is (l m:List UInt64) (a b:Option Addr) (ca cb:Nat) (w:World) (r:Bool) (hl:l.length≤maxLen) (ha:IdsAt w a l) (hb:IdsAt w b m) (h:(l == m)=r) :
  Calls Tryz.prog 11 #[.slice a l.length ca,.slice b m.length cb] w fun e w'=>e=.returned (.bool r)∧w=w':=h▸eqID_any l m a b ca cb w hl ha hb
end Go.Proofs.YtlboemhbealnmaaGreat
namespace Go.Proofs.YtlboemhbealnmaaGreat
open Go.RowKit
theorem insAt_same {w w':World} {a:Option Addr} {l:List InD} (h:InsAt w a l) (e:∀ bb o,l≠[]→a=some ⟨bb,o,none⟩→w'.heap[bb]?=w.heap[bb]?) (hs:w.heap.size≤w'.heap.size):InsAt w' a l:=fun i hi=>by
 obtain ⟨bb,o,ea,hb,c0,c1,c2⟩:=h i hi
 have hs':=e bb o (fun e=>by rw [e] at hi;simp at hi) ea
 exact ⟨bb,o,ea,Nat.lt_of_lt_of_le hb hs,(World.cell?_of_block (a:=⟨bb,o+i * 2,none⟩) hs').trans c0,(World.cell?_of_block (a:=⟨bb,o+i * 2+1,none⟩) hs').trans c1,c2⟩
def CopyI (w:World) (l:List InD) (e:Ending) (w':World):Prop:=∃ a cap,e=.returned (.slice a l.length cap)∧w'.ownsRow w.heap.size 180 2 (.slice a l.length cap) l.length (insC l)∧Below w.heap.size w w'
theorem copyIns_any (l:List InD) (a:Option Addr) (cap:Nat) (w:World) (hl:l.length≤1000) (hi:InsAt w a l) :
  Calls Tryz.prog 178 #[.slice a l.length cap] w (CopyI w l):=by
 by_cases hnil:l=[]
 ·subst hnil
  have HE:Hid (CopyI w [] (.returned (.slice none 0 0)) w):=Lib.hid ⟨none,0,rfl,World.ownsRow_nil _ _ _ _,Below.refl _ _⟩
  clear hl hi
  simp only [List.length_nil]
  go_enter Tryz.func178,Tryz.ntmps178
  go_wp2_with (at_builtin;refine step_append_none rfl _ _ rfl a cap rfl rfl ?_)
  go_ret
  exact HE.out
 ·have hpos:0 < l.length:=List.length_pos_iff.2 hnil
  obtain ⟨bb,oo,rfl,hbl,_⟩:=hi 0 hpos
  obtain ⟨iE,hiE,hz0,hz1,hz2⟩:=info_parts info_in
  have HN:=Lib.hid (ins_cells hi)
  have HL:=Lib.hid hl
  clear hnil hi
  go_enter Tryz.func178,Tryz.ntmps178
  go_wp2_with (at_builtin;refine wpList_append_lies _ rfl _ _ 92 rfl w.heap.size 180 iE _ 2 16 Tryz.underlying92 hiE hz0 hz1 hz2 rfl (by decide) (.slice none 0 0) 0 [] rfl (World.ownsRow_nil _ _ _ _) ⟨bb,oo,none⟩ l.length cap (insC l) rfl (insC_length l) HN.out (insC_one l) hpos (by have:=HL.out;unfold maxLen;omega) (by have:=HL.out;omega) (Nat.le_refl _) _ rfl ?_;intro g2 cap2 w2 hown2 hgrow2 hat2 hlt2)
  have HE:Hid (CopyI w l (.returned (.slice (some ⟨g2,0,none⟩) l.length cap2)) w2):=Lib.hid (by
   rw [Nat.zero_add] at hown2
   exact ⟨_,_,rfl,hown2,(Below.refl _ _).grown hgrow2 (Nat.le_refl _) (fun j hj=>by cases hj)⟩)
  clear hown2 hgrow2 hat2
  go_wp2
  go_ret
  exact HE.out
end Go.Proofs.YtlboemhbealnmaaGreat
