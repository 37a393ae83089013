import Derived.Test.YtlboemhbealnmaaGreatP5
import Derived.Test.YtlboemhbealnmaaGreatP4
import Derived.Test.YtlboemhbealnmaaGreatP3
import Derived.Test.YtlboemhbealnmaaGreatP2
import Derived.BigQuiet
import Derived.Deep.QuietTactic
set_option maxRecDepth 20000
namespace Go.Proofs.YtlboemhbealnmaaGreat.Ju
open Go.RowKit
theorem encode_is (d:DeedD) (a:Option Addr) (cap:Nat) (w:World) (E:ByteArray) (hi:InsAt w a d.ins) (h:checkD d=0) (hE:str (encB d)=E) :
  Calls Tryz.prog 95 #[.agg #[.slice a d.ins.length cap,.int .i64 d.outs,.int .i64 d.weight,.int .i64 d.fee]] w fun e w'=>e=.returned (.tuple #[.string E,.int .i64 0])∧Below w.heap.size w w':=hE▸encode_ok d a cap w hi h
theorem id_err (d:DeedD) (a:Option Addr) (cap:Nat) (w:World) (r:Int) (hi:InsAt w a d.ins) (h:checkD d=r) (hr:r≠0) :
  Calls Tryz.prog 99 #[.agg #[.slice a d.ins.length cap,.int .i64 d.outs,.int .i64 d.weight,.int .i64 d.fee]] w fun e w'=>e=.returned (.tuple #[.int .u64 0,.int .i64 r])∧Below w.heap.size w w':=by
 have HR:=Lib.hid h
 clear h
 have hrb:(r != 0)=true:=by simpa using hr
 have hk:=kept_new w (.cells #[.slice a d.ins.length cap,.int .i64 d.outs,.int .i64 d.weight,.int .i64 d.fee] 94)
 have hi0:=insAt_kept hk hi
 go_enter Tryz.func99,Tryz.ntmps99
 go_wp2_with fail
 with_reducible refine (encode_err d _ _ _ r hi0 HR.out hr).mono ?_
 rintro e w1 ⟨rfl,hb1⟩
 go_wp2_with fail
 go_ret2
 exact ⟨rfl,kept_trans hk hb1⟩
theorem enc_small (d:DeedD) (E:ByteArray) (h:checkD d=0) (hE:str (encB d)=E):E.size=7+9 * d.ins.length∧d.ins.length≤8:=by
 rw [← hE,str_size,encB_length]
 exact ⟨rfl,(check_ok h).1⟩
theorem id_is (d:DeedD) (a:Option Addr) (cap:Nat) (w:World) (E:ByteArray) (p:UInt64) (hi:InsAt w a d.ins) (h:checkD d=0) (hE:str (encB d)=E) (hp:ofU E.data.toList=p) :
  Calls Tryz.prog 99 #[.agg #[.slice a d.ins.length cap,.int .i64 d.outs,.int .i64 d.weight,.int .i64 d.fee]] w fun e w'=>e=.returned (.tuple #[.int .u64 p.toNat,.int .i64 0])∧Below w.heap.size w w':=by
 have hs:E.size≤maxLen:=by have:=enc_small d E h hE;unfold maxLen;omega
 have HR:=Lib.hid h
 have HE:=Lib.hid hE
 have HP:=Lib.hid hp
 clear h hE hp
 have hk:=kept_new w (.cells #[.slice a d.ins.length cap,.int .i64 d.outs,.int .i64 d.weight,.int .i64 d.fee] 94)
 have hi0:=insAt_kept hk hi
 go_enter Tryz.func99,Tryz.ntmps99
 go_wp2_with fail
 with_reducible refine (encode_is d _ _ _ E hi0 HR.out HE.out).mono ?_
 rintro e w1 ⟨rfl,hb1⟩
 go_wp2_with fail
 with_reducible refine (of_is E p _ HP.out hs).mono ?_
 rintro e w2 ⟨rfl,rfl⟩
 go_wp2_with fail
 go_ret2
 exact ⟨rfl,kept_trans hk hb1⟩
def idD (d:DeedD):UInt64:=ofU (encB d)
theorem idD_str (d:DeedD):ofU (str (encB d)).data.toList=idD d:=by rw [str_list];rfl
theorem id_ok (d:DeedD) (a:Option Addr) (cap:Nat) (w:World) (hi:InsAt w a d.ins) (h:checkD d=0) :
  Calls Tryz.prog 99 #[.agg #[.slice a d.ins.length cap,.int .i64 d.outs,.int .i64 d.weight,.int .i64 d.fee]] w fun e w'=>e=.returned (.tuple #[.int .u64 (idD d).toNat,.int .i64 0])∧Below w.heap.size w w':=id_is d a cap w _ _ hi h rfl (idD_str d)
theorem idOf_any (d:DeedD) (a:Option Addr) (cap:Nat) (w:World) (hi:InsAt w a d.ins) (h:checkD d=0) (p:UInt64) (hp:idD d=p) :
  Calls Tryz.prog 35 #[.agg #[.slice a d.ins.length cap,.int .i64 d.outs,.int .i64 d.weight,.int .i64 d.fee]] w fun e w'=>e=.returned (.int .u64 p.toNat)∧Below w.heap.size w w':=by
 obtain ⟨E,hE⟩:∃ E,str (encB d)=E:=⟨_,rfl⟩
 have hs:E.size≤maxLen:=by have:=enc_small d E h hE;unfold maxLen;omega
 have hp:ofU E.data.toList=p:=by rw [← hp,← hE,idD_str]
 have HR:=Lib.hid h
 have HP:=Lib.hid hp
 have hby:=fun (wx:World) (hx:InsAt wx a d.ins)=>bytesOf_ok d a cap wx hx HR.out
 rw [hE] at hby
 clear h hE hp
 have hk:=kept_new w (.cells #[.slice a d.ins.length cap,.int .i64 d.outs,.int .i64 d.weight,.int .i64 d.fee] 94)
 have hi0:=insAt_kept hk hi
 go_enter Tryz.func35,Tryz.ntmps35
 go_wp2_with fail
 with_reducible refine (hby _ hi0).mono ?_
 rintro e w2 ⟨rfl,hb2⟩
 go_wp2_with fail
 with_reducible refine (refSum_is E p _ HP.out hs).mono ?_
 rintro e w3 ⟨rfl,hb3⟩
 go_wp2_with fail
 go_ret
 exact ⟨rfl,kept_trans (kept_trans hk hb2) hb3⟩
end Go.Proofs.YtlboemhbealnmaaGreat.Ju
namespace Go.Proofs.YtlboemhbealnmaaGreat.Ju
open Go.RowKit
def findL (L:List DeedD) (x:UInt64):Option DeedD:=L.find? fun d=>idD d == x
def insL (L:List DeedD):List InD:=L.flatMap fun d=>d.ins
def missL (M:UInt64→Option DeedD) (l:List InD):List UInt64:=l.foldl (fun m e=>if (M e.1).isSome then m else if m.contains e.1 then m else m ++ [e.1]) []
def badIn (M:UInt64→Option DeedD) (sp:InD→Bool) (e:InD):Bool:=decide (e.2 ≥ ((M e.1).getD nod).outs) || sp e
def wickedL (M:UInt64→Option DeedD) (sp:InD→Bool) (l:List InD):Bool:=l.any (badIn M sp)
def payI (fee weight:Int):Int:=if 10 * fee < weight then 1 else 0
def stateM (M:UInt64→Option DeedD) (sp:InD→Bool) (d:DeedD):Int:=if missL M d.ins≠[] then 2 else if wickedL M sp d.ins=true then 3 else payI d.fee d.weight
abbrev spentL (L:List DeedD):InD→Bool:=fun e=>(insL L).contains e
def stateL (L:List DeedD) (d:DeedD):Int:=stateM (findL L) (spentL L) d
def judgeL (L:List DeedD) (d:DeedD):Int × List UInt64 × Int:=if checkD d≠0 then (0,[],checkD d) else (stateL L d,missL (findL L) d.ins,0)
def acceptL (L:List DeedD) (d:DeedD):Int × List DeedD:=
 if checkD d≠0 then (checkD d,L) else if (findL L (idD d)).isSome=true then (6,L) else if stateL L d ≥ 2 then (7,L) else (0,L ++ [d])
structure GoodJ (L:List DeedD):Prop where
 fine:∀ d ∈ L,checkD d=0
 nodup:(L.map idD).Nodup
theorem findL_mem {L:List DeedD} {x:UInt64} {d:DeedD} (h:findL L x=some d):d ∈ L∧idD d=x:=
 ⟨List.mem_of_find?_eq_some h,by have:=List.find?_some h;simpa using this⟩
theorem findL_some {L:List DeedD} {x:UInt64}:(findL L x).isSome=true ↔ ∃ d ∈ L,idD d=x:=by
 unfold findL
 rw [List.find?_isSome]
 simp
theorem findL_none {L:List DeedD} {x:UInt64}:findL L x=none ↔ ∀ d ∈ L,idD d≠x:=by
 unfold findL
 rw [List.find?_eq_none]
 simp
theorem findL_snoc (L:List DeedD) (d:DeedD) (x:UInt64):findL (L ++ [d]) x=if (findL L x).isSome=true then findL L x else if idD d=x then some d else none:=by
 unfold findL
 rw [List.find?_append]
 cases h:L.find? (fun d=>idD d == x) with
 | some y=>simp
 | none=>
  simp only [Option.none_or,Option.isSome_none,Bool.false_eq_true,if_false]
  by_cases e:idD d=x
  ·rw [if_pos e];simp [e]
  ·rw [if_neg e];simp [e]
theorem findL_new {L:List DeedD} {d:DeedD} (h:findL L (idD d)=none):findL (L ++ [d])=upd (findL L) (idD d) (some d):=by
 funext x
 rw [findL_snoc]
 by_cases e:x=idD d
 ·rw [e,h,upd_same]
  simp
 ·rw [upd_other _ _ e]
  cases hx:findL L x with
  | some y=>simp
  | none=>simp;exact fun e2=>e e2.symm
theorem findL_keys {L:List DeedD} {x:UInt64} (h:(findL L x).isSome=true):x ∈ L.map idD:=by
 obtain ⟨d,hd,e⟩:=findL_some.1 h
 exact List.mem_map.2 ⟨d,hd,e⟩
theorem insL_snoc (L:List DeedD) (d:DeedD):insL (L ++ [d])=insL L ++ d.ins:=by unfold insL;simp
theorem missL_step {M:UInt64→Option DeedD} {l:List InD} {k:Nat} (h:k < l.length):missL M (l.take (k+1))=if (M l[k].1).isSome then missL M (l.take k) else if (missL M (l.take k)).contains l[k].1 then missL M (l.take k) else missL M (l.take k) ++ [l[k].1]:=by
 unfold missL
 rw [List.take_succ_eq_append_getElem h,List.foldl_append]
 rfl
theorem missL_length (M:UInt64→Option DeedD):∀ l:List InD,(missL M l).length≤l.length:=fun l=>by
 have:∀ k,k≤l.length→(missL M (l.take k)).length≤k:=fun k=>by
  induction k with
  | zero=>intro _;simp [missL]
  | succ k ih=>
   intro hk
   rw [missL_step (by omega)]
   have:=ih (by omega)
   split
   ·omega
   ·split
    ·omega
    ·simp;omega
 have:=this l.length (Nat.le_refl _)
 rwa [List.take_length] at this
theorem payI_lt (f w:Int):payI f w < 2∧0≤payI f w:=by unfold payI;split <;> omega
theorem stateM_lost {M:UInt64→Option DeedD} {sp:InD→Bool} {d:DeedD}:stateM M sp d=2 ↔ missL M d.ins≠[]:=by
 unfold stateM
 have:=payI_lt d.fee d.weight
 split
 ·rename_i h;exact ⟨fun _=>h,fun _=>rfl⟩
 ·rename_i h
  split
  ·exact ⟨fun h=>by omega,fun h'=>absurd h' h⟩
  ·exact ⟨fun h=>by omega,fun h'=>absurd h' h⟩
theorem acceptL_good {L:List DeedD} (h:GoodJ L) (d:DeedD):GoodJ (acceptL L d).2:=by
 unfold acceptL
 split
 ·exact h
 ·split
  ·exact h
  ·split
   ·exact h
   ·rename_i h1 h2 h3
    refine ⟨fun e he=>?_,?_⟩
    ·rcases List.mem_append.1 he with he | he
     ·exact h.fine e he
     ·rw [List.mem_singleton.1 he];exact Classical.not_not.1 h1
    ·rw [List.map_append,List.nodup_append]
     refine ⟨h.nodup,by simp,fun a ha b hb e=>h2 ?_⟩
     simp only [List.map_cons,List.map_nil,List.mem_singleton] at hb
     obtain ⟨y,hy,e2⟩:=List.mem_map.1 ha
     exact findL_some.2 ⟨y,hy,by rw [e2,e,hb]⟩
end Go.Proofs.YtlboemhbealnmaaGreat.Ju
namespace Go.Proofs.YtlboemhbealnmaaGreat.Ju
open Go.RowKit Go.Maps
theorem tmap_putN {w:World} {b:Nat} {ev:UInt64→Option Value} (h:TMap w b none ev) (ks:List UInt64) (hks:∀ x,(ev x).isSome=true→x ∈ ks) (hkl:ks.length≤10000000000000) (x:UInt64) (v:Value) :
  ∃ w',(Instr.mapUpdate 72 (.map (some b)) (.int .u64 x.toNat) v).run Tryz.prog w=.ok () w'∧TMap w' b none (fun y=>if y=x then some v else ev y)∧Turn (fun k=>k=b) (fun k=>k=b) w w':=by
 obtain ⟨D,⟨n,hm⟩,hat,hhas⟩:=h
 have hm2:=tmap_small hm ks (fun y hy=>hks y (by rw [← hhas y];exact hy))
 obtain ⟨w',hrun,ho,hg⟩:=hm2.update u64_keyed Tryz.underlying72 (by unfold maxLen;omega) (u64_key x) (val:=v) (d:=.held v) (ps:=[]) rfl
 refine ⟨w',hrun,⟨_,⟨_,ho⟩,fun y u hy z=>?_,fun y=>?_⟩,Turn.of_grown hg (fun k hk=>by cases hk;rfl)⟩
 ·replace hy:(if y=x then some v else ev y)=some u:=hy
  by_cases e:y=x
  ·rw [if_pos e] at hy
   cases hy
   rw [e,atKey_put_same hm2.isMap (u64_keyed.key (u64_key _))]
  ·rw [if_neg e] at hy
   rw [atKey_put_other (lit_ne e),hat y u hy]
 ·show _=(if y=x then some v else ev y).isSome
  by_cases e:y=x
  ·rw [e,if_pos rfl,has_put_same hm2.isMap (u64_keyed.key (u64_key _))]
   rfl
  ·rw [if_neg e,has_put_other (lit_ne e),hhas y]
theorem seen_same {w w':World} {b n:Nat} {ks:List InD} (h:Seen w b n ks) (e:w'.heap[b]?=w.heap[b]?):Seen w' b n ks:=by
 obtain ⟨D,⟨es,clock,hb,r⟩,r2⟩:=h
 exact ⟨D,⟨es,clock,e.trans hb,r⟩,r2⟩
theorem seen_look {w:World} {b n:Nat} {ks:List InD} (h:Seen w b n ks) (x:InD) (hx:inOk x):(Instr.lookup 78 (.map (some b)) (.agg #[.int .u64 x.1.toNat,.int .i64 x.2]) false).run Tryz.prog w=.ok (.bool (ks.contains x)) w:=
 set_look h in_keyed Tryz.underlying78 Tryz.underlying4 (zero_bool _) hx (in_key _ hx)
theorem seen_put {w:World} {b n:Nat} {ks:List InD} (h:Seen w b n ks) (x:InD) (hx:inOk x) (hn:n≤1000000000000000) :
  ∃ w',(Instr.mapUpdate 78 (.map (some b)) (.agg #[.int .u64 x.1.toNat,.int .i64 x.2]) (.bool true)).run Tryz.prog w=.ok () w'∧Seen w' b (n+1) (ks ++ [x])∧Turn (fun k=>k=b) (fun k=>k=b) w w':=by
 obtain ⟨w1,hput,S1,hg⟩:=set_put h in_keyed Tryz.underlying78 Tryz.underlying4 (by unfold maxLen;omega) hx (in_key _ hx) (fun y hy e=>inKey_inj hy hx e)
 exact ⟨w1,hput,S1,Turn.of_grown hg (fun k hk=>by cases hk;rfl)⟩
theorem seen_at {w:World} {b n:Nat} {ks:List InD} (h:Seen w b n ks):∃ es clock,w.heap[b]?=some (.map es clock):=by
 obtain ⟨D,⟨es,clock,hb,_⟩,_⟩:=h
 exact ⟨es,clock,hb⟩
theorem tmap_at {w:World} {b:Nat} {it:Option It} {ev:UInt64→Option Value} (h:TMap w b it ev):∃ es clock,w.heap[b]?=some (.map es clock):=by
 obtain ⟨D,hm,_⟩:=h
 obtain ⟨n,es,clock,hb,_⟩:=mapIs_owns hm
 exact ⟨es,clock,hb⟩
def ledC (oc:Nat→Value) (m v s:Value):Array Value:=#[oc 0,oc 1,oc 2,oc 3,oc 4,oc 5,oc 6,oc 7,oc 8,oc 9,oc 10,oc 11,oc 12,oc 13,oc 14,oc 15,oc 16,oc 17,oc 18,oc 19,oc 20,oc 21,oc 22,oc 23,oc 24,oc 25,oc 26,oc 27,oc 28,m,v,s,oc 32,oc 33]
structure LedAt (w:World) (F:Nat→Prop) (R:Loc) (M:UInt64→Option DeedD) (os:List UInt64) (sp:List InD) (b s n:Nat) (ev:UInt64→Option Value) (v:Value):Prop where
 head:w.heap[R.b]?=some (.cells (ledC R.oc (.map (some b)) v (.map (some s))) 88 (0,0))
 map:TMap w b none ev
 deeds:∀ x,(ev x=none∧M x=none)∨∃ a c d,ev x=some (deedV a c d)∧M x=some d∧OwnIns w (.slice a d.ins.length c) d.ins∧∀ g,(Value.slice a d.ins.length c).ownBlock=some g→F g
 fine:∀ x d,M x=some d→checkD d=0
 order:OwnIds w 0 v os
 spent:Seen w s n sp
 ne:b≠s
 fR:F R.b
 fb:F b
 fs:F s
 fv:∀ g,v.ownBlock=some g→F g
 there:There w F
variable {w w':World} {F:Nat→Prop} {R:Loc} {M:UInt64→Option DeedD} {os:List UInt64} {sp:List InD} {b s n:Nat} {ev:UInt64→Option Value} {v:Value}
theorem LedAt.same (h:LedAt w F R M os sp b s n ev v) (e:∀ k,k < w.heap.size→F k→w'.heap[k]?=w.heap[k]?) (hs:w.heap.size≤w'.heap.size):LedAt w' F R M os sp b s n ev v where
 head:=(e R.b (h.there R.b h.fR) h.fR).trans h.head
 map:=tmap_same h.map (e b (h.there b h.fb) h.fb) (fun i hi=>by cases hi)
 deeds:=fun x=>(h.deeds x).imp id fun ⟨a,c,d,h1,h2,h3,h4⟩=>⟨a,c,d,h1,h2,own_same h3 fun g hg=>e g (h.there g (h4 g hg)) (h4 g hg),h4⟩
 fine:=h.fine
 order:=own_same h.order fun g hg=>e g (h.there g (h.fv g hg)) (h.fv g hg)
 spent:=seen_same h.spent (e s (h.there s h.fs) h.fs)
 ne:=h.ne
 fR:=h.fR
 fb:=h.fb
 fs:=h.fs
 fv:=h.fv
 there:=h.there.later hs
theorem LedAt.kept (h:LedAt w F R M os sp b s n ev v) (hb:Below w.heap.size w w'):LedAt w' F R M os sp b s n ev v:=h.same (fun k hk _=>hb.block k hk) hb.size
theorem LedAt.lt (h:LedAt w F R M os sp b s n ev v):R.b < w.heap.size:=h.there R.b h.fR
theorem LedAt.mapc (h:LedAt w F R M os sp b s n ev v):w.cell? ⟨R.b,29,none⟩=some (.map (some b)):=(head_cell h.head 29).trans rfl
theorem LedAt.orderc (h:LedAt w F R M os sp b s n ev v):w.cell? ⟨R.b,30,none⟩=some v∧w.frozen? ⟨R.b,30,none⟩=false:=⟨(head_cell h.head 30).trans rfl,frozen_of_row w R.b (30) _ _ h.head⟩
theorem LedAt.spentc (h:LedAt w F R M os sp b s n ev v):w.cell? ⟨R.b,31,none⟩=some (.map (some s)):=(head_cell h.head 31).trans rfl
theorem LedAt.look_ok (h:LedAt w F R M os sp b s n ev v) (x:UInt64):(Instr.lookup 72 (.map (some b)) (.int .u64 x.toNat) true).run Tryz.prog w=.ok (.tuple #[(ev x).getD zeroD,.bool (ev x).isSome]) w:=tmap_look_ok h.map x
theorem LedAt.there_is (h:LedAt w F R M os sp b s n ev v) (x:UInt64):(ev x).isSome=(M x).isSome:=by
 rcases h.deeds x with ⟨h1,h2⟩ | ⟨a,c,d,h1,h2,_⟩
 ·rw [h1,h2];rfl
 ·rw [h1,h2];rfl
theorem LedAt.deed (h:LedAt w F R M os sp b s n ev v) (x:UInt64):∃ a c,(ev x).getD zeroD=deedV a c ((M x).getD nod)∧((M x).getD nod).ins.length≤8∧((M x).getD nod).ins.length≤c∧InsAt w a ((M x).getD nod).ins:=by
 rcases h.deeds x with ⟨h1,h2⟩ | ⟨a,c,d,h1,h2,h3,h4⟩
 ·rw [h1,h2]
  exact ⟨none,0,rfl,Nat.zero_le _,Nat.zero_le _,fun i hi=>absurd hi (by simp [nod])⟩
 ·rw [h1,h2]
  have hf:=h.fine x d h2
  obtain ⟨_,hc,hi⟩:=ownIns_slice h3 (ins_ok hf)
  exact ⟨a,c,rfl,(check_ok hf).1,hc,hi⟩
theorem LedAt.v_ne (h:LedAt w F R M os sp b s n ev v) {g:Nat} (hg:v.ownBlock=some g):g≠R.b∧g≠b∧g≠s:=by
 obtain ⟨cur,hc⟩:=own_at h.order hg
 refine ⟨fun e=>?_,fun e=>?_,fun e=>?_⟩
 ·rw [e,h.head] at hc;simp at hc
 ·obtain ⟨es,cl,hb⟩:=tmap_at h.map
  rw [e,hb] at hc;cases hc
 ·obtain ⟨es,cl,hb⟩:=seen_at h.spent
  rw [e,hb] at hc;cases hc
theorem LedAt.i_ne (h:LedAt w F R M os sp b s n ev v) {l:List InD} {u:Value} (ho:OwnIns w u l) {g:Nat} (hg:u.ownBlock=some g):g≠R.b∧g≠b∧g≠s∧v.ownBlock≠some g:=by
 obtain ⟨cur,hc⟩:=own_at ho hg
 refine ⟨fun e=>?_,fun e=>?_,fun e=>?_,fun e=>?_⟩
 ·rw [e,h.head] at hc;simp at hc
 ·obtain ⟨es,cl,hb⟩:=tmap_at h.map
  rw [e,hb] at hc;cases hc
 ·obtain ⟨es,cl,hb⟩:=seen_at h.spent
  rw [e,hb] at hc;cases hc
 ·obtain ⟨cur',hc'⟩:=own_at h.order e
  rw [hc'] at hc;simp at hc
theorem LedAt.R_ne (h:LedAt w F R M os sp b s n ev v):R.b≠b∧R.b≠s:=by
 refine ⟨fun e=>?_,fun e=>?_⟩
 ·obtain ⟨es,cl,hb⟩:=tmap_at h.map
  have:=h.head
  rw [e,hb] at this
  cases this
 ·obtain ⟨es,cl,hb⟩:=seen_at h.spent
  have:=h.head
  rw [e,hb] at this
  cases this
theorem LedAt.setOrder (h:LedAt w F R M os sp b s n ev v) {u:Value} {l:List UInt64} {G:Nat→Prop} (hG:∀ k,G k→v.ownBlock=some k) (ht:Turn G G w w') (ho:OwnIds w' 0 u l) (hv:∀ k,u.ownBlock=some k→v.ownBlock=some k∨w.heap.size≤k) :
  LedAt (w'.setCell ⟨R.b,30,none⟩ u) (fun k=>F k∨u.ownBlock=some k) R M l sp b s n ev u∧Turn F (fun k=>F k∨u.ownBlock=some k) w (w'.setCell ⟨R.b,30,none⟩ u):=by
 have hnR:¬ G R.b:=fun hg=>(h.v_ne (hG R.b hg)).1 rfl
 have hnb:¬ G b:=fun hg=>(h.v_ne (hG b hg)).2.1 rfl
 have hns:¬ G s:=fun hg=>(h.v_ne (hG s hg)).2.2 rfl
 have hlt:∀ k,k < w.heap.size→k < w'.heap.size:=fun k hk=>Nat.lt_of_lt_of_le hk ht.size
 have hset:∀ k,k≠R.b→(w'.setCell ⟨R.b,30,none⟩ u).heap[k]?=w'.heap[k]?:=fun k hk=>Below.heap_setCell w' ⟨R.b,30,none⟩ u k hk
 have hold:∀ k,k < w.heap.size→k≠R.b→¬ G k→(w'.setCell ⟨R.b,30,none⟩ u).heap[k]?=w.heap[k]?:=fun k hk hkR hn=>(hset k hkR).trans (ht.block k hk hn)
 have hvR:∀ k,u.ownBlock=some k→k≠R.b:=fun k hk=>(hv k hk).elim (fun e=>(h.v_ne e).1) (fun hle e=>by have:=h.lt;omega)
 refine ⟨⟨?_,tmap_same h.map (hold b (h.there b h.fb) (fun e=>h.R_ne.1 e.symm) hnb) (fun i hi=>by cases hi),
  fun x=>(h.deeds x).imp id fun ⟨a,c,d,h1,h2,h3,h4⟩=>⟨a,c,d,h1,h2,own_same h3 fun g hg=>hold g (h.there g (h4 g hg)) (h.i_ne h3 hg).1 (fun hk=>(h.i_ne h3 hg).2.2.2 (hG g hk)),fun g hg=>.inl (h4 g hg)⟩,
  h.fine,own_same ho fun g hg=>hset g (hvR g hg),seen_same h.spent (hold s (h.there s h.fs) (fun e=>h.R_ne.2 e.symm) hns),h.ne,.inl h.fR,.inl h.fb,.inl h.fs,fun g hg=>.inr hg,fun k hk=>?_⟩,?_⟩
 ·exact heap_setCell_same w' R.b (30) _ _ u ((ht.block R.b h.lt hnR).trans h.head)
 ·rw [World.size_setCell]
  exact hk.elim (fun hf=>hlt k (h.there k hf)) (fun e=>(ho.lt k e).2)
 ·refine ⟨ht.os,ht.tape,ht.output,by rw [World.size_setCell];exact ht.size,fun k hk hn=>hold k hk (fun e=>hn (by rw [e];exact h.fR)) (fun hg=>hn (h.fv k (hG k hg))),fun k hk=>hk.elim .inl (fun e=>(hv k e).elim (fun e'=>.inl (h.fv k e')) .inr)⟩
theorem LedAt.spend (h:LedAt w F R M os sp b s n ev v) (x:InD) (hx:inOk x) (hn:n≤1000000000000000) :
  ∃ w',(Instr.mapUpdate 78 (.map (some s)) (.agg #[.int .u64 x.1.toNat,.int .i64 x.2]) (.bool true)).run Tryz.prog w=.ok () w'∧LedAt w' F R M os (sp ++ [x]) b s (n+1) ev v∧Turn F F w w':=by
 obtain ⟨w5,hput,hS,ht5⟩:=seen_put h.spent x hx hn
 refine ⟨w5,hput,?_,⟨ht5.os,ht5.tape,ht5.output,ht5.size,fun j hj hnj=>ht5.block j hj (fun e=>hnj (by rw [e];exact h.fs)),fun j hj=>.inl hj⟩⟩
 exact ⟨(ht5.block R.b h.lt h.R_ne.2).trans h.head,tmap_same h.map (ht5.block b (h.there b h.fb) h.ne) (fun i hi=>by cases hi),fun y=>(h.deeds y).imp id fun ⟨a,c,d,h1,h2,h3,h4⟩=>⟨a,c,d,h1,h2,own_turn h3 ht5 (fun g hg e=>(h.i_ne h3 hg).2.2.1 e),h4⟩,
  h.fine,own_turn h.order ht5 (fun g hg e=>(h.v_ne hg).2.2 e),hS,h.ne,h.fR,h.fb,h.fs,h.fv,h.there.later ht5.size⟩
theorem LedAt.put (h:LedAt w F R M os sp b s n ev v) (ks:List UInt64) (hks:∀ x,(M x).isSome=true→x ∈ ks) (hkl:ks.length≤10000000000000) (x:UInt64) {a:Option Addr} {c:Nat} {d:DeedD} (hd:checkD d=0) (hb:Below w.heap.size w w') (ho:w'.ownsRow w.heap.size 180 2 (.slice a d.ins.length c) d.ins.length (insC d.ins)) :
  ∃ w2,(Instr.mapUpdate 72 (.map (some b)) (.int .u64 x.toNat) (deedV a c d)).run Tryz.prog w'=.ok () w2∧∃ F',LedAt w2 F' R (upd M x (some d)) os sp b s n (upd ev x (some (deedV a c d))) v∧Turn F F' w w2:=by
 have h':=h.kept hb
 obtain ⟨w2,hrun,hm2,ht2⟩:=tmap_putN h'.map ks (fun y hy=>hks y (by rw [← h.there_is y];exact hy)) hkl x (deedV a c d)
 have hnew:∀ g,(Value.slice a d.ins.length c).ownBlock=some g→w.heap.size≤g:=fun g hg=>(ho.lt g hg).1
 have hbl:=h.there b h.fb
 refine ⟨w2,hrun,fun k=>F k∨(Value.slice a d.ins.length c).ownBlock=some k,⟨(ht2.block R.b h'.lt h.R_ne.1).trans h'.head,hm2,fun y=>?_,fun y e hy=>?_,own_turn h'.order ht2 (fun g hg e=>(h.v_ne hg).2.1 e),seen_same h'.spent (ht2.block s (h'.there s h.fs) (fun e=>h.ne e.symm)),h.ne,.inl h.fR,.inl h.fb,.inl h.fs,fun g hg=>.inl (h.fv g hg),fun k hk=>?_⟩,?_⟩
 ·by_cases e:y=x
  ·refine .inr ⟨a,c,d,by rw [e,upd_same],by rw [e,upd_same],?_,fun g hg=>.inr hg⟩
   have ho2:=own_turn ho ht2 (fun g hg e=>by have:=hnew g hg;omega)
   exact ⟨ho2.1,ho2.2.imp id fun ⟨g,cap,cur,q1,q2,q3⟩=>⟨g,cap,cur,q1,Nat.zero_le _,q3⟩⟩
  ·rcases h'.deeds y with ⟨h1,h2⟩ | ⟨a',c',d',h1,h2,h3,h4⟩
   ·exact .inl ⟨(upd_other _ _ e).trans h1,(upd_other _ _ e).trans h2⟩
   ·exact .inr ⟨a',c',d',(upd_other _ _ e).trans h1,(upd_other _ _ e).trans h2,own_turn h3 ht2 (fun g hg e=>(h'.i_ne h3 hg).2.1 e),fun g hg=>.inl (h4 g hg)⟩
 ·by_cases e':y=x
  ·rw [e',upd_same] at hy;cases hy;exact hd
  ·rw [upd_other _ _ e'] at hy
   exact h.fine y e hy
 ·exact hk.elim (fun hf=>Nat.lt_of_lt_of_le (h'.there k hf) ht2.size) (fun e=>Nat.lt_of_lt_of_le (ho.lt k e).2 ht2.size)
 ·have:Turn F F w' w2:=⟨ht2.os,ht2.tape,ht2.output,ht2.size,fun j hj hnj=>ht2.block j hj (fun e=>hnj (by rw [e];exact h.fb)),fun j hj=>.inl hj⟩
  exact ((Turn.of_below hb).trans this).more (fun k hk=>hk.elim .inl (fun e=>.inr (hnew k e)))
end Go.Proofs.YtlboemhbealnmaaGreat.Ju
namespace Go.Proofs.YtlboemhbealnmaaGreat.Ju
open Go.RowKit Go.Maps
variable {w w':World} {F:Nat→Prop} {R:Loc} {M:UInt64→Option DeedD} {os:List UInt64} {sp:List InD} {b s n:Nat} {ev:UInt64→Option Value} {v:Value}
theorem own_mono {w:World} {B B':Nat} {e:TypeId} {size n:Nat} {v:Value} {xs:List Value} (h:w.ownsRow B' e size v n xs) (hb:B≤B'):w.ownsRow B e size v n xs:=
 ⟨h.1,h.2.imp id fun ⟨g,cap,cur,q1,q2,q3⟩=>⟨g,cap,cur,q1,Nat.le_trans hb q2,q3⟩⟩
theorem led_new (w:World):Calls Tryz.prog 25 #[] w fun e w'=>e=.returned (.pointer (some ⟨w.heap.size+2,0,none⟩))∧w'=((w.alloc (.map #[] 0)).alloc (.map #[] 0)).alloc (.cells #[.map (some w.heap.size),.slice none 0 0,.map (some (w.heap.size+1))] 80):=by
 have hmm:=@run_makeMap Tryz.prog
 go_enter Tryz.func25,Tryz.ntmps25
 go_wp2
 go_ret
 exact ⟨rfl,rfl⟩
def FindAns (w:World) (m:Option DeedD) (e:Ending) (w':World):Prop:=
 ∃ a c,e=.returned (.tuple #[.agg #[.slice a (m.getD nod).ins.length c,.int .i64 (m.getD nod).outs,.int .i64 (m.getD nod).weight,.int .i64 (m.getD nod).fee],.bool m.isSome])∧(m.getD nod).ins.length≤8∧InsAt w' a (m.getD nod).ins∧Below w.heap.size w w'
set_option maxRecDepth 20000 in
theorem find_any (x:UInt64) (w:World) (h:LedAt w F R M os sp b s n ev v) :
  Calls Tryz.prog 152 #[.pointer (some ⟨R.b,29,none⟩),.int .u64 x.toNat] w (FindAns w (M x)):=by
 have hk0:=kept_new w (.cells #[.slice none 0 0,.int .i64 0,.int .i64 0,.int .i64 0] 94)
 have hmc:=(h.kept hk0).mapc
 have hlk:=(h.kept hk0).look_ok x
 have hlt:=h.lt
 have hth:=h.there_is x
 obtain ⟨a,c,hv,hl,hc,hi⟩:=h.deed x
 rw [hv,hth] at hlk
 unfold deedV at hlk
 clear h hv hth
 unfold FindAns
 obtain ⟨r,hr⟩:∃ r,(M x).isSome=r:=⟨_,rfl⟩
 rw [hr] at hlk ⊢
 clear hr
 obtain ⟨d,hd⟩:∃ d,(M x).getD nod=d:=⟨_,rfl⟩
 rw [hd] at hlk hl hi hc ⊢
 clear hd hc hk0
 obtain ⟨l,o,g,f⟩:=d
 simp only at hlk hl hi ⊢
 have HI:=Lib.hid hi
 clear hi
 go_enter Tryz.func152,Tryz.ntmps152
 go_wp2
 refine bodyPost_ret (v:=.tuple #[.agg #[.slice a l.length c,.int .i64 o,.int .i64 g,.int .i64 f],.bool r]) (by simp [results,Tryz.results152,go_sem]) rfl ?_
 have hk:Below w.heap.size w ((w.alloc (.cells #[.slice a l.length c,.int .i64 o,.int .i64 g,.int .i64 f] 94)).alloc (.cells #[.slice a l.length c,.int .i64 o,.int .i64 g,.int .i64 f] 94)):=kept_alloc (kept_new _ _) _
 exact ⟨a,c,rfl,hl,insAt_kept hk HI.out,hk⟩
set_option maxRecDepth 20000 in
theorem isSpent_any (x:InD) (hx:inOk x) (r:Bool) (hr:sp.contains x=r) (w:World) (h:LedAt w F R M os sp b s n ev v) :
  Calls Tryz.prog 188 #[.pointer (some ⟨R.b,29,none⟩),.agg #[.int .u64 x.1.toNat,.int .i64 x.2]] w fun e w'=>e=.returned (.bool r)∧Below w.heap.size w w':=by
 have hk0:=kept_new w (.cells #[.int .u64 x.1.toNat,.int .i64 x.2] 180)
 have hsc:=(h.kept hk0).spentc
 have hlt:=h.lt
 have hlk:=fun q=>seen_look (seen_same (h.kept hk0).spent (w':=(w.alloc (.cells #[.int .u64 x.1.toNat,.int .i64 x.2] 180)).drewN q) rfl) x hx
 rw [hr] at hlk
 clear h hr
 go_enter Tryz.func188,Tryz.ntmps188
 go_wp2_with fail
 go_quiet (fail)
 go_wp2_with fail
 go_ret
 exact ⟨rfl,below_drewN hk0 _⟩
set_option maxRecDepth 20000 in
theorem hasJ_any (x:UInt64) (w:World) (h:LedAt w F R M os sp b s n ev v) (r:Bool) (hr:(M x).isSome=r) :
  Calls Tryz.prog 100 #[.pointer (some ⟨R.b,29,none⟩),.int .u64 x.toNat] w fun e w'=>e=.returned (.bool r)∧Below w.heap.size w w':=by
 have H:=Lib.hid h
 have HR:=Lib.hid hr
 clear h hr
 go_enter Tryz.func100,Tryz.ntmps100
 go_wp2_with fail
 with_reducible refine (find_any x _ H.out).mono ?_
 rintro e w1 ⟨a,c,rfl,hl,hi,hb1⟩
 rw [HR.out]
 obtain ⟨d,hd⟩:∃ d,(M x).getD nod=d:=⟨_,rfl⟩
 rw [hd]
 clear hd hl hi
 go_wp2_with fail
 go_ret
 exact ⟨rfl,kept_alloc hb1 _⟩
def FindsN (K:World→Prop) (f:FuncId) (pre cap:Array Value) (M:UInt64→Option DeedD):Prop:=
 (∀ (args:Array Value) (w:World),(callFunc f args).run Tryz.prog w=.ok (.enter f args) w) ∧
 ∀ (x:UInt64) (w:World),K w→Calls Tryz.prog f (pre.push (.int .u64 x.toNat) ++ cap) w (FindAns w (M x))
set_option maxRecDepth 20000 in
theorem missing_any (K:World→Prop) (hK:∀ a b,K a→Below a.heap.size a b→K b) (f:FuncId) (pre cap:Array Value) (M:UInt64→Option DeedD) (hp:FindsN K f pre cap M) (d:DeedD) (a:Option Addr) (cp:Nat) (w:World) (hw:K w) (hl:d.ins.length≤8) (hi:InsAt w a d.ins) :
  Calls Tryz.prog 186 #[.agg #[.slice a d.ins.length cp,.int .i64 d.outs,.int .i64 d.weight,.int .i64 d.fee],.func (.func f) pre cap] w (GaveIds w (missL M d.ins)):=by
 have hcf:=hp.1
 have HP:=Lib.hid hp.2
 have HK:=Lib.hid hK
 have hk0:=kept_new w (.cells #[.slice a d.ins.length cp,.int .i64 d.outs,.int .i64 d.weight,.int .i64 d.fee] 94)
 have HW:=Lib.hid (hK _ _ hw hk0)
 have HI:=Lib.hid (insAt_kept hk0 hi)
 have HB0:=Lib.hid hk0
 clear hp hK hw hi hk0
 obtain ⟨l,o,g,fe⟩:=d
 simp only at hl HI HB0 HW ⊢
 go_enter Tryz.func186,Tryz.ntmps186
 go_wp2_with fail
 obtain ⟨w0,hw0⟩:∃ x,x=w.alloc (.cells #[.slice a l.length cp,.int .i64 o,.int .i64 g,.int .i64 fe] 94):=⟨_,rfl⟩
 rw [← hw0] at HI HB0 HW ⊢
 clear hw0
 go_loopw [5,13] (fun vi i wr=>∃ k:Nat,k≤l.length∧i=.int .i64 k∧Hid (OwnIds wr w0.heap.size vi (missL M (l.take k)))∧Hid (Below w0.heap.size w0 wr)) (fun _ i _=>l.length - (intOf i).toNat)
 case atStart=>exact ⟨0,Nat.zero_le _,rfl,Lib.hid (ownIds_nil _ _),Lib.hid (Below.refl _ _)⟩
 case round=>
  obtain ⟨k,hk,rfl,HO,HB⟩:=hrel
  rename_i u5
  by_cases hkl:k < l.length
  ·obtain ⟨bb,oo,rfl,hbb,c0,c1,_⟩:=insAt_kept HB.out HI.out k hkl
   have hst:=missL_step (M:=M) hkl
   have hlen:=missL_length M (l.take k)
   rw [List.length_take] at hlen
   obtain ⟨⟨ix,ia⟩,hix⟩:∃ q,l[k]=q:=⟨_,rfl⟩
   rw [hix] at c0 c1 hst
   simp only at c0 c1 hst
   have hk1:=kept_new wr (.cells #[.int .u64 ix.toNat,.int .i64 ia] 180)
   have HK1:=Lib.hid hk1
   have HW1:=Lib.hid (HK.out _ _ HW.out (kept_trans HB.out hk1))
   clear hix hk1
   go_wp2_with fail
   with_reducible refine (HP.out ix _ HW1.out).mono ?_
   rintro e w1 ⟨a1,cc1,rfl,_,_,hb1⟩
   obtain ⟨d0,d1,hs1⟩:=box_pair hb1
   have hb2:=kept_trans HK1.out hb1
   obtain ⟨dd,hdd⟩:∃ d,(M ix).getD nod=d:=⟨_,rfl⟩
   rw [hdd]
   obtain ⟨dl,dO,dg,df⟩:=dd
   simp only
   have hk3:=kept_new w1 (.cells #[.slice a1 dl.length cc1,.int .i64 dO,.int .i64 dg,.int .i64 df] 94)
   have hb3:=kept_trans hb2 hk3
   have HO3:=Lib.hid (owns_below HO.out hb3)
   have HB3:=Lib.hid (kept_trans HB.out hb3)
   clear hdd hb1 hb2 hb3 hk3 HK1 HW1
   cases hq:(M ix).isSome with
   | true=>
    rw [if_pos hq] at hst
    have HST:=Lib.hid hst
    clear hst hq
    go_wp2_with fail
    go_roundw
    case rel=>exact ⟨k+1,by omega,by go_num,Lib.hid (by rw [HST.out];exact HO3.out),HB3⟩
    case measure=>simp [intOf];omega
   | false=>
    rw [if_neg (by rw [hq];simp)] at hst
    obtain ⟨ja,jc,rfl,_,hids,_⟩:=owns_idsAt HO3.out
    have HIDS:=Lib.hid hids
    clear hids hq
    cases hc:(missL M (l.take k)).contains ix with
    | true=>
     rw [if_pos hc] at hst
     have HST:=Lib.hid hst
     have HQ:=Lib.hid hc
     clear hst hc
     go_wp2_with fail
     with_reducible refine (idHas_any ix _ true HQ.out _ _ _ (by omega) HIDS.out).mono ?_
     rintro e w2 ⟨rfl,hb2⟩
     have HO4:=Lib.hid (owns_below HO3.out hb2)
     have HB4:=Lib.hid (kept_trans HB3.out hb2)
     clear hb2
     go_wp2_with fail
     go_roundw
     case rel=>exact ⟨k+1,by omega,by go_num,Lib.hid (by rw [HST.out];exact HO4.out),HB4⟩
     case measure=>simp [intOf];omega
    | false=>
     rw [if_neg (by rw [hc];simp)] at hst
     have HST:=Lib.hid hst
     have HQ:=Lib.hid hc
     clear hst hc
     go_wp2_with fail
     with_reducible refine (idHas_any ix _ false HQ.out _ _ _ (by omega) HIDS.out).mono ?_
     rintro e w2 ⟨rfl,hb2⟩
     have d0':=kept_cell (kept_trans (kept_new _ _) hb2) d0
     have hs2:=(cell_spot d0').2
     have HO4:=Lib.hid (owns_below HO3.out hb2)
     have HB4:=Lib.hid (kept_trans HB3.out hb2)
     clear hb2
     go_wp2_with (at_builtin;refine append_id rfl _ _ rfl ix rfl rfl HO4.out (by omega) HB4.out.size ?_;intro g4 cap4 w4 ho4 hg4 hg5)
     have HO5:=Lib.hid ho4
     have HB5:=Lib.hid (HB4.out.grown hg5 HB4.out.size (fun j hj=>(HO4.out.lt j hj).1))
     clear ho4 hg4 hg5
     go_wp2_with fail
     go_roundw
     case rel=>exact ⟨k+1,by omega,by go_num,Lib.hid (by rw [HST.out];simpa using HO5.out),HB5⟩
     case measure=>simp [intOf];omega
  ·have he:l.take k=l:=List.take_of_length_le (by omega)
   have HO':=HO.out
   rw [he] at HO'
   obtain ⟨a6,cap6,e6,_,_,_⟩:=owns_idsAt HO'
   subst e6
   have HE:=Lib.hid HO'
   clear HO' he
   go_wp2_with fail
   go_ret
   exact ⟨a6,cap6,rfl,own_mono HE.out HB0.out.size,kept_trans HB0.out HB.out⟩
end Go.Proofs.YtlboemhbealnmaaGreat.Ju
