import Derived.Test.YtlboemhbealnmaaGreatP2
import Derived.Test.YtlboemhbealnmaaGreatP4
import Derived.Maps.OwnOps
import Derived.Maps.OwnSet
set_option maxRecDepth 20000
namespace Go.Proofs.YtlboemhbealnmaaGreat.Ms
structure MsgD where
 kind:Int
 ids:List UInt64
 body:ByteArray
def checkM (m:MsgD):Int:=
 if within m.kind 1 4=false then 1 else if (m.kind=3∧0 < m.ids.length)∨(m.kind≠3∧0 < m.body.size) then 4
 else if 20 < m.ids.length∨100 < m.body.size then 2 else if m.ids.length=0∧m.body.size=0 then 4 else if m.ids.Nodup then 0 else 6
def zeroM:MsgD:=⟨0,[],⟨#[]⟩⟩
theorem within_known {k:Int} (h:within k 1 4=true):k=1∨k=2∨k=3∨k=4:=by
 have:=of_decide_eq_true (p:=1≤k∧k≤4) h
 omega
theorem checkM_kind {m:MsgD} (h:within m.kind 1 4=false):checkM m=1:=by unfold checkM;rw [if_pos h]
theorem checkM_form {m:MsgD} (h:within m.kind 1 4=true) (h1:(m.kind=3∧0 < m.ids.length)∨(m.kind≠3∧0 < m.body.size)):checkM m=4:=by
 unfold checkM;rw [if_neg (by rw [h];decide),if_pos h1]
theorem checkM_large {m:MsgD} (h:within m.kind 1 4=true) (h1:¬ ((m.kind=3∧0 < m.ids.length)∨(m.kind≠3∧0 < m.body.size))) (h2:20 < m.ids.length∨100 < m.body.size):checkM m=2:=by
 unfold checkM;rw [if_neg (by rw [h];decide),if_neg h1,if_pos h2]
theorem checkM_none {m:MsgD} (h:within m.kind 1 4=true) (h1:¬ ((m.kind=3∧0 < m.ids.length)∨(m.kind≠3∧0 < m.body.size))) (h2:¬ (20 < m.ids.length∨100 < m.body.size)) (h3:m.ids.length=0∧m.body.size=0):checkM m=4:=by
 unfold checkM;rw [if_neg (by rw [h];decide),if_neg h1,if_neg h2,if_pos h3]
theorem checkM_rest {m:MsgD} (h:within m.kind 1 4=true) (h1:¬ ((m.kind=3∧0 < m.ids.length)∨(m.kind≠3∧0 < m.body.size))) (h2:¬ (20 < m.ids.length∨100 < m.body.size)) (h3:¬ (m.ids.length=0∧m.body.size=0)):checkM m=if m.ids.Nodup then 0 else 6:=by
 unfold checkM;rw [if_neg (by rw [h];decide),if_neg h1,if_neg h2,if_neg h3]
theorem checkM_ok {m:MsgD} (h:checkM m=0):within m.kind 1 4=true∧((m.kind=3∧m.ids=[]∧0 < m.body.size∧m.body.size≤100)∨(m.kind≠3∧m.body.size=0∧0 < m.ids.length∧m.ids.length≤20∧m.ids.Nodup)):=by
 unfold checkM at h
 split at h
 ·cases h
 ·rename_i h0
  split at h
  ·cases h
  ·rename_i h1
   split at h
   ·cases h
   ·rename_i h2
    split at h
    ·cases h
    ·rename_i h3
     split at h
     ·rename_i h4
      refine ⟨by simpa using h0,?_⟩
      by_cases hk:m.kind=3
      ·have hl:m.ids.length=0:=by omega
       exact .inl ⟨hk,List.eq_nil_of_length_eq_zero hl,by omega,by omega⟩
      ·exact .inr ⟨hk,by omega,by omega,by omega,h4⟩
     ·cases h
theorem nodup_snoc {l:List UInt64} {k:Nat} (h:k < l.length):(l.take (k+1)).Nodup ↔ (l.take k).Nodup∧(l.take k).contains l[k]=false:=by
 rw [List.take_succ_eq_append_getElem h,List.nodup_append]
 constructor
 ·rintro ⟨h1,_,h3⟩
  refine ⟨h1,?_⟩
  rw [← Bool.not_eq_true,List.contains_iff_mem]
  intro hm
  exact h3 _ hm _ (by simp) rfl
 ·rintro ⟨h1,h2⟩
  refine ⟨h1,by simp,fun a ha b hb=>?_⟩
  simp only [List.mem_singleton] at hb
  subst hb
  intro e
  subst e
  rw [List.contains_iff_mem.2 ha] at h2
  cases h2
theorem nodup_of_take {l:List UInt64} (k:Nat) (h:l.Nodup):(l.take k).Nodup:=h.sublist (List.take_sublist _ _)
theorem not_nodup {l:List UInt64} {k:Nat} (h:k < l.length) (h1:(l.take k).contains l[k]=true):¬ l.Nodup:=fun hn=>by
 have:=(nodup_snoc h).1 (nodup_of_take (k+1) hn)
 rw [h1] at this
 cases this.2
def encI (l:List UInt64):List UInt8:=l.flatMap fun x=>be 8 x.toNat
theorem encI_length:∀ l,(encI l).length=8 * l.length
 | []=>rfl
 | x :: r=>by
  have:=encI_length r
  unfold encI at *
  simp [be_length,this]
  omega
theorem encI_take {l:List UInt64} {k:Nat} (h:k < l.length):encI (l.take (k+1))=encI (l.take k) ++ be 8 l[k].toNat:=by
 unfold encI
 rw [List.take_succ_eq_append_getElem h,List.flatMap_append]
 simp
def encM (m:MsgD):List UInt8:=
 if m.kind=3 then UInt8.ofNat m.kind.toNat :: m.body.data.toList else UInt8.ofNat m.kind.toNat :: UInt8.ofNat m.ids.length :: encI m.ids
theorem encM_bring {m:MsgD} (h:m.kind=3):encM m=[UInt8.ofNat m.kind.toNat] ++ m.body.data.toList:=by unfold encM;rw [if_pos h];rfl
theorem encM_ids {m:MsgD} (h:m.kind≠3):encM m=[UInt8.ofNat m.kind.toNat] ++ [UInt8.ofNat m.ids.length] ++ encI m.ids:=by unfold encM;rw [if_neg h];rfl
end Go.Proofs.YtlboemhbealnmaaGreat.Ms
namespace Go.Proofs.YtlboemhbealnmaaGreat.Ms
def kindOf (l:List UInt8):Int:=((l.getD 0 0).toNat:Int)
def formM (l:List UInt8):Int:=
 if l.length=0 then 3 else if within (kindOf l) 1 4=false then 1 else if kindOf l=3 then 0 else if l.length < 2 then 3
 else if l.length < 2+8 * (l.getD 1 0).toNat then 3 else if 2+8 * (l.getD 1 0).toNat < l.length then 4 else 0
def idsOf (n:Nat) (r:List UInt8):List UInt64:=(List.range n).map fun i=>numU ((r.drop (8 * i)).take 8)
def readM (l:List UInt8):MsgD:=if kindOf l=3 then ⟨3,[],⟨(l.drop 1).toArray⟩⟩ else ⟨kindOf l,idsOf (l.getD 1 0).toNat (l.drop 2),⟨#[]⟩⟩
def errM (l:List UInt8):Int:=if formM l≠0 then formM l else checkM (readM l)
def ansM (l:List UInt8):MsgD:=if errM l=0 then readM l else zeroM
theorem idsOf_length (n:Nat) (r:List UInt8):(idsOf n r).length=n:=by simp [idsOf]
theorem idsOf_at (n:Nat) (r:List UInt8) (k:Nat) (h:k < (idsOf n r).length):(idsOf n r)[k]=numU ((r.drop (8 * k)).take 8):=by simp [idsOf]
theorem errM_zero {l:List UInt8} (h:errM l=0):formM l=0∧checkM (readM l)=0:=by
 unfold errM at h
 split at h
 ·rename_i hh;exact absurd h hh
 ·rename_i hh;exact ⟨by simpa using hh,h⟩
theorem formM_zero {l:List UInt8} (h:formM l=0):l.length≠0∧within (kindOf l) 1 4=true∧(kindOf l≠3→l.length=2+8 * (l.getD 1 0).toNat):=by
 unfold formM at h
 split at h
 ·cases h
 ·rename_i h0
  split at h
  ·cases h
  ·rename_i h1
   refine ⟨h0,by simpa using h1,fun h3=>?_⟩
   rw [if_neg h3] at h
   split at h
   ·cases h
   ·split at h
    ·cases h
    ·split at h
     ·cases h
     ·omega
end Go.Proofs.YtlboemhbealnmaaGreat.Ms
namespace Go.Proofs.YtlboemhbealnmaaGreat.Ms
open Go.RowKit Go.Maps
theorem eqID_any (l m:List UInt64) (a b:Option Addr) (ca cb:Nat) (w:World) (hl:l.length≤maxLen) (ha:IdsAt w a l) (hb:IdsAt w b m) :
  Calls Tryz.prog 11 #[.slice a l.length ca,.slice b m.length cb] w fun e w'=>e=.returned (.bool (l == m))∧w=w':=by
 unfold maxLen at hl
 by_cases hlen:l.length=m.length
 ·have hln:((l.length:Int) != (m.length:Int))=false:=by simp [hlen]
  have HL:=Lib.hid hlen
  clear hlen
  go_enter Tryz.func11,Tryz.ntmps11
  go_wp2
  go_loop [14] (fun i=>∃ k:Nat,k≤l.length∧i=.int .i64 k∧Hid (l.take k=m.take k)) (fun i=>l.length - (intOf i).toNat)
  case atStart=>exact ⟨0,Nat.zero_le _,rfl,Lib.hid (by simp)⟩
  case round=>
   obtain ⟨k,hk,rfl,NO⟩:=hrel
   by_cases hlt:k < l.length
   ·have hlm:k < m.length:=by have:=HL.out;omega
    obtain ⟨b1,o1,rfl,hb1,hd0⟩:=ha k hlt
    obtain ⟨b2,o2,rfl,hb2,hf0⟩:=hb k hlm
    by_cases hx:l[k]=m[k]
    ·have hxb:((l[k].toNat:Int) != (m[k].toNat:Int))=false:=by rw [bne,u64_beq,beq_iff_eq.2 hx];rfl
     have HX:=Lib.hid hx
     clear hx
     go_wp2
     go_round
     case rel=>exact ⟨k+1,by omega,by go_num,Lib.hid (take_eq_step hlt hlm NO.out HX.out)⟩
     case measure=>simp [intOf];omega
    ·have hxb:((l[k].toNat:Int) != (m[k].toNat:Int))=true:=by rw [bne,u64_beq,beq_eq_false_iff_ne.2 hx];rfl
     have HX:=Lib.hid hx
     clear hx
     go_wp2
     go_ret
     exact ⟨ret_bool (beq_eq_false_iff_ne.2 (ne_of_at hlt hlm HX.out)).symm,rfl⟩
   ·go_wp2
    go_ret
    refine ⟨ret_bool ?_,rfl⟩
    have h1:=NO.out
    rw [List.take_of_length_le (by omega),List.take_of_length_le (by have:=HL.out;omega)] at h1
    exact (beq_iff_eq.2 h1).symm
 ·have hln:((l.length:Int) != (m.length:Int))=true:=by simp;omega
  have HL:=Lib.hid hlen
  clear hlen
  go_enter Tryz.func11,Tryz.ntmps11
  go_wp2
  go_ret
  exact ⟨ret_bool (beq_eq_false_iff_ne.2 fun h=>HL.out (by rw [h])).symm,rfl⟩
theorem known_yes (k:Int) (w:World) (h:within k 1 4=true):Calls Tryz.prog 145 #[.int .i64 k] w fun e w'=>e=.returned (.bool true)∧w=w':=by
 rcases within_known h with rfl | rfl | rfl | rfl <;>
 ·clear h
  go_enter Tryz.func145,Tryz.ntmps145
  go_wp2
  go_ret
  exact ⟨rfl,rfl⟩
theorem known_no (k:Int) (w:World) (h:within k 1 4=false):Calls Tryz.prog 145 #[.int .i64 k] w fun e w'=>e=.returned (.bool false)∧w=w':=by
 have h':=of_decide_eq_false (p:=1≤k∧k≤4) h
 have h1:(k == 1)=false:=beq_eq_false_iff_ne.2 (by omega)
 have h2:(k == 2)=false:=beq_eq_false_iff_ne.2 (by omega)
 have h3:(k == 3)=false:=beq_eq_false_iff_ne.2 (by omega)
 have h4:(k == 4)=false:=beq_eq_false_iff_ne.2 (by omega)
 clear h h'
 go_enter Tryz.func145,Tryz.ntmps145
 go_wp2
 go_ret
 exact ⟨rfl,rfl⟩
def CountIs (w:World) (b k:Nat) (l:List UInt64) (c:Nat):Prop:=
 ∃ D:DataW Unit,w.ownsMap Tryz.prog 22 (plainElem Tryz.prog 4) b k D∧IsMap D∧(∀ x:UInt64,Maps.has D (.int .u64 x.toNat)=(l.take k).contains x)∧Maps.size D=c∧c≤k∧(c=k ↔ (l.take k).Nodup)
theorem u64_keyed:Maps.Keyed Tryz.prog 22:=int_keyed Tryz.underlying22
theorem u64_key (x:UInt64):keyOf Tryz.prog 22 (.int .u64 x.toNat)=some (.int .u64 x.toNat):=keyOf_int_mk Tryz.underlying22 (wf_u64_of x)
theorem count_new (w:World) (l:List UInt64):CountIs (w.alloc (.map #[] 0)) w.heap.size 0 l 0:=
 ⟨.map [],World.ownsMap_made w _ _ _,isMap_empty,fun _=>rfl,rfl,Nat.le_refl _,by simp⟩
theorem count_put {w:World} {b k c:Nat} {l:List UInt64} (h:CountIs w b k l c) (hk:k < l.length) (hn:k < maxLen) :
  ∃ w' c',(Instr.mapUpdate 144 (.map (some b)) (.int .u64 l[k].toNat) (.bool true)).run Tryz.prog w=.ok () w'∧CountIs w' b (k+1) l c'∧w.grownBy w' (some b):=by
 obtain ⟨D,hD,hm,hat,hs,hc1,hc2⟩:=h
 obtain ⟨w',hrun,hown,hg⟩:=hD.update u64_keyed Tryz.underlying144 hn (u64_key l[k]) (plainElem_bool Tryz.underlying4 true)
 have hsz:=size_put (hD.tidy u64_keyed) (k:=.int .u64 l[k].toNat) (.lit (.bool true))
 rw [hat,hs] at hsz
 refine ⟨w',_,hrun,⟨_,hown,hm.put _ _,fun y=>?_,hsz,?_,?_⟩,hg⟩
 ·rw [List.take_succ_eq_append_getElem hk]
  by_cases hyx:y=l[k]
  ·subst hyx
   rw [has_put_same hm (u64_keyed.key (u64_key _))]
   exact (List.contains_iff_mem.2 (List.mem_append.2 (.inr (List.mem_singleton.2 rfl)))).symm
  ·rw [has_put_other (fun ee=>hyx (by simp only [Lit.int.injEq,true_and] at ee;exact u64_inj ee)),hat y]
   rw [Bool.eq_iff_iff,List.contains_iff_mem,List.contains_iff_mem,List.mem_append,List.mem_singleton]
   exact ⟨.inl,fun h=>h.elim id (fun e=>absurd e hyx)⟩
 ·split <;> omega
 ·rw [nodup_snoc hk]
  by_cases hx:(l.take k).contains l[k]=true
  ·rw [if_pos hx,hx]
   constructor
   ·intro e;omega
   ·rintro ⟨_,e⟩;cases e
  ·rw [if_neg hx,← hc2]
   rw [Bool.not_eq_true] at hx
   rw [hx]
   constructor
   ·intro e;exact ⟨by omega,rfl⟩
   ·rintro ⟨e,_⟩;omega
theorem count_len {w:World} {b k c:Nat} {l:List UInt64} (h:CountIs w b k l c) (ty:TypeId):(Builtin.len_ #[144] ty #[.map (some b)]).run Tryz.prog w=.ok (.int .i64 c) w:=by
 obtain ⟨D,hD,_,_,hs,_⟩:=h
 rw [← hs]
 exact hD.len Tryz.underlying144 ty
theorem repeatsID_any (l:List UInt64) (a:Option Addr) (cap:Nat) (w:World) (hl:l.length≤20) (hi:IdsAt w a l) :
  Calls Tryz.prog 147 #[.slice a l.length cap] w fun e w'=>e=.returned (.bool (decide (¬ l.Nodup)))∧Below w.heap.size w w':=by
 have hmm:=@run_makeMap Tryz.prog
 go_enter Tryz.func147,Tryz.ntmps147
 go_wp2
 go_loopw [9] (fun i wr=>∃ k c:Nat,k≤l.length∧i=.int .i64 k∧Hid (CountIs wr w.heap.size k l c)∧Below w.heap.size w wr) (fun i _=>l.length - (intOf i).toNat)
 case atStart=>exact ⟨0,0,Nat.zero_le _,rfl,Lib.hid (count_new w l),kept_new w _⟩
 case round=>
  obtain ⟨k,c,hk,rfl,SE,hbel⟩:=hrel
  by_cases hlt:k < l.length
  ·obtain ⟨b,o,rfl,hb,hd⟩:=idsAt_kept hbel hi k hlt
   obtain ⟨w1,c1,hput,S1,hg⟩:=count_put SE.out hlt (by unfold maxLen;omega)
   have HS:=Lib.hid S1
   clear S1
   go_wp2
   go_roundw
   case rel=>exact ⟨k+1,c1,by omega,by go_num,HS,hbel.grown hg hbel.size (fun j hj=>by cases hj;exact Nat.le_refl _)⟩
   case measure=>simp [intOf];omega
  ·have hlen:=fun ty=>count_len SE.out ty
   obtain ⟨D,_,_,_,_,hc1,hc2⟩:=SE.out
   have he:l.take k=l:=List.take_of_length_le (by omega)
   rw [he] at hc2
   have HC:Hid (decide (c < l.length)=decide (¬ l.Nodup)):=Lib.hid (by
    rw [decide_eq_decide,← hc2]
    omega)
   clear hc1 hc2 he
   go_wp2
   go_ret
   exact ⟨ret_bool HC.out,hbel⟩
theorem repeatsID_is (l:List UInt64) (a:Option Addr) (cap:Nat) (w:World) (r:Bool) (hl:l.length≤20) (hi:IdsAt w a l) (h:decide (¬ l.Nodup)=r) :
  Calls Tryz.prog 147 #[.slice a l.length cap] w fun e w'=>e=.returned (.bool r)∧Below w.heap.size w w':=h▸repeatsID_any l a cap w hl hi
theorem bytes_built (e:TypeId) (w:World) (cs:Array Value) (l:List UInt8) (n:Nat) (hcs:cs=(l.map byteV).toArray) (hn:n=l.length) (hl:n≤1000000):BytesAt e (w.alloc (.cells cs e)) w.heap.size (.slice (some ⟨w.heap.size,0,none⟩) n n) l:=by
 subst hcs hn
 exact ⟨by simp,.inr ⟨w.heap.size,l.length,_,rfl,Nat.le_refl _,heap_alloc_new w _,Nat.le_refl _,by unfold maxLen;omega,by simp,by simpa using List.take_of_length_le (by simp)⟩⟩
end Go.Proofs.YtlboemhbealnmaaGreat.Ms
namespace Go.Proofs.YtlboemhbealnmaaGreat.Ms
open Go.RowKit
abbrev msgBox (a:Option Addr) (cap:Nat) (m:MsgD):Obj:=.cells #[.int .i64 m.kind,.slice a m.ids.length cap,.string m.body] 113
theorem box_three {w wr:World} {u v x:Value} {t:TypeId} (h:Below (w.alloc (.cells #[u,v,x] t)).heap.size (w.alloc (.cells #[u,v,x] t)) wr) :
  wr.cell? ⟨w.heap.size,0,none⟩=some u∧wr.cell? ⟨w.heap.size,1,none⟩=some v∧wr.cell? ⟨w.heap.size,2,none⟩=some x∧w.heap.size < wr.heap.size:=
 ⟨kept_cell h (by simp [go_sem]),kept_cell h (by simp [go_sem]),kept_cell h (by simp [go_sem]),by have:=h.size;simp at this;omega⟩
theorem mcheck_kind (k:Int) (n:Nat) (s:ByteArray) (a:Option Addr) (cap:Nat) (w:World) (h:within k 1 4=false) :
  Calls Tryz.prog 88 #[.agg #[.int .i64 k,.slice a n cap,.string s]] w fun e w'=>e=.returned (.int .i64 1)∧Below w.heap.size w w':=by
 have HW:=Lib.hid h
 clear h
 go_enter Tryz.func88,Tryz.ntmps88
 go_wp2_with fail
 with_reducible refine (known_no _ _ HW.out).mono ?_
 rintro e w' ⟨rfl,rfl⟩
 go_wp2_with fail
 go_ret
 exact ⟨rfl,kept_new _ _⟩
theorem mcheck_ids (n:Nat) (s:ByteArray) (a:Option Addr) (cap:Nat) (w:World) (hn:0 < n) :
  Calls Tryz.prog 88 #[.agg #[.int .i64 3,.slice a n cap,.string s]] w fun e w'=>e=.returned (.int .i64 4)∧Below w.heap.size w w':=by
 go_enter Tryz.func88,Tryz.ntmps88
 go_wp2_with fail
 with_reducible refine (known_yes _ _ (by decide)).mono ?_
 rintro e w' ⟨rfl,rfl⟩
 go_wp2_with fail
 go_ret
 exact ⟨rfl,kept_new _ _⟩
theorem mcheck_body (k:Int) (n:Nat) (s:ByteArray) (a:Option Addr) (cap:Nat) (w:World) (h:within k 1 4=true) (hk:k≠3) (hs:s.size≠0) :
  Calls Tryz.prog 88 #[.agg #[.int .i64 k,.slice a n cap,.string s]] w fun e w'=>e=.returned (.int .i64 4)∧Below w.heap.size w w':=by
 have HW:=Lib.hid h
 clear h
 have hk3:(k == 3)=false:=beq_eq_false_iff_ne.2 hk
 have he:=empty_no hs
 go_enter Tryz.func88,Tryz.ntmps88
 go_wp2_with fail
 with_reducible refine (known_yes _ _ HW.out).mono ?_
 rintro e w' ⟨rfl,rfl⟩
 go_wp2_with fail
 go_ret
 exact ⟨rfl,kept_new _ _⟩
theorem mcheck_bring_large (s:ByteArray) (a:Option Addr) (cap:Nat) (w:World) (hs:100 < s.size) :
  Calls Tryz.prog 88 #[.agg #[.int .i64 3,.slice a 0 cap,.string s]] w fun e w'=>e=.returned (.int .i64 2)∧Below w.heap.size w w':=by
 go_enter Tryz.func88,Tryz.ntmps88
 go_wp2_with fail
 with_reducible refine (known_yes _ _ (by decide)).mono ?_
 rintro e w' ⟨rfl,rfl⟩
 go_wp2_with fail
 go_ret
 exact ⟨rfl,kept_new _ _⟩
theorem mcheck_bring_none (s:ByteArray) (a:Option Addr) (cap:Nat) (w:World) (hs:s.size=0) :
  Calls Tryz.prog 88 #[.agg #[.int .i64 3,.slice a 0 cap,.string s]] w fun e w'=>e=.returned (.int .i64 4)∧Below w.heap.size w w':=by
 have he:=empty_yes hs
 go_enter Tryz.func88,Tryz.ntmps88
 go_wp2_with fail
 with_reducible refine (known_yes _ _ (by decide)).mono ?_
 rintro e w' ⟨rfl,rfl⟩
 go_wp2_with fail
 go_ret
 exact ⟨rfl,kept_new _ _⟩
theorem repeatsID_none (a:Option Addr) (cap:Nat) (w:World):Calls Tryz.prog 147 #[.slice a 0 cap] w fun e w'=>e=.returned (.bool false)∧Below w.heap.size w w':=
 repeatsID_is [] a cap w false (by simp) (idsAt_nil _ _) (by simp)
theorem mcheck_bring_ok (s:ByteArray) (a:Option Addr) (cap:Nat) (w:World) (hs0:s.size≠0) (hs:s.size≤100) :
  Calls Tryz.prog 88 #[.agg #[.int .i64 3,.slice a 0 cap,.string s]] w fun e w'=>e=.returned (.int .i64 0)∧Below w.heap.size w w':=by
 have he:=empty_no hs0
 go_enter Tryz.func88,Tryz.ntmps88
 go_wp2_with fail
 with_reducible refine (known_yes _ _ (by decide)).mono ?_
 rintro e w' ⟨rfl,rfl⟩
 go_wp2_with fail
 with_reducible refine (repeatsID_none _ _ _).mono ?_
 rintro e w1 ⟨rfl,hb1⟩
 go_wp2_with fail
 go_ret
 exact ⟨rfl,kept_trans (kept_new _ _) hb1⟩
theorem mcheck_large (k:Int) (n:Nat) (s:ByteArray) (a:Option Addr) (cap:Nat) (w:World) (h:within k 1 4=true) (hk:k≠3) (hs:s.size=0) (hn:20 < n) :
  Calls Tryz.prog 88 #[.agg #[.int .i64 k,.slice a n cap,.string s]] w fun e w'=>e=.returned (.int .i64 2)∧Below w.heap.size w w':=by
 have HW:=Lib.hid h
 clear h
 have hk3:(k == 3)=false:=beq_eq_false_iff_ne.2 hk
 have he:=empty_yes hs
 go_enter Tryz.func88,Tryz.ntmps88
 go_wp2_with fail
 with_reducible refine (known_yes _ _ HW.out).mono ?_
 rintro e w' ⟨rfl,rfl⟩
 go_wp2_with fail
 go_ret
 exact ⟨rfl,kept_new _ _⟩
theorem mcheck_none (k:Int) (s:ByteArray) (a:Option Addr) (cap:Nat) (w:World) (h:within k 1 4=true) (hk:k≠3) (hs:s.size=0) :
  Calls Tryz.prog 88 #[.agg #[.int .i64 k,.slice a 0 cap,.string s]] w fun e w'=>e=.returned (.int .i64 4)∧Below w.heap.size w w':=by
 have HW:=Lib.hid h
 clear h
 have hk3:(k == 3)=false:=beq_eq_false_iff_ne.2 hk
 have he:=empty_yes hs
 go_enter Tryz.func88,Tryz.ntmps88
 go_wp2_with fail
 with_reducible refine (known_yes _ _ HW.out).mono ?_
 rintro e w' ⟨rfl,rfl⟩
 go_wp2_with fail
 go_ret
 exact ⟨rfl,kept_new _ _⟩
theorem mcheck_ids_rest (k:Int) (l:List UInt64) (s:ByteArray) (a:Option Addr) (cap:Nat) (w:World) (h:within k 1 4=true) (hk:k≠3) (hs:s.size=0) (h0:l.length≠0) (hl:l.length≤20) (hi:IdsAt w a l) :
  Calls Tryz.prog 88 #[.agg #[.int .i64 k,.slice a l.length cap,.string s]] w fun e w'=>e=.returned (.int .i64 (if l.Nodup then 0 else 6))∧Below w.heap.size w w':=by
 have HW:=Lib.hid h
 clear h
 have hk3:(k == 3)=false:=beq_eq_false_iff_ne.2 hk
 have he:=empty_yes hs
 have hl0:((l.length:Int) == 0)=false:=beq_eq_false_iff_ne.2 (by omega)
 have hi0:=idsAt_kept (kept_new w (.cells #[.int .i64 k,.slice a l.length cap,.string s] 113)) hi
 by_cases hd:l.Nodup
 ·have HD:Hid (decide (¬ l.Nodup)=false):=Lib.hid (by simpa using hd)
  rw [if_pos hd]
  clear hd
  go_enter Tryz.func88,Tryz.ntmps88
  go_wp2_with fail
  with_reducible refine (known_yes _ _ HW.out).mono ?_
  rintro e w' ⟨rfl,rfl⟩
  go_wp2_with fail
  with_reducible refine (repeatsID_is l _ _ _ false hl hi0 HD.out).mono ?_
  rintro e w1 ⟨rfl,hb1⟩
  go_wp2_with fail
  go_ret
  exact ⟨rfl,kept_trans (kept_new _ _) hb1⟩
 ·have HD:Hid (decide (¬ l.Nodup)=true):=Lib.hid (by simpa using hd)
  rw [if_neg hd]
  clear hd
  go_enter Tryz.func88,Tryz.ntmps88
  go_wp2_with fail
  with_reducible refine (known_yes _ _ HW.out).mono ?_
  rintro e w' ⟨rfl,rfl⟩
  go_wp2_with fail
  with_reducible refine (repeatsID_is l _ _ _ true hl hi0 HD.out).mono ?_
  rintro e w1 ⟨rfl,hb1⟩
  go_wp2_with fail
  go_ret
  exact ⟨rfl,kept_trans (kept_new _ _) hb1⟩
theorem mcheck_is (m:MsgD) (a:Option Addr) (cap:Nat) (w:World) (r:Int) (hi:IdsAt w a m.ids) (h:checkM m=r) :
  Calls Tryz.prog 88 #[.agg #[.int .i64 m.kind,.slice a m.ids.length cap,.string m.body]] w fun e w'=>e=.returned (.int .i64 r)∧Below w.heap.size w w':=by
 subst h
 obtain ⟨k,l,s⟩:=m
 by_cases hw:within k 1 4=true
 ·by_cases hk:k=3
  ·subst hk
   by_cases hl:0 < l.length
   ·rw [checkM_form hw (.inl ⟨rfl,hl⟩)]
    exact mcheck_ids l.length s a cap w hl
   ·obtain rfl:l=[]:=List.eq_nil_of_length_eq_zero (by omega)
    have h1:¬ (((3:Int)=3∧0 < ([]:List UInt64).length)∨((3:Int)≠3∧0 < s.size)):=by simp
    by_cases hs:100 < s.size
    ·rw [checkM_large hw h1 (.inr hs)]
     exact mcheck_bring_large s a cap w hs
    ·have h2:¬ (20 < ([]:List UInt64).length∨100 < s.size):=by simp;omega
     by_cases hs0:s.size=0
     ·rw [checkM_none hw h1 h2 ⟨rfl,hs0⟩]
      exact mcheck_bring_none s a cap w hs0
     ·rw [checkM_rest hw h1 h2 (fun h=>hs0 h.2),if_pos (by simp)]
      exact mcheck_bring_ok s a cap w hs0 (by omega)
  ·by_cases hs:0 < s.size
   ·rw [checkM_form hw (.inr ⟨hk,hs⟩)]
    exact mcheck_body k l.length s a cap w hw hk (by omega)
   ·have hs0:s.size=0:=by omega
    have h1:¬ ((k=3∧0 < l.length)∨(k≠3∧0 < s.size)):=by omega
    by_cases hl:20 < l.length
    ·rw [checkM_large hw h1 (.inl hl)]
     exact mcheck_large k l.length s a cap w hw hk hs0 hl
    ·have h2:¬ (20 < l.length∨100 < s.size):=by omega
     by_cases hl0:l.length=0
     ·rw [checkM_none hw h1 h2 ⟨hl0,hs0⟩]
      obtain rfl:l=[]:=List.eq_nil_of_length_eq_zero hl0
      exact mcheck_none k s a cap w hw hk hs0
     ·rw [checkM_rest hw h1 h2 (fun h=>hl0 h.1)]
      exact mcheck_ids_rest k l s a cap w hw hk hs0 hl0 (by omega) hi
 ·rw [checkM_kind (by simpa using hw)]
  exact mcheck_kind k l.length s a cap w (by simpa using hw)
end Go.Proofs.YtlboemhbealnmaaGreat.Ms
namespace Go.Proofs.YtlboemhbealnmaaGreat.Ms
open Go.RowKit
theorem mencode_err (m:MsgD) (a:Option Addr) (cap:Nat) (w:World) (r:Int) (hi:IdsAt w a m.ids) (h:checkM m=r) (hr:r≠0) :
  Calls Tryz.prog 106 #[.agg #[.int .i64 m.kind,.slice a m.ids.length cap,.string m.body]] w fun e w'=>e=.returned (.tuple #[.string ⟨#[]⟩,.int .i64 r])∧Below w.heap.size w w':=by
 have HR:=Lib.hid h
 clear h
 have hrb:(r != 0)=true:=by simpa using hr
 have hk:=kept_new w (msgBox a cap m)
 have hi0:=idsAt_kept hk hi
 go_enter Tryz.func106,Tryz.ntmps106
 go_wp2_with fail
 with_reducible refine (mcheck_is m _ _ _ r hi0 HR.out).mono ?_
 rintro e w1 ⟨rfl,hb1⟩
 go_wp2_with fail
 go_ret2
 exact ⟨rfl,kept_trans hk hb1⟩
theorem one_cell (n:Int) (h0:0≤n) (h:n≤255):#[Value.int .u8 n]=([UInt8.ofNat n.toNat].map byteV).toArray:=by
 rw [← one_byte n h0 h]
theorem mencode_bring (m:MsgD) (a:Option Addr) (cap:Nat) (w:World) (E:ByteArray) (hi:IdsAt w a m.ids) (h:checkM m=0) (h3:m.kind=3) (hE:str (encM m)=E) :
  Calls Tryz.prog 106 #[.agg #[.int .i64 m.kind,.slice a m.ids.length cap,.string m.body]] w fun e w'=>e=.returned (.tuple #[.string E,.int .i64 0])∧Below w.heap.size w w':=by
 obtain ⟨i0,hi0,hz0,hz1,hz2⟩:=info_parts info_u8
 have hs:m.body.size≤100:=by
  rcases (checkM_ok h).2 with ⟨_,_,_,h4⟩ | ⟨h4,_⟩
  ·exact h4
  ·exact absurd h3 h4
 have hEl:E.data.toList=[UInt8.ofNat m.kind.toNat] ++ m.body.data.toList:=by rw [← hE,str_list,encM_bring h3]
 have HR:=Lib.hid h
 have HE:=Lib.hid hEl
 have h3b:(m.kind == 3)=true:=beq_iff_eq.2 h3
 have hk0:0≤m.kind:=by omega
 have hk4:m.kind≤4:=by omega
 have hk:=kept_new w (msgBox a cap m)
 have hia:=idsAt_kept hk hi
 clear h hE hEl h3 hi
 go_enter Tryz.func106,Tryz.ntmps106
 go_wp2_with fail
 with_reducible refine (mcheck_is m _ _ _ 0 hia HR.out).mono ?_
 rintro e w1 ⟨rfl,hb1⟩
 obtain ⟨c0,c1,c2,hws⟩:=box_three hb1
 have hk1:=kept_trans hk hb1
 have hown0:=bytes_built 5 w1 #[.int .u8 m.kind] _ 1 (one_cell m.kind hk0 (by omega)) rfl (by omega)
 have hB0:w1.heap.size≤(w1.alloc (.cells #[.int .u8 m.kind] 5)).heap.size:=by simp
 clear hk hb1 hia
 go_wp2_with (at_builtin;refine Hid.out ?_)
 refine Lib.hid ?_
 refine wpList_append_str Tryz.underlying189 Tryz.underlying9 hi0 hz0 hz1 hz2 rfl _ _ rfl (B:=w1.heap.size) (l:=[UInt8.ofNat m.kind.toNat]) (s:=m.body) rfl rfl hown0 (by simp;omega) hB0 ?_
 intro v3 w3 hb3
 have hconv:(convert 189 9 v3).run Tryz.prog w3=.ok (.string E) w3:=by
  have:=conv_bytes 189 9 Tryz.underlying189 Tryz.underlying5 Tryz.underlying9 hb3.own (by simp)
  rw [← HE.out] at this
  exact this
 have hend:=kept_trans hk1 ((kept_new w1 (.cells #[.int .u8 m.kind] 5)).trans (buf_below hown0 hB0 hb3))
 clear hb3 hown0
 go_wp2_with fail
 go_ret2
 exact ⟨rfl,hend⟩
set_option maxHeartbeats 1000000 in
theorem mencode_ids (m:MsgD) (a:Option Addr) (cap:Nat) (w:World) (E:ByteArray) (hi:IdsAt w a m.ids) (h:checkM m=0) (h3:m.kind≠3) (hE:str (encM m)=E) :
  Calls Tryz.prog 106 #[.agg #[.int .i64 m.kind,.slice a m.ids.length cap,.string m.body]] w fun e w'=>e=.returned (.tuple #[.string E,.int .i64 0])∧Below w.heap.size w w':=by
 obtain ⟨i0,hi0,hz0,hz1,hz2⟩:=info_parts info_u8
 obtain ⟨hwk,hl0,hl20⟩:within m.kind 1 4=true∧0 < m.ids.length∧m.ids.length≤20:=by
  rcases (checkM_ok h) with ⟨hw,⟨h4,_⟩ | ⟨_,_,h5,h6,_⟩⟩
  ·exact absurd h4 h3
  ·exact ⟨hw,h5,h6⟩
 have hEl:E.data.toList=[UInt8.ofNat m.kind.toNat] ++ [UInt8.ofNat m.ids.length] ++ encI m.ids:=by rw [← hE,str_list,encM_ids h3]
 have HR:=Lib.hid h
 have HE:=Lib.hid hEl
 have h3b:(m.kind == 3)=false:=beq_eq_false_iff_ne.2 h3
 have hkb:=within_known hwk
 have hk0:0≤m.kind:=by omega
 have hk4:m.kind≤4:=by omega
 have hk:=kept_new w (msgBox a cap m)
 have hia:=idsAt_kept hk hi
 clear h hE hEl h3 hi hkb hwk
 go_enter Tryz.func106,Tryz.ntmps106
 go_wp2_with fail
 with_reducible refine (mcheck_is m _ _ _ 0 hia HR.out).mono ?_
 rintro e w1 ⟨rfl,hb1⟩
 obtain ⟨c0,c1,c2,hws⟩:=box_three hb1
 have hk1:=kept_trans hk hb1
 have hi1:=idsAt_kept hb1 hia
 have hown0:=bytes_built 5 w1 #[.int .u8 m.kind] _ 1 (one_cell m.kind hk0 (by omega)) rfl (by omega)
 have hB0:w1.heap.size≤(w1.alloc (.cells #[.int .u8 m.kind] 5)).heap.size:=by simp
 clear hk hb1 hia
 have hone:=one_byte (m.ids.length:Int) (by omega) (by omega)
 rw [Int.toNat_natCast] at hone
 have HONE:=Lib.hid hone
 clear hone
 go_wp2_with (at_builtin;refine Hid.out ?_)
 refine Lib.hid ?_
 refine wpList_append_bytes Tryz.underlying189 hi0 hz0 hz1 hz2 rfl _ _ rfl (B:=w1.heap.size) (l:=[UInt8.ofNat m.kind.toNat]) (news:=[UInt8.ofNat m.ids.length]) rfl (Eq.trans (b:=.slice (some ⟨w1.heap.size+1,0,none⟩) 1 1) rfl (by simp)) HONE.out hown0 (by simp) hB0 ?_
 intro v3 w3 hb3
 have hbd3:=buf_below hown0 hB0 hb3
 have f1:=(hbd3.cell (p:=⟨w.heap.size,1,none⟩) hws).trans (kept_cell (kept_new _ _) c1)
 have hb13:=(kept_new w1 (.cells #[.int .u8 m.kind] 5)).trans hbd3
 have hi3:=idsAt_kept hb13 hi1
 have hs3:w1.heap.size≤w3.heap.size:=hb13.size
 have HV:=Lib.hid hb3
 clear hb3 hbd3 hown0 hB0 c0 c1 c2
 go_wp2_with fail
 go_loopw [5,36] (fun u i wr=>∃ k:Nat,k≤m.ids.length∧i=.int .i64 k∧Hid (Buf 5 w1.heap.size w3 v3 wr u ([UInt8.ofNat m.kind.toNat] ++ [UInt8.ofNat m.ids.length] ++ encI (m.ids.take k)))) (fun _ i _=>m.ids.length - (intOf i).toNat)
 case atStart=>exact ⟨0,Nat.zero_le _,rfl,Lib.hid (by simpa [encI] using buf_refl HV.out.own)⟩
 case round=>
  obtain ⟨k,hk,rfl,HB⟩:=hrel
  have hbr:=buf_below HV.out.own hs3 HB.out
  have hlen:([UInt8.ofNat m.kind.toNat] ++ [UInt8.ofNat m.ids.length] ++ encI (m.ids.take k)).length≤200:=by
   rw [List.length_append,encI_length,List.length_take];simp;omega
  have hsr:w1.heap.size≤wr.heap.size:=Nat.le_trans hs3 hbr.size
  by_cases hlt:k < m.ids.length
  ·obtain ⟨b,oo,rfl,hb,hd⟩:=idsAt_kept (hb13.trans hbr) hi1 k hlt
   obtain ⟨E8,hE8⟩:∃ E,str (be 8 m.ids[k].toNat)=E:=⟨_,rfl⟩
   have hE8l:E8.data.toList=be 8 m.ids[k].toNat:=by rw [← hE8,str_list]
   have hE8s:E8.size=8:=by rw [← hE8,str_size,be_length]
   have HE8:=Lib.hid hE8
   have HL8:=Lib.hid hE8l
   clear hE8 hE8l
   go_wp2_with fail
   with_reducible refine (encodeID_is _ E8 _ HE8.out).mono ?_
   rintro e w4 ⟨rfl,hb4⟩
   have hB4:=buf_later HB.out hb4
   have hs4:w1.heap.size≤w4.heap.size:=Nat.le_trans hsr hb4.size
   have hl4:([UInt8.ofNat m.kind.toNat] ++ [UInt8.ofNat m.ids.length] ++ encI (m.ids.take k)).length+E8.size≤1000000:=by omega
   go_wp2_with (at_builtin;refine wpList_append_str Tryz.underlying189 Tryz.underlying9 hi0 hz0 hz1 hz2 rfl _ _ rfl (B:=w1.heap.size) (l:=[UInt8.ofNat m.kind.toNat] ++ [UInt8.ofNat m.ids.length] ++ encI (m.ids.take k)) (s:=E8) rfl rfl hB4.own hl4 hs4 ?_;intro v5 w5 hb5)
   go_roundw
   case rel=>
    refine ⟨k+1,by omega,by go_num,Lib.hid ?_⟩
    have:=buf_trans hB4 hb5
    rw [encI_take hlt,← HL8.out]
    simpa using this
   case measure=>simp [intOf];omega
  ·have HB':=HB.out
   rw [List.take_of_length_le (by omega),← HE.out] at HB'
   have hconv:(convert 189 9 u5).run Tryz.prog wr=.ok (.string E) wr:=
    conv_bytes 189 9 Tryz.underlying189 Tryz.underlying5 Tryz.underlying9 HB'.own (by rw [HE.out];simp)
   have hend:=kept_trans hk1 (hb13.trans hbr)
   clear HB HB'
   go_wp2_with fail
   go_ret2
   exact ⟨rfl,hend⟩
end Go.Proofs.YtlboemhbealnmaaGreat.Ms
