import Derived.Maps.OwnSet
import Derived.Maps.Views
import Derived.Below
import Derived.StillTailTactics
import Derived.Laws.Bits64
import Derived.OwnWalk
import Derived.Maps.AppendAt
import Derived.Laws.IdiomStrings
import Derived.Lib.SmallJoins
import Derived.Lib.AppendStr
import Derived.Test.YtlboemhbealnmaaGreatChecked
import Derived.WalkKit
import Derived.Outline
import Derived.WalkLawsBesides
import Derived.WalkSpells
import Derived.Lib.Hide
import Derived.Lib.ConvBytes
import Derived.Lib.Strings
import Derived.DeepKeys4
import Derived.Maps.Keyed
import Derived.IntWalk
import Derived.Deep.Draws
set_option maxRecDepth 20000
namespace Go.Proofs.YtlboemhbealnmaaGreat
open Go.RowKit Go.Maps
theorem region_tail {P:Program} {id:Nat} {Q:Exit→Act→World→Prop} {a:Act} {w w2:World} {l:List Oper} (n:Nat) (hm:P.follows .mixedOrders=true) (hB:Region.lexTailB .any l.toArray n=true) (hw:w.drew=w2)
  (h:wpStill P l.toArray w2 (fun a'=>wpList P l.toArray Q (l.drop n) a' w2) (l.take n) a):(Code.region id l.toArray true).wp P Q a w:=by
 subst hw
 exact wp_region_still_tail n hm hB h
theorem keyOf_struct2 {P:Program} {k:TypeId} {f0 f1:Field} {q0 q1:IntKind} (hu:P.underlying k=some (.struct #[f0,f1])) (hkt:P.keyType k=true) (hC:P.cellsOf k=2) (hn:(#[f0,f1].all (·.name != "_"))=true)
  (o0:f0.offset=0) (o1:f1.offset=1) (h0:P.underlying f0.type=some (.int q0)) (h1:P.underlying f1.type=some (.int q1)) (c0:P.cellsOf f0.type=1) (c1:P.cellsOf f1.type=1) {m:Nat} (hsz:P.types.size=m+1)
  {a b:Int} (wa:(Lit.int q0 a).wf=true) (wb:(Lit.int q1 b).wf=true):keyOf P k (.agg #[.int q0 a,.int q1 b])=some (.string (keyBytes [.int q0 a,.int q1 b])):=by
 unfold keyOf
 simp only [hu]
 rw [if_pos (by simp [hkt,Value.formed,hu,hC]),hsz]
 unfold Program.keyLits
 simp only [hu,Value.cells]
 rw [if_pos ⟨by rw [hC];rfl,hn⟩,List.mapM_cons,List.mapM_cons,List.mapM_nil]
 simp [o0,o1,c0,c1,Program.keyLits,h0,h1,wa,wb]
section
variable {α:Type} [BEq α] {P:Program} {k e t:TypeId} {ok:α→Prop} {kl:α→Lit}
def SetIs (P:Program) (k e:TypeId) (ok:α→Prop) (kl:α→Lit) (w:World) (b n:Nat) (ks:List α):Prop:=
 ∃ D:DataW Unit,w.ownsMap P k (plainElem P e) b n D∧IsMap D∧∀ x,ok x→D.atKey (kl x) (.lit (.bool false))=.lit (.bool (ks.contains x))
theorem set_new (w:World):SetIs P k e ok kl (w.alloc (.map #[] 0)) w.heap.size 0 ([]:List α):=
 ⟨.map [],World.ownsMap_made w P k _,isMap_empty,fun _ _=>rfl⟩
theorem set_alloc {w:World} {b n:Nat} {ks:List α} (h:SetIs P k e ok kl w b n ks) (o:Obj):SetIs P k e ok kl (w.alloc o) b n ks:=by
 obtain ⟨D,hD,r⟩:=h
 exact ⟨D,hD.alloc o,r⟩
theorem set_look [LawfulBEq α] {w:World} {b n:Nat} {ks:List α} (h:SetIs P k e ok kl w b n ks) (K:Keyed P k) (ht:P.underlying t=some (.map k e)) (he:P.underlying e=some .bool) (hz:(zeroValue e).run P w=.ok (.bool false) w)
  {x:α} {v:Value} (hx:ok x) (hkey:keyOf P k v=some (kl x)):(Instr.lookup t (.map (some b)) v false).run P w=.ok (.bool (ks.contains x)) w:=by
 obtain ⟨D,hD,_,hat⟩:=h
 obtain ⟨u,ps,hrun,hu⟩:=hD.lookup K ht hz (plainElem_bool he false) hkey
 rw [hat x hx] at hu
 rw [hrun]
 unfold plainElem at hu
 rw [he] at hu
 cases u <;> simp at hu
 rw [hu.1]
 simp
theorem set_put [LawfulBEq α] {w:World} {b n:Nat} {ks:List α} (h:SetIs P k e ok kl w b n ks) (K:Keyed P k) (ht:P.underlying t=some (.map k e)) (he:P.underlying e=some .bool) (hn:n < maxLen)
  {x:α} {v:Value} (hx:ok x) (hkey:keyOf P k v=some (kl x)) (hinj:∀ y,ok y→kl y=kl x→y=x) :
  ∃ w',(Instr.mapUpdate t (.map (some b)) v (.bool true)).run P w=.ok () w'∧SetIs P k e ok kl w' b (n+1) (ks ++ [x])∧w.grownBy w' (some b):=by
 obtain ⟨D,hD,hm,hat⟩:=h
 obtain ⟨w',hrun,hown,hg⟩:=hD.update K ht hn hkey (plainElem_bool he true)
 refine ⟨w',hrun,⟨_,hown,hm.put _ _,fun y hy=>?_⟩,hg⟩
 by_cases hyx:y=x
 ·subst hyx
  rw [atKey_put_same hm (K.key hkey)]
  simp
 ·rw [atKey_put_other (fun ee=>hyx (hinj y hy ee)),hat y hy]
  simp [hyx]
end
end Go.Proofs.YtlboemhbealnmaaGreat
namespace Go.Proofs.YtlboemhbealnmaaGreat
abbrev InD:=UInt64 × Int
structure DeedD where
 ins:List InD
 outs:Int
 weight:Int
 fee:Int
def within (n lo hi:Int):Bool:=decide (lo≤n∧n≤hi)
def dupB (l:List InD):Bool:=decide (¬ l.Nodup)
def atsB (l:List InD):Bool:=l.all fun x=>within x.2 0 15
def restB (o w f:Int):Bool:=within o 1 16 && within w 1 1000 && within f 0 1000
def checkD (d:DeedD):Int:=
 if 8 < d.ins.length then 2 else if atsB d.ins=false then 1 else if dupB d.ins=true then 6 else if restB d.outs d.weight d.fee=false then 1 else 0
theorem atsB_take {l:List InD} {k:Nat} (h:k < l.length) (h0:atsB (l.take k)=true) (h1:within l[k].2 0 15=true):atsB (l.take (k+1))=true:=by
 unfold atsB at *
 rw [List.take_succ_eq_append_getElem h,List.all_append,h0]
 simpa using h1
theorem atsB_bad {l:List InD} {k:Nat} (h:k < l.length) (h1:within l[k].2 0 15=false):atsB l=false:=by
 unfold atsB
 rw [List.all_eq_false]
 exact ⟨l[k],List.getElem_mem h,by simp [h1]⟩
theorem dup_at {l:List InD} {k:Nat} (h:k < l.length) (h1:(l.take k).contains l[k]=true):dupB l=true:=by
 unfold dupB
 refine decide_eq_true fun hn=>?_
 have h2:=List.contains_iff_mem.1 h1
 obtain ⟨j,hj,e⟩:=List.getElem_of_mem h2
 rw [List.length_take] at hj
 rw [List.getElem_take] at e
 have:=(List.getElem_inj hn).1 e
 omega
theorem nodup_take {l:List InD} {k:Nat} (h:k < l.length) (h0:(l.take k).Nodup) (h1:(l.take k).contains l[k]=false):(l.take (k+1)).Nodup:=by
 rw [List.take_succ_eq_append_getElem h,List.nodup_append]
 refine ⟨h0,by simp,fun a ha b hb=>?_⟩
 simp only [List.mem_singleton] at hb
 subst hb
 intro e
 subst e
 rw [List.contains_iff_mem.2 ha] at h1
 cases h1
theorem dup_none {l:List InD} {k:Nat} (h:l.length≤k) (h0:(l.take k).Nodup):dupB l=false:=by
 rw [List.take_of_length_le h] at h0
 unfold dupB
 exact decide_eq_false (fun hn=>hn h0)
theorem take_snoc {α:Type} {l:List α} {k:Nat} (h:k < l.length):l.take k ++ [l[k]]=l.take (k+1):=(List.take_succ_eq_append_getElem h).symm
def be:Nat→Nat→List UInt8
 | 0,_=>[]
 | n+1,x=>be n (x / 256) ++ [UInt8.ofNat x]
theorem be_length:∀ n x,(be n x).length=n
 | 0,_=>rfl
 | n+1,x=>by simp [be,be_length n]
theorem be_step (n k x:Nat) (hk:k < n):be (n - (k+1)) (x / 256 ^ (k+1)) ++ [UInt8.ofNat (x / 256 ^ k)]=be (n - k) (x / 256 ^ k):=by
 obtain ⟨m,hm⟩:∃ m,n - k=m+1:=⟨n - k - 1,by omega⟩
 rw [hm,show n - (k+1)=m by omega,be,Nat.div_div_eq_div_mul,← Nat.pow_succ]
def inB (x:InD):List UInt8:=be 8 x.1.toNat ++ [UInt8.ofNat x.2.toNat]
def encL (l:List InD):List UInt8:=l.flatMap inB
def encB (d:DeedD):List UInt8:=[68,UInt8.ofNat d.ins.length] ++ encL d.ins ++ [UInt8.ofNat d.outs.toNat] ++ be 2 d.weight.toNat ++ be 2 d.fee.toNat
theorem encL_length:∀ l,(encL l).length=9 * l.length
 | []=>rfl
 | x :: r=>by
  have:=encL_length r
  unfold encL at *
  simp [inB,be_length,this]
  omega
theorem encB_length (d:DeedD):(encB d).length=7+9 * d.ins.length:=by
 simp [encB,encL_length,be_length]
 omega
theorem encL_take {l:List InD} {k:Nat} (h:k < l.length):encL (l.take (k+1))=encL (l.take k) ++ be 8 l[k].1.toNat ++ [UInt8.ofNat l[k].2.toNat]:=by
 unfold encL
 rw [List.take_succ_eq_append_getElem h,List.flatMap_append]
 simp [inB]
end Go.Proofs.YtlboemhbealnmaaGreat
namespace Go.Proofs.YtlboemhbealnmaaGreat
theorem u64_lt (a:UInt64):a.toNat < 18446744073709551616:=a.toNat_lt
theorem u64_bd (a:UInt64):(0:Int)≤(a.toNat:Int)∧(a.toNat:Int) < 18446744073709551616:=by
 have:=u64_lt a;omega
theorem u64_of (n:Int) (h0:0≤n) (h1:n < 18446744073709551616):∃ u:UInt64,n=(u.toNat:Int):=by
 refine ⟨UInt64.ofNat n.toNat,?_⟩
 rw [UInt64.toNat_ofNat_of_lt' (by show n.toNat < 18446744073709551616;omega)]
 omega
theorem u64_inj {a b:UInt64} (h:(a.toNat:Int)=(b.toNat:Int)):a=b:=UInt64.toNat_inj.1 (by omega)
theorem u64_beq (a b:UInt64):((a.toNat:Int) == (b.toNat:Int))=(a == b):=by
 rw [Bool.eq_iff_iff];simp only [beq_iff_eq];exact ⟨u64_inj,fun h=>by rw [h]⟩
theorem wrap_mul_u64 (a b:UInt64):IntKind.u64.wrap ((a.toNat:Int) * (b.toNat:Int))=((a * b).toNat:Int):=by
 rw [IntKind.wrap_u64,UInt64.toNat_mul,Int.natCast_emod,Int.natCast_mul];rfl
theorem wrap_add_u64 (a b:UInt64):IntKind.u64.wrap ((a.toNat:Int)+(b.toNat:Int))=((a+b).toNat:Int):=by
 rw [IntKind.wrap_u64,UInt64.toNat_add,Int.natCast_emod,Int.natCast_add];rfl
theorem wrap_self_u64 (a:UInt64):IntKind.u64.wrap (a.toNat:Int)=(a.toNat:Int):=by
 have:=u64_bd a;rw [IntKind.wrap_u64];omega
theorem xor_u64 (a b:UInt64):bits .xor .u64 (a.toNat:Int) (b.toNat:Int)=((a ^^^ b).toNat:Int):=by
 rw [bits_xor_u64_nat _ _ (u64_lt a) (u64_lt b),UInt64.toNat_xor]
theorem shr_u64 (a:UInt64) (n:Nat) (hn:n < 64):(a.toNat:Int) / 2 ^ n=((a >>> (UInt64.ofNat n)).toNat:Int):=by
 rw [UInt64.toNat_shiftRight,Nat.shiftRight_eq_div_pow]
 have e:(UInt64.ofNat n).toNat % 64=n:=by
  rw [UInt64.toNat_ofNat_of_lt' (by show n < 18446744073709551616;omega)];omega
 rw [e,Int.natCast_ediv,Int.natCast_pow];rfl
theorem tdiv_u64 (a:UInt64) (n:Nat) (hn:n < 64):(a.toNat:Int).tdiv (2 ^ n)=((a >>> (UInt64.ofNat n)).toNat:Int):=by
 rw [Int.tdiv_eq_ediv_of_nonneg (by omega),shr_u64 a n hn]
theorem wrap_byte_u64 (c:UInt8):IntKind.u64.wrap (c.toNat:Int)=((c.toUInt64).toNat:Int):=by
 have h:c.toUInt64.toNat=c.toNat:=UInt8.toNat_toUInt64 c
 have:=c.toNat_lt
 rw [IntKind.wrap_u64,h];omega
def ofStep (x:UInt64) (c:UInt8):UInt64:=(x ^^^ c.toUInt64) * 1099511628211
def ofU (l:List UInt8):UInt64:=l.foldl ofStep 14695981039346656037
def foldU (x:UInt64) (n:UInt64):UInt64:=x ^^^ (x >>> n)
def mixU (a b c:UInt64):UInt64:=foldU (foldU (foldU (a * 11400714819323198485+b) 30 * 13787848793156543929+c) 27 * 10723151780598845931) 31
theorem of_snoc (l:List UInt8) (c:UInt8):ofU (l ++ [c])=ofStep (ofU l) c:=by
 unfold ofU;rw [List.foldl_append];rfl
end Go.Proofs.YtlboemhbealnmaaGreat
namespace Go.Proofs.YtlboemhbealnmaaGreat
open Go.RowKit Go.Joins
def byteV (b:UInt8):Value:=.int .u8 b.toNat
def BytesAt (e:TypeId) (w:World) (B:Nat) (v:Value) (l:List UInt8):Prop:=w.ownsRow B e 1 v l.length (l.map byteV)
structure Buf (e:TypeId) (B:Nat) (w0:World) (v0:Value) (w:World) (v:Value) (l:List UInt8):Prop where
 own:BytesAt e w B v l
 grown:w0.grownBy w v0.ownBlock
 lies:v.ownBlock=v0.ownBlock∨∃ k,v.ownBlock=some k∧w0.heap.size≤k
theorem buf_refl {e:TypeId} {B:Nat} {w:World} {v:Value} {l:List UInt8} (h:BytesAt e w B v l):Buf e B w v w v l:=
 ⟨h,⟨rfl,rfl,rfl,Nat.le_refl _,fun _ _ _=>rfl⟩,.inl rfl⟩
theorem buf_trans {e:TypeId} {B:Nat} {w0 w1 w2:World} {v0 v1 v2:Value} {l1 l2:List UInt8} (h:Buf e B w0 v0 w1 v1 l1) (k:Buf e B w1 v1 w2 v2 l2):Buf e B w0 v0 w2 v2 l2:=by
 refine ⟨k.own,⟨k.grown.os.trans h.grown.os,k.grown.tape.trans h.grown.tape,k.grown.output.trans h.grown.output,Nat.le_trans h.grown.size k.grown.size,fun i hi hne=>?_⟩,?_⟩
 ·refine (k.grown.block i (Nat.lt_of_lt_of_le hi h.grown.size) ?_).trans (h.grown.block i hi hne)
  rcases h.lies with e | ⟨j,e,hj⟩
  ·rw [e];exact hne
  ·rw [e];intro ee;cases ee;omega
 ·rcases k.lies with e | ⟨j,e,hj⟩
  ·rw [e];exact h.lies
  ·exact .inr ⟨j,e,Nat.le_trans h.grown.size hj⟩
theorem buf_alloc {e:TypeId} {B:Nat} {w0 w:World} {v0 v:Value} {l:List UInt8} (h:Buf e B w0 v0 w v l) (o:Obj):Buf e B w0 v0 (w.alloc o) v l:=
 ⟨h.own.alloc o,⟨h.grown.os,h.grown.tape,h.grown.output,by have:=h.grown.size;simp;omega,fun i hi hne=>(Below.heap_alloc w o i (Nat.lt_of_lt_of_le hi h.grown.size)).trans (h.grown.block i hi hne)⟩,h.lies⟩
theorem buf_below {e:TypeId} {B:Nat} {w0 w:World} {v0 v:Value} {l0 l:List UInt8} (h0:BytesAt e w0 B v0 l0) (hB:B≤w0.heap.size) (h:Buf e B w0 v0 w v l):Below B w0 w:=
 (Below.refl B w0).grown h.grown hB (fun k hk=>(h0.lt k hk).1)
theorem buf_cell {e:TypeId} {B:Nat} {w0 w:World} {v0 v:Value} {l:List UInt8} (h:Buf e B w0 v0 w v l) {p:Addr} {u:Value} (hc:w0.cell? p=some u) (hne:some p.block≠v0.ownBlock):w.cell? p=some u:=
 h.grown.cell hc hne
theorem bytes_one (l:List UInt8):∀ u ∈ l.map byteV,u.oneCell'=true:=by
 intro u hu
 obtain ⟨b,_,rfl⟩:=List.mem_map.1 hu
 rfl
theorem cells_new (w:World) (cs:List Value) (t:TypeId):∀ j u,cs[j]?=some u→(w.alloc (.cells cs.toArray t)).cell? ((⟨w.heap.size,0,none⟩:Addr).add j)=some u:=by
 intro j u hj
 have e:(⟨w.heap.size,0,none⟩:Addr).add j=⟨w.heap.size,j,none⟩:=by unfold Addr.add;split <;> simp_all
 rw [e]
 rw [World.cell?_alloc_mark]
 simpa using hj
theorem wpList_append_bytes {P:Program} {t e:TypeId} {i:TypeInfo} (ht:P.underlying t=some (.slice e)) (hi:P.info? e=some i) (hz:i.zero=some (.int .u8 0)) (hsize:i.size=1) (hby:i.bytes=1)
  {ops:Array Oper} {rest:List Oper} {o:Oper} {a:Act} {Q:Exit→Act→World→Prop} {w:World} {cs:List Value} (hgd:o.guard=none) (s x:Operand) (ho:o.op=.call { callee:=.builtin .append,args:=#[s,x],argTypes:=#[t,t] })
  {B:Nat} {v:Value} {l news:List UInt8} (hs:a.eval s=v) (hx:a.eval x=.slice (some ⟨w.heap.size,0,none⟩) news.length news.length) (hcs:cs=news.map byteV)
  (hown:BytesAt e w B v l) (hlen:l.length+news.length≤1000000) (hB:B≤w.heap.size)
  (h:∀ v' w',Buf e B w v w' v' (l ++ news)→wpList P ops Q rest (a.put o.dst v') w'):wpList P ops Q (o :: rest) a (w.alloc (.cells cs.toArray e)):=by
 subst hcs
 refine wpList_append_own_at _ hgd s x t ho B e i (.int .u8 0) 1 1 ht hi hz hsize hby rfl (by decide) v l.length (l.map byteV) hs (hown.alloc _) ⟨w.heap.size,0,none⟩ news.length news.length (news.map byteV) hx (by simp) (cells_new w _ e) (bytes_one news)
  (by unfold maxLen;omega) (by omega) (by simp;omega) ?_
 intro v' w1 hown' hgrow _ hat
 refine h v' w1 ⟨?_,⟨hgrow.os,hgrow.tape,hgrow.output,by have:=hgrow.size;simp at this;omega,fun k hk hne=>?_⟩,?_⟩
 ·unfold BytesAt
  rw [List.length_append,List.map_append]
  exact hown'
 ·exact (hgrow.block k (by simp;omega) hne).trans (Below.heap_alloc w _ k hk)
 ·rcases hat with h1 | h1
  ·exact .inl h1
  ·exact .inr ⟨_,h1,by simp⟩
theorem conv_bytes {P:Program} {e:TypeId} {w:World} {B:Nat} {v:Value} {l:List UInt8} (src dst:TypeId) (hs:P.underlying src=some (.slice e)) (he:P.underlying e=some (.int .u8)) (hd:P.underlying dst=some .string)
  (h:BytesAt e w B v l) (hl:l≠[]):(convert src dst v).run P w=.ok (.string ⟨l.toArray⟩) w:=by
 obtain ⟨g,cap,rfl⟩:=ownsRow_form h (List.length_pos_iff.2 hl)
 refine run_convert_bytes_back w src dst e ⟨g,0,none⟩ cap l hs he hd fun j hj=>?_
 refine h.cells (g:=g) rfl j _ ?_
 rw [List.getElem?_map,List.getElem?_eq_getElem hj]
 rfl
theorem owns_below {w w':World} {B size n:Nat} {e:TypeId} {v:Value} {xs:List Value} (h:w.ownsRow B e size v n xs) (hb:Below w.heap.size w w'):w'.ownsRow B e size v n xs:=
 h.kept (row:=none) ⟨hb.os,hb.tape,hb.output,hb.size,fun k hk _=>hb.block k hk⟩ (by cases hv:v.ownBlock <;> simp)
theorem buf_later {e:TypeId} {B:Nat} {w0 w w':World} {v0 v:Value} {l:List UInt8} (h:Buf e B w0 v0 w v l) (hb:Below w.heap.size w w'):Buf e B w0 v0 w' v l:=
 ⟨owns_below h.own hb,⟨hb.os.trans h.grown.os,hb.tape.trans h.grown.tape,hb.output.trans h.grown.output,Nat.le_trans h.grown.size hb.size,fun i hi hne=>(hb.block i (Nat.lt_of_lt_of_le hi h.grown.size)).trans (h.grown.block i hi hne)⟩,h.lies⟩
theorem bytes_nil (e:TypeId) (w:World) (B:Nat):BytesAt e w B (.slice none 0 0) []:=World.ownsRow_nil w B e 1
theorem run_append_str {P:Program} {w:World} {t u e:TypeId} {i:TypeInfo} (ht:P.underlying t=some (.slice e)) (hu:P.underlying u=some .string) (hi:P.info? e=some i) (hz:i.zero=some (.int .u8 0)) (hsize:i.size=1) (hby:i.bytes=1) (ty:TypeId)
  {B:Nat} {v:Value} {l:List UInt8} {s:ByteArray} (hown:BytesAt e w B v l) (hlen:l.length+s.size≤1000000) (hB:B≤w.heap.size) :
  ∃ v' w',(Builtin.append_ #[t,u] ty #[v,.string s]).run P w=.ok v' w'∧Buf e B w v w' v' (l ++ s.data.toList):=by
 obtain ⟨v',w',hr,ho,hg,hnil⟩:=Lib.run_append_own_string (P:=P) w B t u ty e i ht hu hi hz hsize hby v l.length _ hown s (by unfold maxLen;omega) (by omega) hB
 have hsl:s.data.toList.length=s.size:=by simp
 refine ⟨v',w',hr,⟨?_,hg,?_⟩⟩
 ·unfold BytesAt
  rw [List.length_append,List.map_append,hsl]
  exact ho
 ·rcases hown.2 with ⟨rfl,h0⟩ | ⟨g,cap,cur,rfl,hbg,hg',hnc,hcm,hcs,htake⟩
  ·by_cases hm:s.size=0
   ·left
    rw [hnil.2 ⟨rfl,hm⟩]
   ·right
    have h1:=run_append_nil_string (P:=P) w t u ty e i (.int .u8 0) ht hu hi hz s (by omega) (by omega) (by rw [hby];omega)
    rw [h1] at hr
    cases hr
    exact ⟨_,rfl,Nat.le_refl _⟩
  ·have hcs':cur.size=cap:=by simpa using hcs
   by_cases hroom:l.length+s.size≤cap
   ·left
    have h1:=Lib.run_append_room_string (P:=P) w t u ty e i ht hu hi hsize g l.length cap cur hg' s hroom (by omega)
    rw [h1] at hr
    cases hr
    rfl
   ·right
    have holds:∀ j u,(l.map byteV)[j]?=some u→w.cell? ((⟨g,0,none⟩:Addr).add j)=some u:=hown.cells (g:=g) rfl
    have h1:=Lib.run_append_grow_string (P:=P) w t u ty e i (.int .u8 0) ht hu hi hz ⟨g,0,none⟩ l.length cap (l.map byteV) (by rw [hsize];simp) holds s (by omega) (by omega) (by rw [hby];exact growslice_fits (by omega) (by omega))
    rw [h1] at hr
    cases hr
    exact ⟨_,rfl,Nat.le_refl _⟩
theorem wpList_append_str {P:Program} {t u e:TypeId} {i:TypeInfo} (ht:P.underlying t=some (.slice e)) (hu:P.underlying u=some .string) (hi:P.info? e=some i) (hz:i.zero=some (.int .u8 0)) (hsize:i.size=1) (hby:i.bytes=1)
  {ops:Array Oper} {rest:List Oper} {o:Oper} {a:Act} {Q:Exit→Act→World→Prop} {w:World} (hgd:o.guard=none) (sl x:Operand) (ho:o.op=.call { callee:=.builtin .append,args:=#[sl,x],argTypes:=#[t,u] })
  {B:Nat} {v:Value} {l:List UInt8} {s:ByteArray} (hs:a.eval sl=v) (hx:a.eval x=.string s) (hown:BytesAt e w B v l) (hlen:l.length+s.size≤1000000) (hB:B≤w.heap.size)
  (h:∀ v' w',Buf e B w v w' v' (l ++ s.data.toList)→wpList P ops Q rest (a.put o.dst v') w'):wpList P ops Q (o :: rest) a w:=by
 refine wpList_plain hgd fun K hK=>?_
 obtain ⟨v',w',hr,h2⟩:=run_append_str (P:=P) ht hu hi hz hsize hby o.type hown hlen hB (s:=s)
 unfold Oper.wp execOp
 simp only [ho,resolve,invoke,builtin,Sem.run_bind,Sem.run_pure,Result.andThen_ok,List.map_toArray,List.map_cons,List.map_nil,hs,hx,hr]
 exact hK _ _ (h v' w' h2)
end Go.Proofs.YtlboemhbealnmaaGreat
namespace Go.Proofs.YtlboemhbealnmaaGreat
open Go.RowKit
theorem ret_bool {a b:Bool} (h:a=b):Ending.returned (.bool a)=.returned (.bool b):=by rw [h]
theorem ret_i64 {a b:Int} (h:a=b):Ending.returned (.int .i64 a)=.returned (.int .i64 b):=by rw [h]
theorem kept_trans {a b c:World} (h:Below a.heap.size a b) (k:Below b.heap.size b c):Below a.heap.size a c:=h.trans (k.mono h.size)
theorem kept_alloc {a b:World} (h:Below a.heap.size a b) (o:Obj):Below a.heap.size a (b.alloc o):=h.alloc h.size o
theorem kept_new (a:World) (o:Obj):Below a.heap.size a (a.alloc o):=kept_alloc (Below.refl _ _) o
theorem kept_cell {a b:World} (h:Below a.heap.size a b) {p:Addr} {v:Value} (hc:a.cell? p=some v):b.cell? p=some v:=cell_later h hc
theorem box_pair {w wr:World} {u v:Value} {t:TypeId} (h:Below (w.alloc (.cells #[u,v] t)).heap.size (w.alloc (.cells #[u,v] t)) wr) :
  wr.cell? ⟨w.heap.size,0,none⟩=some u∧wr.cell? ⟨w.heap.size,1,none⟩=some v∧w.heap.size < wr.heap.size:=
 ⟨kept_cell h (by simp [go_sem]),kept_cell h (by simp [go_sem]),by have:=h.size;simp at this;omega⟩
theorem wf_u64_of (u:UInt64):(Lit.int .u64 u.toNat).wf=true:=by
 have:=u.toNat_lt
 simp only [Lit.wf,Bool.and_eq_true,decide_eq_true_eq]
 exact ⟨by show (0:Int)≤_;omega,by show _≤(18446744073709551615:Int);omega⟩
theorem laid:laidOutB Tryz.prog=true:=by kernel_rfl
theorem zero_bool (w:World):(zeroValue 4).run Tryz.prog w=.ok (.bool false) w:=by kernel_rfl
theorem box_four {w wr:World} {u v x y:Value} {t:TypeId} (h:Below (w.alloc (.cells #[u,v,x,y] t)).heap.size (w.alloc (.cells #[u,v,x,y] t)) wr) :
  wr.cell? ⟨w.heap.size,0,none⟩=some u∧wr.cell? ⟨w.heap.size,1,none⟩=some v∧wr.cell? ⟨w.heap.size,2,none⟩=some x∧wr.cell? ⟨w.heap.size,3,none⟩=some y∧w.heap.size < wr.heap.size:=
 ⟨kept_cell h (by simp [go_sem]),kept_cell h (by simp [go_sem]),kept_cell h (by simp [go_sem]),kept_cell h (by simp [go_sem]),by have:=h.size;simp at this;omega⟩
theorem info_u8:(Tryz.prog.info? 5).map (fun i=>(i.zero,i.size,i.bytes))=some (some (.int .u8 0),1,1):=by kernel_rfl
abbrev Bytes (w:World) (B:Nat) (v:Value) (l:List UInt8):Prop:=BytesAt 5 w B v l
def Put (B:Nat) (w:World) (v:Value) (l:List UInt8) (e:Ending) (w':World):Prop:=∃ v',e=.returned v'∧Buf 5 B w v w' v' l
theorem shr_byte (x:Nat) (j:Nat):((x:Int) / 2 ^ (8 * j) % 256)=((UInt8.ofNat (x / 256 ^ j)).toNat:Int):=by
 have e:(2:Int) ^ (8 * j)=((256 ^ j:Nat):Int):=by rw [Int.pow_mul];simp
 rw [e]
 simp [UInt8.toNat_ofNat']
theorem grown_below {w w':World} (hg:w.grownBy w' none):Below w.heap.size w w':=(Below.refl _ _).grown hg (Nat.le_refl _) (fun _ h=>by cases h)
theorem one_byte (n:Int) (h0:0≤n) (h:n≤255):[Value.int .u8 n]=[UInt8.ofNat n.toNat].map byteV:=by
 have:((UInt8.ofNat n.toNat).toNat:Int)=n:=by rw [UInt8.toNat_ofNat'];omega
 show _=[Value.int .u8 ((UInt8.ofNat n.toNat).toNat:Int)]
 rw [this]
theorem own_ne {e:TypeId} {w:World} {B:Nat} {v:Value} {l:List UInt8} (h:BytesAt e w B v l):some w.heap.size≠v.ownBlock:=fun hh=>by
 have:=(h.lt _ hh.symm).2
 omega
theorem ret_u64 {a b:Int} (h:a=b):Ending.returned (.int .u64 a)=.returned (.int .u64 b):=by rw [h]
theorem bytesWorld_below (w:World) (e:TypeId) (s:ByteArray):Below w.heap.size w (Lib.bytesWorld w e s):=
 ⟨rfl,rfl,rfl,by rw [Lib.bytesWorld_size];omega,fun k hk=>Lib.bytesWorld_at_old w e s k hk⟩
theorem getD_at (s:ByteArray) (k:Nat) (h:k < s.size):s.data.toList.getD k 0=s[k]:=by
 rw [List.getD_eq_getElem?_getD,List.getElem?_eq_getElem (by simpa using h)]
 rfl
theorem empty_yes {s:ByteArray} (h:s.size=0):s.toList.isEmpty=true:=by
 have hl:s.data.toList.length=s.size:=by simp
 rw [ByteArray.toList_eq]
 cases hx:s.data.toList with
 | nil=>rfl
 | cons a r=>rw [hx] at hl;simp at hl;omega
theorem empty_no {s:ByteArray} (h:s.size≠0):s.toList.isEmpty=false:=by
 have hl:s.data.toList.length=s.size:=by simp
 rw [ByteArray.toList_eq]
 cases hx:s.data.toList with
 | nil=>rw [hx] at hl;simp at hl;omega
 | cons a r=>rfl
theorem extract_end (s:ByteArray) (a b:Nat) (h:b=s.size):(s.extract a b).data.toList=s.data.toList.drop a:=by
 rw [h,ByteArray.data_extract]
 simp only [Array.toList_extract,List.extract_eq_take_drop]
 exact List.take_of_length_le (by simp)
theorem extract_take (s:ByteArray) (b:Nat):(s.extract 0 b).data.toList=s.data.toList.take b:=by
 rw [ByteArray.data_extract]
 simp
theorem extract_mid (s:ByteArray) (a b:Nat):(s.extract a b).data.toList=(s.data.toList.drop a).take (b - a):=by
 rw [ByteArray.data_extract]
 simp only [Array.toList_extract,List.extract_eq_take_drop]
def Fresh (n:Nat) (a:Option Addr):Prop:=∀ b o sp,a=some ⟨b,o,sp⟩→n≤b
def str (l:List UInt8):ByteArray:=⟨l.toArray⟩
theorem str_size (l:List UInt8):(str l).size=l.length:=by show l.toArray.size=_;simp
theorem str_append (a b:List UInt8):str (a ++ b)=str a ++ str b:=by
 apply ByteArray.ext
 simp [str]
theorem str_list (l:List UInt8):(str l).data.toList=l:=by simp [str]
theorem cell_spot {w:World} {a:Addr} {v:Value} (h:w.cell? a=some v):a.spot=none∧a.block < w.heap.size:=by
 unfold World.cell? at h
 split at h
 ·rename_i c t fr hb
  refine ⟨?_,(Array.getElem?_eq_some_iff.1 hb).1⟩
  split at h
  ·cases h
  ·rename_i hs;simpa using hs
 ·cases h
theorem take_eq_step {α:Type} {a b:List α} {k:Nat} (ha:k < a.length) (hb:k < b.length) (h:a.take k=b.take k) (e:a[k]=b[k]):a.take (k+1)=b.take (k+1):=by
 rw [List.take_succ_eq_append_getElem ha,List.take_succ_eq_append_getElem hb,h,e]
theorem ne_of_at {α:Type} {a b:List α} {k:Nat} (ha:k < a.length) (hb:k < b.length) (e:a[k]≠b[k]):a≠b:=fun h=>by
 subst h
 exact e rfl
end Go.Proofs.YtlboemhbealnmaaGreat
namespace Go.Proofs.YtlboemhbealnmaaGreat
open Go.RowKit
structure Turn (F F':Nat→Prop) (w w':World):Prop where
 os:w'.os=w.os
 tape:w'.tape=w.tape
 output:w'.output=w.output
 size:w.heap.size≤w'.heap.size
 block:∀ k,k < w.heap.size→¬ F k→w'.heap[k]?=w.heap[k]?
 own:∀ k,F' k→F k∨w.heap.size≤k
def Apart (F G:Nat→Prop):Prop:=∀ k,F k→¬ G k
def There (w:World) (F:Nat→Prop):Prop:=∀ k,F k→k < w.heap.size
theorem Apart.symm {F G:Nat→Prop} (h:Apart F G):Apart G F:=fun k hg hf=>h k hf hg
theorem Turn.refl (F:Nat→Prop) (w:World):Turn F F w w:=⟨rfl,rfl,rfl,Nat.le_refl _,fun _ _ _=>rfl,fun _ h=>.inl h⟩
theorem Turn.trans {F F' F'':Nat→Prop} {a b c:World} (h:Turn F F' a b) (k:Turn F' F'' b c):Turn F F'' a c where
 os:=k.os.trans h.os
 tape:=k.tape.trans h.tape
 output:=k.output.trans h.output
 size:=Nat.le_trans h.size k.size
 block:=fun i hi hn=>(k.block i (Nat.lt_of_lt_of_le hi h.size) (fun hf=>(h.own i hf).elim hn (fun hle=>by omega))).trans (h.block i hi hn)
 own:=fun i hi=>(k.own i hi).elim (fun hf=>h.own i hf) (fun hle=>.inr (Nat.le_trans h.size hle))
theorem Turn.below {F F':Nat→Prop} {w w':World} {n:Nat} (h:Turn F F' w w') (hF:∀ k,F k→n≤k) (hn:n≤w.heap.size):Below n w w':=
 ⟨h.os,h.tape,h.output,h.size,fun k hk=>h.block k (Nat.lt_of_lt_of_le hk hn) (fun hf=>by have:=hF k hf;omega)⟩
theorem Turn.above {F F':Nat→Prop} {w w':World} {n:Nat} (h:Turn F F' w w') (hF:∀ k,F k→n≤k) (hn:n≤w.heap.size):∀ k,F' k→n≤k:=
 fun k hk=>(h.own k hk).elim (hF k) (fun hle=>Nat.le_trans hn hle)
theorem Turn.of_below {F:Nat→Prop} {w w':World} (h:Below w.heap.size w w'):Turn F F w w':=⟨h.os,h.tape,h.output,h.size,fun k hk _=>h.block k hk,fun _ hf=>.inl hf⟩
theorem Turn.of_grown {F:Nat→Prop} {w w':World} {row:Option Nat} (h:w.grownBy w' row) (hr:∀ k,row=some k→F k):Turn F F w w':=
 ⟨h.os,h.tape,h.output,h.size,fun k hk hn=>h.block k hk (fun e=>hn (hr k e.symm)),fun _ hf=>.inl hf⟩
theorem Turn.set {F:Nat→Prop} (w:World) (p:Addr) (u:Value) (hp:F p.block):Turn F F w (w.setCell p u):=
 ⟨rfl,rfl,rfl,by simp,fun k _ hn=>Below.heap_setCell w p u k (fun e=>hn (e▸hp)),fun _ hf=>.inl hf⟩
theorem Turn.more {F F':Nat→Prop} {w w':World} (h:Turn F F' w w') {F'':Nat→Prop} (hf:∀ k,F'' k→F' k∨w.heap.size≤k):Turn F F'' w w':=
 ⟨h.os,h.tape,h.output,h.size,h.block,fun k hk=>(hf k hk).elim (h.own k) .inr⟩
theorem There.later {F:Nat→Prop} {w w':World} (h:There w F) (hs:w.heap.size≤w'.heap.size):There w' F:=fun k hk=>Nat.lt_of_lt_of_le (h k hk) hs
end Go.Proofs.YtlboemhbealnmaaGreat
