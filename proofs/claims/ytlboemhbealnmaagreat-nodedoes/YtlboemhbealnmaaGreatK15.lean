import Derived.Test.YtlboemhbealnmaaGreatK14
import Derived.Test.YtlboemhbealnmaaGreatK4
set_option maxRecDepth 20000
namespace Go.Proofs.YtlboemhbealnmaaGreat.Ho
open Go.RowKit Go.Maps
variable {w w':World} {F:Nat→Prop} {R:Loc} {it:Option It} {ls:List LD} {M:UInt64→Option DeedD} {b:Nat} {ev:UInt64→Option Value} {v:Value}
def allI (ls:List LD):List UInt64:=ls.foldl (fun acc l=>if acc.contains l.id then acc else acc ++ [l.id]) []
theorem allI_step {ls:List LD} {k:Nat} (h:k < ls.length):allI (ls.take (k+1))=if (allI (ls.take k)).contains ls[k].id then allI (ls.take k) else allI (ls.take k) ++ [ls[k].id]:=by
 unfold allI
 rw [List.take_succ_eq_append_getElem h,List.foldl_append]
 rfl
theorem allI_len (ls:List LD) (k:Nat):(allI (ls.take k)).length≤k:=by
 induction k with
 | zero=>simp [allI]
 | succ k ih=>
  by_cases h:k < ls.length
  ·rw [allI_step h]
   split
   ·omega
   ·simp;omega
  ·rw [List.take_of_length_le (by omega)]
   rw [List.take_of_length_le (by omega)] at ih
   omega
set_option maxRecDepth 20000 in
theorem all_any (w:World) (h:HomeAt w F R it ls M b ev v) (hl:ls.length≤1000) :
  Calls Tryz.prog 37 #[.pointer (some ⟨R.b,27,none⟩)] w (GaveIds w (allI ls)):=by
 obtain ⟨a,cap,rfl,hcap,hat⟩:=h.linkForm
 have HAT:=Lib.hid hat
 have hlc:=h.linkc.1
 have hlt:=h.lt
 clear h hat
 go_enter Tryz.func37,Tryz.ntmps37
 go_wp2_with fail
 go_loopw [3,11] (fun vi i wr=>∃ k:Nat,k≤ls.length∧i=.int .i64 k∧Hid (OwnIds wr w.heap.size vi (allI (ls.take k)))∧Hid (Below w.heap.size w wr)) (fun _ i _=>ls.length - (intOf i).toNat)
 case atStart=>exact ⟨0,Nat.zero_le _,rfl,Lib.hid (ownIds_nil _ _),Lib.hid (Below.refl _ _)⟩
 case round=>
  obtain ⟨k,hk,rfl,HO,HB⟩:=hrel
  rename_i u3
  by_cases hkl:k < ls.length
  ·obtain ⟨g,o,rfl,hg,hc2⟩:=linksAt_kept HB.out HAT.out k hkl
   have hst:=allI_step hkl
   have hlen:=allI_len ls k
   obtain ⟨l0,hl0⟩:∃ l0,ls[k]=l0:=⟨_,rfl⟩
   rw [hl0] at hc2 hst
   obtain ⟨c0,c1⟩:=hc2
   have hb1:=kept_new wr (.cells #[.int .i64 l0.peer,.int .u64 l0.id.toNat] 136)
   obtain ⟨ia,icap,hia,_,hids,_⟩:=owns_idsAt (owns_below HO.out hb1)
   have HIDS:=Lib.hid hids
   have HB1:=Lib.hid hb1
   have HIA:=Lib.hid hia
   subst hia
   clear hl0 hids hb1
   cases hq:(allI (ls.take k)).contains l0.id with
   | true=>
    rw [if_pos hq] at hst
    have HST:=Lib.hid hst
    have HQ:=Lib.hid hq
    clear hst hq
    go_wp2_with fail
    with_reducible refine (idHas_any l0.id _ true HQ.out _ _ _ (by omega) HIDS.out).mono ?_
    rintro e w2 ⟨rfl,hb2⟩
    have hb12:=kept_trans HB1.out hb2
    have HO2:=Lib.hid (owns_below HO.out hb12)
    have HB2:=Lib.hid (kept_trans HB.out hb12)
    clear hb2 hb12
    go_wp2_with fail
    go_roundw
    case rel=>exact ⟨k+1,by omega,by go_num,Lib.hid (by rw [HST.out];exact HO2.out),HB2⟩
    case measure=>simp [intOf];omega
   | false=>
    rw [if_neg (by rw [hq];simp)] at hst
    have HST:=Lib.hid hst
    have HQ:=Lib.hid hq
    clear hst hq
    go_wp2_with fail
    with_reducible refine (idHas_any l0.id _ false HQ.out _ _ _ (by omega) HIDS.out).mono ?_
    rintro e w2 ⟨rfl,hb2⟩
    have hb12:=kept_trans HB1.out hb2
    obtain ⟨d0,d1⟩:LinkAt w2 wr.heap.size 0 l0:=linkAt_kept hb2 ⟨by simp [go_sem],by simp [go_sem]⟩
    have hs2:=(cell_spot d0).2
    have HO2:=Lib.hid (owns_below HO.out hb12)
    have HB2:=Lib.hid (kept_trans HB.out hb12)
    clear hb2 hb12
    go_wp2_with (at_builtin;refine append_id rfl _ _ rfl l0.id rfl rfl HO2.out (by omega) HB2.out.size ?_;intro g4 cap4 w4 ho4 hg4 hg5)
    have HO4:=Lib.hid ho4
    have HB4:=Lib.hid (HB2.out.grown hg5 HB2.out.size (fun j hj=>(HO2.out.lt j hj).1))
    clear ho4 hg4 hg5
    go_wp2_with fail
    go_roundw
    case rel=>exact ⟨k+1,by omega,by go_num,Lib.hid (by rw [HST.out];simpa using HO4.out),HB4⟩
    case measure=>simp [intOf];omega
  ·have he:ls.take k=ls:=List.take_of_length_le (by omega)
   have HO':=HO.out
   rw [he] at HO'
   obtain ⟨a6,cap6,e6,_,_,_⟩:=owns_idsAt HO'
   subst e6
   have HE:=Lib.hid HO'
   clear HO' he
   go_wp2_with fail
   go_ret
   exact ⟨a6,cap6,rfl,HE.out,HB.out⟩
end Go.Proofs.YtlboemhbealnmaaGreat.Ho
namespace Go.Proofs.YtlboemhbealnmaaGreat.Ho
open Go.RowKit Go.Maps
variable {w w':World} {F:Nat→Prop} {R:Loc} {it:Option It} {ls:List LD} {M:UInt64→Option DeedD} {b:Nat} {ev:UInt64→Option Value} {v:Value}
def ChildK (F:Nat→Prop) (R:Loc) (ls:List LD) (M:UInt64→Option DeedD) (b:Nat) (ev:UInt64→Option Value) (v:Value) (c:Nat) (x:UInt64) (w:World):Prop:=HomeAt w F R none ls M b ev v∧CellIs c (.pointer (some ⟨R.b,27,none⟩)) w∧CellIs (c+1) (.int .u64 x.toNat) w
theorem childK_kept {c:Nat} {x:UInt64} (w w':World) (h:ChildK F R ls M b ev v c x w) (hb:Below w.heap.size w w'):ChildK F R ls M b ev v c x w':=⟨h.1.kept hb,cellIs_kept _ _ _ _ h.2.1 hb,cellIs_kept _ _ _ _ h.2.2 hb⟩
theorem childK_set {c:Nat} {x:UInt64} {g:Nat} (hg:¬ F g) (hc:c+1 < g) (w:World) (j:Nat) (u:Value) (h:ChildK F R ls M b ev v c x w):ChildK F R ls M b ev v c x (w.setCell ⟨g,j,none⟩ u):=
 ⟨h.1.turn (G:=fun k=>k=g) (Turn.set w ⟨g,j,none⟩ u rfl) (fun k hk e=>hg (by rw [← e];exact hk)) (fun i hi=>by cases hi),cellIs_set _ (by omega) _ _ _ h.2.1,cellIs_set _ (by omega) _ _ _ h.2.2⟩
set_option maxRecDepth 20000 in
theorem picks_child (c:Nat) (x:UInt64):PicksI (ChildK F R ls M b ev v c x) 209 #[.pointer (some ⟨c,0,none⟩),.pointer (some ⟨c+1,0,none⟩)] (fun y=>!spendsD ((M y).getD nod) x):=by
 refine ⟨fun _ _=>by kernel_rfl,fun y w hw=>?_⟩
 obtain ⟨h,hc,hx⟩:=hw
 obtain ⟨wd,hwd⟩:∃ wd,w.drew=wd:=⟨_,rfl⟩
 have hbd:Below w.heap.size w wd:=hwd▸(Below.refl _ _).drew
 have HD:=h.kept hbd
 have hc:wd.cell? ⟨c,0,none⟩=some (.pointer (some ⟨R.b,27,none⟩)):=kept_cell hbd hc
 have hx:wd.cell? ⟨c+1,0,none⟩=some (.int .u64 x.toNat):=kept_cell hbd hx
 have hs0:=(cell_spot hc).2
 have hs1:=(cell_spot hx).2
 have hmc:=HD.mapc
 have hlt:=HD.lt
 have hlk:=HD.look y
 obtain ⟨a,cp,hv,hl8,_,hi⟩:=HD.deed y
 rw [hv] at hlk
 unfold deedV at hlk
 have HI:=Lib.hid hi
 have HB:=Lib.hid hbd
 have HWD:=Lib.hid hwd
 obtain ⟨d,hd⟩:∃ d,(M y).getD nod=d:=⟨_,rfl⟩
 show Calls Tryz.prog 209 #[.int .u64 y.toNat,.pointer (some ⟨c,0,none⟩),.pointer (some ⟨c+1,0,none⟩)] w fun e w'=>e=.returned (.bool (!spendsD ((M y).getD nod) x))∧Below w.heap.size w w'
 rw [hd] at hlk hl8 HI ⊢
 clear h hv hi hbd hwd HD hd
 go_enter Tryz.func209,Tryz.ntmps209
 go_wp2_with fail
 refine region_tail 7 (by kernel_rfl) (by kernel_rfl) HWD.out ?_
 simp only [List.take_succ_cons,List.take_zero,List.drop_succ_cons,List.drop_zero]
 repeat still_step
 refine wpStill_nil ?_
 go_wp2_with fail
 with_reducible refine (spends_any d x a cp _ (by omega) HI.out).mono ?_
 rintro e w1 ⟨rfl,hb1⟩
 go_wp2_with fail
 go_ret
 exact ⟨rfl,kept_trans HB.out hb1⟩
set_option maxRecDepth 20000 in
theorem children_any (x:UInt64) (w:World) (h:HomeAt w F R none ls M b ev v) (hl:ls.length≤1000) :
  Calls Tryz.prog 191 #[.pointer (some ⟨R.b,27,none⟩),.int .u64 x.toNat] w (GaveIds w ((allI ls).filter fun y=>spendsD ((M y).getD nod) x)):=by
 have hk:Below w.heap.size w ((w.alloc (.cells #[.pointer (some ⟨R.b,27,none⟩)] 76)).alloc (.cells #[.int .u64 x.toNat] 22)):=kept_alloc (kept_new _ _) _
 have HK:=Lib.hid hk
 have H:=Lib.hid (h.kept hk)
 have HC:Hid (ChildK F R ls M b ev v w.heap.size x ((w.alloc (.cells #[.pointer (some ⟨R.b,27,none⟩)] 76)).alloc (.cells #[.int .u64 x.toNat] 22))):=Lib.hid ⟨H.out,cellIs_kept _ _ _ _ (cellIs_new w _ _) (kept_new _ _),by
  have:=cellIs_new (w.alloc (.cells #[.pointer (some ⟨R.b,27,none⟩)] 76)) (.int .u64 x.toNat) 22
  simpa using this⟩
 have HNB:Hid (∀ g,F g→g < w.heap.size):=Lib.hid h.there
 have hal:(allI ls).length≤1000:=by
  have:=allI_len ls ls.length
  rw [List.take_of_length_le (Nat.le_refl _)] at this
  omega
 clear h hk
 go_enter Tryz.func191,Tryz.ntmps191
 go_wp2_with fail
 with_reducible refine (all_any _ H.out hl).mono ?_
 rintro e w1 ⟨a1,cp1,rfl,ho1,hb1⟩
 have HC1:=Lib.hid (childK_kept _ _ HC.out hb1)
 have HO1:=Lib.hid ho1
 have HB1:=Lib.hid (kept_trans HK.out hb1)
 have hsz:((w.alloc (.cells #[.pointer (some ⟨R.b,27,none⟩)] 76)).alloc (.cells #[.int .u64 x.toNat] 22)).heap.size=w.heap.size+2:=by simp
 have HLT:Hid (∀ g,(Value.slice a1 (allI ls).length cp1).ownBlock=some g→w.heap.size+1 < g):=Lib.hid (fun g hg=>by
  have:=(ho1.lt g hg).1
  omega)
 clear ho1 hb1 hsz
 go_wp2_with fail
 refine (deleteId_own _ childK_kept _ _ _ (picks_child w.heap.size x) (allI ls) _ _ HC1.out (fun g hg a j u hk=>childK_set (fun hF=>by have:=HNB.out g hF;have:=HLT.out g hg;omega) (HLT.out g hg) a j u hk) hal (owns_low HO1.out)).mono ?_
 rintro e w2 ⟨a2,n2,c2,rfl,ho2,hob,ht2⟩
 have HE:Hid (GaveIds w ((allI ls).filter fun y=>spendsD ((M y).getD nod) x) (.returned (.slice a2 n2 c2)) w2):=Lib.hid (by
  have e1:((allI ls).filter fun y=>!(!spendsD ((M y).getD nod) x))=(allI ls).filter fun y=>spendsD ((M y).getD nod) x:=by simp
  rw [e1] at ho2
  have hb2:Below w.heap.size w1 w2:=ht2.below (fun k hk=>by have:=HLT.out k hk;omega) HB1.out.size
  obtain ⟨a3,c3,e3,_,_,_⟩:=owns_idsAt ho2
  simp only [Value.slice.injEq] at e3
  obtain ⟨rfl,rfl,rfl⟩:=e3
  refine ⟨a2,c2,rfl,⟨ho2.1,ho2.2.imp id fun ⟨g,cap,cur,q1,_,q3⟩=>⟨g,cap,cur,q1,?_,q3⟩⟩,HB1.out.trans hb2⟩
  have:=HLT.out g (by rw [← hob,q1];rfl)
  omega)
 clear ho2 hob ht2
 go_wp2_with fail
 go_ret
 exact HE.out
end Go.Proofs.YtlboemhbealnmaaGreat.Ho
namespace Go.Proofs.YtlboemhbealnmaaGreat.Ho
structure LinkD where
 peer:Nat
 id:UInt64
 d:DeedD
instance : Inhabited LinkD:=⟨⟨0,0,nod⟩⟩
def ldOf (l:LinkD):LD:=⟨l.peer,l.id⟩
def lsOf (L:List LinkD):List LD:=L.map ldOf
def deedOf (L:List LinkD) (x:UInt64):Option DeedD:=(L.find? fun l=>l.id == x).map (·.d)
structure GoodL (n:Nat) (L:List LinkD):Prop where
 len:L.length≤n
 peer:∀ l ∈ L,l.peer < 8
 fine:∀ l ∈ L,checkD l.d=0
 one:∀ l ∈ L,∀ m ∈ L,l.id=m.id→l.d=m.d
 nodup:(lsOf L).Nodup
variable {n:Nat} {L:List LinkD}
theorem lsOf_len (L:List LinkD):(lsOf L).length=L.length:=by simp [lsOf]
theorem deedOf_some {x:UInt64} {d:DeedD} (h:deedOf L x=some d):∃ l ∈ L,l.id=x∧l.d=d:=by
 unfold deedOf at h
 obtain ⟨l,hl,rfl⟩:=Option.map_eq_some_iff.1 h
 exact ⟨l,List.mem_of_find?_eq_some hl,by have:=List.find?_some hl;simpa using this,rfl⟩
theorem deedOf_none {x:UInt64}:deedOf L x=none ↔ ∀ l ∈ L,l.id≠x:=by
 unfold deedOf
 rw [Option.map_eq_none_iff,List.find?_eq_none]
 simp
theorem deedOf_mem (h:GoodL n L) {l:LinkD} (hl:l ∈ L):deedOf L l.id=some l.d:=by
 cases hx:deedOf L l.id with
 | none=>exact absurd rfl (deedOf_none.1 hx l hl)
 | some d=>
  obtain ⟨m,hm,h1,rfl⟩:=deedOf_some hx
  rw [h.one m hm l hl h1]
theorem deedOf_isSome {x:UInt64}:(deedOf L x).isSome=true ↔ ∃ l ∈ L,l.id=x:=by
 cases hx:deedOf L x with
 | none=>
  have:=deedOf_none.1 hx
  simp
  exact this
 | some d=>
  obtain ⟨l,hl,h1,_⟩:=deedOf_some hx
  simp
  exact ⟨l,hl,h1⟩
theorem GoodL.sub (h:GoodL n L) {L':List LinkD} (hs:L'.Sublist L):GoodL n L' where
 len:=Nat.le_trans hs.length_le h.len
 peer:=fun l hl=>h.peer l (hs.subset hl)
 fine:=fun l hl=>h.fine l (hs.subset hl)
 one:=fun l hl m hm=>h.one l (hs.subset hl) m (hs.subset hm)
 nodup:=h.nodup.sublist (hs.map ldOf)
theorem deedOf_sub (h:GoodL n L) {L':List LinkD} (hs:L'.Sublist L):linkedM (lsOf L') (deedOf L)=deedOf L':=by
 funext x
 unfold linkedM
 cases hx:deedOf L' x with
 | none=>
  have h1:=deedOf_none.1 hx
  rw [if_neg]
  rw [Bool.not_eq_true,List.any_eq_false]
  intro l hl
  obtain ⟨m,hm,rfl⟩:=List.mem_map.1 hl
  have:=h1 m hm
  simpa [ldOf] using this
 | some d=>
  obtain ⟨l,hl,rfl,rfl⟩:=deedOf_some hx
  rw [if_pos,deedOf_mem h (hs.subset hl)]
  rw [List.any_eq_true]
  exact ⟨ldOf l,List.mem_map_of_mem hl,by simp [ldOf]⟩
theorem lsOf_filter (q:LD→Bool) (L:List LinkD):(lsOf L).filter q=lsOf (L.filter fun l=>q (ldOf l)):=by
 unfold lsOf
 rw [List.filter_map]
 rfl
theorem all_mem {ls:List LD} {x:UInt64}:x ∈ allI ls ↔ ∃ l ∈ ls,l.id=x:=by
 have key:∀ (ls:List LD) (acc:List UInt64),x ∈ ls.foldl (fun acc l=>if acc.contains l.id then acc else acc ++ [l.id]) acc ↔ x ∈ acc∨∃ l ∈ ls,l.id=x:=by
  intro ls
  induction ls with
  | nil=>simp
  | cons a r ih=>
   intro acc
   rw [List.foldl_cons,ih]
   by_cases hc:acc.contains a.id=true
   ·rw [if_pos hc]
    constructor
    ·rintro (h | ⟨l,hl,e⟩)
     ·exact .inl h
     ·exact .inr ⟨l,by simp [hl],e⟩
    ·rintro (h | ⟨l,hl,e⟩)
     ·exact .inl h
     ·rcases List.mem_cons.1 hl with rfl | hl
      ·exact .inl (by rw [← e];exact List.contains_iff_mem.1 hc)
      ·exact .inr ⟨l,hl,e⟩
   ·rw [if_neg hc,List.mem_append,List.mem_singleton]
    constructor
    ·rintro ((h | h) | ⟨l,hl,e⟩)
     ·exact .inl h
     ·exact .inr ⟨a,by simp,h.symm⟩
     ·exact .inr ⟨l,by simp [hl],e⟩
    ·rintro (h | ⟨l,hl,e⟩)
     ·exact .inl (.inl h)
     ·rcases List.mem_cons.1 hl with rfl | hl
      ·exact .inl (.inr e.symm)
      ·exact .inr ⟨l,hl,e⟩
 unfold allI
 rw [key]
 simp
theorem all_nodup (ls:List LD):(allI ls).Nodup:=by
 have key:∀ (ls:List LD) (acc:List UInt64),acc.Nodup→(ls.foldl (fun acc l=>if acc.contains l.id then acc else acc ++ [l.id]) acc).Nodup:=by
  intro ls
  induction ls with
  | nil=>exact fun acc h=>h
  | cons a r ih=>
   intro acc h
   rw [List.foldl_cons]
   by_cases hc:acc.contains a.id=true
   ·rw [if_pos hc];exact ih acc h
   ·rw [if_neg hc]
    refine ih _ (List.nodup_append.2 ⟨h,by simp,?_⟩)
    intro x hx y hy e
    rw [List.mem_singleton.1 hy] at e
    exact hc (List.contains_iff_mem.2 (e▸hx))
 exact key ls [] (by simp)
def allL (L:List LinkD):List UInt64:=allI (lsOf L)
theorem allL_mem {x:UInt64}:x ∈ allL L ↔ ∃ l ∈ L,l.id=x:=by
 unfold allL
 rw [all_mem]
 constructor
 ·rintro ⟨l,hl,e⟩
  obtain ⟨m,hm,rfl⟩:=List.mem_map.1 hl
  exact ⟨m,hm,e⟩
 ·rintro ⟨l,hl,e⟩
  exact ⟨ldOf l,List.mem_map_of_mem hl,e⟩
theorem allL_some (x:UInt64):(deedOf L x).isSome=true ↔ x ∈ allL L:=by rw [deedOf_isSome,allL_mem]
theorem allL_nodup (L:List LinkD):(allL L).Nodup:=all_nodup _
theorem allL_len (L:List LinkD):(allL L).length≤L.length:=by
 have:=allI_len (lsOf L) (lsOf L).length
 rw [List.take_of_length_le (Nat.le_refl _),lsOf_len] at this
 exact this
def usageL (L:List LinkD):Nat→Int × Int:=fun p=>(((L.filter fun l=>l.peer == p).map fun l=>l.d.weight).sum,((L.filter fun l=>l.peer == p).length:Int))
theorem usageL_eq (h:GoodL n L):usageF (deedOf L) (lsOf L)=usageL L:=by
 funext p
 unfold usageF usageL
 rw [lsOf_filter]
 simp only [Prod.mk.injEq]
 refine ⟨?_,by rw [lsOf_len];rfl⟩
 unfold lsOf
 rw [List.map_map]
 congr 1
 refine List.map_congr_left fun l hl=>?_
 show wM (deedOf L) (ldOf l)=l.d.weight
 unfold wM ldOf
 rw [deedOf_mem h (List.mem_filter.1 hl).1]
 rfl
def fullL (L:List LinkD):Bool:=fullF (deedOf L) (lsOf L) (allL L)
def worstL (L:List LinkD):Nat:=wst (fun p=>burd (usageL L p)) 8
def evictL (L:List LinkD):List LinkD:=L.eraseP fun l=>l.peer == worstL L
def roomN:Nat→List LinkD→List LinkD
 | 0,L=>L
 | n+1,L=>if fullL L then roomN n (evictL L) else L
def room (L:List LinkD):List LinkD:=roomN L.length L
theorem wst_max (B:Nat→Int):∀ k p,p < k→B p≤B (wst B k)
 | 0,p,h=>by omega
 | k+1,p,h=>by
  unfold wst
  by_cases hk:B k > B (wst B k)
  ·rw [if_pos hk]
   by_cases e:p=k
   ·rw [e];exact Int.le_refl _
   ·have:=wst_max B k p (by omega)
    omega
  ·rw [if_neg hk]
   by_cases e:p=k
   ·rw [e];omega
   ·exact wst_max B k p (by omega)
theorem usageL_mem {l:LinkD} (hl:l ∈ L):0 < (usageL L l.peer).2:=by
 unfold usageL
 simp only
 have:0 < (L.filter fun m=>m.peer == l.peer).length:=List.length_pos_of_mem (List.mem_filter.2 ⟨hl,by simp⟩)
 omega
theorem usageL_none {p:Nat} (h:¬ ∃ l ∈ L,l.peer=p):usageL L p=(0,0):=by
 have:(L.filter fun l=>l.peer == p)=[]:=List.filter_eq_nil_iff.2 fun l hl=>by
  have:l.peer≠p:=fun e=>h ⟨l,hl,e⟩
  simpa using this
 unfold usageL
 rw [this]
 rfl
theorem worst_has (h:GoodL n L) (hf:fullL L=true):∃ l ∈ L,l.peer=worstL L:=by
 cases L with
 | nil=>
  rw [show fullL []=false from rfl] at hf
  cases hf
 | cons a r=>
  refine Classical.byContradiction fun hn=>?_
  have h0:=usageL_none hn
  have h1:=usageL_mem (L:=a :: r) (l:=a) (by simp)
  have h2:burd (usageL (a :: r) a.peer)≤burd (usageL (a :: r) (wst (fun p=>burd (usageL (a :: r) p)) 8)):=wst_max (fun p=>burd (usageL (a :: r) p)) 8 a.peer (h.peer a (by simp))
  have h3:burd (usageL (a :: r) (worstL (a :: r)))=0:=by rw [h0];rfl
  unfold worstL at h3
  rw [h3] at h2
  unfold burd at h2
  omega
theorem evict_len (h:GoodL n L) (hf:fullL L=true):(evictL L).length+1=L.length:=by
 obtain ⟨l,hl,e⟩:=worst_has h hf
 unfold evictL
 rw [List.length_eraseP_of_mem hl (by simpa using e)]
 have:=List.length_pos_of_mem hl
 omega
theorem evict_sub (L:List LinkD):(evictL L).Sublist L:=List.eraseP_sublist
theorem room_full (h:GoodL n L) (hf:fullL L=true):room L=room (evictL L):=by
 have:=evict_len h hf
 unfold room
 rw [← this]
 show (if fullL L then roomN (evictL L).length (evictL L) else L)=_
 rw [if_pos hf]
theorem room_not (hf:fullL L=false):room L=L:=by
 unfold room
 cases h:L.length with
 | zero=>rfl
 | succ k=>
  show (if fullL L then _ else L)=L
  rw [hf]
  rfl
theorem room_sub (L:List LinkD):(room L).Sublist L:=by
 have key:∀ n L,(roomN n L).Sublist L:=by
  intro n
  induction n with
  | zero=>exact fun L=>List.Sublist.refl _
  | succ n ih=>
   intro L
   show (if fullL L then roomN n (evictL L) else L).Sublist L
   split
   ·exact (ih _).trans (evict_sub L)
   ·exact List.Sublist.refl _
 exact key _ L
theorem room_fine:∀ (k:Nat) (L:List LinkD),L.length=k→GoodL n L→fullL (room L)=false
 | 0,L,hk,h=>by
  obtain rfl:=List.eq_nil_of_length_eq_zero hk
  rfl
 | k+1,L,hk,h=>by
  cases hf:fullL L with
  | false=>rw [room_not hf];exact hf
  | true=>
   rw [room_full h hf]
   exact room_fine k (evictL L) (by have:=evict_len h hf;omega) (h.sub (evict_sub L))
theorem filter_first:∀ (ls:List LD) (q:LD→Bool) (i:Nat) (hi:i < ls.length),ls.Nodup→ls.findIdx? q=some i→ls.filter (fun e=>!decide (e=ls[i]))=ls.eraseP q
 | [],_,i,hi,_,_=>absurd hi (by simp)
 | a :: r,q,i,hi,hn,hf=>by
  obtain ⟨ha,hr⟩:=List.nodup_cons.1 hn
  cases hq:q a with
  | true=>
   have:i=0:=by
    rw [List.findIdx?_cons,hq] at hf
    simpa using hf.symm
   subst this
   rw [List.eraseP_cons_of_pos hq]
   simp only [List.getElem_cons_zero]
   rw [List.filter_cons_of_neg (by simp),List.filter_eq_self]
   intro x hx
   have:x≠a:=fun e=>ha (e▸hx)
   simpa using this
  | false=>
   rw [List.findIdx?_cons,hq] at hf
   simp only [Bool.false_eq_true,if_false] at hf
   obtain ⟨j,hj,rfl⟩:=Option.map_eq_some_iff.1 hf
   have hjr:j < r.length:=by simpa using hi
   have hne:a≠r[j]:=fun e=>ha (e▸List.getElem_mem hjr)
   rw [List.eraseP_cons_of_neg (by rw [hq];simp)]
   simp only [List.getElem_cons_succ]
   rw [List.filter_cons_of_pos (by simpa using hne),filter_first r q j hjr hr hj]
theorem lsOf_eraseP (q:LD→Bool):∀ (L:List LinkD),(lsOf L).eraseP q=lsOf (L.eraseP fun l=>q (ldOf l))
 | []=>rfl
 | a :: r=>by
  show (ldOf a :: lsOf r).eraseP q=_
  cases hq:q (ldOf a) with
  | true=>rw [List.eraseP_cons_of_pos hq,List.eraseP_cons_of_pos (p:=fun l=>q (ldOf l)) hq]
  | false=>
   rw [List.eraseP_cons_of_neg (by rw [hq];simp),List.eraseP_cons_of_neg (p:=fun l=>q (ldOf l)) (by simp [hq]),lsOf_eraseP q r]
   rfl
end Go.Proofs.YtlboemhbealnmaaGreat.Ho
namespace Go.Proofs.YtlboemhbealnmaaGreat.Ho
open Go.RowKit Go.Maps
variable {w w':World} {F:Nat→Prop} {R:Loc} {it:Option It} {ls:List LD} {M:UInt64→Option DeedD} {b:Nat} {ev:UInt64→Option Value} {v:Value} {L:List LinkD}
theorem info_link:(Tryz.prog.info? 136).map (fun i=>(i.zero,i.size,i.bytes))=some (some (.agg #[.int .i64 0,.int .u64 0]),2,16):=by kernel_rfl
theorem HomeAt.appended (h:HomeAt w F R none ls M b ev v) {x:LD} {g cap:Nat} {o:Obj} (hg:(w.alloc o).grownBy w' v.ownBlock) (ho:w'.ownsRow 0 136 2 (.slice (some ⟨g,0,none⟩) (ls.length+1) cap) (ls.length+1) (linksC ls ++ linkC x)) (hat:v.ownBlock=some g∨g=w.heap.size+1) :
  (w'.cell? ⟨R.b,28,none⟩=some v∧w'.frozen? ⟨R.b,28,none⟩=false∧R.b < w'.heap.size) ∧
   ∃ F',HomeAt (w'.setCell ⟨R.b,28,none⟩ (.slice (some ⟨g,0,none⟩) (ls.length+1) cap)) F' R none (ls ++ [x]) M b ev (.slice (some ⟨g,0,none⟩) (ls.length+1) cap)∧Turn F F' w (w'.setCell ⟨R.b,28,none⟩ (.slice (some ⟨g,0,none⟩) (ls.length+1) cap)):=by
 have ht:Turn (fun k=>v.ownBlock=some k) (fun k=>v.ownBlock=some k) w w':=(Turn.of_below (kept_new w o)).trans (Turn.of_grown hg (fun k hk=>hk))
 have ho':OwnLinks w' (.slice (some ⟨g,0,none⟩) (ls.length+1) cap) (ls ++ [x]):=by
  unfold OwnLinks
  rw [List.length_append,linksC_append]
  have:linksC [x]=linkC x:=by simp [linksC]
  rw [this]
  exact ho
 obtain ⟨h2,t2⟩:=h.setLinks (fun k hk=>hk) ht ho' (fun k hk=>by
  have hk:g=k:=by simpa [Value.ownBlock] using hk
  rcases hat with h1 | h1
  ·exact .inl (by rw [← hk];exact h1)
  ·exact .inr (by omega))
 have hR:=ht.block R.b h.lt (fun hk=>(h.b_ne hk).1 rfl)
 exact ⟨⟨(World.cell?_of_block (a:=⟨R.b,28,none⟩) hR).trans h.linkc.1,(World.frozen?_of_block (a:=⟨R.b,28,none⟩) hR).trans h.linkc.2,Nat.lt_of_lt_of_le h.lt ht.size⟩,_,h2,t2⟩
def HomeL (w:World) (F:Nat→Prop) (R:Loc) (L:List LinkD):Prop:=∃ b ev v,HomeAt w F R none (lsOf L) (deedOf L) b ev v
def BoxIs (n:Nat) (a:Option Addr) (cap:Nat) (d:DeedD) (w:World):Prop:=w.heap[n]?=some (.cells #[.slice a d.ins.length cap,.int .i64 d.outs,.int .i64 d.weight,.int .i64 d.fee] 94 (0,0))
theorem boxIs_cells {n:Nat} {a:Option Addr} {cap:Nat} {d:DeedD} (h:BoxIs n a cap d w):w.cell? ⟨n,0,none⟩=some (.slice a d.ins.length cap)∧w.cell? ⟨n,1,none⟩=some (.int .i64 d.outs)∧w.cell? ⟨n,2,none⟩=some (.int .i64 d.weight)∧w.cell? ⟨n,3,none⟩=some (.int .i64 d.fee)∧n < w.heap.size:=
 ⟨head_cell h 0,head_cell h 1,head_cell h 2,head_cell h 3,(cell_spot (head_cell h 0)).2⟩
theorem boxIs_kept {n:Nat} {a:Option Addr} {cap:Nat} {d:DeedD} (h:BoxIs n a cap d w) (hb:Below w.heap.size w w'):BoxIs n a cap d w':=(hb.block n (boxIs_cells h).2.2.2.2).trans h
def lenAt (w:World) (R:Loc):Nat:=match w.cell? ⟨R.b,28,none⟩ with | some (.slice _ n _)=>n | _=>0
theorem HomeL.lenAt (h:HomeL w F R L):lenAt w R=L.length:=by
 obtain ⟨b,ev,v,h⟩:=h
 obtain ⟨a,cap,rfl,_,_⟩:=h.linkForm
 unfold Go.Proofs.YtlboemhbealnmaaGreat.Ho.lenAt
 rw [h.linkc.1]
 exact lsOf_len L
def newL (L:List LinkD) (p:Nat) (x:UInt64) (d:DeedD):List LinkD:=L ++ [⟨p,x,(deedOf L x).getD d⟩]
theorem deedOf_new (p:Nat) (x:UInt64) (d:DeedD) (y:UInt64):deedOf (newL L p x d) y=if (deedOf L x).isSome then deedOf L y else upd (deedOf L) x (some d) y:=by
 unfold newL
 cases hy:deedOf L y with
 | some e=>
  have h1:deedOf (L ++ [⟨p,x,(deedOf L x).getD d⟩]) y=some e:=by
   unfold deedOf at hy ⊢
   obtain ⟨l,hl,rfl⟩:=Option.map_eq_some_iff.1 hy
   rw [List.find?_append,hl]
   rfl
  rw [h1]
  split
  ·rfl
  ·rename_i hx
   by_cases e':y=x
   ·rw [← e',hy] at hx
    exact absurd rfl hx
   ·rw [upd_other _ _ e',hy]
 | none=>
  have h0:(L.find? fun l=>l.id == y)=none:=by
   unfold deedOf at hy
   exact Option.map_eq_none_iff.1 hy
  have h1:deedOf (L ++ [⟨p,x,(deedOf L x).getD d⟩]) y=if x=y then some ((deedOf L x).getD d) else none:=by
   show ((L ++ [(⟨p,x,(deedOf L x).getD d⟩:LinkD)]).find? fun l:LinkD=>l.id == y).map (fun l:LinkD=>l.d)=_
   rw [List.find?_append,h0]
   by_cases e:x=y
   ·rw [if_pos e]
    simp [e]
   ·rw [if_neg e]
    simp [e]
  rw [h1]
  by_cases e:x=y
  ·subst e
   rw [hy,if_pos rfl,upd_same]
   simp
  ·rw [if_neg e]
   split
   ·rfl
   ·rw [upd_other _ _ (fun e'=>e e'.symm),hy]
theorem newL_good {p:Nat} {x:UInt64} {d:DeedD} (h:GoodL 24 L) (hp:p < 8) (hd:checkD d=0) (ht:¬ ∃ l ∈ L,l.peer=p∧l.id=x):GoodL 25 (newL L p x d) where
 len:=by unfold newL;have:=h.len;simp;omega
 peer:=fun l hl=>by
  rcases List.mem_append.1 hl with hl | hl
  ·exact h.peer l hl
  ·rw [List.mem_singleton.1 hl];exact hp
 fine:=fun l hl=>by
  rcases List.mem_append.1 hl with hl | hl
  ·exact h.fine l hl
  ·rw [List.mem_singleton.1 hl]
   show checkD ((deedOf L x).getD d)=0
   cases hx:deedOf L x with
   | none=>exact hd
   | some e=>
    obtain ⟨m,hm,_,rfl⟩:=deedOf_some hx
    exact h.fine m hm
 one:=fun l hl m hm e=>by
  have key:∀ l ∈ L,l.id=x→l.d=(deedOf L x).getD d:=fun l hl e=>by
   rw [← e,deedOf_mem h hl]
   rfl
  rcases List.mem_append.1 hl with hl | hl
  ·rcases List.mem_append.1 hm with hm | hm
   ·exact h.one l hl m hm e
   ·rw [List.mem_singleton.1 hm] at e ⊢
    exact key l hl e
  ·rcases List.mem_append.1 hm with hm | hm
   ·rw [List.mem_singleton.1 hl] at e ⊢
    exact (key m hm e.symm).symm
   ·rw [List.mem_singleton.1 hl,List.mem_singleton.1 hm]
 nodup:=by
  unfold newL lsOf
  rw [List.map_append]
  refine List.nodup_append.2 ⟨h.nodup,by simp,?_⟩
  intro u hu y hy e
  obtain ⟨l,hl,rfl⟩:=List.mem_map.1 hu
  simp only [List.map_cons,List.map_nil,List.mem_singleton] at hy
  rw [hy] at e
  simp only [ldOf,LD.mk.injEq] at e
  exact ht ⟨l,hl,e⟩
end Go.Proofs.YtlboemhbealnmaaGreat.Ho
namespace Go.Proofs.YtlboemhbealnmaaGreat.Ho
open Go.RowKit Go.Maps
variable {w w':World} {F:Nat→Prop} {R:Loc} {L:List LinkD}
theorem add_arg (p:Int) (hp:¬ goodP p) (x:UInt64) (d:DeedD) (a:Option Addr) (cap:Nat) (w:World) :
  Calls Tryz.prog 168 #[.pointer (some ⟨R.b,27,none⟩),.int .i64 p,.int .u64 x.toNat,.agg #[.slice a d.ins.length cap,.int .i64 d.outs,.int .i64 d.weight,.int .i64 d.fee]] w fun e w'=>e=.returned (.tuple #[.bool false,.int .i64 1])∧Below w.heap.size w w':=by
 have HP:=Lib.hid hp
 clear hp
 go_enter Tryz.func168,Tryz.ntmps168
 go_wp2_with fail
 with_reducible refine (isPeer_no p HP.out _).mono ?_
 rintro e w1 ⟨rfl,rfl⟩
 go_wp2_with fail
 go_ret2
 exact ⟨rfl,kept_new _ _⟩
theorem add_check (p:Nat) (hp:p < 8) (x:UInt64) (d:DeedD) (r:Int) (hr:checkD d=r) (hr0:r≠0) (a:Option Addr) (cap:Nat) (w:World) (hi:InsAt w a d.ins) :
  Calls Tryz.prog 168 #[.pointer (some ⟨R.b,27,none⟩),.int .i64 p,.int .u64 x.toNat,.agg #[.slice a d.ins.length cap,.int .i64 d.outs,.int .i64 d.weight,.int .i64 d.fee]] w fun e w'=>e=.returned (.tuple #[.bool false,.int .i64 r])∧Below w.heap.size w w':=by
 have hk:=kept_new w (.cells #[.slice a d.ins.length cap,.int .i64 d.outs,.int .i64 d.weight,.int .i64 d.fee] 94)
 have HI:=Lib.hid (insAt_kept hk hi)
 have HR:=Lib.hid hr
 have hne:(r != 0)=true:=bne_iff_ne.2 hr0
 clear hi hr
 go_enter Tryz.func168,Tryz.ntmps168
 go_wp2_with fail
 with_reducible refine (isPeer_yes p p rfl hp _).mono ?_
 rintro e w1 ⟨rfl,rfl⟩
 go_wp2_with fail
 with_reducible refine (check_is d a cap _ r HI.out HR.out).mono ?_
 rintro e w1 ⟨rfl,hb1⟩
 go_wp2_with fail
 go_ret2
 exact ⟨rfl,kept_trans hk hb1⟩
set_option maxRecDepth 20000 in
theorem add_twice (p:Nat) (hp:p < 8) (x:UInt64) (d:DeedD) (hd:checkD d=0) (ht:∃ l ∈ L,l.peer=p∧l.id=x) (a:Option Addr) (cap:Nat) (w:World) (hi:InsAt w a d.ins) (h:HomeL w F R L) (hg:GoodL 24 L) :
  Calls Tryz.prog 168 #[.pointer (some ⟨R.b,27,none⟩),.int .i64 p,.int .u64 x.toNat,.agg #[.slice a d.ins.length cap,.int .i64 d.outs,.int .i64 d.weight,.int .i64 d.fee]] w fun e w'=>e=.returned (.tuple #[.bool false,.int .i64 6])∧Below w.heap.size w w':=by
 obtain ⟨b,ev,v,h⟩:=h
 have hk:=kept_new w (.cells #[.slice a d.ins.length cap,.int .i64 d.outs,.int .i64 d.weight,.int .i64 d.fee] 94)
 have HI:=Lib.hid (insAt_kept hk hi)
 have HD:=Lib.hid hd
 have HK:=Lib.hid hk
 have H:=Lib.hid (h.kept hk)
 have HL:Hid ((lsOf L).length≤1000):=Lib.hid (by rw [lsOf_len];have:=hg.len;omega)
 have HT:Hid ((lsOf L).any (fun y=>decide ((⟨p,x⟩:LD)=y))=true):=Lib.hid (by
  obtain ⟨l,hl,rfl,rfl⟩:=ht
  rw [List.any_eq_true]
  exact ⟨ldOf l,List.mem_map_of_mem hl,by simp [ldOf]⟩)
 clear hi hd hk h hg ht
 go_enter Tryz.func168,Tryz.ntmps168
 go_wp2_with fail
 with_reducible refine (isPeer_yes p p rfl hp _).mono ?_
 rintro e w1 ⟨rfl,rfl⟩
 go_wp2_with fail
 with_reducible refine (check_is d a cap _ 0 HI.out HD.out).mono ?_
 rintro e w1 ⟨rfl,hb1⟩
 obtain ⟨wd,hwd⟩:∃ wd,(w1.alloc (.cells #[.int .i64 p,.int .u64 x.toNat] 136)).drew=wd:=⟨_,rfl⟩
 have hbd:Below w1.heap.size w1 wd:=hwd▸(kept_new _ _).drew
 have HH:=H.out.kept (kept_trans hb1 hbd)
 obtain ⟨la,lcap,rfl,_,hat⟩:=HH.linkForm
 have hlc:=HH.linkc.1
 have hlt:=HH.lt
 have d0:wd.cell? ⟨w1.heap.size,0,none⟩=some (.int .i64 p):=by rw [← hwd];show (w1.alloc _).cell? _=_;simp [go_sem]
 have d1:wd.cell? ⟨w1.heap.size,1,none⟩=some (.int .u64 x.toNat):=by rw [← hwd];show (w1.alloc _).cell? _=_;simp [go_sem]
 have hs1:=(cell_spot d0).2
 have HWD:=Lib.hid hwd
 have HAT:=Lib.hid hat
 have HB:=Lib.hid (kept_trans HK.out (kept_trans hb1 hbd))
 clear hwd hat HH hbd hb1
 go_wp2_with fail
 refine region_tail 5 (by kernel_rfl) (by kernel_rfl) HWD.out ?_
 simp only [List.take_succ_cons,List.take_zero,List.drop_succ_cons,List.drop_zero]
 repeat still_step
 refine wpStill_nil ?_
 go_wp2_with fail
 with_reducible refine (linkHas_any ⟨p,x⟩ (lsOf L) la lcap _ HL.out HAT.out).mono ?_
 rintro e w2 ⟨rfl,hb2⟩
 rw [HT.out]
 go_wp2_with fail
 go_ret2
 exact ⟨rfl,kept_trans HB.out hb2⟩
end Go.Proofs.YtlboemhbealnmaaGreat.Ho
