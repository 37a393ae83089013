import Derived.Test.YtlboemhbealnmaaGreatP28
set_option maxRecDepth 20000
namespace Go.Proofs.YtlboemhbealnmaaGreat
open Go.RowKit Go.Maps
variable {w w':World} {F:Nat→Prop} {R:Nat} {s:NS}
theorem NodeIs.store {cs:Array Value} {FT FH FJ FW FQ:Nat→Prop} {a z:Nat} (h:NodeIs w F R s cs FT FH FJ FW FQ a z) (i:Nat) (hi:i < 17) (u:Value) (s':NS) (hT:s'.T=s.T) (hP:s'.P=s.P) (hA:s'.A=s.A) (hW:s'.W=s.W) (hQ:s'.Q=s.Q) (hS:s'.salt=s.salt) (hg:NGood s')
  (hp:∀ p,p < 8→(cs.setIfInBounds i u)[2 * p]?=some (.bool (s'.peers p).1)∧(cs.setIfInBounds i u)[2 * p+1]?=some (.bool (s'.peers p).2)) (hn:(cs.setIfInBounds i u)[16]?=some (.int .i64 s'.now)) :
  NodeIs (w.setCell ⟨R,i,none⟩ u) F R s' (cs.setIfInBounds i u) FT FH FJ FW FQ a z:=by
 have hset:∀ k,k≠R→(w.setCell ⟨R,i,none⟩ u).heap[k]?=w.heap[k]?:=fun k hk=>Below.heap_setCell w ⟨R,i,none⟩ u k hk
 have hsz:(w.setCell ⟨R,i,none⟩ u).heap.size=w.heap.size:=World.size_setCell ..
 have hc:Cells (w.setCell ⟨R,i,none⟩ u) R (cs.setIfInBounds i u):=heap_setCell_same w R i _ _ u h.head
 have hs:(cs.setIfInBounds i u).size=34:=by rw [Array.size_setIfInBounds];exact h.size
 have ho:∀ j,17≤j→(cs.setIfInBounds i u)[j]?=cs[j]?:=fun j hj=>Array.getElem?_setIfInBounds_ne (by omega)
 have hb:∀ {G:Nat→Prop},But G R w (w.setCell ⟨R,i,none⟩ u):=⟨by rw [hsz];exact Nat.le_refl _,fun k _ _ hk=>hset k hk⟩
 have hR:FT R:=h.T.block
 exact {
  head:=hc
  size:=hs
  peers:=hp
  now:=hn
  T:=by rw [hS,hT];exact TL_again h.T h.head hc hs (fun j h1 _=>ho j h1) hb
  P:=by rw [hP];exact HL_again h.P h.head hc hs (fun j h1 _=>ho j (by omega)) hb
  A:=by rw [hA];exact LedL_again h.A h.head hc hs (fun j h1 _=>ho j (by omega)) hb
  cW:=(ho 32 (by omega)).trans h.cW
  cQ:=(ho 33 (by omega)).trans h.cQ
  W:=by rw [hW];exact Ri.ringAt_same h.W (fun k _ hf=>hset k (fun e=>h.tw R hR (e▸hf))) (by rw [hsz];exact Nat.le_refl _)
  Q:=by rw [hQ];exact Ri.ringAt_same h.Q (fun k _ hf=>hset k (fun e=>h.tq R hR (e▸hf))) (by rw [hsz];exact Nat.le_refl _)
  good:=hg
  th:=h.th
  tj:=h.tj
  hj:=h.hj
  tw:=h.tw
  hw:=h.hw
  jw:=h.jw
  tq:=h.tq
  hq:=h.hq
  jq:=h.jq
  wq:=h.wq
  all:=h.all }
theorem NodeAt.setNow (h:NodeAt w F R s) (t:Int) (ht:0≤t∧t≤1099511627776):NodeAt (w.setCell ⟨R,16,none⟩ (.int .i64 t)) F R { s with now:=t }∧Turn F F w (w.setCell ⟨R,16,none⟩ (.int .i64 t)):=by
 have hR:=h.block
 obtain ⟨cs,FT,FH,FJ,FW,FQ,a,z,h⟩:=h
 refine ⟨⟨_,FT,FH,FJ,FW,FQ,a,z,h.store 16 (by omega) (.int .i64 t) { s with now:=t } rfl rfl rfl rfl rfl rfl { h.good with now:=ht } (fun p hp=>?_) ?_⟩,Turn.set w ⟨R,16,none⟩ _ hR⟩
 ·rw [Array.getElem?_setIfInBounds_ne (by omega),Array.getElem?_setIfInBounds_ne (by omega)]
  exact h.peers p hp
 ·rw [Array.getElem?_setIfInBounds_self_of_lt (by rw [h.size];omega)]
def NS.setPeer (s:NS) (p:Nat) (b:Bool × Bool):NS:={ s with peers:=fun q=>if q=p then b else s.peers q }
theorem NodeAt.setPeer2 (h:NodeAt w F R s) (p:Nat) (hp:p < 8) (b c:Bool):NodeAt ((w.setCell ⟨R,2 * p,none⟩ (.bool b)).setCell ⟨R,2 * p+1,none⟩ (.bool c)) F R (s.setPeer p (b,c))∧Turn F F w ((w.setCell ⟨R,2 * p,none⟩ (.bool b)).setCell ⟨R,2 * p+1,none⟩ (.bool c)):=by
 have hR:=h.block
 obtain ⟨cs,FT,FH,FJ,FW,FQ,a,z,h⟩:=h
 have h1:=h.store (2 * p) (by omega) (.bool b) (s.setPeer p (b,(s.peers p).2)) rfl rfl rfl rfl rfl rfl { h.good with } (fun q hq=>by
  by_cases e:q=p
  ·subst e
   refine ⟨?_,?_⟩
   ·rw [Array.getElem?_setIfInBounds_self_of_lt (by rw [h.size];omega)]
    simp [NS.setPeer]
   ·rw [Array.getElem?_setIfInBounds_ne (by omega),(h.peers q hq).2]
    simp [NS.setPeer]
  ·refine ⟨?_,?_⟩
   ·rw [Array.getElem?_setIfInBounds_ne (by omega)]
    simp only [NS.setPeer,if_neg e]
    exact (h.peers q hq).1
   ·rw [Array.getElem?_setIfInBounds_ne (by omega)]
    simp only [NS.setPeer,if_neg e]
    exact (h.peers q hq).2) (by rw [Array.getElem?_setIfInBounds_ne (by omega)];exact h.now)
 have h2:=h1.store (2 * p+1) (by omega) (.bool c) (s.setPeer p (b,c)) rfl rfl rfl rfl rfl rfl { h.good with } (fun q hq=>by
  by_cases e:q=p
  ·subst e
   refine ⟨?_,?_⟩
   ·rw [Array.getElem?_setIfInBounds_ne (by omega),(h1.peers q hq).1]
    simp [NS.setPeer]
   ·rw [Array.getElem?_setIfInBounds_self_of_lt (by rw [h1.size];omega)]
    simp [NS.setPeer]
  ·have k:=h1.peers q hq
   simp only [NS.setPeer,if_neg e] at k ⊢
   refine ⟨?_,?_⟩
   ·rw [Array.getElem?_setIfInBounds_ne (by omega)]
    exact k.1
   ·rw [Array.getElem?_setIfInBounds_ne (by omega)]
    exact k.2) (by rw [Array.getElem?_setIfInBounds_ne (by omega)];exact h1.now)
 exact ⟨⟨_,FT,FH,FJ,FW,FQ,a,z,h2⟩,(Turn.set w ⟨R,2 * p,none⟩ _ hR).trans (Turn.set _ ⟨R,2 * p+1,none⟩ _ hR)⟩
theorem NodeAt.setPeer (h:NodeAt w F R s) (p:Nat) (hp:p < 8) (b c:Bool):NodeAt ((w.setCell ⟨R,p * 2,none⟩ (.bool b)).setCell ⟨R,p * 2+1,none⟩ (.bool c)) F R (s.setPeer p (b,c))∧Turn F F w ((w.setCell ⟨R,p * 2,none⟩ (.bool b)).setCell ⟨R,p * 2+1,none⟩ (.bool c)):=by
 rw [Nat.mul_comm p 2]
 exact h.setPeer2 p hp b c
def flies (T:List Tr.TEnt) (p:Nat):Nat:=(T.filter fun e=>e.peer == p && e.st == 2).length
def AskedN (w:World) (F:Nat→Prop) (R:Nat) (s':NS) (l:List UInt64) (e:Ending) (w':World):Prop:=
 ∃ a cap,e=.returned (.slice a l.length cap)∧IdsAt w' a l∧∃ F',NodeAt w' F' R s'∧Turn F F' w w'∧∀ bb o,l≠[]→a=some ⟨bb,o,none⟩→¬ F' bb
theorem idsAt_some {a:Option Addr} {l:List UInt64} (h:IdsAt w a l) (n:Nat):IdsAt w a (l.take n):=fun i hi=>by
 have h2:i < l.length:=by rw [List.length_take] at hi;omega
 obtain ⟨b,o,e,hb,hc⟩:=h i h2
 refine ⟨b,o,e,hb,?_⟩
 rw [List.getElem_take]
 exact hc
theorem next_len (L:List Tr.TEnt) (h:Tr.Good L) (salt:UInt64) (p:Nat) (hp:p < 8):((Tr.idsOf L p).filter ((Tr.ofL salt L).isNext p)).length≤20:=by
 refine Nat.le_trans (List.length_filter_le _ _) ?_
 unfold Tr.idsOf
 rw [List.length_map]
 exact h.few p hp
set_option maxRecDepth 20000 in
set_option maxHeartbeats 2000000 in
theorem request_any (p:Nat) (hp:p < 8) (hf:flies s.T p≤4) (l:List UInt64) (hl:s.asks p=l) (w:World) (h:NodeAt w F R s):Calls Tryz.prog 54 #[.pointer (some ⟨R,0,none⟩),.int .i64 p] w (AskedN w F R (s.request p) l):=by
 have H:=Lib.hid h
 have l0:=h.lt
 obtain ⟨m,hm⟩:∃ m,(Tr.idsOf s.T p).filter ((Tr.ofL s.salt s.T).isNext p)=m:=⟨_,rfl⟩
 obtain ⟨c,hc⟩:∃ c:Nat,(s.T.filter fun e=>e.peer == p).length=c:=⟨_,rfl⟩
 obtain ⟨f,hff⟩:∃ f,flies s.T p=f:=⟨_,rfl⟩
 rw [hff] at hf
 have hml:m.length≤20:=hm▸next_len s.T h.good.T s.salt p hp
 have HL:Hid (m.take (4 - f)=l):=Lib.hid (by rw [← hl,← hm,← hff];rfl)
 have HRQ:Hid (s.request p=l.foldl (fun s x=>{ s with T:=(Tr.askC s.T p x (s.later 10)).2 }) s):=Lib.hid (by rw [← hl];rfl)
 have HM:=Lib.hid hm
 have HC:Hid ((if Tr.goodP (p:Int) then (((s.T.filter fun e=>e.peer == (p:Int).toNat).length:Int),((s.T.filter fun e=>e.peer == (p:Int).toNat && e.st == 2).length:Int),(0:Int)) else (0,0,1))=((c:Int),(f:Int),(0:Int))):=Lib.hid (by
  rw [if_pos ⟨by omega,by omega⟩,Int.toNat_natCast,hc]
  have:(s.T.filter fun e=>e.peer == p && e.st == 2).length=f:=hff
  rw [this])
 have hll:l.length=min (4 - f) m.length:=by rw [← HL.out,List.length_take]
 have hth:=h.there
 have HTH:=Lib.hid hth
 clear h hm hc hff hl hth
 go_enter Tryz.func54,Tryz.ntmps54
 go_wp2_with fail
 with_reducible refine (n_next p hp _ H.out).mono ?_
 rintro e w1 ⟨⟨a1,c1,rfl,hc1,hi1,hf1⟩,hb1⟩
 rw [HM.out] at hc1 hi1 ⊢
 have H1:=Lib.hid (H.out.kept hb1)
 have HI1:=Lib.hid hi1
 have HF1:=Lib.hid hf1
 have HB1:=Lib.hid hb1
 have l1:=H1.out.lt
 clear hi1 hf1 hb1
 go_wp2_with fail
 with_reducible refine (n_counts p c f 0 HC.out _ H1.out).mono ?_
 rintro e w2 ⟨rfl,hb2⟩
 have H2:=Lib.hid (H1.out.kept hb2)
 have HI2:Hid (IdsAt w2 a1 l):=Lib.hid (by rw [← HL.out];exact idsAt_some (idsAt_kept hb2 HI1.out) _)
 have HB2:=Lib.hid (kept_trans HB1.out hb2)
 have HO2:Hid (∀ bb o,l≠[]→a1=some ⟨bb,o,none⟩→¬ F bb):=Lib.hid fun bb o _ h2 hf=>by have h3:=HTH.out bb hf;have h4:=HF1.out bb o none h2;omega
 clear hb2
 have HLL:=Lib.hid hll
 clear hll
 by_cases hmin:(4:Int) - f < m.length
 case' pos=>
  have e2:((4:Int) - f).toNat=l.length:=by have:=HLL.out;omega
  have e3:(4:Int) - f=(l.length:Int):=by have:=HLL.out;omega
  have e4:(l.length:Int)≤c1:=by have:=HLL.out;omega
  rw [e3] at hmin
  go_wp2_with fail
 case' neg=>
  have e1:m.length=l.length:=by have:=HLL.out;omega
  go_wp2_with fail
 all_goals
  have hll:l.length≤20:=by have:=HLL.out;omega
  go_loopw [38] (fun i wr=>∃ (k:Nat) (F':Nat→Prop) (u:NS),k≤l.length∧i=.int .i64 k∧Hid (NodeAt wr F' R u)∧Hid (Turn F F' w wr)∧Hid ((l.drop k).foldl (fun s x=>{ s with T:=(Tr.askC s.T p x (s.later 10)).2 }) u=s.request p)∧Hid (IdsAt wr a1 l)∧Hid (∀ bb o,l≠[]→a1=some ⟨bb,o,none⟩→¬ F' bb)) (fun i _=>l.length - (intOf i).toNat)
  case atStart=>exact ⟨0,F,s,Nat.zero_le _,rfl,H2,Lib.hid (Turn.of_below HB2.out),Lib.hid HRQ.out.symm,HI2,HO2⟩
  case round=>
   obtain ⟨k,F4,u,hk,rfl,H4,HT4,HFO,HM4,HMO4⟩:=hrel
   by_cases hkl:k < l.length
   ·obtain ⟨g,o,rfl,hg,hc2⟩:=HM4.out k hkl
    obtain ⟨y,hy⟩:∃ y,l[k]=y:=⟨_,rfl⟩
    rw [hy] at hc2
    have HFN:Hid ((l.drop (k+1)).foldl (fun s x=>{ s with T:=(Tr.askC s.T p x (s.later 10)).2 }) ({ u with T:=(Tr.askC u.T p y (u.later 10)).2 }:NS)=s.request p):=Lib.hid (by rw [← HFO.out,List.drop_eq_getElem_cons hkl,List.foldl_cons,hy])
    have l4:=H4.out.lt
    have l5:g < wr.heap.size:=hg
    have HD4:=Lib.hid (H4.out.kept ((Below.refl wr.heap.size wr).drew))
    have HTD:Hid (Turn F F4 w wr.drew):=Lib.hid (HT4.out.trans (Turn.of_below ((Below.refl wr.heap.size wr).drew)))
    have HMD:Hid (IdsAt wr.drew (some ⟨g,o,none⟩) l):=Lib.hid (idsAt_kept ((Below.refl wr.heap.size wr).drew) HM4.out)
    have l6:=HD4.out.lt
    clear hy
    go_wp2_with fail
    go_region_law (first
     | (go_simp;go_at_call 90;(with_reducible refine (later10 _ rfl _ HD4.out).mono ?_);rintro e w6 ⟨rfl,rfl⟩)
     | (go_simp;go_at_call 108;(with_reducible refine (n_ask p y (u.later 10) _ HD4.out).mono ?_);rintro e w7 ⟨rfl,F7,h7,t7⟩;obtain ⟨hm7,hmo7⟩:=out_own HMD.out t7 HMO4.out;have H7:=Lib.hid h7;have T7:=Lib.hid (HTD.out.trans t7);have HM7:=Lib.hid hm7;have HMO7:=Lib.hid hmo7;clear h7 t7 hm7 hmo7))
    all_goals
     go_wp2_with fail
     go_roundw
     case rel=>exact ⟨k+1,F7,_,by omega,by go_num,H7,T7,HFN,HM7,HMO7⟩
     case measure=>simp [intOf];omega
   ·have he:l.drop k=[]:=List.drop_eq_nil_of_le (by omega)
    have HU:Hid (u=s.request p):=Lib.hid (by have:=HFO.out;rw [he] at this;exact this)
    go_wp2_with fail
    go_ret
    rw [← HU.out]
    exact ⟨a1,_,rfl,HM4.out,F4,H4.out,HT4.out,HMO4.out⟩
end Go.Proofs.YtlboemhbealnmaaGreat
namespace Go.Proofs.YtlboemhbealnmaaGreat
open Go.RowKit Go.Maps
variable {w w':World} {F:Nat→Prop} {R:Nat} {s:NS}
def Fly (s:NS):Prop:=∀ p,p < 8→flies s.T p≤4
theorem flies_map {T:List Tr.TEnt} {f:Tr.TEnt→Tr.TEnt} (p:Nat) (h:∀ e ∈ T,((f e).peer == p && (f e).st == 2)=true→(e.peer == p && e.st == 2)=true):flies (T.map f) p≤flies T p:=by
 unfold flies
 induction T with
 | nil=>simp
 | cons e r ih=>
  have h1:=ih (fun x hx=>h x (List.mem_cons_of_mem _ hx))
  have h2:=h e List.mem_cons_self
  rw [List.map_cons,List.filter_cons,List.filter_cons]
  by_cases hf:((f e).peer == p && (f e).st == 2)=true
  ·rw [if_pos hf,if_pos (h2 hf)]
   simp only [List.length_cons]
   omega
  ·rw [if_neg hf]
   split
   ·simp only [List.length_cons]
    omega
   ·exact h1
theorem flies_sub {T T':List Tr.TEnt} (h:T'.Sublist T) (p:Nat):flies T' p≤flies T p:=(h.filter _).length_le
theorem flies_settle (T:List Tr.TEnt) (p:Nat):flies (Tr.settleL T) p≤flies T p:=flies_sub List.filter_sublist p
theorem flies_due (T:List Tr.TEnt) (now:Int) (p:Nat):flies (Tr.dueL now T) p≤flies T p:=by
 unfold Tr.dueL
 refine Nat.le_trans (flies_settle _ p) (flies_map p fun e _ h=>?_)
 unfold Tr.dueE at h
 simp only [Bool.and_eq_true,beq_iff_eq] at h ⊢
 split at h
 ·split at h
  ·simp only at h
   omega
  ·split at h
   ·simp only at h
    omega
   ·exact h
 ·exact h
theorem flies_one {T:List Tr.TEnt} (hn:T.Pairwise fun a b=>¬ (a.peer=b.peer∧a.id=b.id)) (p:Nat) (x:UInt64) (t:Int) (q:Nat):flies (T.map (Tr.askE p x t)) q≤flies T q+(if q=p then 1 else 0):=by
 unfold flies
 induction T with
 | nil=>simp
 | cons e r ih=>
  obtain ⟨h1,h2⟩:=List.pairwise_cons.1 hn
  rw [List.map_cons,List.filter_cons,List.filter_cons]
  by_cases he:Tr.isE p x e=true
  ·have hr:r.map (Tr.askE p x t)=r:=by
    conv=>rhs;rw [← List.map_id r]
    refine List.map_congr_left fun y hy=>?_
    unfold Tr.askE
    rw [if_neg]
    ·rfl
    ·intro hh
     unfold Tr.isE at he hh
     simp only [Bool.and_eq_true,beq_iff_eq] at he hh
     exact h1 y hy ⟨he.1.trans hh.1.symm,he.2.trans hh.2.symm⟩
   rw [hr]
   have ep:e.peer=p:=by
    unfold Tr.isE at he
    simp only [Bool.and_eq_true,beq_iff_eq] at he
    exact he.1
   have ea:Tr.askE p x t e={ e with st:=2,till:=t }:=by unfold Tr.askE;rw [if_pos he]
   rw [ea]
   by_cases hq:q=p
   ·rw [if_pos hq]
    split <;> split <;> simp <;> omega
   ·rw [if_neg hq]
    have:¬ (e.peer == q)=true:=by simpa using fun h=>hq (h.symm.trans ep)
    simp [this]
  ·have ea:Tr.askE p x t e=e:=by unfold Tr.askE;rw [if_neg he]
   rw [ea]
   have:=ih h2
   split
   ·simp only [List.length_cons]
    omega
   ·exact this
theorem flies_ask {T:List Tr.TEnt} (hg:Tr.Good T) (p:Nat) (x:UInt64) (t:Int) (q:Nat):flies (Tr.askC T p x t).2 q≤flies T q+(if q=p then 1 else 0):=by
 unfold Tr.askC
 split
 ·unfold Tr.askL
  rw [Int.toNat_natCast]
  by_cases h1:T.any (Tr.isE p x)=true
  ·rw [if_pos h1]
   by_cases h2:Tr.mayAsk T p x=true
   ·rw [if_pos h2]
    exact flies_one hg.nodup p x t q
   ·rw [if_neg h2]
    exact Nat.le_add_right _ _
  ·rw [if_neg h1]
   exact Nat.le_add_right _ _
 ·exact Nat.le_add_right _ _
theorem askC_good {T:List Tr.TEnt} (hg:Tr.Good T) (p:Nat) (x:UInt64) (t:Int):Tr.Good (Tr.askC T p x t).2:=by
 unfold Tr.askC
 split
 ·exact Tr.good_ask hg _ x t
 ·exact hg
theorem flies_asks (p q:Nat):∀ (l:List UInt64) (u:NS),Tr.Good u.T→flies (l.foldl (fun s x=>{ s with T:=(Tr.askC s.T p x (s.later 10)).2 }) u).T q≤flies u.T q+(if q=p then l.length else 0)
 | [],u,_=>Nat.le_add_right _ _
 | x :: r,u,hg=>by
  rw [List.foldl_cons]
  have h1:=flies_asks p q r { u with T:=(Tr.askC u.T p x (u.later 10)).2 } (askC_good hg p x _)
  have h2:=flies_ask hg p x (u.later 10) q
  simp only at h1
  split
  ·rename_i e
   rw [if_pos e] at h1 h2
   simp only [List.length_cons]
   omega
  ·rename_i e
   rw [if_neg e] at h1 h2
   omega
theorem fly_request (h:Fly s) (hg:Tr.Good s.T) (p:Nat):Fly (s.request p):=fun q hq=>by
 have h1:=flies_asks p q (s.asks p) s hg
 have h2:=h q hq
 unfold NS.request
 split at h1
 ·rename_i e
  have h3:(s.asks p).length≤4 - flies s.T p:=by unfold NS.asks;rw [List.length_take];exact Nat.min_le_left _ _
  rw [e] at h1 h2 ⊢
  omega
 ·omega
end Go.Proofs.YtlboemhbealnmaaGreat
namespace Go.Proofs.YtlboemhbealnmaaGreat
open Go.RowKit Go.Maps
variable {w w':World} {F:Nat→Prop} {R:Nat} {s:NS}
def NS.pass (s:NS) (k:Int):NS × List OutD × Int:=
 if k < 0∨k > 1099511627776 - s.now then (s,[],1)
 else ((({ s with now:=s.now+k,T:=Tr.dueL (s.now+k) s.T }:NS).wait 8).1,(({ s with now:=s.now+k,T:=Tr.dueL (s.now+k) s.T }:NS).wait 8).2,0)
theorem wait_len (u:NS):∀ k,(u.wait k).2.length≤k
 | 0=>by simp [NS.wait]
 | k+1=>by
  have h1:=wait_len u k
  have h2:=message_len k ⟨2,(u.wait k).1.asks k,⟨#[]⟩⟩
  simp only [NS.wait,List.length_append]
  omega
set_option maxRecDepth 20000 in
set_option maxHeartbeats 1000000 in
theorem wait_arg (k:Int) (hk:k < 0∨k > 1099511627776 - s.now) (w:World) (h:NodeAt w F R s):Calls Tryz.prog 29 #[.pointer (some ⟨R,0,none⟩),.int .i64 k] w (SentN w F R (s,[],1)):=by
 have n0:=h.nowc.1
 have l0:=h.lt
 have hn:=h.good.now
 have H:=Lib.hid h
 obtain ⟨n,hnn⟩:∃ n,s.now=n:=⟨_,rfl⟩
 rw [hnn] at n0 hn hk
 have h1:=hn.1
 have h2:=hn.2
 clear h hn hnn
 by_cases hk0:k < 0
 ·clear hk
  go_enter Tryz.func29,Tryz.ntmps29
  go_wp2_with fail
  go_ret2
  exact sent_none H.out (Turn.refl _ _)
 ·have hk1:k > 1099511627776 - n:=hk.resolve_left hk0
  clear hk
  go_enter Tryz.func29,Tryz.ntmps29
  go_wp2_with fail
  go_ret2
  exact sent_none H.out (Turn.refl _ _)
set_option maxRecDepth 20000 in
set_option maxHeartbeats 2000000 in
theorem wait_ok (k:Int) (hk:¬ (k < 0∨k > 1099511627776 - s.now)) (hf:Fly s) (u:NS) (hu:({ s with now:=s.now+k,T:=Tr.dueL (s.now+k) s.T }:NS)=u) (w:World) (h:NodeAt w F R s):Calls Tryz.prog 29 #[.pointer (some ⟨R,0,none⟩),.int .i64 k] w (SentN w F R ((u.wait 8).1,(u.wait 8).2,0)):=by
 obtain ⟨n0,f0⟩:=h.nowc
 have l0:=h.lt
 have hn:=h.good.now
 have HTH:=Lib.hid h.there
 obtain ⟨n,hnn⟩:∃ n,s.now=n:=⟨_,rfl⟩
 rw [hnn] at n0 hn hk hu
 have h1:=hn.1
 have h2:=hn.2
 have hk0:¬ k < 0:=fun e=>hk (.inl e)
 have hk1:¬ k > 1099511627776 - n:=fun e=>hk (.inr e)
 obtain ⟨hs1,ts1⟩:=h.setNow (n+k) ⟨by omega,by omega⟩
 obtain ⟨wd,hwd⟩:∃ wd,(w.setCell ⟨R,16,none⟩ (.int .i64 (n+k))).drew=wd:=⟨_,rfl⟩
 have hbd:Below (w.setCell ⟨R,16,none⟩ (.int .i64 (n+k))).heap.size (w.setCell ⟨R,16,none⟩ (.int .i64 (n+k))) wd:=hwd▸(Below.refl _ _).drew
 have H1:=Lib.hid (hs1.kept hbd)
 have T1:Hid (Turn F F w wd):=Lib.hid (ts1.trans (Turn.of_below hbd))
 have n1:=H1.out.nowc.1
 have l1:=H1.out.lt
 simp only at n1
 have HU:=Lib.hid hu
 have HFU:Hid (Fly u):=Lib.hid (hu▸fun p hp=>Nat.le_trans (flies_due _ _ p) (hf p hp))
 have HWD:=Lib.hid hwd
 clear h hn hk hs1 ts1 hbd hwd hu hf hnn
 go_enter Tryz.func29,Tryz.ntmps29
 go_wp2_with fail
 refine region_tail 7 (by kernel_rfl) (by kernel_rfl) HWD.out ?_
 simp only [List.take_succ_cons,List.take_zero,List.drop_succ_cons,List.drop_zero]
 repeat still_step
 refine wpStill_nil ?_
 go_wp2_with fail
 with_reducible refine (n_due (n+k) _ H1.out).mono ?_
 rintro e w2 ⟨rfl,F2,h2,t2⟩
 have H2:Hid (NodeAt w2 F2 R u):=Lib.hid (HU.out▸h2)
 have T2:=Lib.hid (T1.out.trans t2)
 clear h2 t2
 go_wp2_with fail
 go_loopw [6,35] (fun v6 i wr=>∃ (p:Nat) (F':Nat→Prop) (x:NS) (ou:List OutD),p≤8∧i=.int .i64 p∧Hid (NodeAt wr F' R x)∧Hid (Turn F F' w wr)∧Hid (u.wait p=(x,ou))∧Hid (Fly x)∧Hid (OwnOuts wr w.heap.size v6 ou)∧ou.length≤8∧Hid (∀ g,v6.ownBlock=some g→¬ F' g)) (fun _ i _=>8 - (intOf i).toNat)
 case atStart=>exact ⟨0,F2,u,[],Nat.zero_le _,rfl,H2,T2,Lib.hid rfl,HFU,Lib.hid (outs_nil _ _),Nat.zero_le _,Lib.hid (fun g hg=>by cases hg)⟩
 case round=>
  obtain ⟨p,F4,x,ou,hp,rfl,H4,T4,HW,HF,HO,hol,HN⟩:=hrel
  obtain ⟨ao,co,rfl,_⟩:=outs_form HO.out
  by_cases hp8:p < 8
  ·obtain ⟨l,hl⟩:∃ l,x.asks p=l:=⟨_,rfl⟩
   have HL:=Lib.hid hl
   have HFP:=Lib.hid (HF.out p hp8)
   have hp8':(p:Int) < 8:=by omega
   have HWN:Hid (u.wait (p+1)=(x.request p,ou ++ message p ⟨2,l,⟨#[]⟩⟩)):=Lib.hid (by simp only [NS.wait];rw [HW.out,hl])
   have HFN:Hid (Fly (x.request p)):=Lib.hid (fly_request HF.out H4.out.good.T p)
   clear hl
   go_wp2_with fail
   with_reducible refine (request_any p hp8 HFP.out l HL.out _ H4.out).mono ?_
   rintro e w5 ⟨a5,c5,rfl,hi5,F5,h5,t5,ho5⟩
   have H5:=Lib.hid h5
   have T5:=Lib.hid (T4.out.trans t5)
   have HI5:=Lib.hid hi5
   have HO5:Hid (OwnOuts w5 w.heap.size _ _):=Lib.hid (own_turn HO.out t5 HN.out)
   have HN5:Hid (∀ g,(Value.slice ao ou.length co).ownBlock=some g→¬ F5 g):=Lib.hid fun g hg hf=>(t5.own g hf).elim (HN.out g hg) (fun hle=>by have:=(HO.out.lt g hg).2;omega)
   clear h5 t5 hi5 ho5
   go_wp2_with fail
   with_reducible refine (message_fetch p l a5 c5 _ HI5.out).mono ?_
   rintro e w6 ⟨v6,rfl,ho6,hb6⟩
   obtain ⟨mm,hmm⟩:∃ mm,message p ⟨2,l,⟨#[]⟩⟩=mm:=⟨_,rfl⟩
   have hml:mm.length≤1:=hmm▸message_len p ⟨2,l,⟨#[]⟩⟩
   rw [hmm] at ho6 HWN
   have H6:=Lib.hid (H5.out.kept hb6)
   have T6:=Lib.hid (T5.out.trans (Turn.of_below (F:=F5) hb6))
   have HO6:Hid (OwnOuts w6 w.heap.size _ _):=Lib.hid (own_same HO5.out fun g hgg=>hb6.block g (HO5.out.lt g hgg).2)
   have HM6:=Lib.hid ho6
   have hwl:=wait_len u (p+1)
   rw [HWN.out] at hwl
   simp only [List.length_append] at hwl
   have HSZ:Hid (w.heap.size≤w6.heap.size):=Lib.hid T6.out.size
   clear hb6 ho6 hmm
   go_wp2_with (at_builtin;refine append_outs rfl _ _ rfl rfl rfl HO6.out HM6.out (by omega) HSZ.out ?_;intro v7 w7 ho7 hg7 hk7;refine Hid.out ?_)
   refine Lib.hid ?_
   have T7:Hid (Turn F F5 w w7):=Lib.hid ⟨hg7.os.trans T6.out.os,hg7.tape.trans T6.out.tape,hg7.output.trans T6.out.output,Nat.le_trans T6.out.size hg7.size,(fun j hj hn=>(hg7.block j (Nat.lt_of_lt_of_le hj T6.out.size) (fun e=>by have:=(HO6.out.lt j e.symm).1;omega)).trans (T6.out.block j hj hn)),T6.out.own⟩
   have H7:Hid (NodeAt w7 F5 R (x.request p)):=Lib.hid (H6.out.same (fun j hj hf=>hg7.block j hj (fun e=>HN5.out j e.symm hf)) hg7.size)
   have HO7:=Lib.hid ho7
   have hth:=H6.out.there
   have HN7:Hid (∀ g,v7.ownBlock=some g→¬ F5 g):=Lib.hid fun g hg hf=>(hk7 g hg).elim (fun e=>HN5.out g e hf) (fun hle=>by have:=hth g hf;omega)
   clear ho7 hg7 hk7 hth
   go_wp2_with fail
   go_roundw
   case rel=>exact ⟨p+1,F5,x.request p,ou ++ mm,by omega,by go_num,H7,T7,HWN,HFN,HO7,by rw [List.length_append];omega,HN7⟩
   case measure=>simp [intOf];omega
  ·obtain rfl:p=8:=by omega
   go_wp2_with fail
   go_ret2
   rw [HW.out]
   exact ⟨_,F4,rfl,HO.out,H4.out,T4.out,HN.out⟩
theorem wait_any (k:Int) (hf:Fly s) (q:NS × List OutD × Int) (hq:s.pass k=q) (w:World) (h:NodeAt w F R s):Calls Tryz.prog 29 #[.pointer (some ⟨R,0,none⟩),.int .i64 k] w (SentN w F R q):=by
 subst hq
 unfold NS.pass
 by_cases hk:k < 0∨k > 1099511627776 - s.now
 ·rw [if_pos hk]
  exact wait_arg k hk w h
 ·rw [if_neg hk]
  exact wait_ok k hk hf _ rfl w h
end Go.Proofs.YtlboemhbealnmaaGreat
namespace Go.Proofs.YtlboemhbealnmaaGreat
open Go.RowKit Go.Maps
variable {w w':World} {F:Nat→Prop} {R:Nat} {s:NS}
def NS.join (s:NS) (p:Int) (f:Bool):NS × Int:=if ¬ (0≤p∧p < 8) then (s,1) else if (s.peers p.toNat).1 then (s,6) else (s.setPeer p.toNat (true,f),0)
def NS.leave (s:NS) (p:Int):NS × Int:=if s.thereE p≠0 then (s,s.thereE p) else ({ s.setPeer p.toNat (false,false) with T:=Tr.dropL s.T p.toNat,P:=Ho.dropL s.P p.toNat },0)
set_option maxRecDepth 20000 in
theorem join_any (p:Int) (f:Bool) (q:NS × Int) (hq:s.join p f=q) (w:World) (h:NodeAt w F R s):Calls Tryz.prog 15 #[.pointer (some ⟨R,0,none⟩),.int .i64 p,.bool f] w (TurnsN w F R (.int .i64 q.2) q.1):=by
 subst hq
 unfold NS.join
 have H:=Lib.hid h
 by_cases hp:0≤p∧p < 8
 ·rw [if_neg (not_not_intro hp)]
  obtain ⟨n,rfl⟩:∃ n:Nat,p=n:=⟨p.toNat,by omega⟩
  have hn:n < 8:=by omega
  have hn8:(n:Int) < 8:=by omega
  rw [Int.toNat_natCast]
  cases hb:(s.peers n).1 with
  | true=>
   rw [if_pos rfl]
   have HB:=Lib.hid hb
   clear h hb hp
   go_enter Tryz.func15,Tryz.ntmps15
   go_wp2_with fail
   with_reducible refine (isThere_yes n hn true HB.out _ H.out).mono ?_
   rintro e w1 ⟨rfl,rfl⟩
   go_wp2_with fail
   go_ret
   exact ⟨rfl,F,H.out,Turn.refl _ _⟩
  | false=>
   rw [if_neg (by decide)]
   have HB:=Lib.hid hb
   obtain ⟨a,z,hra,_⟩:=h.rings
   obtain ⟨⟨p0,f0⟩,⟨p1,f1⟩⟩:=h.peerm n hn
   have HS:=Lib.hid (h.setPeer n hn true f)
   have l0:=h.lt
   clear h hb hp
   go_enter Tryz.func15,Tryz.ntmps15
   go_wp2_with fail
   with_reducible refine (isThere_yes n hn false HB.out _ H.out).mono ?_
   rintro e w1 ⟨rfl,rfl⟩
   go_wp2_with fail
   go_ret
   exact ⟨rfl,F,HS.out.1,HS.out.2⟩
 ·rw [if_pos hp]
  have HP:=Lib.hid hp
  clear h hp
  go_enter Tryz.func15,Tryz.ntmps15
  go_wp2_with fail
  with_reducible refine (isThere_no p HP.out _).mono ?_
  rintro e w1 ⟨rfl,rfl⟩
  go_wp2_with fail
  go_ret
  exact ⟨rfl,F,H.out,Turn.refl _ _⟩
set_option maxRecDepth 20000 in
theorem leave_any (p:Int) (q:NS × Int) (hq:s.leave p=q) (w:World) (h:NodeAt w F R s):Calls Tryz.prog 27 #[.pointer (some ⟨R,0,none⟩),.int .i64 p] w (TurnsN w F R (.int .i64 q.2) q.1):=by
 subst hq
 unfold NS.leave
 have H:=Lib.hid h
 by_cases ht:s.thereE p=0
 ·rw [if_neg (not_not_intro ht)]
  have HT:=Lib.hid ht
  obtain ⟨n,rfl,hn,_⟩:=there_zero ht
  have hn8:(n:Int) < 8:=by omega
  rw [Int.toNat_natCast]
  obtain ⟨⟨p0,f0⟩,⟨p1,f1⟩⟩:=h.peerm n hn
  obtain ⟨hs,ts⟩:=h.setPeer n hn false false
  have HS:=Lib.hid hs
  have TS:=Lib.hid ts
  have l0:=h.lt
  have l1:=hs.lt
  clear h ht hs ts
  go_enter Tryz.func27,Tryz.ntmps27
  go_wp2_with fail
  with_reducible refine (checkThere_any n 0 HT.out _ H.out).mono ?_
  rintro e w1 ⟨rfl,rfl⟩
  go_wp2_with fail
  with_reducible refine (n_dropT n _ HS.out).mono ?_
  rintro e w2 ⟨rfl,F2,h2,t2⟩
  have hdc:Tr.dropC (s.setPeer n (false,false)).T n=(0,Tr.dropL s.T n):=by unfold Tr.dropC;rw [if_pos ⟨by omega,by omega⟩];rfl
  rw [hdc] at h2
  have H2:=Lib.hid h2
  have T2:=Lib.hid (TS.out.trans t2)
  have l2:=h2.lt
  clear h2 t2
  go_wp2_with fail
  with_reducible refine (n_dropP n hn _ H2.out).mono ?_
  rintro e w3 ⟨rfl,F3,h3,t3⟩
  have H3:=Lib.hid h3
  have T3:=Lib.hid (T2.out.trans t3)
  clear h3 t3
  go_wp2_with fail
  go_ret
  exact ⟨rfl,F3,H3.out,T3.out⟩
 ·rw [if_pos ht]
  obtain ⟨r,hr⟩:∃ r,s.thereE p=r:=⟨_,rfl⟩
  rw [hr] at ht ⊢
  have HR:=Lib.hid hr
  have hrb:(r != 0)=true:=by simpa using ht
  clear h hr
  go_enter Tryz.func27,Tryz.ntmps27
  go_wp2_with fail
  with_reducible refine (checkThere_any p r HR.out _ H.out).mono ?_
  rintro e w1 ⟨rfl,rfl⟩
  go_wp2_with fail
  go_ret
  exact ⟨rfl,F,H.out,Turn.refl _ _⟩
set_option maxRecDepth 20000 in
theorem accepted_any (hl:s.A.length≤10000000000000) (w:World) (h:NodeAt w F R s):Calls Tryz.prog 12 #[.pointer (some ⟨R,0,none⟩)] w (GaveIds w (s.A.map Ju.idD)):=by
 have H:=Lib.hid h
 have l0:=h.lt
 clear h
 go_enter Tryz.func12,Tryz.ntmps12
 go_wp2_with fail
 with_reducible refine (n_allA hl _ H.out).mono ?_
 rintro e w1 ⟨a1,c1,rfl,h1,h2⟩
 have H1:=Lib.hid h1
 have H2:=Lib.hid h2
 clear h1 h2
 obtain ⟨n,hn⟩:∃ n,(s.A.map Ju.idD).length=n:=⟨_,rfl⟩
 have HN:=Lib.hid hn
 rw [hn]
 clear hn
 go_wp2_with fail
 go_ret
 exact ⟨a1,c1,by rw [HN.out];rfl,H1.out,H2.out⟩
end Go.Proofs.YtlboemhbealnmaaGreat
