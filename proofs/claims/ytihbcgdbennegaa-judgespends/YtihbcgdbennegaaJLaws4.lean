/-
  The walk of JudgeSpends, its second part.
-/
import Derived.Test.YtihbcgdbennegaaJLaws3
namespace Go.Proofs.Ytihbcgdbennegaa
open Go.RowKit Go.Maps

theorem contains_app {a b : List InD} {x : InD} (h1 : a.contains x = false) (h2 : b.contains x = false) : (a ++ b).contains x = false := by
  rw [← Bool.not_eq_true, List.contains_iff_mem] at h1 h2 ⊢
  intro h
  exact (List.mem_append.1 h).elim h1 h2
theorem take_lacksI {m : List InD} (h : m.Nodup) {k : Nat} (hk : k < m.length) : (m.take k).contains m[k] = false := by
  rw [← Bool.not_eq_true, List.contains_iff_mem]
  intro hm
  obtain ⟨j, hj, e⟩ := List.mem_take_iff_getElem.1 hm
  exact (List.pairwise_iff_getElem.1 h) j k (by omega) hk (by omega) e
theorem ins_nodup {d : DeedD} (h : checkD d = 0) : d.ins.Nodup := by
  have := (check_ok h).2.2.1
  unfold dupB at this
  simpa using this
set_option maxRecDepth 20000 in
set_option maxHeartbeats 1000000 in
theorem judgeSpends_walk (l : List DeedH) (a : Option Addr) (cap : Nat) (hm : l.length ≤ 2932031007402) (w : World) (hi : DeedsAt w a l) :
    Calls Try.prog 5 #[.slice a l.length cap] w fun e w' => e = .returned (.bool true) ∧ Below w.heap.size w w' := by
  have HI := Lib.hid hi
  have hmm := @run_makeMap Try.prog
  clear hi
  go_enter Try.func5, Try.ntmps5
  go_wp2_with fail
  with_reducible refine (judged_any w).mono ?_
  rintro e w1 ⟨rfl, hb1⟩
  have HB1 := Lib.hid hb1
  clear hb1
  go_wp2_with fail
  with_reducible refine (hj_new w w1 HB1.out).mono ?_
  rintro e w2 ⟨R, F2, rfl, h2, _, _⟩
  have H2 := Lib.hid h2
  clear h2
  go_wp2_with fail
  go_loopw [21] (fun i wr => ∃ (k : Nat) (F : Nat → Prop), k ≤ l.length ∧ i = .int .i64 k ∧ Hid (HeldJ w wr F R (runJ (l.take k)))) (fun i _ => l.length - (intOf i).toNat)
  case atStart => exact ⟨0, F2, Nat.zero_le _, rfl, H2⟩
  case round =>
    clear H2
    obtain ⟨k, F, hk, rfl, H⟩ := hrel
    by_cases hkl : k < l.length
    · obtain ⟨g, o, rfl, hg, q0, q1, q2, q3⟩ := deedsJ_at HI.out H.out.below k hkl
      have hst := runJ_step hkl
      have hlen := runJ_len l k
      have hin := (HI.out k hkl).2.1
      obtain ⟨⟨xa, xc, xd⟩, hx⟩ : ∃ q, l[k] = q := ⟨_, rfl⟩
      rw [hx] at q0 q1 q2 q3 hst hin
      simp only at q0 q1 q2 q3 hst hin
      obtain ⟨⟨r, L'⟩, hr⟩ : ∃ q, acceptL (runJ (l.take k)) xd = q := ⟨_, rfl⟩
      rw [hr] at hst
      have HST := Lib.hid hst
      have HR := Lib.hid hr
      have HIN := Lib.hid hin
      have HX := Lib.hid (H.out.kept (kept_new wr (.cells #[.slice xa xd.ins.length xc, .int .i64 xd.outs, .int .i64 xd.weight, .int .i64 xd.fee] 30)))
      clear hx hst hr hin
      go_wp2_with fail
      with_reducible refine (hj_accept w F R _ _ HX.out (by omega) xd xa xc HIN.out r L' HR.out).mono ?_
      rintro e w3 ⟨rfl, F3, h3, _⟩
      have H3 := Lib.hid h3
      clear h3
      go_wp2_with fail
      go_roundw
      case rel => exact ⟨k + 1, F3, by omega, by go_num, Lib.hid (by rw [HST.out]; exact H3.out)⟩
      case measure => simp [intOf]; omega
    · have he : l.take k = l := List.take_of_length_le (by omega)
      have hlen := runJ_len l k
      have hpay := runJ_pays l
      have H' := H.out
      rw [he] at H' hlen
      obtain ⟨L, hL⟩ : ∃ L, runJ l = L := ⟨_, rfl⟩
      rw [hL] at H' hlen hpay
      have HL := Lib.hid H'
      have HP := Lib.hid hpay
      obtain ⟨wS, hwS⟩ : ∃ x, x = wr := ⟨_, rfl⟩
      subst hwS
      have hk2 : Below wS.heap.size wS ((wS.alloc (.map #[] 0)).alloc (.map #[] 0)) := kept_alloc (kept_new _ _) _
      have H4 := Lib.hid (H'.kept hk2)
      have hse := set_new (P := Try.prog) (k := 52) (e := 4) (ok := inOk) (kl := inKey) wS
      have hou := outs_new (wS.alloc (.map #[] 0))
      have hz : (wS.alloc (.map #[] 0)).heap.size = wS.heap.size + 1 := by simp
      rw [hz] at hou
      have HSE : Hid (Seen ((wS.alloc (.map #[] 0)).alloc (.map #[] 0)) wS.heap.size 0 []) := Lib.hid (seen_same hse (heap_alloc_old _ _ (by simp)))
      have HOU := Lib.hid hou
      have HK2 := Lib.hid hk2
      clear H H' he hL hpay hk2 hse hou hz
      go_wp2_with fail
      with_reducible refine (hj_all w F R L _ H4.out (by omega)).mono ?_
      rintro e w5 ⟨ia, ic, rfl, ho5, hb5⟩
      obtain ⟨ia', ic', em, _, hids, _⟩ := owns_idsAt ho5
      simp only [Value.slice.injEq] at em
      obtain ⟨rfl, _, rfl⟩ := em
      have HM : Hid (Maps2 wS w5 wS.heap.size (wS.heap.size + 1) 0 0 [] (fun _ => 0) ia (L.map idD)) := Lib.hid ⟨kept_trans HK2.out hb5, seen_same HSE.out (hb5.block _ (by simp; omega)), outs_same HOU.out (hb5.block _ (by simp)), by omega, ⟨by omega, by omega⟩, hids⟩
      clear ho5 hb5 hids HSE HOU HK2 H4
      have hll : (L.map idD).length = L.length := List.length_map _
      rw [hll]
      clear hll
      go_wp2_with fail
      go_loopw [34] (fun i wr => ∃ (k n : Nat), k ≤ L.length ∧ n ≤ 8 * k ∧ i = .int .i64 k ∧ Hid (Maps2 wS wr wS.heap.size (wS.heap.size + 1) n k (insL (L.take k)) (outsOf (L.take k)) ia (L.map idD))) (fun i _ => L.length - (intOf i).toNat)
      case atStart => exact ⟨0, 0, Nat.zero_le _, Nat.zero_le _, rfl, HM⟩
      case round =>
        clear HM
        obtain ⟨k2, n2, hk2, hn2, rfl, HM⟩ := hrel
        by_cases hkl2 : k2 < L.length
        · obtain ⟨ib, io, rfl, hib, hic⟩ := HM.out.ids k2 (by simpa using hkl2)
          rw [List.getElem_map] at hic
          have hfs := find_self HL.out.good.nodup hkl2
          have hgo := HL.out.good.fine _ (List.getElem_mem hkl2)
          have hst1 := insL_step hkl2
          have hst2 := outsOf_step HL.out.good.nodup hkl2
          have hpy := HP.out k2 hkl2
          obtain ⟨d, hd⟩ : ∃ d, L[k2] = d := ⟨_, rfl⟩
          rw [hd] at hic hfs hgo hst1 hst2 hpy
          obtain ⟨ix, hix⟩ : ∃ ix, idD d = ix := ⟨_, rfl⟩
          rw [hix] at hic hfs hst2
          have HFS := Lib.hid hfs
          have HGO := Lib.hid hgo
          have HS1 := Lib.hid hst1
          have HS2 := Lib.hid hst2
          have HPY := Lib.hid hpy
          have hl8 := (check_ok hgo).1
          have hoo := (check_ok hgo).2.2.2.1
          have H5 := Lib.hid (HL.out.kept HM.out.below)
          clear hfs hgo hst1 hst2 hpy hd hix
          go_wp2_with fail
          refine (deedL_any ix _ H5.out.led).mono ?_
          rw [HFS.out]
          rintro e w6 ⟨da, dc, rfl, _, hdc, hdi, hb6⟩
          simp only [Option.getD_some, Option.isSome_some, if_true] at hdc hdi ⊢
          have HM6 := Lib.hid (HM.out.kept (kept_trans hb6 (kept_new w6 (.cells #[.slice da d.ins.length dc, .int .i64 d.outs, .int .i64 d.weight, .int .i64 d.fee] 30))))
          have HDI := Lib.hid (insAt_kept (kept_new w6 (.cells #[.slice da d.ins.length dc, .int .i64 d.outs, .int .i64 d.weight, .int .i64 d.fee] 30)) hdi)
          obtain ⟨w7, hw7⟩ : ∃ x, x = w6.alloc (.cells #[.slice da d.ins.length dc, .int .i64 d.outs, .int .i64 d.weight, .int .i64 d.fee] 30) := ⟨_, rfl⟩
          have HBX : Hid (w7.heap[w6.heap.size]? = some (.cells #[.slice da d.ins.length dc, .int .i64 d.outs, .int .i64 d.weight, .int .i64 d.fee] 30 (0, 0))) := Lib.hid (hw7 ▸ heap_alloc_new _ _)
          rw [← hw7] at HM6 HDI
          have HW7 := Lib.hid hw7
          clear hb6 hdi hdc hw7
          go_wp2_with fail
          rw [← HW7.out]
          obtain ⟨wB, hwB⟩ : ∃ x, x = wr := ⟨_, rfl⟩
          subst hwB
          go_loopw [49] (fun i wr => ∃ j : Nat, j ≤ d.ins.length ∧ i = .int .i64 j ∧ Hid (Maps2 wS wr wS.heap.size (wS.heap.size + 1) (n2 + j) k2 (insL (L.take k2) ++ d.ins.take j) (outsOf (L.take k2)) (some ⟨ib, io, none⟩) (L.map idD)) ∧ Hid (InsAt wr da d.ins) ∧ Hid (wr.cell? ⟨w6.heap.size, 1, none⟩ = some (.int .i64 d.outs))) (fun i _ => d.ins.length - (intOf i).toNat)
          case atStart => exact ⟨0, Nat.zero_le _, rfl, Lib.hid (by rw [List.take_zero, List.append_nil, Nat.add_zero]; exact HM6.out), HDI, Lib.hid (head_cell HBX.out 1)⟩
          case round =>
            clear HM6 HDI HBX
            obtain ⟨j, hj, rfl, HM8, HD8, HC8⟩ := hrel
            by_cases hjl : j < d.ins.length
            · obtain ⟨bb, oo, rfl, hbb, p0, p1, hok⟩ := HD8.out j hjl
              have hpy := HPY.out _ (List.getElem_mem hjl)
              have hlk := contains_app hpy.2 (take_lacksI (ins_nodup HGO.out) hjl)
              have htk : (insL (L.take k2) ++ d.ins.take j) ++ [d.ins[j]] = insL (L.take k2) ++ d.ins.take (j + 1) := by rw [List.append_assoc, take_snoc hjl]
              obtain ⟨⟨ex, ea⟩, hex⟩ : ∃ q, d.ins[j] = q := ⟨_, rfl⟩
              rw [hex] at p0 p1 hok hpy hlk htk
              have hge : ¬ ea ≥ outsOf (L.take k2) ex := by have := hpy.1; unfold outsOf; simp only at this; omega
              simp only at p0 p1 hok
              have hbn := kept_new wr (.cells #[.int .u64 ex.toNat, .int .i64 ea] 52)
              have hM9 := HM8.out.kept hbn
              have hl1 := seen_look hM9.s (ex, ea) hok
              rw [hlk] at hl1
              have hl2 := outs_look hM9.o ex
              obtain ⟨oe, hoe⟩ : ∃ oe, outsOf (L.take k2) ex = oe := ⟨_, rfl⟩
              rw [hoe] at hl2 hge
              obtain ⟨w9, hput, hM10, ht10⟩ := hM9.spend (ex, ea) hok (by omega)
              rw [htk] at hM10
              have HM10 := Lib.hid hM10
              have HD10 := Lib.hid (insAt_map ht10 (seen_at hM9.s) (insAt_kept hbn HD8.out))
              have HC10 := Lib.hid (cell_turn ht10 (seen_at hM9.s) (kept_cell hbn HC8.out))
              simp only at hl1 hput
              clear hpy hlk htk hex hbn hM9 hM10 ht10 hoe hok
              go_wp2_with fail
              go_roundw
              case rel => exact ⟨j + 1, by omega, by go_num, Lib.hid (by rw [← Nat.add_assoc]; exact HM10.out), HD10, HC10⟩
              case measure => simp [intOf]; omega
            · have he : d.ins.take j = d.ins := List.take_of_length_le (by omega)
              have hM9 := HM8.out
              rw [he, ← HS1.out] at hM9
              obtain ⟨w9, hput, hM10⟩ := hM9.put ix d.outs hoo (by omega)
              rw [← HS2.out] at hM10
              have HM10 := Lib.hid hM10
              have c8 := HC8.out
              have c9 := (cell_spot c8).2
              clear he hM9 hM10
              go_wp2_with fail
              go_roundw
              case rel => exact ⟨k2 + 1, n2 + j, by omega, by omega, by go_num, HM10⟩
              case measure => simp [intOf]; omega
        · go_wp2_with fail
          go_ret
          exact ⟨rfl, kept_trans HL.out.below HM.out.below⟩
end Go.Proofs.Ytihbcgdbennegaa
