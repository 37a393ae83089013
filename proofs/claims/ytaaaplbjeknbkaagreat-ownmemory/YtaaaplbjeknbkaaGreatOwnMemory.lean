/-
  OwnMemory: for every salt, every slice of acts and every deed the law's call returns true and leaves its arguments as they were. No condition.
-/
import Derived.Test.YtaaaplbjeknbkaaGreatRows
import Derived.Test.YtaaaplbjeknbkaaGreatOwnAll
import Derived.Test.YtaaaplbjeknbkaaGreatJ31
import Derived.Test.YtaaaplbjeknbkaaGreatJ4
import Derived.KernelRfl
set_option maxRecDepth 20000
namespace Go.Proofs.YtaaaplbjeknbkaaGreat
open Go.ChangeShapes Go.WideShapes Go.ChangeAt Go.RowKit Go.Joins Go.Deep

set_option maxRecDepth 100000 in
/-- A deed as the third argument: how many Ins it has, by the form's own reach. -/
theorem open_deed_room {H : Type} {enc : TypeId × Value → H} {w : World} {r : Reach} {b0 : Nat} {v : Value} {d d0 d1 : DataW H} {p : List MemPlace} {t0 t1 : TypeId} {ts : List TypeId} {ds : List (DataW H)} (hv : Value.okWide Tryz.prog w r b0 50 v) (h : DataW.Trod enc Tryz.prog w 0 (fun _ => true) true 50 v d p)
    (hsz : (DataW.weightsEach Tryz.prog (t0 :: t1 :: 50 :: ts) (d0 :: d1 :: d :: ds)).all (· ≤ reachBytes) = true) :
    ∃ (a : Option Addr) (cap : Nat) (D : DeedD), v = deedV a cap D ∧ D.ins.length ≤ cap ∧ D.ins.length ≤ 8796093022208 ∧ InsAt w a D.ins := by
  obtain ⟨a, cap, D, hvd, hc, hi⟩ := open_deed hv h
  refine ⟨a, cap, D, hvd, hc, ?_, hi⟩
  obtain ⟨v0, v1, v2, v3, y0, y1, y2, y3, n, e, rfl, _, q0, _, _, _⟩ := open_agg4 Tryz.underlying50 (by kernel_rfl) (by kernel_rfl) hv h
  rw [e] at hvd
  have e0 : v0 = .slice a D.ins.length cap := by
    unfold deedV at hvd
    simp only [Value.agg.injEq, Array.mk.injEq, List.cons.injEq] at hvd
    exact hvd.1
  subst e0
  rcases open_slice_pairs Tryz.underlying48 Tryz.underlying62 (by kernel_rfl) rfl rfl (by kernel_rfl) (by kernel_rfl) q0 with ⟨hcs, _⟩ | ⟨a', len, cap', m, n', V0, V1, D0, D1, P0, P1, hcs, _, hl, hm, hmm, hy, _⟩
  · simp only [List.cons.injEq, Value.slice.injEq, and_true] at hcs
    omega
  · simp only [List.cons.injEq, Value.slice.injEq, and_true] at hcs
    obtain ⟨_, hlen, _⟩ := hcs
    have hb : Tryz.prog.bytesOf 62 = 16 := by kernel_rfl
    have hw : (len + (m - len)) * 16 ≤ reachBytes := of_decide_eq_true (List.all_eq_true.1 hsz _ (by
      simp only [DataW.weightsEach]
      refine List.mem_append_right _ (List.mem_append_right _ (List.mem_append_left _ ?_))
      unfold DataW.weights
      rw [Tryz.underlying50]
      simp only [DataW.weightsEach, List.map_cons, hy]
      refine List.mem_append_left _ ?_
      unfold DataW.weights
      rw [Tryz.underlying48]
      simp only [hb, List.length_map, List.length_range]
      exact List.mem_cons_self))
    unfold reachBytes at hw
    omega
set_option maxRecDepth 100000 in
theorem ownMemory_lifted (os : Os) (started : os.Started) (H : Type) (enc : TypeId × Value → H) :
    ReturnsInHanded {} Tryz.checked os 6 .any (Rows.ownMemorySpec.pre6 enc Tryz.prog Tryz.f6 Rows.ownMemoryRow.domain false) (Rows.ownMemorySpec.post enc Tryz.prog Tryz.f6 false true false false) := by
  refine law_lifted (C := Tryz.checked) (by kernel_rfl) started (by kernel_rfl) Tryz.func6 (by kernel_rfl) (by kernel_rfl) rfl (by kernel_rfl) Tryz.underlying4
    (fun ds h => by match ds, h with | [_, _, _], _ => rfl)
    (ChangeSpec.witness6 (enc := enc) (C := Tryz.checked) false ⟨#[], #[.int .u64 0, .slice none 0 0, .agg #[.slice none 0 0, .int .i64 0, .int .i64 0, .int .i64 0]], []⟩ 8 (by kernel_rfl) (by kernel_rfl) (by kernel_rfl) (by kernel_rfl)) ?_
  intro W base args ds p hval hA hsz
  rw [Tryz.params6] at hval
  replace hA : DataW.TrodAll enc Tryz.prog W 0 (fun _ => true) true Tryz.f6.params.toList args.toList ds p := hA
  rw [Tryz.params6] at hA
  obtain ⟨v0, vs0, d0, ds0, p0, q0, hargs, rfl, rfl, h0, r0⟩ := trodAll_cons hA
  obtain ⟨v1, vs1, d1, ds1, p1, q1, rfl, rfl, rfl, h1, r1⟩ := trodAll_cons r0
  obtain ⟨v2, vs2, d2, ds2, p2, q2, rfl, rfl, rfl, h2, r2⟩ := trodAll_cons r1
  obtain ⟨rfl, rfl, rfl⟩ := trodAll_nil r2
  obtain rfl : args = #[v0, v1, v2] := by cases args; simp_all
  obtain ⟨n0, rfl, rfl, rfl, wx0⟩ := open_int Tryz.underlying22 (hval 0 22 v0 rfl rfl) h0
  obtain ⟨x0, rfl⟩ := wf_u64 wx0
  obtain ⟨a1, c1, x1, rfl, hc1, hm1, hi1⟩ := open_acts_room (hval 1 23 v1 rfl rfl) h1 hsz
  obtain ⟨a2, c2, x2, rfl, hc2, hm2, hi2⟩ := open_deed_room (hval 2 50 v2 rfl rfl) h2 hsz
  exact ownMemory_walk x0 x1 a1 c1 x2 a2 c2 hc2  hm1 hm2 W hi1 hi2

theorem ownMemory_holds : Rows.OwnMemorySaid :=
  OpenClaim.holds_of_wide 6 Tryz.f6 rfl rfl rfl rfl rfl rfl rfl ⟨rfl, rfl, rfl, rfl, rfl⟩ rfl rfl rfl rfl rfl (by kernel_rfl) Tryz.func6 (by kernel_rfl)
    (of_decide_eq_true (by kernel_rfl)) (by unfold Func.isWrapper; first | (rw [if_pos (by decide +kernel)]; kernel_rfl) | (rw [if_neg (by decide +kernel)]; exact ⟨rfl, rfl⟩))
    (fun os started H enc _ => ownMemory_lifted os started H enc)
#print axioms ownMemory_holds
end Go.Proofs.YtaaaplbjeknbkaaGreat
