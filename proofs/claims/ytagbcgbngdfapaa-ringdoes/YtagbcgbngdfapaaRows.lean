/-
  No cell of these rows narrows 'for every input' (looked for: loops, veiled, ifaces, maps, wideKeys, modest, calm, conditions, laid).
  DERIVED. THE GIVEN ROWS OF THIS SEAT. 5 by the template 'for every input the law returns true; each argument reads behind the call as it read before'; 0 by the template 'total and deterministic' (their statements: YtagbcgbngdfapaaTotals.lean).
  GIVEN WITH THE SEED: the statements are not yours to turn. If you find one false, say at which input.
  Laid BY PROGRAM, IN A SANDBOX (cutbox-rows.mjs): the forced cells as the released guide's own fill.sh prints them over the translation 4d185cdef07a70d9… (all of the seat's roots in one cut). By AI agents, Wed Nov 11 2026. No macro, syntax, notation, axiom, sorry.
-/
import Derived.Test.YtagbcgbngdfapaaChecked
import GoSem.Claim
import GoSem.ClaimJoined
import GoSem.ClaimMapViews
import Derived.JoinedTies
import Derived.KernelRfl
namespace Go.Proofs.Ytagbcgbngdfapaa
/- THE CELL 'sum', in the pinned program and in every row, IS THE sha256 OF THE DUMP (.gsa) THAT YtagbcgbngdfapaaProg.lean LOADS. Nothing in Lean hashes anything: it is a label: what it is worth is what the hold of that sum in a sandbox is worth. -/
noncomputable def Try.pinned : Pinned := { name := "ytagbcgbngdfapaa", sum := "4d185cdef07a70d925719646d39bffe3e97ed297b48e058ca7dfbb78ee970356", checked := Try.checked }
namespace Rows
def none {H : Type} : Left H := { results := [], args := [] }

/-- 'charterhouselaw.RingDoes': WHATEVER THE INPUT: true; the input reads as it did. -/
def ringDoesSpec : ChangeSpec := { name := "ringDoes", fn := fun _ => fun
  | [d1, d2] => { results := [.lit (.bool true)], args := [d1, d2] }
  | _ => none }
def ringDoesRow : OpenClaim := { program := "ytagbcgbngdfapaa", sum := "4d185cdef07a70d925719646d39bffe3e97ed297b48e058ca7dfbb78ee970356", func := "charterhouse/charterhouselaw.RingDoes", spec := "ringDoes", inPlace := ["maps.clone"], apart := false }
def RingDoesSaid : Prop := ringDoesRow.holds Try.pinned (OpenSpec.ofChange ringDoesSpec)

/-- ITS FALSE NEIGHBOUR: 'it returns false'. Refute it at one input. -/
def ringDoesWrong : ChangeSpec := { name := "ringDoes", fn := fun _ => fun
  | [d1, d2] => { results := [.lit (.bool false)], args := [d1, d2] }
  | _ => none }
def RingDoesWrongFalsely : Prop := ringDoesRow.holds Try.pinned (OpenSpec.ofChange ringDoesWrong)

/-- 'charterhousekeep.RingLate': WHATEVER THE INPUT: true; the input reads as it did. -/
def ringLateSpec : ChangeSpec := { name := "ringLate", fn := fun _ => fun
  | [d1, d2] => { results := [.lit (.bool true)], args := [d1, d2] }
  | _ => none }
def ringLateRow : OpenClaim := { program := "ytagbcgbngdfapaa", sum := "4d185cdef07a70d925719646d39bffe3e97ed297b48e058ca7dfbb78ee970356", func := "charterhouse/charterhousekeep.RingLate", spec := "ringLate", inPlace := ["maps.clone"], apart := false }
def RingLateSaid : Prop := ringLateRow.holds Try.pinned (OpenSpec.ofChange ringLateSpec)

/-- ITS FALSE NEIGHBOUR: 'it returns false'. Refute it at one input. -/
def ringLateWrong : ChangeSpec := { name := "ringLate", fn := fun _ => fun
  | [d1, d2] => { results := [.lit (.bool false)], args := [d1, d2] }
  | _ => none }
def RingLateWrongFalsely : Prop := ringLateRow.holds Try.pinned (OpenSpec.ofChange ringLateWrong)

/-- 'charterhousekeep.RingNone': WHATEVER THE INPUT: true; the input reads as it did. -/
def ringNoneSpec : ChangeSpec := { name := "ringNone", fn := fun _ => fun
  | [d1, d2, d3] => { results := [.lit (.bool true)], args := [d1, d2, d3] }
  | _ => none }
def ringNoneRow : OpenClaim := { program := "ytagbcgbngdfapaa", sum := "4d185cdef07a70d925719646d39bffe3e97ed297b48e058ca7dfbb78ee970356", func := "charterhouse/charterhousekeep.RingNone", spec := "ringNone", inPlace := ["maps.clone"], apart := false }
def RingNoneSaid : Prop := ringNoneRow.holds Try.pinned (OpenSpec.ofChange ringNoneSpec)

/-- ITS FALSE NEIGHBOUR: 'it returns false'. Refute it at one input. -/
def ringNoneWrong : ChangeSpec := { name := "ringNone", fn := fun _ => fun
  | [d1, d2, d3] => { results := [.lit (.bool false)], args := [d1, d2, d3] }
  | _ => none }
def RingNoneWrongFalsely : Prop := ringNoneRow.holds Try.pinned (OpenSpec.ofChange ringNoneWrong)

/-- 'charterhousekeep.RingTwice': WHATEVER THE INPUT: true; the input reads as it did. -/
def ringTwiceSpec : ChangeSpec := { name := "ringTwice", fn := fun _ => fun
  | [d1, d2, d3] => { results := [.lit (.bool true)], args := [d1, d2, d3] }
  | _ => none }
def ringTwiceRow : OpenClaim := { program := "ytagbcgbngdfapaa", sum := "4d185cdef07a70d925719646d39bffe3e97ed297b48e058ca7dfbb78ee970356", func := "charterhouse/charterhousekeep.RingTwice", spec := "ringTwice", inPlace := ["maps.clone"], apart := false }
def RingTwiceSaid : Prop := ringTwiceRow.holds Try.pinned (OpenSpec.ofChange ringTwiceSpec)

/-- ITS FALSE NEIGHBOUR: 'it returns false'. Refute it at one input. -/
def ringTwiceWrong : ChangeSpec := { name := "ringTwice", fn := fun _ => fun
  | [d1, d2, d3] => { results := [.lit (.bool false)], args := [d1, d2, d3] }
  | _ => none }
def RingTwiceWrongFalsely : Prop := ringTwiceRow.holds Try.pinned (OpenSpec.ofChange ringTwiceWrong)

/-- 'charterhousekeep.RingRolls': WHATEVER THE INPUT: true; the input reads as it did. -/
def ringRollsSpec : ChangeSpec := { name := "ringRolls", fn := fun _ => fun
  | [d1, d2, d3] => { results := [.lit (.bool true)], args := [d1, d2, d3] }
  | _ => none }
def ringRollsRow : OpenClaim := { program := "ytagbcgbngdfapaa", sum := "4d185cdef07a70d925719646d39bffe3e97ed297b48e058ca7dfbb78ee970356", func := "charterhouse/charterhousekeep.RingRolls", spec := "ringRolls", inPlace := ["maps.clone"], apart := false }
def RingRollsSaid : Prop := ringRollsRow.holds Try.pinned (OpenSpec.ofChange ringRollsSpec)

/-- ITS FALSE NEIGHBOUR: 'it returns false'. Refute it at one input. -/
def ringRollsWrong : ChangeSpec := { name := "ringRolls", fn := fun _ => fun
  | [d1, d2, d3] => { results := [.lit (.bool false)], args := [d1, d2, d3] }
  | _ => none }
def RingRollsWrongFalsely : Prop := ringRollsRow.holds Try.pinned (OpenSpec.ofChange ringRollsWrong)

/- THE SECOND FORM. 'bulk': how many values and letters a reading holds, each counted each time it is reached (what is shared counts as often as it is met; a slice's spare places count too). A statement '..UptoSaid' is the law's where the arguments, and the package variables that the reading takes, are together of bulk at most 1048576: NARROWER than '..Said'. Prove '..Said' where nothing that the law and all that it calls make is longer than what came in: it says more and counts as full. Else prove '..UptoSaid'. A law counts once. -/
mutual
def uptoBulk {H : Type} : DataW H → Nat
  | .lit (.string bytes) => bytes.length + 1
  | .lit _ => 1
  | .nil => 1
  | .ptr d => uptoBulk d + 1
  | .slice elems spare => uptoBulkAll elems + uptoBulkAll spare + 1
  | .agg parts => uptoBulkAll parts + 1
  | .iface _ d => uptoBulk d + 1
  | .map entries => uptoBulkEntries entries + 1
  | .held _ => 1
def uptoBulkAll {H : Type} : List (DataW H) → Nat
  | [] => 0
  | d :: r => uptoBulk d + uptoBulkAll r
def uptoBulkEntries {H : Type} : List (Lit × DataW H) → Nat
  | [] => 0
  | x :: r => uptoBulkEntry x + uptoBulkEntries r
def uptoBulkEntry {H : Type} : Lit × DataW H → Nat
  | (.string bytes, d) => bytes.length + uptoBulk d + 1
  | (_, d) => uptoBulk d + 1
 end
def uptoSmall : (H : Type) → List (DataW H) → Bool := fun _ ds => decide (uptoBulkAll ds ≤ 1048576)
def OpenSpec.upto (s : _root_.Go.ChangeSpec) : _root_.Go.OpenSpec := { _root_.Go.OpenSpec.ofChange s with cond := some uptoSmall }

/-- 'charterhouselaw.RingDoes', WHERE WHAT IT READS IS OF BULK AT MOST 1048576: true; the input reads as it did. -/
def ringDoesUptoRow : OpenClaim := { program := "ytagbcgbngdfapaa", sum := "4d185cdef07a70d925719646d39bffe3e97ed297b48e058ca7dfbb78ee970356", func := "charterhouse/charterhouselaw.RingDoes", spec := "ringDoes", inPlace := ["maps.clone"], apart := false, narrowed := true }
def RingDoesUptoSaid : Prop := ringDoesUptoRow.holds Try.pinned (OpenSpec.upto ringDoesSpec)

/-- 'charterhousekeep.RingLate', WHERE WHAT IT READS IS OF BULK AT MOST 1048576: true; the input reads as it did. -/
def ringLateUptoRow : OpenClaim := { program := "ytagbcgbngdfapaa", sum := "4d185cdef07a70d925719646d39bffe3e97ed297b48e058ca7dfbb78ee970356", func := "charterhouse/charterhousekeep.RingLate", spec := "ringLate", inPlace := ["maps.clone"], apart := false, narrowed := true }
def RingLateUptoSaid : Prop := ringLateUptoRow.holds Try.pinned (OpenSpec.upto ringLateSpec)

/-- 'charterhousekeep.RingNone', WHERE WHAT IT READS IS OF BULK AT MOST 1048576: true; the input reads as it did. -/
def ringNoneUptoRow : OpenClaim := { program := "ytagbcgbngdfapaa", sum := "4d185cdef07a70d925719646d39bffe3e97ed297b48e058ca7dfbb78ee970356", func := "charterhouse/charterhousekeep.RingNone", spec := "ringNone", inPlace := ["maps.clone"], apart := false, narrowed := true }
def RingNoneUptoSaid : Prop := ringNoneUptoRow.holds Try.pinned (OpenSpec.upto ringNoneSpec)

/-- 'charterhousekeep.RingTwice', WHERE WHAT IT READS IS OF BULK AT MOST 1048576: true; the input reads as it did. -/
def ringTwiceUptoRow : OpenClaim := { program := "ytagbcgbngdfapaa", sum := "4d185cdef07a70d925719646d39bffe3e97ed297b48e058ca7dfbb78ee970356", func := "charterhouse/charterhousekeep.RingTwice", spec := "ringTwice", inPlace := ["maps.clone"], apart := false, narrowed := true }
def RingTwiceUptoSaid : Prop := ringTwiceUptoRow.holds Try.pinned (OpenSpec.upto ringTwiceSpec)

/-- 'charterhousekeep.RingRolls', WHERE WHAT IT READS IS OF BULK AT MOST 1048576: true; the input reads as it did. -/
def ringRollsUptoRow : OpenClaim := { program := "ytagbcgbngdfapaa", sum := "4d185cdef07a70d925719646d39bffe3e97ed297b48e058ca7dfbb78ee970356", func := "charterhouse/charterhousekeep.RingRolls", spec := "ringRolls", inPlace := ["maps.clone"], apart := false, narrowed := true }
def RingRollsUptoSaid : Prop := ringRollsUptoRow.holds Try.pinned (OpenSpec.upto ringRollsSpec)

end Rows
end Go.Proofs.Ytagbcgbngdfapaa
