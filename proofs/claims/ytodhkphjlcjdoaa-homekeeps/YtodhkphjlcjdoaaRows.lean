/-
  No cell of these rows narrows 'for every input' (looked for: loops, veiled, ifaces, maps, wideKeys, modest, calm, conditions, laid).
  DERIVED. THE GIVEN ROWS OF THIS SEAT. 8 by the template 'for every input the law returns true; each argument reads behind the call as it read before'; 0 by the template 'total and deterministic' (their statements: YtodhkphjlcjdoaaTotals.lean).
  GIVEN WITH THE SEED: the statements are not yours to turn. If you find one false, say at which input.
  Laid BY PROGRAM, IN A SANDBOX (cutbox-rows.mjs): the forced cells as the released guide's own fill.sh prints them over the translation 7f520395a506d2f8… (all of the seat's roots in one cut). By AI agents, Wed Nov 11 2026. No macro, syntax, notation, axiom, sorry.
-/
import Derived.Test.YtodhkphjlcjdoaaChecked
import GoSem.Claim
import GoSem.ClaimJoined
import GoSem.ClaimMapViews
import Derived.JoinedTies
import Derived.KernelRfl
namespace Go.Proofs.Ytodhkphjlcjdoaa
/- THE CELL 'sum', in the pinned program and in every row, IS THE sha256 OF THE DUMP (.gsa) THAT YtodhkphjlcjdoaaProg.lean LOADS. Nothing in Lean hashes anything: it is a label: what it is worth is what the hold of that sum in a sandbox is worth. -/
noncomputable def Try.pinned : Pinned := { name := "ytodhkphjlcjdoaa", sum := "7f520395a506d2f88f1521ebb288dc353da6bdf61e3eb5036e81104563417541", checked := Try.checked }
namespace Rows
def none {H : Type} : Left H := { results := [], args := [] }

/-- 'charterhouselaw.HomeDoes': WHATEVER THE INPUT: true; the input reads as it did. -/
def homeDoesSpec : ChangeSpec := { name := "homeDoes", fn := fun _ => fun
  | [d] => { results := [.lit (.bool true)], args := [d] }
  | _ => none }
def homeDoesRow : OpenClaim := { program := "ytodhkphjlcjdoaa", sum := "7f520395a506d2f88f1521ebb288dc353da6bdf61e3eb5036e81104563417541", func := "charterhouse/charterhouselaw.HomeDoes", spec := "homeDoes", unfollowed := true, recurses := true, plainKeys := false, apart := false }
def HomeDoesSaid : Prop := homeDoesRow.holds Try.pinned (OpenSpec.ofChange homeDoesSpec)

/-- ITS FALSE NEIGHBOUR: 'it returns false'. Refute it at one input. -/
def homeDoesWrong : ChangeSpec := { name := "homeDoes", fn := fun _ => fun
  | [d] => { results := [.lit (.bool false)], args := [d] }
  | _ => none }
def HomeDoesWrongFalsely : Prop := homeDoesRow.holds Try.pinned (OpenSpec.ofChange homeDoesWrong)

/-- 'charterhouselaw.HomeTells': WHATEVER THE INPUT: true; the input reads as it did. -/
def homeTellsSpec : ChangeSpec := { name := "homeTells", fn := fun _ => fun
  | [d1, d2] => { results := [.lit (.bool true)], args := [d1, d2] }
  | _ => none }
def homeTellsRow : OpenClaim := { program := "ytodhkphjlcjdoaa", sum := "7f520395a506d2f88f1521ebb288dc353da6bdf61e3eb5036e81104563417541", func := "charterhouse/charterhouselaw.HomeTells", spec := "homeTells", unfollowed := true, recurses := true, plainKeys := false, apart := false }
def HomeTellsSaid : Prop := homeTellsRow.holds Try.pinned (OpenSpec.ofChange homeTellsSpec)

/-- ITS FALSE NEIGHBOUR: 'it returns false'. Refute it at one input. -/
def homeTellsWrong : ChangeSpec := { name := "homeTells", fn := fun _ => fun
  | [d1, d2] => { results := [.lit (.bool false)], args := [d1, d2] }
  | _ => none }
def HomeTellsWrongFalsely : Prop := homeTellsRow.holds Try.pinned (OpenSpec.ofChange homeTellsWrong)

/-- 'charterhousekeep.HomeBounds': WHATEVER THE INPUT: true; the input reads as it did. -/
def homeBoundsSpec : ChangeSpec := { name := "homeBounds", fn := fun _ => fun
  | [d1, d2] => { results := [.lit (.bool true)], args := [d1, d2] }
  | _ => none }
def homeBoundsRow : OpenClaim := { program := "ytodhkphjlcjdoaa", sum := "7f520395a506d2f88f1521ebb288dc353da6bdf61e3eb5036e81104563417541", func := "charterhouse/charterhousekeep.HomeBounds", spec := "homeBounds", unfollowed := true, recurses := true, plainKeys := false, apart := false }
def HomeBoundsSaid : Prop := homeBoundsRow.holds Try.pinned (OpenSpec.ofChange homeBoundsSpec)

/-- ITS FALSE NEIGHBOUR: 'it returns false'. Refute it at one input. -/
def homeBoundsWrong : ChangeSpec := { name := "homeBounds", fn := fun _ => fun
  | [d1, d2] => { results := [.lit (.bool false)], args := [d1, d2] }
  | _ => none }
def HomeBoundsWrongFalsely : Prop := homeBoundsRow.holds Try.pinned (OpenSpec.ofChange homeBoundsWrong)

/-- 'charterhousekeep.HomeFair': WHATEVER THE INPUT: true; the input reads as it did. -/
def homeFairSpec : ChangeSpec := { name := "homeFair", fn := fun _ => fun
  | [d1, d2] => { results := [.lit (.bool true)], args := [d1, d2] }
  | _ => none }
def homeFairRow : OpenClaim := { program := "ytodhkphjlcjdoaa", sum := "7f520395a506d2f88f1521ebb288dc353da6bdf61e3eb5036e81104563417541", func := "charterhouse/charterhousekeep.HomeFair", spec := "homeFair", unfollowed := true, recurses := true, plainKeys := false, apart := false }
def HomeFairSaid : Prop := homeFairRow.holds Try.pinned (OpenSpec.ofChange homeFairSpec)

/-- ITS FALSE NEIGHBOUR: 'it returns false'. Refute it at one input. -/
def homeFairWrong : ChangeSpec := { name := "homeFair", fn := fun _ => fun
  | [d1, d2] => { results := [.lit (.bool false)], args := [d1, d2] }
  | _ => none }
def HomeFairWrongFalsely : Prop := homeFairRow.holds Try.pinned (OpenSpec.ofChange homeFairWrong)

/-- 'charterhousekeep.HomeChildren': WHATEVER THE INPUT: true; the input reads as it did. -/
def homeChildrenSpec : ChangeSpec := { name := "homeChildren", fn := fun _ => fun
  | [d1, d2] => { results := [.lit (.bool true)], args := [d1, d2] }
  | _ => none }
def homeChildrenRow : OpenClaim := { program := "ytodhkphjlcjdoaa", sum := "7f520395a506d2f88f1521ebb288dc353da6bdf61e3eb5036e81104563417541", func := "charterhouse/charterhousekeep.HomeChildren", spec := "homeChildren", unfollowed := true, recurses := true, plainKeys := false, apart := false }
def HomeChildrenSaid : Prop := homeChildrenRow.holds Try.pinned (OpenSpec.ofChange homeChildrenSpec)

/-- ITS FALSE NEIGHBOUR: 'it returns false'. Refute it at one input. -/
def homeChildrenWrong : ChangeSpec := { name := "homeChildren", fn := fun _ => fun
  | [d1, d2] => { results := [.lit (.bool false)], args := [d1, d2] }
  | _ => none }
def HomeChildrenWrongFalsely : Prop := homeChildrenRow.holds Try.pinned (OpenSpec.ofChange homeChildrenWrong)

/-- 'charterhousekeep.HomeGone': WHATEVER THE INPUT: true; the input reads as it did. -/
def homeGoneSpec : ChangeSpec := { name := "homeGone", fn := fun _ => fun
  | [d1, d2, d3] => { results := [.lit (.bool true)], args := [d1, d2, d3] }
  | _ => none }
def homeGoneRow : OpenClaim := { program := "ytodhkphjlcjdoaa", sum := "7f520395a506d2f88f1521ebb288dc353da6bdf61e3eb5036e81104563417541", func := "charterhouse/charterhousekeep.HomeGone", spec := "homeGone", unfollowed := true, recurses := true, plainKeys := false, apart := false }
def HomeGoneSaid : Prop := homeGoneRow.holds Try.pinned (OpenSpec.ofChange homeGoneSpec)

/-- ITS FALSE NEIGHBOUR: 'it returns false'. Refute it at one input. -/
def homeGoneWrong : ChangeSpec := { name := "homeGone", fn := fun _ => fun
  | [d1, d2, d3] => { results := [.lit (.bool false)], args := [d1, d2, d3] }
  | _ => none }
def HomeGoneWrongFalsely : Prop := homeGoneRow.holds Try.pinned (OpenSpec.ofChange homeGoneWrong)

/-- 'charterhousekeep.HomeKeeps': WHATEVER THE INPUT: true; the input reads as it did. -/
def homeKeepsSpec : ChangeSpec := { name := "homeKeeps", fn := fun _ => fun
  | [d1, d2] => { results := [.lit (.bool true)], args := [d1, d2] }
  | _ => none }
def homeKeepsRow : OpenClaim := { program := "ytodhkphjlcjdoaa", sum := "7f520395a506d2f88f1521ebb288dc353da6bdf61e3eb5036e81104563417541", func := "charterhouse/charterhousekeep.HomeKeeps", spec := "homeKeeps", unfollowed := true, recurses := true, plainKeys := false, apart := false }
def HomeKeepsSaid : Prop := homeKeepsRow.holds Try.pinned (OpenSpec.ofChange homeKeepsSpec)

/-- ITS FALSE NEIGHBOUR: 'it returns false'. Refute it at one input. -/
def homeKeepsWrong : ChangeSpec := { name := "homeKeeps", fn := fun _ => fun
  | [d1, d2] => { results := [.lit (.bool false)], args := [d1, d2] }
  | _ => none }
def HomeKeepsWrongFalsely : Prop := homeKeepsRow.holds Try.pinned (OpenSpec.ofChange homeKeepsWrong)

/-- 'charterhousekeep.HomeShared': WHATEVER THE INPUT: true; the input reads as it did. -/
def homeSharedSpec : ChangeSpec := { name := "homeShared", fn := fun _ => fun
  | [d1, d2, d3] => { results := [.lit (.bool true)], args := [d1, d2, d3] }
  | _ => none }
def homeSharedRow : OpenClaim := { program := "ytodhkphjlcjdoaa", sum := "7f520395a506d2f88f1521ebb288dc353da6bdf61e3eb5036e81104563417541", func := "charterhouse/charterhousekeep.HomeShared", spec := "homeShared", unfollowed := true, recurses := true, plainKeys := false, apart := false }
def HomeSharedSaid : Prop := homeSharedRow.holds Try.pinned (OpenSpec.ofChange homeSharedSpec)

/-- ITS FALSE NEIGHBOUR: 'it returns false'. Refute it at one input. -/
def homeSharedWrong : ChangeSpec := { name := "homeShared", fn := fun _ => fun
  | [d1, d2, d3] => { results := [.lit (.bool false)], args := [d1, d2, d3] }
  | _ => none }
def HomeSharedWrongFalsely : Prop := homeSharedRow.holds Try.pinned (OpenSpec.ofChange homeSharedWrong)

/- THE SECOND FORM. 'bulk': how many values and letters a reading holds, each counted each time it is reached (what is shared counts as often as it is met; a slice's spare places count too). A statement '..UptoSaid' is the law's where the arguments, and the package variables that the reading takes, are together of bulk at most 1048576: NARROWER than '..Said'. Prove '..Said' where nothing that the law and all that it calls make is longer than what came in: it says more and counts as full. Else prove '..UptoSaid'. A law counts once. -/
mutual
def uptoBulk {H : Type} : DataW H → Nat
  | .lit (.string bytes) => bytes.length + 1
  | .lit _ => 1
  | .nil => 1
  | .ptr d => uptoBulk d + 1
  | .slice elems spare => uptoBulkAll elems + uptoBulkAll spare + 1
  | .agg parts => uptoBulkAll parts + 1
  | .iface _ d => uptoBulk d + 1
  | .map entries => uptoBulkEntries entries + 1
  | .held _ => 1
def uptoBulkAll {H : Type} : List (DataW H) → Nat
  | [] => 0
  | d :: r => uptoBulk d + uptoBulkAll r
def uptoBulkEntries {H : Type} : List (Lit × DataW H) → Nat
  | [] => 0
  | x :: r => uptoBulkEntry x + uptoBulkEntries r
def uptoBulkEntry {H : Type} : Lit × DataW H → Nat
  | (.string bytes, d) => bytes.length + uptoBulk d + 1
  | (_, d) => uptoBulk d + 1
 end
def uptoSmall : (H : Type) → List (DataW H) → Bool := fun _ ds => decide (uptoBulkAll ds ≤ 1048576)
def OpenSpec.upto (s : _root_.Go.ChangeSpec) : _root_.Go.OpenSpec := { _root_.Go.OpenSpec.ofChange s with cond := some uptoSmall }

/-- 'charterhouselaw.HomeDoes', WHERE WHAT IT READS IS OF BULK AT MOST 1048576: true; the input reads as it did. -/
def homeDoesUptoRow : OpenClaim := { program := "ytodhkphjlcjdoaa", sum := "7f520395a506d2f88f1521ebb288dc353da6bdf61e3eb5036e81104563417541", func := "charterhouse/charterhouselaw.HomeDoes", spec := "homeDoes", unfollowed := true, recurses := true, plainKeys := false, apart := false, narrowed := true }
def HomeDoesUptoSaid : Prop := homeDoesUptoRow.holds Try.pinned (OpenSpec.upto homeDoesSpec)

/-- 'charterhouselaw.HomeTells', WHERE WHAT IT READS IS OF BULK AT MOST 1048576: true; the input reads as it did. -/
def homeTellsUptoRow : OpenClaim := { program := "ytodhkphjlcjdoaa", sum := "7f520395a506d2f88f1521ebb288dc353da6bdf61e3eb5036e81104563417541", func := "charterhouse/charterhouselaw.HomeTells", spec := "homeTells", unfollowed := true, recurses := true, plainKeys := false, apart := false, narrowed := true }
def HomeTellsUptoSaid : Prop := homeTellsUptoRow.holds Try.pinned (OpenSpec.upto homeTellsSpec)

/-- 'charterhousekeep.HomeBounds', WHERE WHAT IT READS IS OF BULK AT MOST 1048576: true; the input reads as it did. -/
def homeBoundsUptoRow : OpenClaim := { program := "ytodhkphjlcjdoaa", sum := "7f520395a506d2f88f1521ebb288dc353da6bdf61e3eb5036e81104563417541", func := "charterhouse/charterhousekeep.HomeBounds", spec := "homeBounds", unfollowed := true, recurses := true, plainKeys := false, apart := false, narrowed := true }
def HomeBoundsUptoSaid : Prop := homeBoundsUptoRow.holds Try.pinned (OpenSpec.upto homeBoundsSpec)

/-- 'charterhousekeep.HomeFair', WHERE WHAT IT READS IS OF BULK AT MOST 1048576: true; the input reads as it did. -/
def homeFairUptoRow : OpenClaim := { program := "ytodhkphjlcjdoaa", sum := "7f520395a506d2f88f1521ebb288dc353da6bdf61e3eb5036e81104563417541", func := "charterhouse/charterhousekeep.HomeFair", spec := "homeFair", unfollowed := true, recurses := true, plainKeys := false, apart := false, narrowed := true }
def HomeFairUptoSaid : Prop := homeFairUptoRow.holds Try.pinned (OpenSpec.upto homeFairSpec)

/-- 'charterhousekeep.HomeChildren', WHERE WHAT IT READS IS OF BULK AT MOST 1048576: true; the input reads as it did. -/
def homeChildrenUptoRow : OpenClaim := { program := "ytodhkphjlcjdoaa", sum := "7f520395a506d2f88f1521ebb288dc353da6bdf61e3eb5036e81104563417541", func := "charterhouse/charterhousekeep.HomeChildren", spec := "homeChildren", unfollowed := true, recurses := true, plainKeys := false, apart := false, narrowed := true }
def HomeChildrenUptoSaid : Prop := homeChildrenUptoRow.holds Try.pinned (OpenSpec.upto homeChildrenSpec)

/-- 'charterhousekeep.HomeGone', WHERE WHAT IT READS IS OF BULK AT MOST 1048576: true; the input reads as it did. -/
def homeGoneUptoRow : OpenClaim := { program := "ytodhkphjlcjdoaa", sum := "7f520395a506d2f88f1521ebb288dc353da6bdf61e3eb5036e81104563417541", func := "charterhouse/charterhousekeep.HomeGone", spec := "homeGone", unfollowed := true, recurses := true, plainKeys := false, apart := false, narrowed := true }
def HomeGoneUptoSaid : Prop := homeGoneUptoRow.holds Try.pinned (OpenSpec.upto homeGoneSpec)

/-- 'charterhousekeep.HomeKeeps', WHERE WHAT IT READS IS OF BULK AT MOST 1048576: true; the input reads as it did. -/
def homeKeepsUptoRow : OpenClaim := { program := "ytodhkphjlcjdoaa", sum := "7f520395a506d2f88f1521ebb288dc353da6bdf61e3eb5036e81104563417541", func := "charterhouse/charterhousekeep.HomeKeeps", spec := "homeKeeps", unfollowed := true, recurses := true, plainKeys := false, apart := false, narrowed := true }
def HomeKeepsUptoSaid : Prop := homeKeepsUptoRow.holds Try.pinned (OpenSpec.upto homeKeepsSpec)

/-- 'charterhousekeep.HomeShared', WHERE WHAT IT READS IS OF BULK AT MOST 1048576: true; the input reads as it did. -/
def homeSharedUptoRow : OpenClaim := { program := "ytodhkphjlcjdoaa", sum := "7f520395a506d2f88f1521ebb288dc353da6bdf61e3eb5036e81104563417541", func := "charterhouse/charterhousekeep.HomeShared", spec := "homeShared", unfollowed := true, recurses := true, plainKeys := false, apart := false, narrowed := true }
def HomeSharedUptoSaid : Prop := homeSharedUptoRow.holds Try.pinned (OpenSpec.upto homeSharedSpec)

end Rows
end Go.Proofs.Ytodhkphjlcjdoaa
