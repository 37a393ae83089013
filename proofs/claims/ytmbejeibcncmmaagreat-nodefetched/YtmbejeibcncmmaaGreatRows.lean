/-
  No cell of these rows narrows 'for every input' (looked for: loops, veiled, ifaces, maps, wideKeys, modest, calm, conditions, laid).
  DERIVED. THE GIVEN ROWS OF THIS SEAT. 12 by the template 'for every input the law returns true; each argument reads behind the call as it read before'; 0 by the template 'total and deterministic' (their statements: YtmbejeibcncmmaaGreatTotals.lean).
  GIVEN WITH THE SEED: the statements are not yours to turn. If you find one false, say at which input.
  Laid BY PROGRAM, IN A SANDBOX (cutbox-rows.mjs): the forced cells as the released guide's own fill.sh prints them over the translation 7df63d07d0ddc7a7… (all of the seat's roots in one cut). By AI agents, Wed Nov 11 2026. No macro, syntax, notation, axiom, sorry.
-/
import Derived.Test.YtmbejeibcncmmaaGreatChecked
import GoSem.Claim
import GoSem.ClaimJoined
import GoSem.ClaimMapViews
import Derived.JoinedTies
import Derived.KernelRfl
namespace Go.Proofs.YtmbejeibcncmmaaGreat
/- THE CELL 'sum', in the pinned program and in every row, IS THE sha256 OF THE DUMP (.gsa) THAT YtmbejeibcncmmaaGreatProg.lean LOADS. Nothing in Lean hashes anything: it is a label: what it is worth is what the hold of that sum in a sandbox is worth. -/
noncomputable def Tryz.pinned : Pinned := { name := "ytmbejeibcncmmaagreat", sum := "7df63d07d0ddc7a77369069f2e11285876af72f9893e7f2deae9e70dcf5488d5", checked := Tryz.checked }
namespace Rows
def none {H : Type} : Left H := { results := [], args := [] }

/-- 'charterhousekeep.NodeErrors': WHATEVER THE INPUT: true; the input reads as it did. -/
def nodeErrorsSpec : ChangeSpec := { name := "nodeErrors", fn := fun _ => fun
  | [d1, d2] => { results := [.lit (.bool true)], args := [d1, d2] }
  | _ => none }
def nodeErrorsRow : OpenClaim := { program := "ytmbejeibcncmmaagreat", sum := "7df63d07d0ddc7a77369069f2e11285876af72f9893e7f2deae9e70dcf5488d5", func := "charterhouse/charterhousekeep.NodeErrors", spec := "nodeErrors", inPlace := ["maps.clone"], unfollowed := true, recurses := true, plainKeys := false, apart := false }
def NodeErrorsSaid : Prop := nodeErrorsRow.holds Tryz.pinned (OpenSpec.ofChange nodeErrorsSpec)

/-- ITS FALSE NEIGHBOUR: 'it returns false'. Refute it at one input. -/
def nodeErrorsWrong : ChangeSpec := { name := "nodeErrors", fn := fun _ => fun
  | [d1, d2] => { results := [.lit (.bool false)], args := [d1, d2] }
  | _ => none }
def NodeErrorsWrongFalsely : Prop := nodeErrorsRow.holds Tryz.pinned (OpenSpec.ofChange nodeErrorsWrong)

/-- 'charterhousekeep.NodeOuts': WHATEVER THE INPUT: true; the input reads as it did. -/
def nodeOutsSpec : ChangeSpec := { name := "nodeOuts", fn := fun _ => fun
  | [d1, d2] => { results := [.lit (.bool true)], args := [d1, d2] }
  | _ => none }
def nodeOutsRow : OpenClaim := { program := "ytmbejeibcncmmaagreat", sum := "7df63d07d0ddc7a77369069f2e11285876af72f9893e7f2deae9e70dcf5488d5", func := "charterhouse/charterhousekeep.NodeOuts", spec := "nodeOuts", inPlace := ["maps.clone"], unfollowed := true, recurses := true, plainKeys := false, apart := false }
def NodeOutsSaid : Prop := nodeOutsRow.holds Tryz.pinned (OpenSpec.ofChange nodeOutsSpec)

/-- ITS FALSE NEIGHBOUR: 'it returns false'. Refute it at one input. -/
def nodeOutsWrong : ChangeSpec := { name := "nodeOuts", fn := fun _ => fun
  | [d1, d2] => { results := [.lit (.bool false)], args := [d1, d2] }
  | _ => none }
def NodeOutsWrongFalsely : Prop := nodeOutsRow.holds Tryz.pinned (OpenSpec.ofChange nodeOutsWrong)

/-- 'charterhousekeep.NodeFlights': WHATEVER THE INPUT: true; the input reads as it did. -/
def nodeFlightsSpec : ChangeSpec := { name := "nodeFlights", fn := fun _ => fun
  | [d1, d2] => { results := [.lit (.bool true)], args := [d1, d2] }
  | _ => none }
def nodeFlightsRow : OpenClaim := { program := "ytmbejeibcncmmaagreat", sum := "7df63d07d0ddc7a77369069f2e11285876af72f9893e7f2deae9e70dcf5488d5", func := "charterhouse/charterhousekeep.NodeFlights", spec := "nodeFlights", inPlace := ["maps.clone"], unfollowed := true, recurses := true, plainKeys := false, apart := false }
def NodeFlightsSaid : Prop := nodeFlightsRow.holds Tryz.pinned (OpenSpec.ofChange nodeFlightsSpec)

/-- ITS FALSE NEIGHBOUR: 'it returns false'. Refute it at one input. -/
def nodeFlightsWrong : ChangeSpec := { name := "nodeFlights", fn := fun _ => fun
  | [d1, d2] => { results := [.lit (.bool false)], args := [d1, d2] }
  | _ => none }
def NodeFlightsWrongFalsely : Prop := nodeFlightsRow.holds Tryz.pinned (OpenSpec.ofChange nodeFlightsWrong)

/-- 'charterhousekeep.NodeMay': WHATEVER THE INPUT: true; the input reads as it did. -/
def nodeMaySpec : ChangeSpec := { name := "nodeMay", fn := fun _ => fun
  | [d1, d2] => { results := [.lit (.bool true)], args := [d1, d2] }
  | _ => none }
def nodeMayRow : OpenClaim := { program := "ytmbejeibcncmmaagreat", sum := "7df63d07d0ddc7a77369069f2e11285876af72f9893e7f2deae9e70dcf5488d5", func := "charterhouse/charterhousekeep.NodeMay", spec := "nodeMay", inPlace := ["maps.clone"], unfollowed := true, recurses := true, plainKeys := false, apart := false }
def NodeMaySaid : Prop := nodeMayRow.holds Tryz.pinned (OpenSpec.ofChange nodeMaySpec)

/-- ITS FALSE NEIGHBOUR: 'it returns false'. Refute it at one input. -/
def nodeMayWrong : ChangeSpec := { name := "nodeMay", fn := fun _ => fun
  | [d1, d2] => { results := [.lit (.bool false)], args := [d1, d2] }
  | _ => none }
def NodeMayWrongFalsely : Prop := nodeMayRow.holds Tryz.pinned (OpenSpec.ofChange nodeMayWrong)

/-- 'charterhousekeep.NodeFetched': WHATEVER THE INPUT: true; the input reads as it did. -/
def nodeFetchedSpec : ChangeSpec := { name := "nodeFetched", fn := fun _ => fun
  | [d1, d2, d3] => { results := [.lit (.bool true)], args := [d1, d2, d3] }
  | _ => none }
def nodeFetchedRow : OpenClaim := { program := "ytmbejeibcncmmaagreat", sum := "7df63d07d0ddc7a77369069f2e11285876af72f9893e7f2deae9e70dcf5488d5", func := "charterhouse/charterhousekeep.NodeFetched", spec := "nodeFetched", inPlace := ["maps.clone"], unfollowed := true, recurses := true, plainKeys := false, apart := false }
def NodeFetchedSaid : Prop := nodeFetchedRow.holds Tryz.pinned (OpenSpec.ofChange nodeFetchedSpec)

/-- ITS FALSE NEIGHBOUR: 'it returns false'. Refute it at one input. -/
def nodeFetchedWrong : ChangeSpec := { name := "nodeFetched", fn := fun _ => fun
  | [d1, d2, d3] => { results := [.lit (.bool false)], args := [d1, d2, d3] }
  | _ => none }
def NodeFetchedWrongFalsely : Prop := nodeFetchedRow.holds Tryz.pinned (OpenSpec.ofChange nodeFetchedWrong)

/-- 'charterhousekeep.NodeLeft': WHATEVER THE INPUT: true; the input reads as it did. -/
def nodeLeftSpec : ChangeSpec := { name := "nodeLeft", fn := fun _ => fun
  | [d1, d2, d3] => { results := [.lit (.bool true)], args := [d1, d2, d3] }
  | _ => none }
def nodeLeftRow : OpenClaim := { program := "ytmbejeibcncmmaagreat", sum := "7df63d07d0ddc7a77369069f2e11285876af72f9893e7f2deae9e70dcf5488d5", func := "charterhouse/charterhousekeep.NodeLeft", spec := "nodeLeft", inPlace := ["maps.clone"], unfollowed := true, recurses := true, plainKeys := false, apart := false }
def NodeLeftSaid : Prop := nodeLeftRow.holds Tryz.pinned (OpenSpec.ofChange nodeLeftSpec)

/-- ITS FALSE NEIGHBOUR: 'it returns false'. Refute it at one input. -/
def nodeLeftWrong : ChangeSpec := { name := "nodeLeft", fn := fun _ => fun
  | [d1, d2, d3] => { results := [.lit (.bool false)], args := [d1, d2, d3] }
  | _ => none }
def NodeLeftWrongFalsely : Prop := nodeLeftRow.holds Tryz.pinned (OpenSpec.ofChange nodeLeftWrong)

/-- 'charterhousekeep.NodeWaits': WHATEVER THE INPUT: true; the input reads as it did. -/
def nodeWaitsSpec : ChangeSpec := { name := "nodeWaits", fn := fun _ => fun
  | [d1, d2] => { results := [.lit (.bool true)], args := [d1, d2] }
  | _ => none }
def nodeWaitsRow : OpenClaim := { program := "ytmbejeibcncmmaagreat", sum := "7df63d07d0ddc7a77369069f2e11285876af72f9893e7f2deae9e70dcf5488d5", func := "charterhouse/charterhousekeep.NodeWaits", spec := "nodeWaits", inPlace := ["maps.clone"], unfollowed := true, recurses := true, plainKeys := false, apart := false }
def NodeWaitsSaid : Prop := nodeWaitsRow.holds Tryz.pinned (OpenSpec.ofChange nodeWaitsSpec)

/-- ITS FALSE NEIGHBOUR: 'it returns false'. Refute it at one input. -/
def nodeWaitsWrong : ChangeSpec := { name := "nodeWaits", fn := fun _ => fun
  | [d1, d2] => { results := [.lit (.bool false)], args := [d1, d2] }
  | _ => none }
def NodeWaitsWrongFalsely : Prop := nodeWaitsRow.holds Tryz.pinned (OpenSpec.ofChange nodeWaitsWrong)

/-- 'charterhousekeep.OwnMemory': WHATEVER THE INPUT: true; the input reads as it did. -/
def ownMemorySpec : ChangeSpec := { name := "ownMemory", fn := fun _ => fun
  | [d1, d2, d3] => { results := [.lit (.bool true)], args := [d1, d2, d3] }
  | _ => none }
def ownMemoryRow : OpenClaim := { program := "ytmbejeibcncmmaagreat", sum := "7df63d07d0ddc7a77369069f2e11285876af72f9893e7f2deae9e70dcf5488d5", func := "charterhouse/charterhousekeep.OwnMemory", spec := "ownMemory", inPlace := ["maps.clone"], unfollowed := true, recurses := true, plainKeys := false, apart := false }
def OwnMemorySaid : Prop := ownMemoryRow.holds Tryz.pinned (OpenSpec.ofChange ownMemorySpec)

/-- ITS FALSE NEIGHBOUR: 'it returns false'. Refute it at one input. -/
def ownMemoryWrong : ChangeSpec := { name := "ownMemory", fn := fun _ => fun
  | [d1, d2, d3] => { results := [.lit (.bool false)], args := [d1, d2, d3] }
  | _ => none }
def OwnMemoryWrongFalsely : Prop := ownMemoryRow.holds Tryz.pinned (OpenSpec.ofChange ownMemoryWrong)

/-- 'charterhousekeep.NodeDelay': WHATEVER THE INPUT: true; the input reads as it did. -/
def nodeDelaySpec : ChangeSpec := { name := "nodeDelay", fn := fun _ => fun
  | [d1, d2, d3, d4] => { results := [.lit (.bool true)], args := [d1, d2, d3, d4] }
  | _ => none }
def nodeDelayRow : OpenClaim := { program := "ytmbejeibcncmmaagreat", sum := "7df63d07d0ddc7a77369069f2e11285876af72f9893e7f2deae9e70dcf5488d5", func := "charterhouse/charterhousekeep.NodeDelay", spec := "nodeDelay", inPlace := ["maps.clone"], unfollowed := true, recurses := true, plainKeys := false, apart := false }
def NodeDelaySaid : Prop := nodeDelayRow.holds Tryz.pinned (OpenSpec.ofChange nodeDelaySpec)

/-- ITS FALSE NEIGHBOUR: 'it returns false'. Refute it at one input. -/
def nodeDelayWrong : ChangeSpec := { name := "nodeDelay", fn := fun _ => fun
  | [d1, d2, d3, d4] => { results := [.lit (.bool false)], args := [d1, d2, d3, d4] }
  | _ => none }
def NodeDelayWrongFalsely : Prop := nodeDelayRow.holds Tryz.pinned (OpenSpec.ofChange nodeDelayWrong)

/-- 'charterhousekeep.NodeParents': WHATEVER THE INPUT: true; the input reads as it did. -/
def nodeParentsSpec : ChangeSpec := { name := "nodeParents", fn := fun _ => fun
  | [d1, d2] => { results := [.lit (.bool true)], args := [d1, d2] }
  | _ => none }
def nodeParentsRow : OpenClaim := { program := "ytmbejeibcncmmaagreat", sum := "7df63d07d0ddc7a77369069f2e11285876af72f9893e7f2deae9e70dcf5488d5", func := "charterhouse/charterhousekeep.NodeParents", spec := "nodeParents", inPlace := ["maps.clone"], unfollowed := true, recurses := true, plainKeys := false, apart := false }
def NodeParentsSaid : Prop := nodeParentsRow.holds Tryz.pinned (OpenSpec.ofChange nodeParentsSpec)

/-- ITS FALSE NEIGHBOUR: 'it returns false'. Refute it at one input. -/
def nodeParentsWrong : ChangeSpec := { name := "nodeParents", fn := fun _ => fun
  | [d1, d2] => { results := [.lit (.bool false)], args := [d1, d2] }
  | _ => none }
def NodeParentsWrongFalsely : Prop := nodeParentsRow.holds Tryz.pinned (OpenSpec.ofChange nodeParentsWrong)

/-- 'charterhousekeep.NodeWicked': WHATEVER THE INPUT: true; the input reads as it did. -/
def nodeWickedSpec : ChangeSpec := { name := "nodeWicked", fn := fun _ => fun
  | [d1, d2, d3] => { results := [.lit (.bool true)], args := [d1, d2, d3] }
  | _ => none }
def nodeWickedRow : OpenClaim := { program := "ytmbejeibcncmmaagreat", sum := "7df63d07d0ddc7a77369069f2e11285876af72f9893e7f2deae9e70dcf5488d5", func := "charterhouse/charterhousekeep.NodeWicked", spec := "nodeWicked", inPlace := ["maps.clone"], unfollowed := true, recurses := true, plainKeys := false, apart := false }
def NodeWickedSaid : Prop := nodeWickedRow.holds Tryz.pinned (OpenSpec.ofChange nodeWickedSpec)

/-- ITS FALSE NEIGHBOUR: 'it returns false'. Refute it at one input. -/
def nodeWickedWrong : ChangeSpec := { name := "nodeWicked", fn := fun _ => fun
  | [d1, d2, d3] => { results := [.lit (.bool false)], args := [d1, d2, d3] }
  | _ => none }
def NodeWickedWrongFalsely : Prop := nodeWickedRow.holds Tryz.pinned (OpenSpec.ofChange nodeWickedWrong)

/-- 'charterhousekeep.NodeTwice': WHATEVER THE INPUT: true; the input reads as it did. -/
def nodeTwiceSpec : ChangeSpec := { name := "nodeTwice", fn := fun _ => fun
  | [d1, d2] => { results := [.lit (.bool true)], args := [d1, d2] }
  | _ => none }
def nodeTwiceRow : OpenClaim := { program := "ytmbejeibcncmmaagreat", sum := "7df63d07d0ddc7a77369069f2e11285876af72f9893e7f2deae9e70dcf5488d5", func := "charterhouse/charterhousekeep.NodeTwice", spec := "nodeTwice", inPlace := ["maps.clone"], unfollowed := true, recurses := true, plainKeys := false, apart := false }
def NodeTwiceSaid : Prop := nodeTwiceRow.holds Tryz.pinned (OpenSpec.ofChange nodeTwiceSpec)

/-- ITS FALSE NEIGHBOUR: 'it returns false'. Refute it at one input. -/
def nodeTwiceWrong : ChangeSpec := { name := "nodeTwice", fn := fun _ => fun
  | [d1, d2] => { results := [.lit (.bool false)], args := [d1, d2] }
  | _ => none }
def NodeTwiceWrongFalsely : Prop := nodeTwiceRow.holds Tryz.pinned (OpenSpec.ofChange nodeTwiceWrong)

/- THE SECOND FORM. 'bulk': how many values and letters a reading holds, each counted each time it is reached (what is shared counts as often as it is met; a slice's spare places count too). A statement '..UptoSaid' is the law's where the arguments, and the package variables that the reading takes, are together of bulk at most 1048576: NARROWER than '..Said'. Prove '..Said' where nothing that the law and all that it calls make is longer than what came in: it says more and counts as full. Else prove '..UptoSaid'. A law counts once. -/
mutual
def uptoBulk {H : Type} : DataW H → Nat
  | .lit (.string bytes) => bytes.length + 1
  | .lit _ => 1
  | .nil => 1
  | .ptr d => uptoBulk d + 1
  | .slice elems spare => uptoBulkAll elems + uptoBulkAll spare + 1
  | .agg parts => uptoBulkAll parts + 1
  | .iface _ d => uptoBulk d + 1
  | .map entries => uptoBulkEntries entries + 1
  | .held _ => 1
def uptoBulkAll {H : Type} : List (DataW H) → Nat
  | [] => 0
  | d :: r => uptoBulk d + uptoBulkAll r
def uptoBulkEntries {H : Type} : List (Lit × DataW H) → Nat
  | [] => 0
  | x :: r => uptoBulkEntry x + uptoBulkEntries r
def uptoBulkEntry {H : Type} : Lit × DataW H → Nat
  | (.string bytes, d) => bytes.length + uptoBulk d + 1
  | (_, d) => uptoBulk d + 1
 end
def uptoSmall : (H : Type) → List (DataW H) → Bool := fun _ ds => decide (uptoBulkAll ds ≤ 1048576)
def OpenSpec.upto (s : _root_.Go.ChangeSpec) : _root_.Go.OpenSpec := { _root_.Go.OpenSpec.ofChange s with cond := some uptoSmall }

/-- 'charterhousekeep.NodeErrors', WHERE WHAT IT READS IS OF BULK AT MOST 1048576: true; the input reads as it did. -/
def nodeErrorsUptoRow : OpenClaim := { program := "ytmbejeibcncmmaagreat", sum := "7df63d07d0ddc7a77369069f2e11285876af72f9893e7f2deae9e70dcf5488d5", func := "charterhouse/charterhousekeep.NodeErrors", spec := "nodeErrors", inPlace := ["maps.clone"], unfollowed := true, recurses := true, plainKeys := false, apart := false, narrowed := true }
def NodeErrorsUptoSaid : Prop := nodeErrorsUptoRow.holds Tryz.pinned (OpenSpec.upto nodeErrorsSpec)

/-- 'charterhousekeep.NodeOuts', WHERE WHAT IT READS IS OF BULK AT MOST 1048576: true; the input reads as it did. -/
def nodeOutsUptoRow : OpenClaim := { program := "ytmbejeibcncmmaagreat", sum := "7df63d07d0ddc7a77369069f2e11285876af72f9893e7f2deae9e70dcf5488d5", func := "charterhouse/charterhousekeep.NodeOuts", spec := "nodeOuts", inPlace := ["maps.clone"], unfollowed := true, recurses := true, plainKeys := false, apart := false, narrowed := true }
def NodeOutsUptoSaid : Prop := nodeOutsUptoRow.holds Tryz.pinned (OpenSpec.upto nodeOutsSpec)

/-- 'charterhousekeep.NodeFlights', WHERE WHAT IT READS IS OF BULK AT MOST 1048576: true; the input reads as it did. -/
def nodeFlightsUptoRow : OpenClaim := { program := "ytmbejeibcncmmaagreat", sum := "7df63d07d0ddc7a77369069f2e11285876af72f9893e7f2deae9e70dcf5488d5", func := "charterhouse/charterhousekeep.NodeFlights", spec := "nodeFlights", inPlace := ["maps.clone"], unfollowed := true, recurses := true, plainKeys := false, apart := false, narrowed := true }
def NodeFlightsUptoSaid : Prop := nodeFlightsUptoRow.holds Tryz.pinned (OpenSpec.upto nodeFlightsSpec)

/-- 'charterhousekeep.NodeMay', WHERE WHAT IT READS IS OF BULK AT MOST 1048576: true; the input reads as it did. -/
def nodeMayUptoRow : OpenClaim := { program := "ytmbejeibcncmmaagreat", sum := "7df63d07d0ddc7a77369069f2e11285876af72f9893e7f2deae9e70dcf5488d5", func := "charterhouse/charterhousekeep.NodeMay", spec := "nodeMay", inPlace := ["maps.clone"], unfollowed := true, recurses := true, plainKeys := false, apart := false, narrowed := true }
def NodeMayUptoSaid : Prop := nodeMayUptoRow.holds Tryz.pinned (OpenSpec.upto nodeMaySpec)

/-- 'charterhousekeep.NodeFetched', WHERE WHAT IT READS IS OF BULK AT MOST 1048576: true; the input reads as it did. -/
def nodeFetchedUptoRow : OpenClaim := { program := "ytmbejeibcncmmaagreat", sum := "7df63d07d0ddc7a77369069f2e11285876af72f9893e7f2deae9e70dcf5488d5", func := "charterhouse/charterhousekeep.NodeFetched", spec := "nodeFetched", inPlace := ["maps.clone"], unfollowed := true, recurses := true, plainKeys := false, apart := false, narrowed := true }
def NodeFetchedUptoSaid : Prop := nodeFetchedUptoRow.holds Tryz.pinned (OpenSpec.upto nodeFetchedSpec)

/-- 'charterhousekeep.NodeLeft', WHERE WHAT IT READS IS OF BULK AT MOST 1048576: true; the input reads as it did. -/
def nodeLeftUptoRow : OpenClaim := { program := "ytmbejeibcncmmaagreat", sum := "7df63d07d0ddc7a77369069f2e11285876af72f9893e7f2deae9e70dcf5488d5", func := "charterhouse/charterhousekeep.NodeLeft", spec := "nodeLeft", inPlace := ["maps.clone"], unfollowed := true, recurses := true, plainKeys := false, apart := false, narrowed := true }
def NodeLeftUptoSaid : Prop := nodeLeftUptoRow.holds Tryz.pinned (OpenSpec.upto nodeLeftSpec)

/-- 'charterhousekeep.NodeWaits', WHERE WHAT IT READS IS OF BULK AT MOST 1048576: true; the input reads as it did. -/
def nodeWaitsUptoRow : OpenClaim := { program := "ytmbejeibcncmmaagreat", sum := "7df63d07d0ddc7a77369069f2e11285876af72f9893e7f2deae9e70dcf5488d5", func := "charterhouse/charterhousekeep.NodeWaits", spec := "nodeWaits", inPlace := ["maps.clone"], unfollowed := true, recurses := true, plainKeys := false, apart := false, narrowed := true }
def NodeWaitsUptoSaid : Prop := nodeWaitsUptoRow.holds Tryz.pinned (OpenSpec.upto nodeWaitsSpec)

/-- 'charterhousekeep.OwnMemory', WHERE WHAT IT READS IS OF BULK AT MOST 1048576: true; the input reads as it did. -/
def ownMemoryUptoRow : OpenClaim := { program := "ytmbejeibcncmmaagreat", sum := "7df63d07d0ddc7a77369069f2e11285876af72f9893e7f2deae9e70dcf5488d5", func := "charterhouse/charterhousekeep.OwnMemory", spec := "ownMemory", inPlace := ["maps.clone"], unfollowed := true, recurses := true, plainKeys := false, apart := false, narrowed := true }
def OwnMemoryUptoSaid : Prop := ownMemoryUptoRow.holds Tryz.pinned (OpenSpec.upto ownMemorySpec)

/-- 'charterhousekeep.NodeDelay', WHERE WHAT IT READS IS OF BULK AT MOST 1048576: true; the input reads as it did. -/
def nodeDelayUptoRow : OpenClaim := { program := "ytmbejeibcncmmaagreat", sum := "7df63d07d0ddc7a77369069f2e11285876af72f9893e7f2deae9e70dcf5488d5", func := "charterhouse/charterhousekeep.NodeDelay", spec := "nodeDelay", inPlace := ["maps.clone"], unfollowed := true, recurses := true, plainKeys := false, apart := false, narrowed := true }
def NodeDelayUptoSaid : Prop := nodeDelayUptoRow.holds Tryz.pinned (OpenSpec.upto nodeDelaySpec)

/-- 'charterhousekeep.NodeParents', WHERE WHAT IT READS IS OF BULK AT MOST 1048576: true; the input reads as it did. -/
def nodeParentsUptoRow : OpenClaim := { program := "ytmbejeibcncmmaagreat", sum := "7df63d07d0ddc7a77369069f2e11285876af72f9893e7f2deae9e70dcf5488d5", func := "charterhouse/charterhousekeep.NodeParents", spec := "nodeParents", inPlace := ["maps.clone"], unfollowed := true, recurses := true, plainKeys := false, apart := false, narrowed := true }
def NodeParentsUptoSaid : Prop := nodeParentsUptoRow.holds Tryz.pinned (OpenSpec.upto nodeParentsSpec)

/-- 'charterhousekeep.NodeWicked', WHERE WHAT IT READS IS OF BULK AT MOST 1048576: true; the input reads as it did. -/
def nodeWickedUptoRow : OpenClaim := { program := "ytmbejeibcncmmaagreat", sum := "7df63d07d0ddc7a77369069f2e11285876af72f9893e7f2deae9e70dcf5488d5", func := "charterhouse/charterhousekeep.NodeWicked", spec := "nodeWicked", inPlace := ["maps.clone"], unfollowed := true, recurses := true, plainKeys := false, apart := false, narrowed := true }
def NodeWickedUptoSaid : Prop := nodeWickedUptoRow.holds Tryz.pinned (OpenSpec.upto nodeWickedSpec)

/-- 'charterhousekeep.NodeTwice', WHERE WHAT IT READS IS OF BULK AT MOST 1048576: true; the input reads as it did. -/
def nodeTwiceUptoRow : OpenClaim := { program := "ytmbejeibcncmmaagreat", sum := "7df63d07d0ddc7a77369069f2e11285876af72f9893e7f2deae9e70dcf5488d5", func := "charterhouse/charterhousekeep.NodeTwice", spec := "nodeTwice", inPlace := ["maps.clone"], unfollowed := true, recurses := true, plainKeys := false, apart := false, narrowed := true }
def NodeTwiceUptoSaid : Prop := nodeTwiceUptoRow.holds Tryz.pinned (OpenSpec.upto nodeTwiceSpec)

end Rows
end Go.Proofs.YtmbejeibcncmmaaGreat
