/-
  No cell of these rows narrows 'for every input' (looked for: loops, veiled, ifaces, maps, wideKeys, modest, calm, conditions, laid).
  DERIVED. THE GIVEN ROWS OF THIS SEAT. 12 by the template 'for every input the law returns true; each argument reads behind the call as it read before'; 0 by the template 'total and deterministic' (their statements: YtaaaplbjeknbkaaGreatTotals.lean).
  GIVEN WITH THE SEED: the statements are not yours to turn. If you find one false, say at which input.
  Laid BY PROGRAM, IN A SANDBOX (cutbox-rows.mjs): the forced cells as the released guide's own fill.sh prints them over the translation 2ddd2ac291e57bc1… (all of the seat's roots in one cut). By AI agents, Wed Nov 11 2026. No macro, syntax, notation, axiom, sorry.
-/
import Derived.Test.YtaaaplbjeknbkaaGreatChecked
import GoSem.Claim
import GoSem.ClaimJoined
import GoSem.ClaimMapViews
import Derived.JoinedTies
import Derived.KernelRfl
namespace Go.Proofs.YtaaaplbjeknbkaaGreat
/- THE CELL 'sum', in the pinned program and in every row, IS THE sha256 OF THE DUMP (.gsa) THAT YtaaaplbjeknbkaaGreatProg.lean LOADS. Nothing in Lean hashes anything: it is a label: what it is worth is what the hold of that sum in a sandbox is worth. -/
noncomputable def Tryz.pinned : Pinned := { name := "ytaaaplbjeknbkaagreat", sum := "2ddd2ac291e57bc15224c894b980464f71d9fbdcc703e010d05e1a0a506a18c6", checked := Tryz.checked }
namespace Rows
def none {H : Type} : Left H := { results := [], args := [] }

/-- 'charterhousekeep.NodeOuts': WHATEVER THE INPUT: true; the input reads as it did. -/
def nodeOutsSpec : ChangeSpec := { name := "nodeOuts", fn := fun _ => fun
  | [d1, d2] => { results := [.lit (.bool true)], args := [d1, d2] }
  | _ => none }
def nodeOutsRow : OpenClaim := { program := "ytaaaplbjeknbkaagreat", sum := "2ddd2ac291e57bc15224c894b980464f71d9fbdcc703e010d05e1a0a506a18c6", func := "charterhouse/charterhousekeep.NodeOuts", spec := "nodeOuts", inPlace := ["maps.clone"], unfollowed := true, recurses := true, plainKeys := false, apart := false }
def NodeOutsSaid : Prop := nodeOutsRow.holds Tryz.pinned (OpenSpec.ofChange nodeOutsSpec)

/-- ITS FALSE NEIGHBOUR: 'it returns false'. Refute it at one input. -/
def nodeOutsWrong : ChangeSpec := { name := "nodeOuts", fn := fun _ => fun
  | [d1, d2] => { results := [.lit (.bool false)], args := [d1, d2] }
  | _ => none }
def NodeOutsWrongFalsely : Prop := nodeOutsRow.holds Tryz.pinned (OpenSpec.ofChange nodeOutsWrong)

/-- 'charterhousekeep.NodeFlights': WHATEVER THE INPUT: true; the input reads as it did. -/
def nodeFlightsSpec : ChangeSpec := { name := "nodeFlights", fn := fun _ => fun
  | [d1, d2] => { results := [.lit (.bool true)], args := [d1, d2] }
  | _ => none }
def nodeFlightsRow : OpenClaim := { program := "ytaaaplbjeknbkaagreat", sum := "2ddd2ac291e57bc15224c894b980464f71d9fbdcc703e010d05e1a0a506a18c6", func := "charterhouse/charterhousekeep.NodeFlights", spec := "nodeFlights", inPlace := ["maps.clone"], unfollowed := true, recurses := true, plainKeys := false, apart := false }
def NodeFlightsSaid : Prop := nodeFlightsRow.holds Tryz.pinned (OpenSpec.ofChange nodeFlightsSpec)

/-- ITS FALSE NEIGHBOUR: 'it returns false'. Refute it at one input. -/
def nodeFlightsWrong : ChangeSpec := { name := "nodeFlights", fn := fun _ => fun
  | [d1, d2] => { results := [.lit (.bool false)], args := [d1, d2] }
  | _ => none }
def NodeFlightsWrongFalsely : Prop := nodeFlightsRow.holds Tryz.pinned (OpenSpec.ofChange nodeFlightsWrong)

/-- 'charterhousekeep.NodeMay': WHATEVER THE INPUT: true; the input reads as it did. -/
def nodeMaySpec : ChangeSpec := { name := "nodeMay", fn := fun _ => fun
  | [d1, d2] => { results := [.lit (.bool true)], args := [d1, d2] }
  | _ => none }
def nodeMayRow : OpenClaim := { program := "ytaaaplbjeknbkaagreat", sum := "2ddd2ac291e57bc15224c894b980464f71d9fbdcc703e010d05e1a0a506a18c6", func := "charterhouse/charterhousekeep.NodeMay", spec := "nodeMay", inPlace := ["maps.clone"], unfollowed := true, recurses := true, plainKeys := false, apart := false }
def NodeMaySaid : Prop := nodeMayRow.holds Tryz.pinned (OpenSpec.ofChange nodeMaySpec)

/-- ITS FALSE NEIGHBOUR: 'it returns false'. Refute it at one input. -/
def nodeMayWrong : ChangeSpec := { name := "nodeMay", fn := fun _ => fun
  | [d1, d2] => { results := [.lit (.bool false)], args := [d1, d2] }
  | _ => none }
def NodeMayWrongFalsely : Prop := nodeMayRow.holds Tryz.pinned (OpenSpec.ofChange nodeMayWrong)

/-- 'charterhousekeep.OwnMemory': WHATEVER THE INPUT: true; the input reads as it did. -/
def ownMemorySpec : ChangeSpec := { name := "ownMemory", fn := fun _ => fun
  | [d1, d2, d3] => { results := [.lit (.bool true)], args := [d1, d2, d3] }
  | _ => none }
def ownMemoryRow : OpenClaim := { program := "ytaaaplbjeknbkaagreat", sum := "2ddd2ac291e57bc15224c894b980464f71d9fbdcc703e010d05e1a0a506a18c6", func := "charterhouse/charterhousekeep.OwnMemory", spec := "ownMemory", inPlace := ["maps.clone"], unfollowed := true, recurses := true, plainKeys := false, apart := false }
def OwnMemorySaid : Prop := ownMemoryRow.holds Tryz.pinned (OpenSpec.ofChange ownMemorySpec)

/-- ITS FALSE NEIGHBOUR: 'it returns false'. Refute it at one input. -/
def ownMemoryWrong : ChangeSpec := { name := "ownMemory", fn := fun _ => fun
  | [d1, d2, d3] => { results := [.lit (.bool false)], args := [d1, d2, d3] }
  | _ => none }
def OwnMemoryWrongFalsely : Prop := ownMemoryRow.holds Tryz.pinned (OpenSpec.ofChange ownMemoryWrong)

/-- 'charterhousekeep.NodeParents': WHATEVER THE INPUT: true; the input reads as it did. -/
def nodeParentsSpec : ChangeSpec := { name := "nodeParents", fn := fun _ => fun
  | [d1, d2] => { results := [.lit (.bool true)], args := [d1, d2] }
  | _ => none }
def nodeParentsRow : OpenClaim := { program := "ytaaaplbjeknbkaagreat", sum := "2ddd2ac291e57bc15224c894b980464f71d9fbdcc703e010d05e1a0a506a18c6", func := "charterhouse/charterhousekeep.NodeParents", spec := "nodeParents", inPlace := ["maps.clone"], unfollowed := true, recurses := true, plainKeys := false, apart := false }
def NodeParentsSaid : Prop := nodeParentsRow.holds Tryz.pinned (OpenSpec.ofChange nodeParentsSpec)

/-- ITS FALSE NEIGHBOUR: 'it returns false'. Refute it at one input. -/
def nodeParentsWrong : ChangeSpec := { name := "nodeParents", fn := fun _ => fun
  | [d1, d2] => { results := [.lit (.bool false)], args := [d1, d2] }
  | _ => none }
def NodeParentsWrongFalsely : Prop := nodeParentsRow.holds Tryz.pinned (OpenSpec.ofChange nodeParentsWrong)

/-- 'charterhousekeep.NodeWicked': WHATEVER THE INPUT: true; the input reads as it did. -/
def nodeWickedSpec : ChangeSpec := { name := "nodeWicked", fn := fun _ => fun
  | [d1, d2, d3] => { results := [.lit (.bool true)], args := [d1, d2, d3] }
  | _ => none }
def nodeWickedRow : OpenClaim := { program := "ytaaaplbjeknbkaagreat", sum := "2ddd2ac291e57bc15224c894b980464f71d9fbdcc703e010d05e1a0a506a18c6", func := "charterhouse/charterhousekeep.NodeWicked", spec := "nodeWicked", inPlace := ["maps.clone"], unfollowed := true, recurses := true, plainKeys := false, apart := false }
def NodeWickedSaid : Prop := nodeWickedRow.holds Tryz.pinned (OpenSpec.ofChange nodeWickedSpec)

/-- ITS FALSE NEIGHBOUR: 'it returns false'. Refute it at one input. -/
def nodeWickedWrong : ChangeSpec := { name := "nodeWicked", fn := fun _ => fun
  | [d1, d2, d3] => { results := [.lit (.bool false)], args := [d1, d2, d3] }
  | _ => none }
def NodeWickedWrongFalsely : Prop := nodeWickedRow.holds Tryz.pinned (OpenSpec.ofChange nodeWickedWrong)

/-- 'charterhousetop.TopOrder': WHATEVER THE INPUT: true; the input reads as it did. -/
def topOrderSpec : ChangeSpec := { name := "topOrder", fn := fun _ => fun
  | [d1, d2, d3] => { results := [.lit (.bool true)], args := [d1, d2, d3] }
  | _ => none }
def topOrderRow : OpenClaim := { program := "ytaaaplbjeknbkaagreat", sum := "2ddd2ac291e57bc15224c894b980464f71d9fbdcc703e010d05e1a0a506a18c6", func := "charterhouse/charterhousetop.TopOrder", spec := "topOrder", inPlace := ["maps.clone"], unfollowed := true, recurses := true, plainKeys := false, apart := false }
def TopOrderSaid : Prop := topOrderRow.holds Tryz.pinned (OpenSpec.ofChange topOrderSpec)

/-- ITS FALSE NEIGHBOUR: 'it returns false'. Refute it at one input. -/
def topOrderWrong : ChangeSpec := { name := "topOrder", fn := fun _ => fun
  | [d1, d2, d3] => { results := [.lit (.bool false)], args := [d1, d2, d3] }
  | _ => none }
def TopOrderWrongFalsely : Prop := topOrderRow.holds Tryz.pinned (OpenSpec.ofChange topOrderWrong)

/-- 'charterhousetop.TopHonest': WHATEVER THE INPUT: true; the input reads as it did. -/
def topHonestSpec : ChangeSpec := { name := "topHonest", fn := fun _ => fun
  | [d1, d2, d3, d4] => { results := [.lit (.bool true)], args := [d1, d2, d3, d4] }
  | _ => none }
def topHonestRow : OpenClaim := { program := "ytaaaplbjeknbkaagreat", sum := "2ddd2ac291e57bc15224c894b980464f71d9fbdcc703e010d05e1a0a506a18c6", func := "charterhouse/charterhousetop.TopHonest", spec := "topHonest", inPlace := ["maps.clone"], unfollowed := true, recurses := true, plainKeys := false, apart := false }
def TopHonestSaid : Prop := topHonestRow.holds Tryz.pinned (OpenSpec.ofChange topHonestSpec)

/-- ITS FALSE NEIGHBOUR: 'it returns false'. Refute it at one input. -/
def topHonestWrong : ChangeSpec := { name := "topHonest", fn := fun _ => fun
  | [d1, d2, d3, d4] => { results := [.lit (.bool false)], args := [d1, d2, d3, d4] }
  | _ => none }
def TopHonestWrongFalsely : Prop := topHonestRow.holds Tryz.pinned (OpenSpec.ofChange topHonestWrong)

/-- 'charterhousetop.TopSilent': WHATEVER THE INPUT: true; the input reads as it did. -/
def topSilentSpec : ChangeSpec := { name := "topSilent", fn := fun _ => fun
  | [d1, d2, d3, d4] => { results := [.lit (.bool true)], args := [d1, d2, d3, d4] }
  | _ => none }
def topSilentRow : OpenClaim := { program := "ytaaaplbjeknbkaagreat", sum := "2ddd2ac291e57bc15224c894b980464f71d9fbdcc703e010d05e1a0a506a18c6", func := "charterhouse/charterhousetop.TopSilent", spec := "topSilent", inPlace := ["maps.clone"], unfollowed := true, recurses := true, plainKeys := false, apart := false }
def TopSilentSaid : Prop := topSilentRow.holds Tryz.pinned (OpenSpec.ofChange topSilentSpec)

/-- ITS FALSE NEIGHBOUR: 'it returns false'. Refute it at one input. -/
def topSilentWrong : ChangeSpec := { name := "topSilent", fn := fun _ => fun
  | [d1, d2, d3, d4] => { results := [.lit (.bool false)], args := [d1, d2, d3, d4] }
  | _ => none }
def TopSilentWrongFalsely : Prop := topSilentRow.holds Tryz.pinned (OpenSpec.ofChange topSilentWrong)

/-- 'charterhousetop.TopPaid': WHATEVER THE INPUT: true; the input reads as it did. -/
def topPaidSpec : ChangeSpec := { name := "topPaid", fn := fun _ => fun
  | [d1, d2, d3, d4] => { results := [.lit (.bool true)], args := [d1, d2, d3, d4] }
  | _ => none }
def topPaidRow : OpenClaim := { program := "ytaaaplbjeknbkaagreat", sum := "2ddd2ac291e57bc15224c894b980464f71d9fbdcc703e010d05e1a0a506a18c6", func := "charterhouse/charterhousetop.TopPaid", spec := "topPaid", inPlace := ["maps.clone"], unfollowed := true, recurses := true, plainKeys := false, apart := false }
def TopPaidSaid : Prop := topPaidRow.holds Tryz.pinned (OpenSpec.ofChange topPaidSpec)

/-- ITS FALSE NEIGHBOUR: 'it returns false'. Refute it at one input. -/
def topPaidWrong : ChangeSpec := { name := "topPaid", fn := fun _ => fun
  | [d1, d2, d3, d4] => { results := [.lit (.bool false)], args := [d1, d2, d3, d4] }
  | _ => none }
def TopPaidWrongFalsely : Prop := topPaidRow.holds Tryz.pinned (OpenSpec.ofChange topPaidWrong)

/-- 'charterhousetop.TopWorth': WHATEVER THE INPUT: true; the input reads as it did. -/
def topWorthSpec : ChangeSpec := { name := "topWorth", fn := fun _ => fun
  | [d1, d2] => { results := [.lit (.bool true)], args := [d1, d2] }
  | _ => none }
def topWorthRow : OpenClaim := { program := "ytaaaplbjeknbkaagreat", sum := "2ddd2ac291e57bc15224c894b980464f71d9fbdcc703e010d05e1a0a506a18c6", func := "charterhouse/charterhousetop.TopWorth", spec := "topWorth", inPlace := ["maps.clone"], unfollowed := true, recurses := true, plainKeys := false, apart := false }
def TopWorthSaid : Prop := topWorthRow.holds Tryz.pinned (OpenSpec.ofChange topWorthSpec)

/-- ITS FALSE NEIGHBOUR: 'it returns false'. Refute it at one input. -/
def topWorthWrong : ChangeSpec := { name := "topWorth", fn := fun _ => fun
  | [d1, d2] => { results := [.lit (.bool false)], args := [d1, d2] }
  | _ => none }
def TopWorthWrongFalsely : Prop := topWorthRow.holds Tryz.pinned (OpenSpec.ofChange topWorthWrong)

/-- 'charterhousetop.TopJunk': WHATEVER THE INPUT: true; the input reads as it did. -/
def topJunkSpec : ChangeSpec := { name := "topJunk", fn := fun _ => fun
  | [d1, d2, d3] => { results := [.lit (.bool true)], args := [d1, d2, d3] }
  | _ => none }
def topJunkRow : OpenClaim := { program := "ytaaaplbjeknbkaagreat", sum := "2ddd2ac291e57bc15224c894b980464f71d9fbdcc703e010d05e1a0a506a18c6", func := "charterhouse/charterhousetop.TopJunk", spec := "topJunk", inPlace := ["maps.clone"], unfollowed := true, recurses := true, plainKeys := false, apart := false }
def TopJunkSaid : Prop := topJunkRow.holds Tryz.pinned (OpenSpec.ofChange topJunkSpec)

/-- ITS FALSE NEIGHBOUR: 'it returns false'. Refute it at one input. -/
def topJunkWrong : ChangeSpec := { name := "topJunk", fn := fun _ => fun
  | [d1, d2, d3] => { results := [.lit (.bool false)], args := [d1, d2, d3] }
  | _ => none }
def TopJunkWrongFalsely : Prop := topJunkRow.holds Tryz.pinned (OpenSpec.ofChange topJunkWrong)

/- THE SECOND FORM. 'bulk': how many values and letters a reading holds, each counted each time it is reached (what is shared counts as often as it is met; a slice's spare places count too). A statement '..UptoSaid' is the law's where the arguments, and the package variables that the reading takes, are together of bulk at most 1048576: NARROWER than '..Said'. Prove '..Said' where nothing that the law and all that it calls make is longer than what came in: it says more and counts as full. Else prove '..UptoSaid'. A law counts once. -/
mutual
def uptoBulk {H : Type} : DataW H → Nat
  | .lit (.string bytes) => bytes.length + 1
  | .lit _ => 1
  | .nil => 1
  | .ptr d => uptoBulk d + 1
  | .slice elems spare => uptoBulkAll elems + uptoBulkAll spare + 1
  | .agg parts => uptoBulkAll parts + 1
  | .iface _ d => uptoBulk d + 1
  | .map entries => uptoBulkEntries entries + 1
  | .held _ => 1
def uptoBulkAll {H : Type} : List (DataW H) → Nat
  | [] => 0
  | d :: r => uptoBulk d + uptoBulkAll r
def uptoBulkEntries {H : Type} : List (Lit × DataW H) → Nat
  | [] => 0
  | x :: r => uptoBulkEntry x + uptoBulkEntries r
def uptoBulkEntry {H : Type} : Lit × DataW H → Nat
  | (.string bytes, d) => bytes.length + uptoBulk d + 1
  | (_, d) => uptoBulk d + 1
 end
def uptoSmall : (H : Type) → List (DataW H) → Bool := fun _ ds => decide (uptoBulkAll ds ≤ 1048576)
def OpenSpec.upto (s : _root_.Go.ChangeSpec) : _root_.Go.OpenSpec := { _root_.Go.OpenSpec.ofChange s with cond := some uptoSmall }

/-- 'charterhousekeep.NodeOuts', WHERE WHAT IT READS IS OF BULK AT MOST 1048576: true; the input reads as it did. -/
def nodeOutsUptoRow : OpenClaim := { program := "ytaaaplbjeknbkaagreat", sum := "2ddd2ac291e57bc15224c894b980464f71d9fbdcc703e010d05e1a0a506a18c6", func := "charterhouse/charterhousekeep.NodeOuts", spec := "nodeOuts", inPlace := ["maps.clone"], unfollowed := true, recurses := true, plainKeys := false, apart := false, narrowed := true }
def NodeOutsUptoSaid : Prop := nodeOutsUptoRow.holds Tryz.pinned (OpenSpec.upto nodeOutsSpec)

/-- 'charterhousekeep.NodeFlights', WHERE WHAT IT READS IS OF BULK AT MOST 1048576: true; the input reads as it did. -/
def nodeFlightsUptoRow : OpenClaim := { program := "ytaaaplbjeknbkaagreat", sum := "2ddd2ac291e57bc15224c894b980464f71d9fbdcc703e010d05e1a0a506a18c6", func := "charterhouse/charterhousekeep.NodeFlights", spec := "nodeFlights", inPlace := ["maps.clone"], unfollowed := true, recurses := true, plainKeys := false, apart := false, narrowed := true }
def NodeFlightsUptoSaid : Prop := nodeFlightsUptoRow.holds Tryz.pinned (OpenSpec.upto nodeFlightsSpec)

/-- 'charterhousekeep.NodeMay', WHERE WHAT IT READS IS OF BULK AT MOST 1048576: true; the input reads as it did. -/
def nodeMayUptoRow : OpenClaim := { program := "ytaaaplbjeknbkaagreat", sum := "2ddd2ac291e57bc15224c894b980464f71d9fbdcc703e010d05e1a0a506a18c6", func := "charterhouse/charterhousekeep.NodeMay", spec := "nodeMay", inPlace := ["maps.clone"], unfollowed := true, recurses := true, plainKeys := false, apart := false, narrowed := true }
def NodeMayUptoSaid : Prop := nodeMayUptoRow.holds Tryz.pinned (OpenSpec.upto nodeMaySpec)

/-- 'charterhousekeep.OwnMemory', WHERE WHAT IT READS IS OF BULK AT MOST 1048576: true; the input reads as it did. -/
def ownMemoryUptoRow : OpenClaim := { program := "ytaaaplbjeknbkaagreat", sum := "2ddd2ac291e57bc15224c894b980464f71d9fbdcc703e010d05e1a0a506a18c6", func := "charterhouse/charterhousekeep.OwnMemory", spec := "ownMemory", inPlace := ["maps.clone"], unfollowed := true, recurses := true, plainKeys := false, apart := false, narrowed := true }
def OwnMemoryUptoSaid : Prop := ownMemoryUptoRow.holds Tryz.pinned (OpenSpec.upto ownMemorySpec)

/-- 'charterhousekeep.NodeParents', WHERE WHAT IT READS IS OF BULK AT MOST 1048576: true; the input reads as it did. -/
def nodeParentsUptoRow : OpenClaim := { program := "ytaaaplbjeknbkaagreat", sum := "2ddd2ac291e57bc15224c894b980464f71d9fbdcc703e010d05e1a0a506a18c6", func := "charterhouse/charterhousekeep.NodeParents", spec := "nodeParents", inPlace := ["maps.clone"], unfollowed := true, recurses := true, plainKeys := false, apart := false, narrowed := true }
def NodeParentsUptoSaid : Prop := nodeParentsUptoRow.holds Tryz.pinned (OpenSpec.upto nodeParentsSpec)

/-- 'charterhousekeep.NodeWicked', WHERE WHAT IT READS IS OF BULK AT MOST 1048576: true; the input reads as it did. -/
def nodeWickedUptoRow : OpenClaim := { program := "ytaaaplbjeknbkaagreat", sum := "2ddd2ac291e57bc15224c894b980464f71d9fbdcc703e010d05e1a0a506a18c6", func := "charterhouse/charterhousekeep.NodeWicked", spec := "nodeWicked", inPlace := ["maps.clone"], unfollowed := true, recurses := true, plainKeys := false, apart := false, narrowed := true }
def NodeWickedUptoSaid : Prop := nodeWickedUptoRow.holds Tryz.pinned (OpenSpec.upto nodeWickedSpec)

/-- 'charterhousetop.TopOrder', WHERE WHAT IT READS IS OF BULK AT MOST 1048576: true; the input reads as it did. -/
def topOrderUptoRow : OpenClaim := { program := "ytaaaplbjeknbkaagreat", sum := "2ddd2ac291e57bc15224c894b980464f71d9fbdcc703e010d05e1a0a506a18c6", func := "charterhouse/charterhousetop.TopOrder", spec := "topOrder", inPlace := ["maps.clone"], unfollowed := true, recurses := true, plainKeys := false, apart := false, narrowed := true }
def TopOrderUptoSaid : Prop := topOrderUptoRow.holds Tryz.pinned (OpenSpec.upto topOrderSpec)

/-- 'charterhousetop.TopHonest', WHERE WHAT IT READS IS OF BULK AT MOST 1048576: true; the input reads as it did. -/
def topHonestUptoRow : OpenClaim := { program := "ytaaaplbjeknbkaagreat", sum := "2ddd2ac291e57bc15224c894b980464f71d9fbdcc703e010d05e1a0a506a18c6", func := "charterhouse/charterhousetop.TopHonest", spec := "topHonest", inPlace := ["maps.clone"], unfollowed := true, recurses := true, plainKeys := false, apart := false, narrowed := true }
def TopHonestUptoSaid : Prop := topHonestUptoRow.holds Tryz.pinned (OpenSpec.upto topHonestSpec)

/-- 'charterhousetop.TopSilent', WHERE WHAT IT READS IS OF BULK AT MOST 1048576: true; the input reads as it did. -/
def topSilentUptoRow : OpenClaim := { program := "ytaaaplbjeknbkaagreat", sum := "2ddd2ac291e57bc15224c894b980464f71d9fbdcc703e010d05e1a0a506a18c6", func := "charterhouse/charterhousetop.TopSilent", spec := "topSilent", inPlace := ["maps.clone"], unfollowed := true, recurses := true, plainKeys := false, apart := false, narrowed := true }
def TopSilentUptoSaid : Prop := topSilentUptoRow.holds Tryz.pinned (OpenSpec.upto topSilentSpec)

/-- 'charterhousetop.TopPaid', WHERE WHAT IT READS IS OF BULK AT MOST 1048576: true; the input reads as it did. -/
def topPaidUptoRow : OpenClaim := { program := "ytaaaplbjeknbkaagreat", sum := "2ddd2ac291e57bc15224c894b980464f71d9fbdcc703e010d05e1a0a506a18c6", func := "charterhouse/charterhousetop.TopPaid", spec := "topPaid", inPlace := ["maps.clone"], unfollowed := true, recurses := true, plainKeys := false, apart := false, narrowed := true }
def TopPaidUptoSaid : Prop := topPaidUptoRow.holds Tryz.pinned (OpenSpec.upto topPaidSpec)

/-- 'charterhousetop.TopWorth', WHERE WHAT IT READS IS OF BULK AT MOST 1048576: true; the input reads as it did. -/
def topWorthUptoRow : OpenClaim := { program := "ytaaaplbjeknbkaagreat", sum := "2ddd2ac291e57bc15224c894b980464f71d9fbdcc703e010d05e1a0a506a18c6", func := "charterhouse/charterhousetop.TopWorth", spec := "topWorth", inPlace := ["maps.clone"], unfollowed := true, recurses := true, plainKeys := false, apart := false, narrowed := true }
def TopWorthUptoSaid : Prop := topWorthUptoRow.holds Tryz.pinned (OpenSpec.upto topWorthSpec)

/-- 'charterhousetop.TopJunk', WHERE WHAT IT READS IS OF BULK AT MOST 1048576: true; the input reads as it did. -/
def topJunkUptoRow : OpenClaim := { program := "ytaaaplbjeknbkaagreat", sum := "2ddd2ac291e57bc15224c894b980464f71d9fbdcc703e010d05e1a0a506a18c6", func := "charterhouse/charterhousetop.TopJunk", spec := "topJunk", inPlace := ["maps.clone"], unfollowed := true, recurses := true, plainKeys := false, apart := false, narrowed := true }
def TopJunkUptoSaid : Prop := topJunkUptoRow.holds Tryz.pinned (OpenSpec.upto topJunkSpec)

end Rows
end Go.Proofs.YtaaaplbjeknbkaaGreat
