/-
  No cell of these rows narrows 'for every input' (looked for: loops, veiled, ifaces, maps, wideKeys, modest, calm, conditions, laid).
  DERIVED. THE GIVEN ROWS OF THIS SEAT. 9 by the template 'for every input the law returns true; each argument reads behind the call as it read before'; 0 by the template 'total and deterministic' (their statements: YtamiddnkgjfdhaaTotals.lean).
  GIVEN WITH THE SEED: the statements are not yours to turn. If you find one false, say at which input.
  Laid BY PROGRAM, IN A SANDBOX (cutbox-rows.mjs): the forced cells as the released guide's own fill.sh prints them over the translation 4b7f55d73f51dd4a… (all of the seat's roots in one cut). By AI agents, Wed Nov 11 2026. No macro, syntax, notation, axiom, sorry.
-/
import Derived.Test.YtamiddnkgjfdhaaChecked
import GoSem.Claim
import GoSem.ClaimJoined
import GoSem.ClaimMapViews
import Derived.JoinedTies
import Derived.KernelRfl
namespace Go.Proofs.Ytamiddnkgjfdhaa
/- THE CELL 'sum', in the pinned program and in every row, IS THE sha256 OF THE DUMP (.gsa) THAT YtamiddnkgjfdhaaProg.lean LOADS. Nothing in Lean hashes anything: it is a label: what it is worth is what the hold of that sum in a sandbox is worth. -/
noncomputable def Try.pinned : Pinned := { name := "ytamiddnkgjfdhaa", sum := "4b7f55d73f51dd4a5b34f218679d8becad74ab66815f57ed6b74fc3c823693df", checked := Try.checked }
namespace Rows
def none {H : Type} : Left H := { results := [], args := [] }

/-- 'charterhouselaw.TrackDoes': WHATEVER THE INPUT: true; the input reads as it did. -/
def trackDoesSpec : ChangeSpec := { name := "trackDoes", fn := fun _ => fun
  | [d1, d2] => { results := [.lit (.bool true)], args := [d1, d2] }
  | _ => none }
def trackDoesRow : OpenClaim := { program := "ytamiddnkgjfdhaa", sum := "4b7f55d73f51dd4a5b34f218679d8becad74ab66815f57ed6b74fc3c823693df", func := "charterhouse/charterhouselaw.TrackDoes", spec := "trackDoes", unfollowed := true, recurses := true, apart := false }
def TrackDoesSaid : Prop := trackDoesRow.holds Try.pinned (OpenSpec.ofChange trackDoesSpec)

/-- ITS FALSE NEIGHBOUR: 'it returns false'. Refute it at one input. -/
def trackDoesWrong : ChangeSpec := { name := "trackDoes", fn := fun _ => fun
  | [d1, d2] => { results := [.lit (.bool false)], args := [d1, d2] }
  | _ => none }
def TrackDoesWrongFalsely : Prop := trackDoesRow.holds Try.pinned (OpenSpec.ofChange trackDoesWrong)

/-- 'charterhouselaw.TrackNexts': WHATEVER THE INPUT: true; the input reads as it did. -/
def trackNextsSpec : ChangeSpec := { name := "trackNexts", fn := fun _ => fun
  | [d1, d2, d3] => { results := [.lit (.bool true)], args := [d1, d2, d3] }
  | _ => none }
def trackNextsRow : OpenClaim := { program := "ytamiddnkgjfdhaa", sum := "4b7f55d73f51dd4a5b34f218679d8becad74ab66815f57ed6b74fc3c823693df", func := "charterhouse/charterhouselaw.TrackNexts", spec := "trackNexts", unfollowed := true, recurses := true, apart := false }
def TrackNextsSaid : Prop := trackNextsRow.holds Try.pinned (OpenSpec.ofChange trackNextsSpec)

/-- ITS FALSE NEIGHBOUR: 'it returns false'. Refute it at one input. -/
def trackNextsWrong : ChangeSpec := { name := "trackNexts", fn := fun _ => fun
  | [d1, d2, d3] => { results := [.lit (.bool false)], args := [d1, d2, d3] }
  | _ => none }
def TrackNextsWrongFalsely : Prop := trackNextsRow.holds Try.pinned (OpenSpec.ofChange trackNextsWrong)

/-- 'charterhousekeep.TrackOne': WHATEVER THE INPUT: true; the input reads as it did. -/
def trackOneSpec : ChangeSpec := { name := "trackOne", fn := fun _ => fun
  | [d1, d2] => { results := [.lit (.bool true)], args := [d1, d2] }
  | _ => none }
def trackOneRow : OpenClaim := { program := "ytamiddnkgjfdhaa", sum := "4b7f55d73f51dd4a5b34f218679d8becad74ab66815f57ed6b74fc3c823693df", func := "charterhouse/charterhousekeep.TrackOne", spec := "trackOne", unfollowed := true, recurses := true, apart := false }
def TrackOneSaid : Prop := trackOneRow.holds Try.pinned (OpenSpec.ofChange trackOneSpec)

/-- ITS FALSE NEIGHBOUR: 'it returns false'. Refute it at one input. -/
def trackOneWrong : ChangeSpec := { name := "trackOne", fn := fun _ => fun
  | [d1, d2] => { results := [.lit (.bool false)], args := [d1, d2] }
  | _ => none }
def TrackOneWrongFalsely : Prop := trackOneRow.holds Try.pinned (OpenSpec.ofChange trackOneWrong)

/-- 'charterhousekeep.TrackBounds': WHATEVER THE INPUT: true; the input reads as it did. -/
def trackBoundsSpec : ChangeSpec := { name := "trackBounds", fn := fun _ => fun
  | [d1, d2] => { results := [.lit (.bool true)], args := [d1, d2] }
  | _ => none }
def trackBoundsRow : OpenClaim := { program := "ytamiddnkgjfdhaa", sum := "4b7f55d73f51dd4a5b34f218679d8becad74ab66815f57ed6b74fc3c823693df", func := "charterhouse/charterhousekeep.TrackBounds", spec := "trackBounds", unfollowed := true, recurses := true, apart := false }
def TrackBoundsSaid : Prop := trackBoundsRow.holds Try.pinned (OpenSpec.ofChange trackBoundsSpec)

/-- ITS FALSE NEIGHBOUR: 'it returns false'. Refute it at one input. -/
def trackBoundsWrong : ChangeSpec := { name := "trackBounds", fn := fun _ => fun
  | [d1, d2] => { results := [.lit (.bool false)], args := [d1, d2] }
  | _ => none }
def TrackBoundsWrongFalsely : Prop := trackBoundsRow.holds Try.pinned (OpenSpec.ofChange trackBoundsWrong)

/-- 'charterhousekeep.TrackGone': WHATEVER THE INPUT: true; the input reads as it did. -/
def trackGoneSpec : ChangeSpec := { name := "trackGone", fn := fun _ => fun
  | [d1, d2, d3, d4] => { results := [.lit (.bool true)], args := [d1, d2, d3, d4] }
  | _ => none }
def trackGoneRow : OpenClaim := { program := "ytamiddnkgjfdhaa", sum := "4b7f55d73f51dd4a5b34f218679d8becad74ab66815f57ed6b74fc3c823693df", func := "charterhouse/charterhousekeep.TrackGone", spec := "trackGone", unfollowed := true, recurses := true, apart := false }
def TrackGoneSaid : Prop := trackGoneRow.holds Try.pinned (OpenSpec.ofChange trackGoneSpec)

/-- ITS FALSE NEIGHBOUR: 'it returns false'. Refute it at one input. -/
def trackGoneWrong : ChangeSpec := { name := "trackGone", fn := fun _ => fun
  | [d1, d2, d3, d4] => { results := [.lit (.bool false)], args := [d1, d2, d3, d4] }
  | _ => none }
def TrackGoneWrongFalsely : Prop := trackGoneRow.holds Try.pinned (OpenSpec.ofChange trackGoneWrong)

/-- 'charterhousekeep.TrackTurns': WHATEVER THE INPUT: true; the input reads as it did. -/
def trackTurnsSpec : ChangeSpec := { name := "trackTurns", fn := fun _ => fun
  | [d1, d2, d3, d4] => { results := [.lit (.bool true)], args := [d1, d2, d3, d4] }
  | _ => none }
def trackTurnsRow : OpenClaim := { program := "ytamiddnkgjfdhaa", sum := "4b7f55d73f51dd4a5b34f218679d8becad74ab66815f57ed6b74fc3c823693df", func := "charterhouse/charterhousekeep.TrackTurns", spec := "trackTurns", unfollowed := true, recurses := true, apart := false }
def TrackTurnsSaid : Prop := trackTurnsRow.holds Try.pinned (OpenSpec.ofChange trackTurnsSpec)

/-- ITS FALSE NEIGHBOUR: 'it returns false'. Refute it at one input. -/
def trackTurnsWrong : ChangeSpec := { name := "trackTurns", fn := fun _ => fun
  | [d1, d2, d3, d4] => { results := [.lit (.bool false)], args := [d1, d2, d3, d4] }
  | _ => none }
def TrackTurnsWrongFalsely : Prop := trackTurnsRow.holds Try.pinned (OpenSpec.ofChange trackTurnsWrong)

/-- 'charterhousekeep.TrackTime': WHATEVER THE INPUT: true; the input reads as it did. -/
def trackTimeSpec : ChangeSpec := { name := "trackTime", fn := fun _ => fun
  | [d1, d2, d3, d4, d5] => { results := [.lit (.bool true)], args := [d1, d2, d3, d4, d5] }
  | _ => none }
def trackTimeRow : OpenClaim := { program := "ytamiddnkgjfdhaa", sum := "4b7f55d73f51dd4a5b34f218679d8becad74ab66815f57ed6b74fc3c823693df", func := "charterhouse/charterhousekeep.TrackTime", spec := "trackTime", unfollowed := true, recurses := true, apart := false }
def TrackTimeSaid : Prop := trackTimeRow.holds Try.pinned (OpenSpec.ofChange trackTimeSpec)

/-- ITS FALSE NEIGHBOUR: 'it returns false'. Refute it at one input. -/
def trackTimeWrong : ChangeSpec := { name := "trackTime", fn := fun _ => fun
  | [d1, d2, d3, d4, d5] => { results := [.lit (.bool false)], args := [d1, d2, d3, d4, d5] }
  | _ => none }
def TrackTimeWrongFalsely : Prop := trackTimeRow.holds Try.pinned (OpenSpec.ofChange trackTimeWrong)

/-- 'charterhousekeep.TrackOrder': WHATEVER THE INPUT: true; the input reads as it did. -/
def trackOrderSpec : ChangeSpec := { name := "trackOrder", fn := fun _ => fun
  | [d1, d2] => { results := [.lit (.bool true)], args := [d1, d2] }
  | _ => none }
def trackOrderRow : OpenClaim := { program := "ytamiddnkgjfdhaa", sum := "4b7f55d73f51dd4a5b34f218679d8becad74ab66815f57ed6b74fc3c823693df", func := "charterhouse/charterhousekeep.TrackOrder", spec := "trackOrder", unfollowed := true, recurses := true, apart := false }
def TrackOrderSaid : Prop := trackOrderRow.holds Try.pinned (OpenSpec.ofChange trackOrderSpec)

/-- ITS FALSE NEIGHBOUR: 'it returns false'. Refute it at one input. -/
def trackOrderWrong : ChangeSpec := { name := "trackOrder", fn := fun _ => fun
  | [d1, d2] => { results := [.lit (.bool false)], args := [d1, d2] }
  | _ => none }
def TrackOrderWrongFalsely : Prop := trackOrderRow.holds Try.pinned (OpenSpec.ofChange trackOrderWrong)

/-- 'charterhousekeep.TrackHolders': WHATEVER THE INPUT: true; the input reads as it did. -/
def trackHoldersSpec : ChangeSpec := { name := "trackHolders", fn := fun _ => fun
  | [d1, d2, d3] => { results := [.lit (.bool true)], args := [d1, d2, d3] }
  | _ => none }
def trackHoldersRow : OpenClaim := { program := "ytamiddnkgjfdhaa", sum := "4b7f55d73f51dd4a5b34f218679d8becad74ab66815f57ed6b74fc3c823693df", func := "charterhouse/charterhousekeep.TrackHolders", spec := "trackHolders", unfollowed := true, recurses := true, apart := false }
def TrackHoldersSaid : Prop := trackHoldersRow.holds Try.pinned (OpenSpec.ofChange trackHoldersSpec)

/-- ITS FALSE NEIGHBOUR: 'it returns false'. Refute it at one input. -/
def trackHoldersWrong : ChangeSpec := { name := "trackHolders", fn := fun _ => fun
  | [d1, d2, d3] => { results := [.lit (.bool false)], args := [d1, d2, d3] }
  | _ => none }
def TrackHoldersWrongFalsely : Prop := trackHoldersRow.holds Try.pinned (OpenSpec.ofChange trackHoldersWrong)

/- THE SECOND FORM. 'bulk': how many values and letters a reading holds, each counted each time it is reached (what is shared counts as often as it is met; a slice's spare places count too). A statement '..UptoSaid' is the law's where the arguments, and the package variables that the reading takes, are together of bulk at most 1048576: NARROWER than '..Said'. Prove '..Said' where nothing that the law and all that it calls make is longer than what came in: it says more and counts as full. Else prove '..UptoSaid'. A law counts once. -/
mutual
def uptoBulk {H : Type} : DataW H → Nat
  | .lit (.string bytes) => bytes.length + 1
  | .lit _ => 1
  | .nil => 1
  | .ptr d => uptoBulk d + 1
  | .slice elems spare => uptoBulkAll elems + uptoBulkAll spare + 1
  | .agg parts => uptoBulkAll parts + 1
  | .iface _ d => uptoBulk d + 1
  | .map entries => uptoBulkEntries entries + 1
  | .held _ => 1
def uptoBulkAll {H : Type} : List (DataW H) → Nat
  | [] => 0
  | d :: r => uptoBulk d + uptoBulkAll r
def uptoBulkEntries {H : Type} : List (Lit × DataW H) → Nat
  | [] => 0
  | x :: r => uptoBulkEntry x + uptoBulkEntries r
def uptoBulkEntry {H : Type} : Lit × DataW H → Nat
  | (.string bytes, d) => bytes.length + uptoBulk d + 1
  | (_, d) => uptoBulk d + 1
 end
def uptoSmall : (H : Type) → List (DataW H) → Bool := fun _ ds => decide (uptoBulkAll ds ≤ 1048576)
def OpenSpec.upto (s : _root_.Go.ChangeSpec) : _root_.Go.OpenSpec := { _root_.Go.OpenSpec.ofChange s with cond := some uptoSmall }

/-- 'charterhouselaw.TrackDoes', WHERE WHAT IT READS IS OF BULK AT MOST 1048576: true; the input reads as it did. -/
def trackDoesUptoRow : OpenClaim := { program := "ytamiddnkgjfdhaa", sum := "4b7f55d73f51dd4a5b34f218679d8becad74ab66815f57ed6b74fc3c823693df", func := "charterhouse/charterhouselaw.TrackDoes", spec := "trackDoes", unfollowed := true, recurses := true, apart := false, narrowed := true }
def TrackDoesUptoSaid : Prop := trackDoesUptoRow.holds Try.pinned (OpenSpec.upto trackDoesSpec)

/-- 'charterhouselaw.TrackNexts', WHERE WHAT IT READS IS OF BULK AT MOST 1048576: true; the input reads as it did. -/
def trackNextsUptoRow : OpenClaim := { program := "ytamiddnkgjfdhaa", sum := "4b7f55d73f51dd4a5b34f218679d8becad74ab66815f57ed6b74fc3c823693df", func := "charterhouse/charterhouselaw.TrackNexts", spec := "trackNexts", unfollowed := true, recurses := true, apart := false, narrowed := true }
def TrackNextsUptoSaid : Prop := trackNextsUptoRow.holds Try.pinned (OpenSpec.upto trackNextsSpec)

/-- 'charterhousekeep.TrackOne', WHERE WHAT IT READS IS OF BULK AT MOST 1048576: true; the input reads as it did. -/
def trackOneUptoRow : OpenClaim := { program := "ytamiddnkgjfdhaa", sum := "4b7f55d73f51dd4a5b34f218679d8becad74ab66815f57ed6b74fc3c823693df", func := "charterhouse/charterhousekeep.TrackOne", spec := "trackOne", unfollowed := true, recurses := true, apart := false, narrowed := true }
def TrackOneUptoSaid : Prop := trackOneUptoRow.holds Try.pinned (OpenSpec.upto trackOneSpec)

/-- 'charterhousekeep.TrackBounds', WHERE WHAT IT READS IS OF BULK AT MOST 1048576: true; the input reads as it did. -/
def trackBoundsUptoRow : OpenClaim := { program := "ytamiddnkgjfdhaa", sum := "4b7f55d73f51dd4a5b34f218679d8becad74ab66815f57ed6b74fc3c823693df", func := "charterhouse/charterhousekeep.TrackBounds", spec := "trackBounds", unfollowed := true, recurses := true, apart := false, narrowed := true }
def TrackBoundsUptoSaid : Prop := trackBoundsUptoRow.holds Try.pinned (OpenSpec.upto trackBoundsSpec)

/-- 'charterhousekeep.TrackGone', WHERE WHAT IT READS IS OF BULK AT MOST 1048576: true; the input reads as it did. -/
def trackGoneUptoRow : OpenClaim := { program := "ytamiddnkgjfdhaa", sum := "4b7f55d73f51dd4a5b34f218679d8becad74ab66815f57ed6b74fc3c823693df", func := "charterhouse/charterhousekeep.TrackGone", spec := "trackGone", unfollowed := true, recurses := true, apart := false, narrowed := true }
def TrackGoneUptoSaid : Prop := trackGoneUptoRow.holds Try.pinned (OpenSpec.upto trackGoneSpec)

/-- 'charterhousekeep.TrackTurns', WHERE WHAT IT READS IS OF BULK AT MOST 1048576: true; the input reads as it did. -/
def trackTurnsUptoRow : OpenClaim := { program := "ytamiddnkgjfdhaa", sum := "4b7f55d73f51dd4a5b34f218679d8becad74ab66815f57ed6b74fc3c823693df", func := "charterhouse/charterhousekeep.TrackTurns", spec := "trackTurns", unfollowed := true, recurses := true, apart := false, narrowed := true }
def TrackTurnsUptoSaid : Prop := trackTurnsUptoRow.holds Try.pinned (OpenSpec.upto trackTurnsSpec)

/-- 'charterhousekeep.TrackTime', WHERE WHAT IT READS IS OF BULK AT MOST 1048576: true; the input reads as it did. -/
def trackTimeUptoRow : OpenClaim := { program := "ytamiddnkgjfdhaa", sum := "4b7f55d73f51dd4a5b34f218679d8becad74ab66815f57ed6b74fc3c823693df", func := "charterhouse/charterhousekeep.TrackTime", spec := "trackTime", unfollowed := true, recurses := true, apart := false, narrowed := true }
def TrackTimeUptoSaid : Prop := trackTimeUptoRow.holds Try.pinned (OpenSpec.upto trackTimeSpec)

/-- 'charterhousekeep.TrackOrder', WHERE WHAT IT READS IS OF BULK AT MOST 1048576: true; the input reads as it did. -/
def trackOrderUptoRow : OpenClaim := { program := "ytamiddnkgjfdhaa", sum := "4b7f55d73f51dd4a5b34f218679d8becad74ab66815f57ed6b74fc3c823693df", func := "charterhouse/charterhousekeep.TrackOrder", spec := "trackOrder", unfollowed := true, recurses := true, apart := false, narrowed := true }
def TrackOrderUptoSaid : Prop := trackOrderUptoRow.holds Try.pinned (OpenSpec.upto trackOrderSpec)

/-- 'charterhousekeep.TrackHolders', WHERE WHAT IT READS IS OF BULK AT MOST 1048576: true; the input reads as it did. -/
def trackHoldersUptoRow : OpenClaim := { program := "ytamiddnkgjfdhaa", sum := "4b7f55d73f51dd4a5b34f218679d8becad74ab66815f57ed6b74fc3c823693df", func := "charterhouse/charterhousekeep.TrackHolders", spec := "trackHolders", unfollowed := true, recurses := true, apart := false, narrowed := true }
def TrackHoldersUptoSaid : Prop := trackHoldersUptoRow.holds Try.pinned (OpenSpec.upto trackHoldersSpec)

end Rows
end Go.Proofs.Ytamiddnkgjfdhaa
