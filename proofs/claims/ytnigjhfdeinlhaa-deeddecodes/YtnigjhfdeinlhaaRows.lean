/-
  No cell of these rows narrows 'for every input' (looked for: loops, veiled, ifaces, maps, wideKeys, modest, calm, conditions, laid).
  DERIVED. THE GIVEN ROWS OF THIS SEAT. 8 by the template 'for every input the law returns true; each argument reads behind the call as it read before'; 0 by the template 'total and deterministic' (their statements: YtnigjhfdeinlhaaTotals.lean).
  GIVEN WITH THE SEED: the statements are not yours to turn. If you find one false, say at which input.
  Laid BY PROGRAM, IN A SANDBOX (cutbox-rows.mjs): the forced cells as the released guide's own fill.sh prints them over the translation 913bb599b0f93ee0… (all of the seat's roots in one cut). By AI agents, Wed Nov 11 2026. No macro, syntax, notation, axiom, sorry.
-/
import Derived.Test.YtnigjhfdeinlhaaChecked
import GoSem.Claim
import GoSem.ClaimJoined
import GoSem.ClaimMapViews
import Derived.JoinedTies
import Derived.KernelRfl
namespace Go.Proofs.Ytnigjhfdeinlhaa
/- THE CELL 'sum', in the pinned program and in every row, IS THE sha256 OF THE DUMP (.gsa) THAT YtnigjhfdeinlhaaProg.lean LOADS. Nothing in Lean hashes anything: it is a label: what it is worth is what the hold of that sum in a sandbox is worth. -/
noncomputable def Try.pinned : Pinned := { name := "ytnigjhfdeinlhaa", sum := "913bb599b0f93ee0f02ff8b7daff2f44e85b7882316c5767a13dbc79bbb789eb", checked := Try.checked }
namespace Rows
def none {H : Type} : Left H := { results := [], args := [] }

/-- 'charterhouselaw.DeedChecks': WHATEVER THE INPUT: true; the input reads as it did. -/
def deedChecksSpec : ChangeSpec := { name := "deedChecks", fn := fun _ => fun
  | [d] => { results := [.lit (.bool true)], args := [d] }
  | _ => none }
def deedChecksRow : OpenClaim := { program := "ytnigjhfdeinlhaa", sum := "913bb599b0f93ee0f02ff8b7daff2f44e85b7882316c5767a13dbc79bbb789eb", func := "charterhouse/charterhouselaw.DeedChecks", spec := "deedChecks", unfollowed := true, recurses := true, plainKeys := false, apart := false }
def DeedChecksSaid : Prop := deedChecksRow.holds Try.pinned (OpenSpec.ofChange deedChecksSpec)

/-- ITS FALSE NEIGHBOUR: 'it returns false'. Refute it at one input. -/
def deedChecksWrong : ChangeSpec := { name := "deedChecks", fn := fun _ => fun
  | [d] => { results := [.lit (.bool false)], args := [d] }
  | _ => none }
def DeedChecksWrongFalsely : Prop := deedChecksRow.holds Try.pinned (OpenSpec.ofChange deedChecksWrong)

/-- 'charterhouselaw.DeedEncodes': WHATEVER THE INPUT: true; the input reads as it did. -/
def deedEncodesSpec : ChangeSpec := { name := "deedEncodes", fn := fun _ => fun
  | [d] => { results := [.lit (.bool true)], args := [d] }
  | _ => none }
def deedEncodesRow : OpenClaim := { program := "ytnigjhfdeinlhaa", sum := "913bb599b0f93ee0f02ff8b7daff2f44e85b7882316c5767a13dbc79bbb789eb", func := "charterhouse/charterhouselaw.DeedEncodes", spec := "deedEncodes", unfollowed := true, recurses := true, plainKeys := false, apart := false }
def DeedEncodesSaid : Prop := deedEncodesRow.holds Try.pinned (OpenSpec.ofChange deedEncodesSpec)

/-- ITS FALSE NEIGHBOUR: 'it returns false'. Refute it at one input. -/
def deedEncodesWrong : ChangeSpec := { name := "deedEncodes", fn := fun _ => fun
  | [d] => { results := [.lit (.bool false)], args := [d] }
  | _ => none }
def DeedEncodesWrongFalsely : Prop := deedEncodesRow.holds Try.pinned (OpenSpec.ofChange deedEncodesWrong)

/-- 'charterhouselaw.DeedDecodes': WHATEVER THE INPUT: true; the input reads as it did. -/
def deedDecodesSpec : ChangeSpec := { name := "deedDecodes", fn := fun _ => fun
  | [d] => { results := [.lit (.bool true)], args := [d] }
  | _ => none }
def deedDecodesRow : OpenClaim := { program := "ytnigjhfdeinlhaa", sum := "913bb599b0f93ee0f02ff8b7daff2f44e85b7882316c5767a13dbc79bbb789eb", func := "charterhouse/charterhouselaw.DeedDecodes", spec := "deedDecodes", unfollowed := true, recurses := true, plainKeys := false, apart := false }
def DeedDecodesSaid : Prop := deedDecodesRow.holds Try.pinned (OpenSpec.ofChange deedDecodesSpec)

/-- ITS FALSE NEIGHBOUR: 'it returns false'. Refute it at one input. -/
def deedDecodesWrong : ChangeSpec := { name := "deedDecodes", fn := fun _ => fun
  | [d] => { results := [.lit (.bool false)], args := [d] }
  | _ => none }
def DeedDecodesWrongFalsely : Prop := deedDecodesRow.holds Try.pinned (OpenSpec.ofChange deedDecodesWrong)

/-- 'charterhouselaw.DeedIDs': WHATEVER THE INPUT: true; the input reads as it did. -/
def deedIDsSpec : ChangeSpec := { name := "deedIDs", fn := fun _ => fun
  | [d] => { results := [.lit (.bool true)], args := [d] }
  | _ => none }
def deedIDsRow : OpenClaim := { program := "ytnigjhfdeinlhaa", sum := "913bb599b0f93ee0f02ff8b7daff2f44e85b7882316c5767a13dbc79bbb789eb", func := "charterhouse/charterhouselaw.DeedIDs", spec := "deedIDs", unfollowed := true, recurses := true, plainKeys := false, apart := false }
def DeedIDsSaid : Prop := deedIDsRow.holds Try.pinned (OpenSpec.ofChange deedIDsSpec)

/-- ITS FALSE NEIGHBOUR: 'it returns false'. Refute it at one input. -/
def deedIDsWrong : ChangeSpec := { name := "deedIDs", fn := fun _ => fun
  | [d] => { results := [.lit (.bool false)], args := [d] }
  | _ => none }
def DeedIDsWrongFalsely : Prop := deedIDsRow.holds Try.pinned (OpenSpec.ofChange deedIDsWrong)

/-- 'charterhousekeep.DeedBack': WHATEVER THE INPUT: true; the input reads as it did. -/
def deedBackSpec : ChangeSpec := { name := "deedBack", fn := fun _ => fun
  | [d1, d2] => { results := [.lit (.bool true)], args := [d1, d2] }
  | _ => none }
def deedBackRow : OpenClaim := { program := "ytnigjhfdeinlhaa", sum := "913bb599b0f93ee0f02ff8b7daff2f44e85b7882316c5767a13dbc79bbb789eb", func := "charterhouse/charterhousekeep.DeedBack", spec := "deedBack", unfollowed := true, recurses := true, plainKeys := false, apart := false }
def DeedBackSaid : Prop := deedBackRow.holds Try.pinned (OpenSpec.ofChange deedBackSpec)

/-- ITS FALSE NEIGHBOUR: 'it returns false'. Refute it at one input. -/
def deedBackWrong : ChangeSpec := { name := "deedBack", fn := fun _ => fun
  | [d1, d2] => { results := [.lit (.bool false)], args := [d1, d2] }
  | _ => none }
def DeedBackWrongFalsely : Prop := deedBackRow.holds Try.pinned (OpenSpec.ofChange deedBackWrong)

/-- 'charterhousekeep.DeedCut': WHATEVER THE INPUT: true; the input reads as it did. -/
def deedCutSpec : ChangeSpec := { name := "deedCut", fn := fun _ => fun
  | [d1, d2, d3] => { results := [.lit (.bool true)], args := [d1, d2, d3] }
  | _ => none }
def deedCutRow : OpenClaim := { program := "ytnigjhfdeinlhaa", sum := "913bb599b0f93ee0f02ff8b7daff2f44e85b7882316c5767a13dbc79bbb789eb", func := "charterhouse/charterhousekeep.DeedCut", spec := "deedCut", unfollowed := true, recurses := true, plainKeys := false, apart := false }
def DeedCutSaid : Prop := deedCutRow.holds Try.pinned (OpenSpec.ofChange deedCutSpec)

/-- ITS FALSE NEIGHBOUR: 'it returns false'. Refute it at one input. -/
def deedCutWrong : ChangeSpec := { name := "deedCut", fn := fun _ => fun
  | [d1, d2, d3] => { results := [.lit (.bool false)], args := [d1, d2, d3] }
  | _ => none }
def DeedCutWrongFalsely : Prop := deedCutRow.holds Try.pinned (OpenSpec.ofChange deedCutWrong)

/-- 'charterhousekeep.DeedSums': WHATEVER THE INPUT: true; the input reads as it did. -/
def deedSumsSpec : ChangeSpec := { name := "deedSums", fn := fun _ => fun
  | [d1, d2] => { results := [.lit (.bool true)], args := [d1, d2] }
  | _ => none }
def deedSumsRow : OpenClaim := { program := "ytnigjhfdeinlhaa", sum := "913bb599b0f93ee0f02ff8b7daff2f44e85b7882316c5767a13dbc79bbb789eb", func := "charterhouse/charterhousekeep.DeedSums", spec := "deedSums", unfollowed := true, recurses := true, plainKeys := false, apart := false }
def DeedSumsSaid : Prop := deedSumsRow.holds Try.pinned (OpenSpec.ofChange deedSumsSpec)

/-- ITS FALSE NEIGHBOUR: 'it returns false'. Refute it at one input. -/
def deedSumsWrong : ChangeSpec := { name := "deedSums", fn := fun _ => fun
  | [d1, d2] => { results := [.lit (.bool false)], args := [d1, d2] }
  | _ => none }
def DeedSumsWrongFalsely : Prop := deedSumsRow.holds Try.pinned (OpenSpec.ofChange deedSumsWrong)

/-- 'charterhousekeep.DeedSize': WHATEVER THE INPUT: true; the input reads as it did. -/
def deedSizeSpec : ChangeSpec := { name := "deedSize", fn := fun _ => fun
  | [d] => { results := [.lit (.bool true)], args := [d] }
  | _ => none }
def deedSizeRow : OpenClaim := { program := "ytnigjhfdeinlhaa", sum := "913bb599b0f93ee0f02ff8b7daff2f44e85b7882316c5767a13dbc79bbb789eb", func := "charterhouse/charterhousekeep.DeedSize", spec := "deedSize", unfollowed := true, recurses := true, plainKeys := false, apart := false }
def DeedSizeSaid : Prop := deedSizeRow.holds Try.pinned (OpenSpec.ofChange deedSizeSpec)

/-- ITS FALSE NEIGHBOUR: 'it returns false'. Refute it at one input. -/
def deedSizeWrong : ChangeSpec := { name := "deedSize", fn := fun _ => fun
  | [d] => { results := [.lit (.bool false)], args := [d] }
  | _ => none }
def DeedSizeWrongFalsely : Prop := deedSizeRow.holds Try.pinned (OpenSpec.ofChange deedSizeWrong)

/- THE SECOND FORM. 'bulk': how many values and letters a reading holds, each counted each time it is reached (what is shared counts as often as it is met; a slice's spare places count too). A statement '..UptoSaid' is the law's where the arguments, and the package variables that the reading takes, are together of bulk at most 1048576: NARROWER than '..Said'. Prove '..Said' where nothing that the law and all that it calls make is longer than what came in: it says more and counts as full. Else prove '..UptoSaid'. A law counts once. -/
mutual
def uptoBulk {H : Type} : DataW H → Nat
  | .lit (.string bytes) => bytes.length + 1
  | .lit _ => 1
  | .nil => 1
  | .ptr d => uptoBulk d + 1
  | .slice elems spare => uptoBulkAll elems + uptoBulkAll spare + 1
  | .agg parts => uptoBulkAll parts + 1
  | .iface _ d => uptoBulk d + 1
  | .map entries => uptoBulkEntries entries + 1
  | .held _ => 1
def uptoBulkAll {H : Type} : List (DataW H) → Nat
  | [] => 0
  | d :: r => uptoBulk d + uptoBulkAll r
def uptoBulkEntries {H : Type} : List (Lit × DataW H) → Nat
  | [] => 0
  | x :: r => uptoBulkEntry x + uptoBulkEntries r
def uptoBulkEntry {H : Type} : Lit × DataW H → Nat
  | (.string bytes, d) => bytes.length + uptoBulk d + 1
  | (_, d) => uptoBulk d + 1
 end
def uptoSmall : (H : Type) → List (DataW H) → Bool := fun _ ds => decide (uptoBulkAll ds ≤ 1048576)
def OpenSpec.upto (s : _root_.Go.ChangeSpec) : _root_.Go.OpenSpec := { _root_.Go.OpenSpec.ofChange s with cond := some uptoSmall }

/-- 'charterhouselaw.DeedChecks', WHERE WHAT IT READS IS OF BULK AT MOST 1048576: true; the input reads as it did. -/
def deedChecksUptoRow : OpenClaim := { program := "ytnigjhfdeinlhaa", sum := "913bb599b0f93ee0f02ff8b7daff2f44e85b7882316c5767a13dbc79bbb789eb", func := "charterhouse/charterhouselaw.DeedChecks", spec := "deedChecks", unfollowed := true, recurses := true, plainKeys := false, apart := false, narrowed := true }
def DeedChecksUptoSaid : Prop := deedChecksUptoRow.holds Try.pinned (OpenSpec.upto deedChecksSpec)

/-- 'charterhouselaw.DeedEncodes', WHERE WHAT IT READS IS OF BULK AT MOST 1048576: true; the input reads as it did. -/
def deedEncodesUptoRow : OpenClaim := { program := "ytnigjhfdeinlhaa", sum := "913bb599b0f93ee0f02ff8b7daff2f44e85b7882316c5767a13dbc79bbb789eb", func := "charterhouse/charterhouselaw.DeedEncodes", spec := "deedEncodes", unfollowed := true, recurses := true, plainKeys := false, apart := false, narrowed := true }
def DeedEncodesUptoSaid : Prop := deedEncodesUptoRow.holds Try.pinned (OpenSpec.upto deedEncodesSpec)

/-- 'charterhouselaw.DeedDecodes', WHERE WHAT IT READS IS OF BULK AT MOST 1048576: true; the input reads as it did. -/
def deedDecodesUptoRow : OpenClaim := { program := "ytnigjhfdeinlhaa", sum := "913bb599b0f93ee0f02ff8b7daff2f44e85b7882316c5767a13dbc79bbb789eb", func := "charterhouse/charterhouselaw.DeedDecodes", spec := "deedDecodes", unfollowed := true, recurses := true, plainKeys := false, apart := false, narrowed := true }
def DeedDecodesUptoSaid : Prop := deedDecodesUptoRow.holds Try.pinned (OpenSpec.upto deedDecodesSpec)

/-- 'charterhouselaw.DeedIDs', WHERE WHAT IT READS IS OF BULK AT MOST 1048576: true; the input reads as it did. -/
def deedIDsUptoRow : OpenClaim := { program := "ytnigjhfdeinlhaa", sum := "913bb599b0f93ee0f02ff8b7daff2f44e85b7882316c5767a13dbc79bbb789eb", func := "charterhouse/charterhouselaw.DeedIDs", spec := "deedIDs", unfollowed := true, recurses := true, plainKeys := false, apart := false, narrowed := true }
def DeedIDsUptoSaid : Prop := deedIDsUptoRow.holds Try.pinned (OpenSpec.upto deedIDsSpec)

/-- 'charterhousekeep.DeedBack', WHERE WHAT IT READS IS OF BULK AT MOST 1048576: true; the input reads as it did. -/
def deedBackUptoRow : OpenClaim := { program := "ytnigjhfdeinlhaa", sum := "913bb599b0f93ee0f02ff8b7daff2f44e85b7882316c5767a13dbc79bbb789eb", func := "charterhouse/charterhousekeep.DeedBack", spec := "deedBack", unfollowed := true, recurses := true, plainKeys := false, apart := false, narrowed := true }
def DeedBackUptoSaid : Prop := deedBackUptoRow.holds Try.pinned (OpenSpec.upto deedBackSpec)

/-- 'charterhousekeep.DeedCut', WHERE WHAT IT READS IS OF BULK AT MOST 1048576: true; the input reads as it did. -/
def deedCutUptoRow : OpenClaim := { program := "ytnigjhfdeinlhaa", sum := "913bb599b0f93ee0f02ff8b7daff2f44e85b7882316c5767a13dbc79bbb789eb", func := "charterhouse/charterhousekeep.DeedCut", spec := "deedCut", unfollowed := true, recurses := true, plainKeys := false, apart := false, narrowed := true }
def DeedCutUptoSaid : Prop := deedCutUptoRow.holds Try.pinned (OpenSpec.upto deedCutSpec)

/-- 'charterhousekeep.DeedSums', WHERE WHAT IT READS IS OF BULK AT MOST 1048576: true; the input reads as it did. -/
def deedSumsUptoRow : OpenClaim := { program := "ytnigjhfdeinlhaa", sum := "913bb599b0f93ee0f02ff8b7daff2f44e85b7882316c5767a13dbc79bbb789eb", func := "charterhouse/charterhousekeep.DeedSums", spec := "deedSums", unfollowed := true, recurses := true, plainKeys := false, apart := false, narrowed := true }
def DeedSumsUptoSaid : Prop := deedSumsUptoRow.holds Try.pinned (OpenSpec.upto deedSumsSpec)

/-- 'charterhousekeep.DeedSize', WHERE WHAT IT READS IS OF BULK AT MOST 1048576: true; the input reads as it did. -/
def deedSizeUptoRow : OpenClaim := { program := "ytnigjhfdeinlhaa", sum := "913bb599b0f93ee0f02ff8b7daff2f44e85b7882316c5767a13dbc79bbb789eb", func := "charterhouse/charterhousekeep.DeedSize", spec := "deedSize", unfollowed := true, recurses := true, plainKeys := false, apart := false, narrowed := true }
def DeedSizeUptoSaid : Prop := deedSizeUptoRow.holds Try.pinned (OpenSpec.upto deedSizeSpec)

end Rows
end Go.Proofs.Ytnigjhfdeinlhaa
