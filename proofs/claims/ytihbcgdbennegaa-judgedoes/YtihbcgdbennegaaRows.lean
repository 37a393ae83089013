/-
  No cell of these rows narrows 'for every input' (looked for: loops, veiled, ifaces, maps, wideKeys, modest, calm, conditions, laid).
  DERIVED. THE GIVEN ROWS OF THIS SEAT. 7 by the template 'for every input the law returns true; each argument reads behind the call as it read before'; 0 by the template 'total and deterministic' (their statements: YtihbcgdbennegaaTotals.lean).
  GIVEN WITH THE SEED: the statements are not yours to turn. If you find one false, say at which input.
  Laid BY PROGRAM, IN A SANDBOX (cutbox-rows.mjs): the forced cells as the released guide's own fill.sh prints them over the translation 81c74205708bde45… (all of the seat's roots in one cut). By AI agents, Wed Nov 11 2026. No macro, syntax, notation, axiom, sorry.
-/
import Derived.Test.YtihbcgdbennegaaChecked
import GoSem.Claim
import GoSem.ClaimJoined
import GoSem.ClaimMapViews
import Derived.JoinedTies
import Derived.KernelRfl
namespace Go.Proofs.Ytihbcgdbennegaa
/- THE CELL 'sum', in the pinned program and in every row, IS THE sha256 OF THE DUMP (.gsa) THAT YtihbcgdbennegaaProg.lean LOADS. Nothing in Lean hashes anything: it is a label: what it is worth is what the hold of that sum in a sandbox is worth. -/
noncomputable def Try.pinned : Pinned := { name := "ytihbcgdbennegaa", sum := "81c74205708bde45a2e294a7d64dfbebaea66bce9e332cfc92ac9aa97350fe59", checked := Try.checked }
namespace Rows
def none {H : Type} : Left H := { results := [], args := [] }

/-- 'charterhouselaw.JudgeDoes': WHATEVER THE INPUT: true; the input reads as it did. -/
def judgeDoesSpec : ChangeSpec := { name := "judgeDoes", fn := fun _ => fun
  | [d] => { results := [.lit (.bool true)], args := [d] }
  | _ => none }
def judgeDoesRow : OpenClaim := { program := "ytihbcgdbennegaa", sum := "81c74205708bde45a2e294a7d64dfbebaea66bce9e332cfc92ac9aa97350fe59", func := "charterhouse/charterhouselaw.JudgeDoes", spec := "judgeDoes", unfollowed := true, recurses := true, plainKeys := false, apart := false }
def JudgeDoesSaid : Prop := judgeDoesRow.holds Try.pinned (OpenSpec.ofChange judgeDoesSpec)

/-- ITS FALSE NEIGHBOUR: 'it returns false'. Refute it at one input. -/
def judgeDoesWrong : ChangeSpec := { name := "judgeDoes", fn := fun _ => fun
  | [d] => { results := [.lit (.bool false)], args := [d] }
  | _ => none }
def JudgeDoesWrongFalsely : Prop := judgeDoesRow.holds Try.pinned (OpenSpec.ofChange judgeDoesWrong)

/-- 'charterhouselaw.JudgePairs': WHATEVER THE INPUT: true; the input reads as it did. -/
def judgePairsSpec : ChangeSpec := { name := "judgePairs", fn := fun _ => fun
  | [d1, d2, d3, d4] => { results := [.lit (.bool true)], args := [d1, d2, d3, d4] }
  | _ => none }
def judgePairsRow : OpenClaim := { program := "ytihbcgdbennegaa", sum := "81c74205708bde45a2e294a7d64dfbebaea66bce9e332cfc92ac9aa97350fe59", func := "charterhouse/charterhouselaw.JudgePairs", spec := "judgePairs", unfollowed := true, recurses := true, plainKeys := false, apart := false }
def JudgePairsSaid : Prop := judgePairsRow.holds Try.pinned (OpenSpec.ofChange judgePairsSpec)

/-- ITS FALSE NEIGHBOUR: 'it returns false'. Refute it at one input. -/
def judgePairsWrong : ChangeSpec := { name := "judgePairs", fn := fun _ => fun
  | [d1, d2, d3, d4] => { results := [.lit (.bool false)], args := [d1, d2, d3, d4] }
  | _ => none }
def JudgePairsWrongFalsely : Prop := judgePairsRow.holds Try.pinned (OpenSpec.ofChange judgePairsWrong)

/-- 'charterhousekeep.JudgeSpends': WHATEVER THE INPUT: true; the input reads as it did. -/
def judgeSpendsSpec : ChangeSpec := { name := "judgeSpends", fn := fun _ => fun
  | [d] => { results := [.lit (.bool true)], args := [d] }
  | _ => none }
def judgeSpendsRow : OpenClaim := { program := "ytihbcgdbennegaa", sum := "81c74205708bde45a2e294a7d64dfbebaea66bce9e332cfc92ac9aa97350fe59", func := "charterhouse/charterhousekeep.JudgeSpends", spec := "judgeSpends", unfollowed := true, recurses := true, plainKeys := false, apart := false }
def JudgeSpendsSaid : Prop := judgeSpendsRow.holds Try.pinned (OpenSpec.ofChange judgeSpendsSpec)

/-- ITS FALSE NEIGHBOUR: 'it returns false'. Refute it at one input. -/
def judgeSpendsWrong : ChangeSpec := { name := "judgeSpends", fn := fun _ => fun
  | [d] => { results := [.lit (.bool false)], args := [d] }
  | _ => none }
def JudgeSpendsWrongFalsely : Prop := judgeSpendsRow.holds Try.pinned (OpenSpec.ofChange judgeSpendsWrong)

/-- 'charterhousekeep.JudgeSays': WHATEVER THE INPUT: true; the input reads as it did. -/
def judgeSaysSpec : ChangeSpec := { name := "judgeSays", fn := fun _ => fun
  | [d1, d2] => { results := [.lit (.bool true)], args := [d1, d2] }
  | _ => none }
def judgeSaysRow : OpenClaim := { program := "ytihbcgdbennegaa", sum := "81c74205708bde45a2e294a7d64dfbebaea66bce9e332cfc92ac9aa97350fe59", func := "charterhouse/charterhousekeep.JudgeSays", spec := "judgeSays", unfollowed := true, recurses := true, plainKeys := false, apart := false }
def JudgeSaysSaid : Prop := judgeSaysRow.holds Try.pinned (OpenSpec.ofChange judgeSaysSpec)

/-- ITS FALSE NEIGHBOUR: 'it returns false'. Refute it at one input. -/
def judgeSaysWrong : ChangeSpec := { name := "judgeSays", fn := fun _ => fun
  | [d1, d2] => { results := [.lit (.bool false)], args := [d1, d2] }
  | _ => none }
def JudgeSaysWrongFalsely : Prop := judgeSaysRow.holds Try.pinned (OpenSpec.ofChange judgeSaysWrong)

/-- 'charterhousekeep.JudgePaired': WHATEVER THE INPUT: true; the input reads as it did. -/
def judgePairedSpec : ChangeSpec := { name := "judgePaired", fn := fun _ => fun
  | [d1, d2, d3] => { results := [.lit (.bool true)], args := [d1, d2, d3] }
  | _ => none }
def judgePairedRow : OpenClaim := { program := "ytihbcgdbennegaa", sum := "81c74205708bde45a2e294a7d64dfbebaea66bce9e332cfc92ac9aa97350fe59", func := "charterhouse/charterhousekeep.JudgePaired", spec := "judgePaired", unfollowed := true, recurses := true, plainKeys := false, apart := false }
def JudgePairedSaid : Prop := judgePairedRow.holds Try.pinned (OpenSpec.ofChange judgePairedSpec)

/-- ITS FALSE NEIGHBOUR: 'it returns false'. Refute it at one input. -/
def judgePairedWrong : ChangeSpec := { name := "judgePaired", fn := fun _ => fun
  | [d1, d2, d3] => { results := [.lit (.bool false)], args := [d1, d2, d3] }
  | _ => none }
def JudgePairedWrongFalsely : Prop := judgePairedRow.holds Try.pinned (OpenSpec.ofChange judgePairedWrong)

/-- 'charterhousekeep.JudgeOrder': WHATEVER THE INPUT: true; the input reads as it did. -/
def judgeOrderSpec : ChangeSpec := { name := "judgeOrder", fn := fun _ => fun
  | [d1, d2, d3] => { results := [.lit (.bool true)], args := [d1, d2, d3] }
  | _ => none }
def judgeOrderRow : OpenClaim := { program := "ytihbcgdbennegaa", sum := "81c74205708bde45a2e294a7d64dfbebaea66bce9e332cfc92ac9aa97350fe59", func := "charterhouse/charterhousekeep.JudgeOrder", spec := "judgeOrder", unfollowed := true, recurses := true, plainKeys := false, apart := false }
def JudgeOrderSaid : Prop := judgeOrderRow.holds Try.pinned (OpenSpec.ofChange judgeOrderSpec)

/-- ITS FALSE NEIGHBOUR: 'it returns false'. Refute it at one input. -/
def judgeOrderWrong : ChangeSpec := { name := "judgeOrder", fn := fun _ => fun
  | [d1, d2, d3] => { results := [.lit (.bool false)], args := [d1, d2, d3] }
  | _ => none }
def JudgeOrderWrongFalsely : Prop := judgeOrderRow.holds Try.pinned (OpenSpec.ofChange judgeOrderWrong)

/-- 'charterhousekeep.JudgeFirst': WHATEVER THE INPUT: true; the input reads as it did. -/
def judgeFirstSpec : ChangeSpec := { name := "judgeFirst", fn := fun _ => fun
  | [d1, d2, d3] => { results := [.lit (.bool true)], args := [d1, d2, d3] }
  | _ => none }
def judgeFirstRow : OpenClaim := { program := "ytihbcgdbennegaa", sum := "81c74205708bde45a2e294a7d64dfbebaea66bce9e332cfc92ac9aa97350fe59", func := "charterhouse/charterhousekeep.JudgeFirst", spec := "judgeFirst", unfollowed := true, recurses := true, plainKeys := false, apart := false }
def JudgeFirstSaid : Prop := judgeFirstRow.holds Try.pinned (OpenSpec.ofChange judgeFirstSpec)

/-- ITS FALSE NEIGHBOUR: 'it returns false'. Refute it at one input. -/
def judgeFirstWrong : ChangeSpec := { name := "judgeFirst", fn := fun _ => fun
  | [d1, d2, d3] => { results := [.lit (.bool false)], args := [d1, d2, d3] }
  | _ => none }
def JudgeFirstWrongFalsely : Prop := judgeFirstRow.holds Try.pinned (OpenSpec.ofChange judgeFirstWrong)

/- THE SECOND FORM. 'bulk': how many values and letters a reading holds, each counted each time it is reached (what is shared counts as often as it is met; a slice's spare places count too). A statement '..UptoSaid' is the law's where the arguments, and the package variables that the reading takes, are together of bulk at most 1048576: NARROWER than '..Said'. Prove '..Said' where nothing that the law and all that it calls make is longer than what came in: it says more and counts as full. Else prove '..UptoSaid'. A law counts once. -/
mutual
def uptoBulk {H : Type} : DataW H → Nat
  | .lit (.string bytes) => bytes.length + 1
  | .lit _ => 1
  | .nil => 1
  | .ptr d => uptoBulk d + 1
  | .slice elems spare => uptoBulkAll elems + uptoBulkAll spare + 1
  | .agg parts => uptoBulkAll parts + 1
  | .iface _ d => uptoBulk d + 1
  | .map entries => uptoBulkEntries entries + 1
  | .held _ => 1
def uptoBulkAll {H : Type} : List (DataW H) → Nat
  | [] => 0
  | d :: r => uptoBulk d + uptoBulkAll r
def uptoBulkEntries {H : Type} : List (Lit × DataW H) → Nat
  | [] => 0
  | x :: r => uptoBulkEntry x + uptoBulkEntries r
def uptoBulkEntry {H : Type} : Lit × DataW H → Nat
  | (.string bytes, d) => bytes.length + uptoBulk d + 1
  | (_, d) => uptoBulk d + 1
 end
def uptoSmall : (H : Type) → List (DataW H) → Bool := fun _ ds => decide (uptoBulkAll ds ≤ 1048576)
def OpenSpec.upto (s : _root_.Go.ChangeSpec) : _root_.Go.OpenSpec := { _root_.Go.OpenSpec.ofChange s with cond := some uptoSmall }

/-- 'charterhouselaw.JudgeDoes', WHERE WHAT IT READS IS OF BULK AT MOST 1048576: true; the input reads as it did. -/
def judgeDoesUptoRow : OpenClaim := { program := "ytihbcgdbennegaa", sum := "81c74205708bde45a2e294a7d64dfbebaea66bce9e332cfc92ac9aa97350fe59", func := "charterhouse/charterhouselaw.JudgeDoes", spec := "judgeDoes", unfollowed := true, recurses := true, plainKeys := false, apart := false, narrowed := true }
def JudgeDoesUptoSaid : Prop := judgeDoesUptoRow.holds Try.pinned (OpenSpec.upto judgeDoesSpec)

/-- 'charterhouselaw.JudgePairs', WHERE WHAT IT READS IS OF BULK AT MOST 1048576: true; the input reads as it did. -/
def judgePairsUptoRow : OpenClaim := { program := "ytihbcgdbennegaa", sum := "81c74205708bde45a2e294a7d64dfbebaea66bce9e332cfc92ac9aa97350fe59", func := "charterhouse/charterhouselaw.JudgePairs", spec := "judgePairs", unfollowed := true, recurses := true, plainKeys := false, apart := false, narrowed := true }
def JudgePairsUptoSaid : Prop := judgePairsUptoRow.holds Try.pinned (OpenSpec.upto judgePairsSpec)

/-- 'charterhousekeep.JudgeSpends', WHERE WHAT IT READS IS OF BULK AT MOST 1048576: true; the input reads as it did. -/
def judgeSpendsUptoRow : OpenClaim := { program := "ytihbcgdbennegaa", sum := "81c74205708bde45a2e294a7d64dfbebaea66bce9e332cfc92ac9aa97350fe59", func := "charterhouse/charterhousekeep.JudgeSpends", spec := "judgeSpends", unfollowed := true, recurses := true, plainKeys := false, apart := false, narrowed := true }
def JudgeSpendsUptoSaid : Prop := judgeSpendsUptoRow.holds Try.pinned (OpenSpec.upto judgeSpendsSpec)

/-- 'charterhousekeep.JudgeSays', WHERE WHAT IT READS IS OF BULK AT MOST 1048576: true; the input reads as it did. -/
def judgeSaysUptoRow : OpenClaim := { program := "ytihbcgdbennegaa", sum := "81c74205708bde45a2e294a7d64dfbebaea66bce9e332cfc92ac9aa97350fe59", func := "charterhouse/charterhousekeep.JudgeSays", spec := "judgeSays", unfollowed := true, recurses := true, plainKeys := false, apart := false, narrowed := true }
def JudgeSaysUptoSaid : Prop := judgeSaysUptoRow.holds Try.pinned (OpenSpec.upto judgeSaysSpec)

/-- 'charterhousekeep.JudgePaired', WHERE WHAT IT READS IS OF BULK AT MOST 1048576: true; the input reads as it did. -/
def judgePairedUptoRow : OpenClaim := { program := "ytihbcgdbennegaa", sum := "81c74205708bde45a2e294a7d64dfbebaea66bce9e332cfc92ac9aa97350fe59", func := "charterhouse/charterhousekeep.JudgePaired", spec := "judgePaired", unfollowed := true, recurses := true, plainKeys := false, apart := false, narrowed := true }
def JudgePairedUptoSaid : Prop := judgePairedUptoRow.holds Try.pinned (OpenSpec.upto judgePairedSpec)

/-- 'charterhousekeep.JudgeOrder', WHERE WHAT IT READS IS OF BULK AT MOST 1048576: true; the input reads as it did. -/
def judgeOrderUptoRow : OpenClaim := { program := "ytihbcgdbennegaa", sum := "81c74205708bde45a2e294a7d64dfbebaea66bce9e332cfc92ac9aa97350fe59", func := "charterhouse/charterhousekeep.JudgeOrder", spec := "judgeOrder", unfollowed := true, recurses := true, plainKeys := false, apart := false, narrowed := true }
def JudgeOrderUptoSaid : Prop := judgeOrderUptoRow.holds Try.pinned (OpenSpec.upto judgeOrderSpec)

/-- 'charterhousekeep.JudgeFirst', WHERE WHAT IT READS IS OF BULK AT MOST 1048576: true; the input reads as it did. -/
def judgeFirstUptoRow : OpenClaim := { program := "ytihbcgdbennegaa", sum := "81c74205708bde45a2e294a7d64dfbebaea66bce9e332cfc92ac9aa97350fe59", func := "charterhouse/charterhousekeep.JudgeFirst", spec := "judgeFirst", unfollowed := true, recurses := true, plainKeys := false, apart := false, narrowed := true }
def JudgeFirstUptoSaid : Prop := judgeFirstUptoRow.holds Try.pinned (OpenSpec.upto judgeFirstSpec)

end Rows
end Go.Proofs.Ytihbcgdbennegaa
