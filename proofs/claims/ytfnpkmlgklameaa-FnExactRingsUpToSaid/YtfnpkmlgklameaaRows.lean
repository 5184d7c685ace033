/-
  No cell of these rows narrows 'for every input' (looked for: loops, veiled, ifaces, maps, wideKeys, modest, calm, conditions, laid).
  DERIVED. THE GIVEN ROWS OF THIS SEAT. 10 by the template 'for every input the law returns true; each argument reads behind the call as it read before'; 0 by the template 'total and deterministic' (their statements: YtfnpkmlgklameaaTotals.lean).
  GIVEN WITH THE SEED: the statements are not yours to turn. If you find one false, say at which input.
  Laid BY PROGRAM, IN A SANDBOX (cutbox-rows.mjs): the forced cells as the released guide's own fill.sh prints them over the translation 26c80ef28c755f27… (all of the seat's roots in one cut). By AI agents, Wed Nov 11 2026. No macro, syntax, notation, axiom, sorry.
-/
import Derived.Test.YtfnpkmlgklameaaChecked
import GoSem.Claim
import GoSem.ClaimJoined
import GoSem.ClaimMapViews
import Derived.JoinedTies
import Derived.KernelRfl
namespace Go.Proofs.Ytfnpkmlgklameaa
/- THE CELL 'sum', in the pinned program and in every row, IS THE sha256 OF THE DUMP (.gsa) THAT YtfnpkmlgklameaaProg.lean LOADS. Nothing in Lean hashes anything: it is a label: what it is worth is what the hold of that sum in a sandbox is worth. -/
noncomputable def Try.pinned : Pinned := { name := "ytfnpkmlgklameaa", sum := "26c80ef28c755f27167a76c22b50d3cc0c7a15c8fa37466be8231ee21c41d15f", checked := Try.checked }
namespace Rows
def none {H : Type} : Left H := { results := [], args := [] }

/-- 'laws.FnLettersOf': WHATEVER THE INPUT: true; the input reads as it did. -/
def fnLettersOfSpec : ChangeSpec := { name := "fnLettersOf", fn := fun _ => fun
  | [d] => { results := [.lit (.bool true)], args := [d] }
  | _ => none }
def fnLettersOfRow : OpenClaim := { program := "ytfnpkmlgklameaa", sum := "26c80ef28c755f27167a76c22b50d3cc0c7a15c8fa37466be8231ee21c41d15f", func := "loop.example/numberwords/laws.FnLettersOf", spec := "fnLettersOf", unfollowed := true, recurses := true, apart := false }
def FnLettersOfSaid : Prop := fnLettersOfRow.holds Try.pinned (OpenSpec.ofChange fnLettersOfSpec)

/-- ITS FALSE NEIGHBOUR: 'it returns false'. Refute it at one input. -/
def fnLettersOfWrong : ChangeSpec := { name := "fnLettersOf", fn := fun _ => fun
  | [d] => { results := [.lit (.bool false)], args := [d] }
  | _ => none }
def FnLettersOfWrongFalsely : Prop := fnLettersOfRow.holds Try.pinned (OpenSpec.ofChange fnLettersOfWrong)

/-- 'laws.FnExactLettersOf': WHATEVER THE INPUT: true; the input reads as it did. -/
def fnExactLettersOfSpec : ChangeSpec := { name := "fnExactLettersOf", fn := fun _ => fun
  | [d1, d2] => { results := [.lit (.bool true)], args := [d1, d2] }
  | _ => none }
def fnExactLettersOfRow : OpenClaim := { program := "ytfnpkmlgklameaa", sum := "26c80ef28c755f27167a76c22b50d3cc0c7a15c8fa37466be8231ee21c41d15f", func := "loop.example/numberwords/laws.FnExactLettersOf", spec := "fnExactLettersOf", recurses := true, apart := false }
def FnExactLettersOfSaid : Prop := fnExactLettersOfRow.holds Try.pinned (OpenSpec.ofChange fnExactLettersOfSpec)

/-- ITS FALSE NEIGHBOUR: 'it returns false'. Refute it at one input. -/
def fnExactLettersOfWrong : ChangeSpec := { name := "fnExactLettersOf", fn := fun _ => fun
  | [d1, d2] => { results := [.lit (.bool false)], args := [d1, d2] }
  | _ => none }
def FnExactLettersOfWrongFalsely : Prop := fnExactLettersOfRow.holds Try.pinned (OpenSpec.ofChange fnExactLettersOfWrong)

/-- 'laws.FnRingFrom': WHATEVER THE INPUT: true; the input reads as it did. -/
def fnRingFromSpec : ChangeSpec := { name := "fnRingFrom", fn := fun _ => fun
  | [d] => { results := [.lit (.bool true)], args := [d] }
  | _ => none }
def fnRingFromRow : OpenClaim := { program := "ytfnpkmlgklameaa", sum := "26c80ef28c755f27167a76c22b50d3cc0c7a15c8fa37466be8231ee21c41d15f", func := "loop.example/numberwords/laws.FnRingFrom", spec := "fnRingFrom", recurses := true, apart := false }
def FnRingFromSaid : Prop := fnRingFromRow.holds Try.pinned (OpenSpec.ofChange fnRingFromSpec)

/-- ITS FALSE NEIGHBOUR: 'it returns false'. Refute it at one input. -/
def fnRingFromWrong : ChangeSpec := { name := "fnRingFrom", fn := fun _ => fun
  | [d] => { results := [.lit (.bool false)], args := [d] }
  | _ => none }
def FnRingFromWrongFalsely : Prop := fnRingFromRow.holds Try.pinned (OpenSpec.ofChange fnRingFromWrong)

/-- 'laws.FnExactRingFrom': WHATEVER THE INPUT: true; the input reads as it did. -/
def fnExactRingFromSpec : ChangeSpec := { name := "fnExactRingFrom", fn := fun _ => fun
  | [d1, d2] => { results := [.lit (.bool true)], args := [d1, d2] }
  | _ => none }
def fnExactRingFromRow : OpenClaim := { program := "ytfnpkmlgklameaa", sum := "26c80ef28c755f27167a76c22b50d3cc0c7a15c8fa37466be8231ee21c41d15f", func := "loop.example/numberwords/laws.FnExactRingFrom", spec := "fnExactRingFrom", recurses := true, apart := false }
def FnExactRingFromSaid : Prop := fnExactRingFromRow.holds Try.pinned (OpenSpec.ofChange fnExactRingFromSpec)

/-- ITS FALSE NEIGHBOUR: 'it returns false'. Refute it at one input. -/
def fnExactRingFromWrong : ChangeSpec := { name := "fnExactRingFrom", fn := fun _ => fun
  | [d1, d2] => { results := [.lit (.bool false)], args := [d1, d2] }
  | _ => none }
def FnExactRingFromWrongFalsely : Prop := fnExactRingFromRow.holds Try.pinned (OpenSpec.ofChange fnExactRingFromWrong)

/-- 'laws.FnTrueOnes': WHATEVER THE INPUT: true; the input reads as it did. -/
def fnTrueOnesSpec : ChangeSpec := { name := "fnTrueOnes", fn := fun _ => fun
  | [d] => { results := [.lit (.bool true)], args := [d] }
  | _ => none }
def fnTrueOnesRow : OpenClaim := { program := "ytfnpkmlgklameaa", sum := "26c80ef28c755f27167a76c22b50d3cc0c7a15c8fa37466be8231ee21c41d15f", func := "loop.example/numberwords/laws.FnTrueOnes", spec := "fnTrueOnes", recurses := true, apart := false }
def FnTrueOnesSaid : Prop := fnTrueOnesRow.holds Try.pinned (OpenSpec.ofChange fnTrueOnesSpec)

/-- ITS FALSE NEIGHBOUR: 'it returns false'. Refute it at one input. -/
def fnTrueOnesWrong : ChangeSpec := { name := "fnTrueOnes", fn := fun _ => fun
  | [d] => { results := [.lit (.bool false)], args := [d] }
  | _ => none }
def FnTrueOnesWrongFalsely : Prop := fnTrueOnesRow.holds Try.pinned (OpenSpec.ofChange fnTrueOnesWrong)

/-- 'laws.FnExactTrueOnes': WHATEVER THE INPUT: true; the input reads as it did. -/
def fnExactTrueOnesSpec : ChangeSpec := { name := "fnExactTrueOnes", fn := fun _ => fun
  | [d1, d2] => { results := [.lit (.bool true)], args := [d1, d2] }
  | _ => none }
def fnExactTrueOnesRow : OpenClaim := { program := "ytfnpkmlgklameaa", sum := "26c80ef28c755f27167a76c22b50d3cc0c7a15c8fa37466be8231ee21c41d15f", func := "loop.example/numberwords/laws.FnExactTrueOnes", spec := "fnExactTrueOnes", recurses := true, apart := false }
def FnExactTrueOnesSaid : Prop := fnExactTrueOnesRow.holds Try.pinned (OpenSpec.ofChange fnExactTrueOnesSpec)

/-- ITS FALSE NEIGHBOUR: 'it returns false'. Refute it at one input. -/
def fnExactTrueOnesWrong : ChangeSpec := { name := "fnExactTrueOnes", fn := fun _ => fun
  | [d1, d2] => { results := [.lit (.bool false)], args := [d1, d2] }
  | _ => none }
def FnExactTrueOnesWrongFalsely : Prop := fnExactTrueOnesRow.holds Try.pinned (OpenSpec.ofChange fnExactTrueOnesWrong)

/-- 'laws.FnStepsToRing': WHATEVER THE INPUT: true; the input reads as it did. -/
def fnStepsToRingSpec : ChangeSpec := { name := "fnStepsToRing", fn := fun _ => fun
  | [d] => { results := [.lit (.bool true)], args := [d] }
  | _ => none }
def fnStepsToRingRow : OpenClaim := { program := "ytfnpkmlgklameaa", sum := "26c80ef28c755f27167a76c22b50d3cc0c7a15c8fa37466be8231ee21c41d15f", func := "loop.example/numberwords/laws.FnStepsToRing", spec := "fnStepsToRing", recurses := true, apart := false }
def FnStepsToRingSaid : Prop := fnStepsToRingRow.holds Try.pinned (OpenSpec.ofChange fnStepsToRingSpec)

/-- ITS FALSE NEIGHBOUR: 'it returns false'. Refute it at one input. -/
def fnStepsToRingWrong : ChangeSpec := { name := "fnStepsToRing", fn := fun _ => fun
  | [d] => { results := [.lit (.bool false)], args := [d] }
  | _ => none }
def FnStepsToRingWrongFalsely : Prop := fnStepsToRingRow.holds Try.pinned (OpenSpec.ofChange fnStepsToRingWrong)

/-- 'laws.FnExactStepsToRing': WHATEVER THE INPUT: true; the input reads as it did. -/
def fnExactStepsToRingSpec : ChangeSpec := { name := "fnExactStepsToRing", fn := fun _ => fun
  | [d1, d2] => { results := [.lit (.bool true)], args := [d1, d2] }
  | _ => none }
def fnExactStepsToRingRow : OpenClaim := { program := "ytfnpkmlgklameaa", sum := "26c80ef28c755f27167a76c22b50d3cc0c7a15c8fa37466be8231ee21c41d15f", func := "loop.example/numberwords/laws.FnExactStepsToRing", spec := "fnExactStepsToRing", recurses := true, apart := false }
def FnExactStepsToRingSaid : Prop := fnExactStepsToRingRow.holds Try.pinned (OpenSpec.ofChange fnExactStepsToRingSpec)

/-- ITS FALSE NEIGHBOUR: 'it returns false'. Refute it at one input. -/
def fnExactStepsToRingWrong : ChangeSpec := { name := "fnExactStepsToRing", fn := fun _ => fun
  | [d1, d2] => { results := [.lit (.bool false)], args := [d1, d2] }
  | _ => none }
def FnExactStepsToRingWrongFalsely : Prop := fnExactStepsToRingRow.holds Try.pinned (OpenSpec.ofChange fnExactStepsToRingWrong)

/-- 'laws.FnRingsUpTo': WHATEVER THE INPUT: true; the input reads as it did. -/
def fnRingsUpToSpec : ChangeSpec := { name := "fnRingsUpTo", fn := fun _ => fun
  | [d] => { results := [.lit (.bool true)], args := [d] }
  | _ => none }
def fnRingsUpToRow : OpenClaim := { program := "ytfnpkmlgklameaa", sum := "26c80ef28c755f27167a76c22b50d3cc0c7a15c8fa37466be8231ee21c41d15f", func := "loop.example/numberwords/laws.FnRingsUpTo", spec := "fnRingsUpTo", recurses := true, apart := false }
def FnRingsUpToSaid : Prop := fnRingsUpToRow.holds Try.pinned (OpenSpec.ofChange fnRingsUpToSpec)

/-- ITS FALSE NEIGHBOUR: 'it returns false'. Refute it at one input. -/
def fnRingsUpToWrong : ChangeSpec := { name := "fnRingsUpTo", fn := fun _ => fun
  | [d] => { results := [.lit (.bool false)], args := [d] }
  | _ => none }
def FnRingsUpToWrongFalsely : Prop := fnRingsUpToRow.holds Try.pinned (OpenSpec.ofChange fnRingsUpToWrong)

/-- 'laws.FnExactRingsUpTo': WHATEVER THE INPUT: true; the input reads as it did. -/
def fnExactRingsUpToSpec : ChangeSpec := { name := "fnExactRingsUpTo", fn := fun _ => fun
  | [d1, d2] => { results := [.lit (.bool true)], args := [d1, d2] }
  | _ => none }
def fnExactRingsUpToRow : OpenClaim := { program := "ytfnpkmlgklameaa", sum := "26c80ef28c755f27167a76c22b50d3cc0c7a15c8fa37466be8231ee21c41d15f", func := "loop.example/numberwords/laws.FnExactRingsUpTo", spec := "fnExactRingsUpTo", recurses := true, apart := false }
def FnExactRingsUpToSaid : Prop := fnExactRingsUpToRow.holds Try.pinned (OpenSpec.ofChange fnExactRingsUpToSpec)

/-- ITS FALSE NEIGHBOUR: 'it returns false'. Refute it at one input. -/
def fnExactRingsUpToWrong : ChangeSpec := { name := "fnExactRingsUpTo", fn := fun _ => fun
  | [d1, d2] => { results := [.lit (.bool false)], args := [d1, d2] }
  | _ => none }
def FnExactRingsUpToWrongFalsely : Prop := fnExactRingsUpToRow.holds Try.pinned (OpenSpec.ofChange fnExactRingsUpToWrong)

/- THE SECOND FORM. 'bulk': how many values and letters a reading holds, each counted each time it is reached (what is shared counts as often as it is met; a slice's spare places count too). A statement '..UptoSaid' is the law's where the arguments, and the package variables that the reading takes, are together of bulk at most 1048576: NARROWER than '..Said'. Prove '..Said' where nothing that the law and all that it calls make is longer than what came in: it says more and counts as full. Else prove '..UptoSaid'. A law counts once. -/
mutual
def uptoBulk {H : Type} : DataW H → Nat
  | .lit (.string bytes) => bytes.length + 1
  | .lit _ => 1
  | .nil => 1
  | .ptr d => uptoBulk d + 1
  | .slice elems spare => uptoBulkAll elems + uptoBulkAll spare + 1
  | .agg parts => uptoBulkAll parts + 1
  | .iface _ d => uptoBulk d + 1
  | .map entries => uptoBulkEntries entries + 1
  | .held _ => 1
def uptoBulkAll {H : Type} : List (DataW H) → Nat
  | [] => 0
  | d :: r => uptoBulk d + uptoBulkAll r
def uptoBulkEntries {H : Type} : List (Lit × DataW H) → Nat
  | [] => 0
  | x :: r => uptoBulkEntry x + uptoBulkEntries r
def uptoBulkEntry {H : Type} : Lit × DataW H → Nat
  | (.string bytes, d) => bytes.length + uptoBulk d + 1
  | (_, d) => uptoBulk d + 1
 end
def uptoSmall : (H : Type) → List (DataW H) → Bool := fun _ ds => decide (uptoBulkAll ds ≤ 1048576)
def OpenSpec.upto (s : _root_.Go.ChangeSpec) : _root_.Go.OpenSpec := { _root_.Go.OpenSpec.ofChange s with cond := some uptoSmall }

/-- 'laws.FnLettersOf', WHERE WHAT IT READS IS OF BULK AT MOST 1048576: true; the input reads as it did. -/
def fnLettersOfUptoRow : OpenClaim := { program := "ytfnpkmlgklameaa", sum := "26c80ef28c755f27167a76c22b50d3cc0c7a15c8fa37466be8231ee21c41d15f", func := "loop.example/numberwords/laws.FnLettersOf", spec := "fnLettersOf", unfollowed := true, recurses := true, apart := false, narrowed := true }
def FnLettersOfUptoSaid : Prop := fnLettersOfUptoRow.holds Try.pinned (OpenSpec.upto fnLettersOfSpec)

/-- 'laws.FnExactLettersOf', WHERE WHAT IT READS IS OF BULK AT MOST 1048576: true; the input reads as it did. -/
def fnExactLettersOfUptoRow : OpenClaim := { program := "ytfnpkmlgklameaa", sum := "26c80ef28c755f27167a76c22b50d3cc0c7a15c8fa37466be8231ee21c41d15f", func := "loop.example/numberwords/laws.FnExactLettersOf", spec := "fnExactLettersOf", recurses := true, apart := false, narrowed := true }
def FnExactLettersOfUptoSaid : Prop := fnExactLettersOfUptoRow.holds Try.pinned (OpenSpec.upto fnExactLettersOfSpec)

/-- 'laws.FnRingFrom', WHERE WHAT IT READS IS OF BULK AT MOST 1048576: true; the input reads as it did. -/
def fnRingFromUptoRow : OpenClaim := { program := "ytfnpkmlgklameaa", sum := "26c80ef28c755f27167a76c22b50d3cc0c7a15c8fa37466be8231ee21c41d15f", func := "loop.example/numberwords/laws.FnRingFrom", spec := "fnRingFrom", recurses := true, apart := false, narrowed := true }
def FnRingFromUptoSaid : Prop := fnRingFromUptoRow.holds Try.pinned (OpenSpec.upto fnRingFromSpec)

/-- 'laws.FnExactRingFrom', WHERE WHAT IT READS IS OF BULK AT MOST 1048576: true; the input reads as it did. -/
def fnExactRingFromUptoRow : OpenClaim := { program := "ytfnpkmlgklameaa", sum := "26c80ef28c755f27167a76c22b50d3cc0c7a15c8fa37466be8231ee21c41d15f", func := "loop.example/numberwords/laws.FnExactRingFrom", spec := "fnExactRingFrom", recurses := true, apart := false, narrowed := true }
def FnExactRingFromUptoSaid : Prop := fnExactRingFromUptoRow.holds Try.pinned (OpenSpec.upto fnExactRingFromSpec)

/-- 'laws.FnTrueOnes', WHERE WHAT IT READS IS OF BULK AT MOST 1048576: true; the input reads as it did. -/
def fnTrueOnesUptoRow : OpenClaim := { program := "ytfnpkmlgklameaa", sum := "26c80ef28c755f27167a76c22b50d3cc0c7a15c8fa37466be8231ee21c41d15f", func := "loop.example/numberwords/laws.FnTrueOnes", spec := "fnTrueOnes", recurses := true, apart := false, narrowed := true }
def FnTrueOnesUptoSaid : Prop := fnTrueOnesUptoRow.holds Try.pinned (OpenSpec.upto fnTrueOnesSpec)

/-- 'laws.FnExactTrueOnes', WHERE WHAT IT READS IS OF BULK AT MOST 1048576: true; the input reads as it did. -/
def fnExactTrueOnesUptoRow : OpenClaim := { program := "ytfnpkmlgklameaa", sum := "26c80ef28c755f27167a76c22b50d3cc0c7a15c8fa37466be8231ee21c41d15f", func := "loop.example/numberwords/laws.FnExactTrueOnes", spec := "fnExactTrueOnes", recurses := true, apart := false, narrowed := true }
def FnExactTrueOnesUptoSaid : Prop := fnExactTrueOnesUptoRow.holds Try.pinned (OpenSpec.upto fnExactTrueOnesSpec)

/-- 'laws.FnStepsToRing', WHERE WHAT IT READS IS OF BULK AT MOST 1048576: true; the input reads as it did. -/
def fnStepsToRingUptoRow : OpenClaim := { program := "ytfnpkmlgklameaa", sum := "26c80ef28c755f27167a76c22b50d3cc0c7a15c8fa37466be8231ee21c41d15f", func := "loop.example/numberwords/laws.FnStepsToRing", spec := "fnStepsToRing", recurses := true, apart := false, narrowed := true }
def FnStepsToRingUptoSaid : Prop := fnStepsToRingUptoRow.holds Try.pinned (OpenSpec.upto fnStepsToRingSpec)

/-- 'laws.FnExactStepsToRing', WHERE WHAT IT READS IS OF BULK AT MOST 1048576: true; the input reads as it did. -/
def fnExactStepsToRingUptoRow : OpenClaim := { program := "ytfnpkmlgklameaa", sum := "26c80ef28c755f27167a76c22b50d3cc0c7a15c8fa37466be8231ee21c41d15f", func := "loop.example/numberwords/laws.FnExactStepsToRing", spec := "fnExactStepsToRing", recurses := true, apart := false, narrowed := true }
def FnExactStepsToRingUptoSaid : Prop := fnExactStepsToRingUptoRow.holds Try.pinned (OpenSpec.upto fnExactStepsToRingSpec)

/-- 'laws.FnRingsUpTo', WHERE WHAT IT READS IS OF BULK AT MOST 1048576: true; the input reads as it did. -/
def fnRingsUpToUptoRow : OpenClaim := { program := "ytfnpkmlgklameaa", sum := "26c80ef28c755f27167a76c22b50d3cc0c7a15c8fa37466be8231ee21c41d15f", func := "loop.example/numberwords/laws.FnRingsUpTo", spec := "fnRingsUpTo", recurses := true, apart := false, narrowed := true }
def FnRingsUpToUptoSaid : Prop := fnRingsUpToUptoRow.holds Try.pinned (OpenSpec.upto fnRingsUpToSpec)

/-- 'laws.FnExactRingsUpTo', WHERE WHAT IT READS IS OF BULK AT MOST 1048576: true; the input reads as it did. -/
def fnExactRingsUpToUptoRow : OpenClaim := { program := "ytfnpkmlgklameaa", sum := "26c80ef28c755f27167a76c22b50d3cc0c7a15c8fa37466be8231ee21c41d15f", func := "loop.example/numberwords/laws.FnExactRingsUpTo", spec := "fnExactRingsUpTo", recurses := true, apart := false, narrowed := true }
def FnExactRingsUpToUptoSaid : Prop := fnExactRingsUpToUptoRow.holds Try.pinned (OpenSpec.upto fnExactRingsUpToSpec)

end Rows
end Go.Proofs.Ytfnpkmlgklameaa
