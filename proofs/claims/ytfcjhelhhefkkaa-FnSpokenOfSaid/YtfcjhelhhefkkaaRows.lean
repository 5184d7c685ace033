/-
  No cell of these rows narrows 'for every input' (looked for: loops, veiled, ifaces, maps, wideKeys, modest, calm, conditions, laid).
  DERIVED. THE GIVEN ROWS OF THIS SEAT. 14 by the template 'for every input the law returns true; each argument reads behind the call as it read before'; 0 by the template 'total and deterministic' (their statements: YtfcjhelhhefkkaaTotals.lean).
  GIVEN WITH THE SEED: the statements are not yours to turn. If you find one false, say at which input.
  Laid BY PROGRAM, IN A SANDBOX (cutbox-rows.mjs): the forced cells as the released guide's own fill.sh prints them over the translation 03f74a80fc5d3a49… (all of the seat's roots in one cut). By AI agents, Wed Nov 11 2026. No macro, syntax, notation, axiom, sorry.
-/
import Derived.Test.YtfcjhelhhefkkaaChecked
import GoSem.Claim
import GoSem.ClaimJoined
import GoSem.ClaimMapViews
import Derived.JoinedTies
import Derived.KernelRfl
namespace Go.Proofs.Ytfcjhelhhefkkaa
/- THE CELL 'sum', in the pinned program and in every row, IS THE sha256 OF THE DUMP (.gsa) THAT YtfcjhelhhefkkaaProg.lean LOADS. Nothing in Lean hashes anything: it is a label: what it is worth is what the hold of that sum in a sandbox is worth. -/
noncomputable def Try.pinned : Pinned := { name := "ytfcjhelhhefkkaa", sum := "03f74a80fc5d3a4973ce3edd9a90ab74961d92a84d2b975e6aebdb1890576055", checked := Try.checked }
namespace Rows
def none {H : Type} : Left H := { results := [], args := [] }

/-- 'laws.FnRowOk': WHATEVER THE INPUT: true; the input reads as it did. -/
def fnRowOkSpec : ChangeSpec := { name := "fnRowOk", fn := fun _ => fun
  | [d] => { results := [.lit (.bool true)], args := [d] }
  | _ => none }
def fnRowOkRow : OpenClaim := { program := "ytfcjhelhhefkkaa", sum := "03f74a80fc5d3a4973ce3edd9a90ab74961d92a84d2b975e6aebdb1890576055", func := "loop.example/numberwords/laws.FnRowOk", spec := "fnRowOk", unfollowed := true, recurses := true, apart := false }
def FnRowOkSaid : Prop := fnRowOkRow.holds Try.pinned (OpenSpec.ofChange fnRowOkSpec)

/-- ITS FALSE NEIGHBOUR: 'it returns false'. Refute it at one input. -/
def fnRowOkWrong : ChangeSpec := { name := "fnRowOk", fn := fun _ => fun
  | [d] => { results := [.lit (.bool false)], args := [d] }
  | _ => none }
def FnRowOkWrongFalsely : Prop := fnRowOkRow.holds Try.pinned (OpenSpec.ofChange fnRowOkWrong)

/-- 'laws.FnRunsOf': WHATEVER THE INPUT: true; the input reads as it did. -/
def fnRunsOfSpec : ChangeSpec := { name := "fnRunsOf", fn := fun _ => fun
  | [d] => { results := [.lit (.bool true)], args := [d] }
  | _ => none }
def fnRunsOfRow : OpenClaim := { program := "ytfcjhelhhefkkaa", sum := "03f74a80fc5d3a4973ce3edd9a90ab74961d92a84d2b975e6aebdb1890576055", func := "loop.example/numberwords/laws.FnRunsOf", spec := "fnRunsOf", unfollowed := true, recurses := true, apart := false }
def FnRunsOfSaid : Prop := fnRunsOfRow.holds Try.pinned (OpenSpec.ofChange fnRunsOfSpec)

/-- ITS FALSE NEIGHBOUR: 'it returns false'. Refute it at one input. -/
def fnRunsOfWrong : ChangeSpec := { name := "fnRunsOf", fn := fun _ => fun
  | [d] => { results := [.lit (.bool false)], args := [d] }
  | _ => none }
def FnRunsOfWrongFalsely : Prop := fnRunsOfRow.holds Try.pinned (OpenSpec.ofChange fnRunsOfWrong)

/-- 'laws.FnSaidOf': WHATEVER THE INPUT: true; the input reads as it did. -/
def fnSaidOfSpec : ChangeSpec := { name := "fnSaidOf", fn := fun _ => fun
  | [d] => { results := [.lit (.bool true)], args := [d] }
  | _ => none }
def fnSaidOfRow : OpenClaim := { program := "ytfcjhelhhefkkaa", sum := "03f74a80fc5d3a4973ce3edd9a90ab74961d92a84d2b975e6aebdb1890576055", func := "loop.example/numberwords/laws.FnSaidOf", spec := "fnSaidOf", inPlace := ["internal/abi.NoEscape", "internal/bytealg.MakeNoZero"], unfollowed := true, recurses := true, apart := false }
def FnSaidOfSaid : Prop := fnSaidOfRow.holds Try.pinned (OpenSpec.ofChange fnSaidOfSpec)

/-- ITS FALSE NEIGHBOUR: 'it returns false'. Refute it at one input. -/
def fnSaidOfWrong : ChangeSpec := { name := "fnSaidOf", fn := fun _ => fun
  | [d] => { results := [.lit (.bool false)], args := [d] }
  | _ => none }
def FnSaidOfWrongFalsely : Prop := fnSaidOfRow.holds Try.pinned (OpenSpec.ofChange fnSaidOfWrong)

/-- 'laws.FnUnsaidOf': WHATEVER THE INPUT: true; the input reads as it did. -/
def fnUnsaidOfSpec : ChangeSpec := { name := "fnUnsaidOf", fn := fun _ => fun
  | [d] => { results := [.lit (.bool true)], args := [d] }
  | _ => none }
def fnUnsaidOfRow : OpenClaim := { program := "ytfcjhelhhefkkaa", sum := "03f74a80fc5d3a4973ce3edd9a90ab74961d92a84d2b975e6aebdb1890576055", func := "loop.example/numberwords/laws.FnUnsaidOf", spec := "fnUnsaidOf", inPlace := ["internal/abi.NoEscape", "internal/bytealg.MakeNoZero"], unfollowed := true, recurses := true, apart := false }
def FnUnsaidOfSaid : Prop := fnUnsaidOfRow.holds Try.pinned (OpenSpec.ofChange fnUnsaidOfSpec)

/-- ITS FALSE NEIGHBOUR: 'it returns false'. Refute it at one input. -/
def fnUnsaidOfWrong : ChangeSpec := { name := "fnUnsaidOf", fn := fun _ => fun
  | [d] => { results := [.lit (.bool false)], args := [d] }
  | _ => none }
def FnUnsaidOfWrongFalsely : Prop := fnUnsaidOfRow.holds Try.pinned (OpenSpec.ofChange fnUnsaidOfWrong)

/-- 'laws.FnSaidAgain': WHATEVER THE INPUT: true; the input reads as it did. -/
def fnSaidAgainSpec : ChangeSpec := { name := "fnSaidAgain", fn := fun _ => fun
  | [d] => { results := [.lit (.bool true)], args := [d] }
  | _ => none }
def fnSaidAgainRow : OpenClaim := { program := "ytfcjhelhhefkkaa", sum := "03f74a80fc5d3a4973ce3edd9a90ab74961d92a84d2b975e6aebdb1890576055", func := "loop.example/numberwords/laws.FnSaidAgain", spec := "fnSaidAgain", inPlace := ["internal/abi.NoEscape"], unfollowed := true, recurses := true, apart := false }
def FnSaidAgainSaid : Prop := fnSaidAgainRow.holds Try.pinned (OpenSpec.ofChange fnSaidAgainSpec)

/-- ITS FALSE NEIGHBOUR: 'it returns false'. Refute it at one input. -/
def fnSaidAgainWrong : ChangeSpec := { name := "fnSaidAgain", fn := fun _ => fun
  | [d] => { results := [.lit (.bool false)], args := [d] }
  | _ => none }
def FnSaidAgainWrongFalsely : Prop := fnSaidAgainRow.holds Try.pinned (OpenSpec.ofChange fnSaidAgainWrong)

/-- 'laws.FnFallsApart': WHATEVER THE INPUT: true; the input reads as it did. -/
def fnFallsApartSpec : ChangeSpec := { name := "fnFallsApart", fn := fun _ => fun
  | [d] => { results := [.lit (.bool true)], args := [d] }
  | _ => none }
def fnFallsApartRow : OpenClaim := { program := "ytfcjhelhhefkkaa", sum := "03f74a80fc5d3a4973ce3edd9a90ab74961d92a84d2b975e6aebdb1890576055", func := "loop.example/numberwords/laws.FnFallsApart", spec := "fnFallsApart", inPlace := ["internal/abi.NoEscape"], unfollowed := true, recurses := true, apart := false }
def FnFallsApartSaid : Prop := fnFallsApartRow.holds Try.pinned (OpenSpec.ofChange fnFallsApartSpec)

/-- ITS FALSE NEIGHBOUR: 'it returns false'. Refute it at one input. -/
def fnFallsApartWrong : ChangeSpec := { name := "fnFallsApart", fn := fun _ => fun
  | [d] => { results := [.lit (.bool false)], args := [d] }
  | _ => none }
def FnFallsApartWrongFalsely : Prop := fnFallsApartRow.holds Try.pinned (OpenSpec.ofChange fnFallsApartWrong)

/-- 'laws.FnSpokenOf': WHATEVER THE INPUT: true; the input reads as it did. -/
def fnSpokenOfSpec : ChangeSpec := { name := "fnSpokenOf", fn := fun _ => fun
  | [d] => { results := [.lit (.bool true)], args := [d] }
  | _ => none }
def fnSpokenOfRow : OpenClaim := { program := "ytfcjhelhhefkkaa", sum := "03f74a80fc5d3a4973ce3edd9a90ab74961d92a84d2b975e6aebdb1890576055", func := "loop.example/numberwords/laws.FnSpokenOf", spec := "fnSpokenOf", inPlace := ["internal/abi.NoEscape", "internal/bytealg.MakeNoZero"], unfollowed := true, recurses := true, apart := false }
def FnSpokenOfSaid : Prop := fnSpokenOfRow.holds Try.pinned (OpenSpec.ofChange fnSpokenOfSpec)

/-- ITS FALSE NEIGHBOUR: 'it returns false'. Refute it at one input. -/
def fnSpokenOfWrong : ChangeSpec := { name := "fnSpokenOf", fn := fun _ => fun
  | [d] => { results := [.lit (.bool false)], args := [d] }
  | _ => none }
def FnSpokenOfWrongFalsely : Prop := fnSpokenOfRow.holds Try.pinned (OpenSpec.ofChange fnSpokenOfWrong)

/-- 'laws.FnExactRowOk': WHATEVER THE INPUT: true; the input reads as it did. -/
def fnExactRowOkSpec : ChangeSpec := { name := "fnExactRowOk", fn := fun _ => fun
  | [d] => { results := [.lit (.bool true)], args := [d] }
  | _ => none }
def fnExactRowOkRow : OpenClaim := { program := "ytfcjhelhhefkkaa", sum := "03f74a80fc5d3a4973ce3edd9a90ab74961d92a84d2b975e6aebdb1890576055", func := "loop.example/numberwords/laws.FnExactRowOk", spec := "fnExactRowOk", unfollowed := true, recurses := true, apart := false }
def FnExactRowOkSaid : Prop := fnExactRowOkRow.holds Try.pinned (OpenSpec.ofChange fnExactRowOkSpec)

/-- ITS FALSE NEIGHBOUR: 'it returns false'. Refute it at one input. -/
def fnExactRowOkWrong : ChangeSpec := { name := "fnExactRowOk", fn := fun _ => fun
  | [d] => { results := [.lit (.bool false)], args := [d] }
  | _ => none }
def FnExactRowOkWrongFalsely : Prop := fnExactRowOkRow.holds Try.pinned (OpenSpec.ofChange fnExactRowOkWrong)

/-- 'laws.FnExactRunsOf': WHATEVER THE INPUT: true; the input reads as it did. -/
def fnExactRunsOfSpec : ChangeSpec := { name := "fnExactRunsOf", fn := fun _ => fun
  | [d] => { results := [.lit (.bool true)], args := [d] }
  | _ => none }
def fnExactRunsOfRow : OpenClaim := { program := "ytfcjhelhhefkkaa", sum := "03f74a80fc5d3a4973ce3edd9a90ab74961d92a84d2b975e6aebdb1890576055", func := "loop.example/numberwords/laws.FnExactRunsOf", spec := "fnExactRunsOf", unfollowed := true, recurses := true, apart := false }
def FnExactRunsOfSaid : Prop := fnExactRunsOfRow.holds Try.pinned (OpenSpec.ofChange fnExactRunsOfSpec)

/-- ITS FALSE NEIGHBOUR: 'it returns false'. Refute it at one input. -/
def fnExactRunsOfWrong : ChangeSpec := { name := "fnExactRunsOf", fn := fun _ => fun
  | [d] => { results := [.lit (.bool false)], args := [d] }
  | _ => none }
def FnExactRunsOfWrongFalsely : Prop := fnExactRunsOfRow.holds Try.pinned (OpenSpec.ofChange fnExactRunsOfWrong)

/-- 'laws.FnExactSaidOf': WHATEVER THE INPUT: true; the input reads as it did. -/
def fnExactSaidOfSpec : ChangeSpec := { name := "fnExactSaidOf", fn := fun _ => fun
  | [d] => { results := [.lit (.bool true)], args := [d] }
  | _ => none }
def fnExactSaidOfRow : OpenClaim := { program := "ytfcjhelhhefkkaa", sum := "03f74a80fc5d3a4973ce3edd9a90ab74961d92a84d2b975e6aebdb1890576055", func := "loop.example/numberwords/laws.FnExactSaidOf", spec := "fnExactSaidOf", inPlace := ["internal/abi.NoEscape"], unfollowed := true, recurses := true, apart := false }
def FnExactSaidOfSaid : Prop := fnExactSaidOfRow.holds Try.pinned (OpenSpec.ofChange fnExactSaidOfSpec)

/-- ITS FALSE NEIGHBOUR: 'it returns false'. Refute it at one input. -/
def fnExactSaidOfWrong : ChangeSpec := { name := "fnExactSaidOf", fn := fun _ => fun
  | [d] => { results := [.lit (.bool false)], args := [d] }
  | _ => none }
def FnExactSaidOfWrongFalsely : Prop := fnExactSaidOfRow.holds Try.pinned (OpenSpec.ofChange fnExactSaidOfWrong)

/-- 'laws.FnExactUnsaidOf': WHATEVER THE INPUT: true; the input reads as it did. -/
def fnExactUnsaidOfSpec : ChangeSpec := { name := "fnExactUnsaidOf", fn := fun _ => fun
  | [d] => { results := [.lit (.bool true)], args := [d] }
  | _ => none }
def fnExactUnsaidOfRow : OpenClaim := { program := "ytfcjhelhhefkkaa", sum := "03f74a80fc5d3a4973ce3edd9a90ab74961d92a84d2b975e6aebdb1890576055", func := "loop.example/numberwords/laws.FnExactUnsaidOf", spec := "fnExactUnsaidOf", inPlace := ["internal/abi.NoEscape", "internal/bytealg.MakeNoZero"], unfollowed := true, recurses := true, apart := false }
def FnExactUnsaidOfSaid : Prop := fnExactUnsaidOfRow.holds Try.pinned (OpenSpec.ofChange fnExactUnsaidOfSpec)

/-- ITS FALSE NEIGHBOUR: 'it returns false'. Refute it at one input. -/
def fnExactUnsaidOfWrong : ChangeSpec := { name := "fnExactUnsaidOf", fn := fun _ => fun
  | [d] => { results := [.lit (.bool false)], args := [d] }
  | _ => none }
def FnExactUnsaidOfWrongFalsely : Prop := fnExactUnsaidOfRow.holds Try.pinned (OpenSpec.ofChange fnExactUnsaidOfWrong)

/-- 'laws.FnExactSaidAgain': WHATEVER THE INPUT: true; the input reads as it did. -/
def fnExactSaidAgainSpec : ChangeSpec := { name := "fnExactSaidAgain", fn := fun _ => fun
  | [d1, d2] => { results := [.lit (.bool true)], args := [d1, d2] }
  | _ => none }
def fnExactSaidAgainRow : OpenClaim := { program := "ytfcjhelhhefkkaa", sum := "03f74a80fc5d3a4973ce3edd9a90ab74961d92a84d2b975e6aebdb1890576055", func := "loop.example/numberwords/laws.FnExactSaidAgain", spec := "fnExactSaidAgain", inPlace := ["internal/abi.NoEscape"], unfollowed := true, recurses := true, apart := false }
def FnExactSaidAgainSaid : Prop := fnExactSaidAgainRow.holds Try.pinned (OpenSpec.ofChange fnExactSaidAgainSpec)

/-- ITS FALSE NEIGHBOUR: 'it returns false'. Refute it at one input. -/
def fnExactSaidAgainWrong : ChangeSpec := { name := "fnExactSaidAgain", fn := fun _ => fun
  | [d1, d2] => { results := [.lit (.bool false)], args := [d1, d2] }
  | _ => none }
def FnExactSaidAgainWrongFalsely : Prop := fnExactSaidAgainRow.holds Try.pinned (OpenSpec.ofChange fnExactSaidAgainWrong)

/-- 'laws.FnExactFallsApart': WHATEVER THE INPUT: true; the input reads as it did. -/
def fnExactFallsApartSpec : ChangeSpec := { name := "fnExactFallsApart", fn := fun _ => fun
  | [d1, d2, d3] => { results := [.lit (.bool true)], args := [d1, d2, d3] }
  | _ => none }
def fnExactFallsApartRow : OpenClaim := { program := "ytfcjhelhhefkkaa", sum := "03f74a80fc5d3a4973ce3edd9a90ab74961d92a84d2b975e6aebdb1890576055", func := "loop.example/numberwords/laws.FnExactFallsApart", spec := "fnExactFallsApart", inPlace := ["internal/abi.NoEscape"], unfollowed := true, recurses := true, apart := false }
def FnExactFallsApartSaid : Prop := fnExactFallsApartRow.holds Try.pinned (OpenSpec.ofChange fnExactFallsApartSpec)

/-- ITS FALSE NEIGHBOUR: 'it returns false'. Refute it at one input. -/
def fnExactFallsApartWrong : ChangeSpec := { name := "fnExactFallsApart", fn := fun _ => fun
  | [d1, d2, d3] => { results := [.lit (.bool false)], args := [d1, d2, d3] }
  | _ => none }
def FnExactFallsApartWrongFalsely : Prop := fnExactFallsApartRow.holds Try.pinned (OpenSpec.ofChange fnExactFallsApartWrong)

/-- 'laws.FnExactSpokenOf': WHATEVER THE INPUT: true; the input reads as it did. -/
def fnExactSpokenOfSpec : ChangeSpec := { name := "fnExactSpokenOf", fn := fun _ => fun
  | [d1, d2] => { results := [.lit (.bool true)], args := [d1, d2] }
  | _ => none }
def fnExactSpokenOfRow : OpenClaim := { program := "ytfcjhelhhefkkaa", sum := "03f74a80fc5d3a4973ce3edd9a90ab74961d92a84d2b975e6aebdb1890576055", func := "loop.example/numberwords/laws.FnExactSpokenOf", spec := "fnExactSpokenOf", inPlace := ["internal/abi.NoEscape", "internal/bytealg.MakeNoZero"], unfollowed := true, recurses := true, apart := false }
def FnExactSpokenOfSaid : Prop := fnExactSpokenOfRow.holds Try.pinned (OpenSpec.ofChange fnExactSpokenOfSpec)

/-- ITS FALSE NEIGHBOUR: 'it returns false'. Refute it at one input. -/
def fnExactSpokenOfWrong : ChangeSpec := { name := "fnExactSpokenOf", fn := fun _ => fun
  | [d1, d2] => { results := [.lit (.bool false)], args := [d1, d2] }
  | _ => none }
def FnExactSpokenOfWrongFalsely : Prop := fnExactSpokenOfRow.holds Try.pinned (OpenSpec.ofChange fnExactSpokenOfWrong)

/- THE SECOND FORM. 'bulk': how many values and letters a reading holds, each counted each time it is reached (what is shared counts as often as it is met; a slice's spare places count too). A statement '..UptoSaid' is the law's where the arguments, and the package variables that the reading takes, are together of bulk at most 1048576: NARROWER than '..Said'. Prove '..Said' where nothing that the law and all that it calls make is longer than what came in: it says more and counts as full. Else prove '..UptoSaid'. A law counts once. -/
mutual
def uptoBulk {H : Type} : DataW H → Nat
  | .lit (.string bytes) => bytes.length + 1
  | .lit _ => 1
  | .nil => 1
  | .ptr d => uptoBulk d + 1
  | .slice elems spare => uptoBulkAll elems + uptoBulkAll spare + 1
  | .agg parts => uptoBulkAll parts + 1
  | .iface _ d => uptoBulk d + 1
  | .map entries => uptoBulkEntries entries + 1
  | .held _ => 1
def uptoBulkAll {H : Type} : List (DataW H) → Nat
  | [] => 0
  | d :: r => uptoBulk d + uptoBulkAll r
def uptoBulkEntries {H : Type} : List (Lit × DataW H) → Nat
  | [] => 0
  | x :: r => uptoBulkEntry x + uptoBulkEntries r
def uptoBulkEntry {H : Type} : Lit × DataW H → Nat
  | (.string bytes, d) => bytes.length + uptoBulk d + 1
  | (_, d) => uptoBulk d + 1
 end
def uptoSmall : (H : Type) → List (DataW H) → Bool := fun _ ds => decide (uptoBulkAll ds ≤ 1048576)
def OpenSpec.upto (s : _root_.Go.ChangeSpec) : _root_.Go.OpenSpec := { _root_.Go.OpenSpec.ofChange s with cond := some uptoSmall }

/-- 'laws.FnRowOk', WHERE WHAT IT READS IS OF BULK AT MOST 1048576: true; the input reads as it did. -/
def fnRowOkUptoRow : OpenClaim := { program := "ytfcjhelhhefkkaa", sum := "03f74a80fc5d3a4973ce3edd9a90ab74961d92a84d2b975e6aebdb1890576055", func := "loop.example/numberwords/laws.FnRowOk", spec := "fnRowOk", unfollowed := true, recurses := true, apart := false, narrowed := true }
def FnRowOkUptoSaid : Prop := fnRowOkUptoRow.holds Try.pinned (OpenSpec.upto fnRowOkSpec)

/-- 'laws.FnRunsOf', WHERE WHAT IT READS IS OF BULK AT MOST 1048576: true; the input reads as it did. -/
def fnRunsOfUptoRow : OpenClaim := { program := "ytfcjhelhhefkkaa", sum := "03f74a80fc5d3a4973ce3edd9a90ab74961d92a84d2b975e6aebdb1890576055", func := "loop.example/numberwords/laws.FnRunsOf", spec := "fnRunsOf", unfollowed := true, recurses := true, apart := false, narrowed := true }
def FnRunsOfUptoSaid : Prop := fnRunsOfUptoRow.holds Try.pinned (OpenSpec.upto fnRunsOfSpec)

/-- 'laws.FnSaidOf', WHERE WHAT IT READS IS OF BULK AT MOST 1048576: true; the input reads as it did. -/
def fnSaidOfUptoRow : OpenClaim := { program := "ytfcjhelhhefkkaa", sum := "03f74a80fc5d3a4973ce3edd9a90ab74961d92a84d2b975e6aebdb1890576055", func := "loop.example/numberwords/laws.FnSaidOf", spec := "fnSaidOf", inPlace := ["internal/abi.NoEscape", "internal/bytealg.MakeNoZero"], unfollowed := true, recurses := true, apart := false, narrowed := true }
def FnSaidOfUptoSaid : Prop := fnSaidOfUptoRow.holds Try.pinned (OpenSpec.upto fnSaidOfSpec)

/-- 'laws.FnUnsaidOf', WHERE WHAT IT READS IS OF BULK AT MOST 1048576: true; the input reads as it did. -/
def fnUnsaidOfUptoRow : OpenClaim := { program := "ytfcjhelhhefkkaa", sum := "03f74a80fc5d3a4973ce3edd9a90ab74961d92a84d2b975e6aebdb1890576055", func := "loop.example/numberwords/laws.FnUnsaidOf", spec := "fnUnsaidOf", inPlace := ["internal/abi.NoEscape", "internal/bytealg.MakeNoZero"], unfollowed := true, recurses := true, apart := false, narrowed := true }
def FnUnsaidOfUptoSaid : Prop := fnUnsaidOfUptoRow.holds Try.pinned (OpenSpec.upto fnUnsaidOfSpec)

/-- 'laws.FnSaidAgain', WHERE WHAT IT READS IS OF BULK AT MOST 1048576: true; the input reads as it did. -/
def fnSaidAgainUptoRow : OpenClaim := { program := "ytfcjhelhhefkkaa", sum := "03f74a80fc5d3a4973ce3edd9a90ab74961d92a84d2b975e6aebdb1890576055", func := "loop.example/numberwords/laws.FnSaidAgain", spec := "fnSaidAgain", inPlace := ["internal/abi.NoEscape"], unfollowed := true, recurses := true, apart := false, narrowed := true }
def FnSaidAgainUptoSaid : Prop := fnSaidAgainUptoRow.holds Try.pinned (OpenSpec.upto fnSaidAgainSpec)

/-- 'laws.FnFallsApart', WHERE WHAT IT READS IS OF BULK AT MOST 1048576: true; the input reads as it did. -/
def fnFallsApartUptoRow : OpenClaim := { program := "ytfcjhelhhefkkaa", sum := "03f74a80fc5d3a4973ce3edd9a90ab74961d92a84d2b975e6aebdb1890576055", func := "loop.example/numberwords/laws.FnFallsApart", spec := "fnFallsApart", inPlace := ["internal/abi.NoEscape"], unfollowed := true, recurses := true, apart := false, narrowed := true }
def FnFallsApartUptoSaid : Prop := fnFallsApartUptoRow.holds Try.pinned (OpenSpec.upto fnFallsApartSpec)

/-- 'laws.FnSpokenOf', WHERE WHAT IT READS IS OF BULK AT MOST 1048576: true; the input reads as it did. -/
def fnSpokenOfUptoRow : OpenClaim := { program := "ytfcjhelhhefkkaa", sum := "03f74a80fc5d3a4973ce3edd9a90ab74961d92a84d2b975e6aebdb1890576055", func := "loop.example/numberwords/laws.FnSpokenOf", spec := "fnSpokenOf", inPlace := ["internal/abi.NoEscape", "internal/bytealg.MakeNoZero"], unfollowed := true, recurses := true, apart := false, narrowed := true }
def FnSpokenOfUptoSaid : Prop := fnSpokenOfUptoRow.holds Try.pinned (OpenSpec.upto fnSpokenOfSpec)

/-- 'laws.FnExactRowOk', WHERE WHAT IT READS IS OF BULK AT MOST 1048576: true; the input reads as it did. -/
def fnExactRowOkUptoRow : OpenClaim := { program := "ytfcjhelhhefkkaa", sum := "03f74a80fc5d3a4973ce3edd9a90ab74961d92a84d2b975e6aebdb1890576055", func := "loop.example/numberwords/laws.FnExactRowOk", spec := "fnExactRowOk", unfollowed := true, recurses := true, apart := false, narrowed := true }
def FnExactRowOkUptoSaid : Prop := fnExactRowOkUptoRow.holds Try.pinned (OpenSpec.upto fnExactRowOkSpec)

/-- 'laws.FnExactRunsOf', WHERE WHAT IT READS IS OF BULK AT MOST 1048576: true; the input reads as it did. -/
def fnExactRunsOfUptoRow : OpenClaim := { program := "ytfcjhelhhefkkaa", sum := "03f74a80fc5d3a4973ce3edd9a90ab74961d92a84d2b975e6aebdb1890576055", func := "loop.example/numberwords/laws.FnExactRunsOf", spec := "fnExactRunsOf", unfollowed := true, recurses := true, apart := false, narrowed := true }
def FnExactRunsOfUptoSaid : Prop := fnExactRunsOfUptoRow.holds Try.pinned (OpenSpec.upto fnExactRunsOfSpec)

/-- 'laws.FnExactSaidOf', WHERE WHAT IT READS IS OF BULK AT MOST 1048576: true; the input reads as it did. -/
def fnExactSaidOfUptoRow : OpenClaim := { program := "ytfcjhelhhefkkaa", sum := "03f74a80fc5d3a4973ce3edd9a90ab74961d92a84d2b975e6aebdb1890576055", func := "loop.example/numberwords/laws.FnExactSaidOf", spec := "fnExactSaidOf", inPlace := ["internal/abi.NoEscape"], unfollowed := true, recurses := true, apart := false, narrowed := true }
def FnExactSaidOfUptoSaid : Prop := fnExactSaidOfUptoRow.holds Try.pinned (OpenSpec.upto fnExactSaidOfSpec)

/-- 'laws.FnExactUnsaidOf', WHERE WHAT IT READS IS OF BULK AT MOST 1048576: true; the input reads as it did. -/
def fnExactUnsaidOfUptoRow : OpenClaim := { program := "ytfcjhelhhefkkaa", sum := "03f74a80fc5d3a4973ce3edd9a90ab74961d92a84d2b975e6aebdb1890576055", func := "loop.example/numberwords/laws.FnExactUnsaidOf", spec := "fnExactUnsaidOf", inPlace := ["internal/abi.NoEscape", "internal/bytealg.MakeNoZero"], unfollowed := true, recurses := true, apart := false, narrowed := true }
def FnExactUnsaidOfUptoSaid : Prop := fnExactUnsaidOfUptoRow.holds Try.pinned (OpenSpec.upto fnExactUnsaidOfSpec)

/-- 'laws.FnExactSaidAgain', WHERE WHAT IT READS IS OF BULK AT MOST 1048576: true; the input reads as it did. -/
def fnExactSaidAgainUptoRow : OpenClaim := { program := "ytfcjhelhhefkkaa", sum := "03f74a80fc5d3a4973ce3edd9a90ab74961d92a84d2b975e6aebdb1890576055", func := "loop.example/numberwords/laws.FnExactSaidAgain", spec := "fnExactSaidAgain", inPlace := ["internal/abi.NoEscape"], unfollowed := true, recurses := true, apart := false, narrowed := true }
def FnExactSaidAgainUptoSaid : Prop := fnExactSaidAgainUptoRow.holds Try.pinned (OpenSpec.upto fnExactSaidAgainSpec)

/-- 'laws.FnExactFallsApart', WHERE WHAT IT READS IS OF BULK AT MOST 1048576: true; the input reads as it did. -/
def fnExactFallsApartUptoRow : OpenClaim := { program := "ytfcjhelhhefkkaa", sum := "03f74a80fc5d3a4973ce3edd9a90ab74961d92a84d2b975e6aebdb1890576055", func := "loop.example/numberwords/laws.FnExactFallsApart", spec := "fnExactFallsApart", inPlace := ["internal/abi.NoEscape"], unfollowed := true, recurses := true, apart := false, narrowed := true }
def FnExactFallsApartUptoSaid : Prop := fnExactFallsApartUptoRow.holds Try.pinned (OpenSpec.upto fnExactFallsApartSpec)

/-- 'laws.FnExactSpokenOf', WHERE WHAT IT READS IS OF BULK AT MOST 1048576: true; the input reads as it did. -/
def fnExactSpokenOfUptoRow : OpenClaim := { program := "ytfcjhelhhefkkaa", sum := "03f74a80fc5d3a4973ce3edd9a90ab74961d92a84d2b975e6aebdb1890576055", func := "loop.example/numberwords/laws.FnExactSpokenOf", spec := "fnExactSpokenOf", inPlace := ["internal/abi.NoEscape", "internal/bytealg.MakeNoZero"], unfollowed := true, recurses := true, apart := false, narrowed := true }
def FnExactSpokenOfUptoSaid : Prop := fnExactSpokenOfUptoRow.holds Try.pinned (OpenSpec.upto fnExactSpokenOfSpec)

end Rows
end Go.Proofs.Ytfcjhelhhefkkaa
