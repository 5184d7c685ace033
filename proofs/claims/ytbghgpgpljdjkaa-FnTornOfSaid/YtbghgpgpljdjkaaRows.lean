/-
  No cell of these rows narrows 'for every input' (looked for: loops, veiled, ifaces, maps, wideKeys, modest, calm, conditions, laid).
  DERIVED. THE GIVEN ROWS OF THIS SEAT. 14 by the template 'for every input the law returns true; each argument reads behind the call as it read before'; 0 by the template 'total and deterministic' (their statements: YtbghgpgpljdjkaaTotals.lean).
  GIVEN WITH THE SEED: the statements are not yours to turn. If you find one false, say at which input.
  Laid BY PROGRAM, IN A SANDBOX (cutbox-rows.mjs): the forced cells as the released guide's own fill.sh prints them over the translation c1085fd569390ac3… (all of the seat's roots in one cut). By AI agents, Wed Nov 11 2026. No macro, syntax, notation, axiom, sorry.
-/
import Derived.Test.YtbghgpgpljdjkaaChecked
import GoSem.Claim
import GoSem.ClaimJoined
import GoSem.ClaimMapViews
import Derived.JoinedTies
import Derived.KernelRfl
namespace Go.Proofs.Ytbghgpgpljdjkaa
/- THE CELL 'sum', in the pinned program and in every row, IS THE sha256 OF THE DUMP (.gsa) THAT YtbghgpgpljdjkaaProg.lean LOADS. Nothing in Lean hashes anything: it is a label: what it is worth is what the hold of that sum in a sandbox is worth. -/
noncomputable def Try.pinned : Pinned := { name := "ytbghgpgpljdjkaa", sum := "c1085fd569390ac3e73091723178d45bdfdf9dcdce2805cb87aa0a8ee7d69359", checked := Try.checked }
namespace Rows
def none {H : Type} : Left H := { results := [], args := [] }

/-- 'laws.FnCodeOk': WHATEVER THE INPUT: true; the input reads as it did. -/
def fnCodeOkSpec : ChangeSpec := { name := "fnCodeOk", fn := fun _ => fun
  | [d] => { results := [.lit (.bool true)], args := [d] }
  | _ => none }
def fnCodeOkRow : OpenClaim := { program := "ytbghgpgpljdjkaa", sum := "c1085fd569390ac3e73091723178d45bdfdf9dcdce2805cb87aa0a8ee7d69359", func := "loop.example/numberwords/laws.FnCodeOk", spec := "fnCodeOk", apart := false }
def FnCodeOkSaid : Prop := fnCodeOkRow.holds Try.pinned (OpenSpec.ofChange fnCodeOkSpec)

/-- ITS FALSE NEIGHBOUR: 'it returns false'. Refute it at one input. -/
def fnCodeOkWrong : ChangeSpec := { name := "fnCodeOk", fn := fun _ => fun
  | [d] => { results := [.lit (.bool false)], args := [d] }
  | _ => none }
def FnCodeOkWrongFalsely : Prop := fnCodeOkRow.holds Try.pinned (OpenSpec.ofChange fnCodeOkWrong)

/-- 'laws.FnExactCodeOk': WHATEVER THE INPUT: true; the input reads as it did. -/
def fnExactCodeOkSpec : ChangeSpec := { name := "fnExactCodeOk", fn := fun _ => fun
  | [d] => { results := [.lit (.bool true)], args := [d] }
  | _ => none }
def fnExactCodeOkRow : OpenClaim := { program := "ytbghgpgpljdjkaa", sum := "c1085fd569390ac3e73091723178d45bdfdf9dcdce2805cb87aa0a8ee7d69359", func := "loop.example/numberwords/laws.FnExactCodeOk", spec := "fnExactCodeOk", apart := false }
def FnExactCodeOkSaid : Prop := fnExactCodeOkRow.holds Try.pinned (OpenSpec.ofChange fnExactCodeOkSpec)

/-- ITS FALSE NEIGHBOUR: 'it returns false'. Refute it at one input. -/
def fnExactCodeOkWrong : ChangeSpec := { name := "fnExactCodeOk", fn := fun _ => fun
  | [d] => { results := [.lit (.bool false)], args := [d] }
  | _ => none }
def FnExactCodeOkWrongFalsely : Prop := fnExactCodeOkRow.holds Try.pinned (OpenSpec.ofChange fnExactCodeOkWrong)

/-- 'laws.FnApartOk': WHATEVER THE INPUT: true; the input reads as it did. -/
def fnApartOkSpec : ChangeSpec := { name := "fnApartOk", fn := fun _ => fun
  | [d] => { results := [.lit (.bool true)], args := [d] }
  | _ => none }
def fnApartOkRow : OpenClaim := { program := "ytbghgpgpljdjkaa", sum := "c1085fd569390ac3e73091723178d45bdfdf9dcdce2805cb87aa0a8ee7d69359", func := "loop.example/numberwords/laws.FnApartOk", spec := "fnApartOk", apart := false }
def FnApartOkSaid : Prop := fnApartOkRow.holds Try.pinned (OpenSpec.ofChange fnApartOkSpec)

/-- ITS FALSE NEIGHBOUR: 'it returns false'. Refute it at one input. -/
def fnApartOkWrong : ChangeSpec := { name := "fnApartOk", fn := fun _ => fun
  | [d] => { results := [.lit (.bool false)], args := [d] }
  | _ => none }
def FnApartOkWrongFalsely : Prop := fnApartOkRow.holds Try.pinned (OpenSpec.ofChange fnApartOkWrong)

/-- 'laws.FnExactApartOk': WHATEVER THE INPUT: true; the input reads as it did. -/
def fnExactApartOkSpec : ChangeSpec := { name := "fnExactApartOk", fn := fun _ => fun
  | [d] => { results := [.lit (.bool true)], args := [d] }
  | _ => none }
def fnExactApartOkRow : OpenClaim := { program := "ytbghgpgpljdjkaa", sum := "c1085fd569390ac3e73091723178d45bdfdf9dcdce2805cb87aa0a8ee7d69359", func := "loop.example/numberwords/laws.FnExactApartOk", spec := "fnExactApartOk", apart := false }
def FnExactApartOkSaid : Prop := fnExactApartOkRow.holds Try.pinned (OpenSpec.ofChange fnExactApartOkSpec)

/-- ITS FALSE NEIGHBOUR: 'it returns false'. Refute it at one input. -/
def fnExactApartOkWrong : ChangeSpec := { name := "fnExactApartOk", fn := fun _ => fun
  | [d] => { results := [.lit (.bool false)], args := [d] }
  | _ => none }
def FnExactApartOkWrongFalsely : Prop := fnExactApartOkRow.holds Try.pinned (OpenSpec.ofChange fnExactApartOkWrong)

/-- 'laws.FnReadableOk': WHATEVER THE INPUT: true; the input reads as it did. -/
def fnReadableOkSpec : ChangeSpec := { name := "fnReadableOk", fn := fun _ => fun
  | [d] => { results := [.lit (.bool true)], args := [d] }
  | _ => none }
def fnReadableOkRow : OpenClaim := { program := "ytbghgpgpljdjkaa", sum := "c1085fd569390ac3e73091723178d45bdfdf9dcdce2805cb87aa0a8ee7d69359", func := "loop.example/numberwords/laws.FnReadableOk", spec := "fnReadableOk", recurses := true, apart := false }
def FnReadableOkSaid : Prop := fnReadableOkRow.holds Try.pinned (OpenSpec.ofChange fnReadableOkSpec)

/-- ITS FALSE NEIGHBOUR: 'it returns false'. Refute it at one input. -/
def fnReadableOkWrong : ChangeSpec := { name := "fnReadableOk", fn := fun _ => fun
  | [d] => { results := [.lit (.bool false)], args := [d] }
  | _ => none }
def FnReadableOkWrongFalsely : Prop := fnReadableOkRow.holds Try.pinned (OpenSpec.ofChange fnReadableOkWrong)

/-- 'laws.FnExactReadableOk': WHATEVER THE INPUT: true; the input reads as it did. -/
def fnExactReadableOkSpec : ChangeSpec := { name := "fnExactReadableOk", fn := fun _ => fun
  | [d] => { results := [.lit (.bool true)], args := [d] }
  | _ => none }
def fnExactReadableOkRow : OpenClaim := { program := "ytbghgpgpljdjkaa", sum := "c1085fd569390ac3e73091723178d45bdfdf9dcdce2805cb87aa0a8ee7d69359", func := "loop.example/numberwords/laws.FnExactReadableOk", spec := "fnExactReadableOk", apart := false }
def FnExactReadableOkSaid : Prop := fnExactReadableOkRow.holds Try.pinned (OpenSpec.ofChange fnExactReadableOkSpec)

/-- ITS FALSE NEIGHBOUR: 'it returns false'. Refute it at one input. -/
def fnExactReadableOkWrong : ChangeSpec := { name := "fnExactReadableOk", fn := fun _ => fun
  | [d] => { results := [.lit (.bool false)], args := [d] }
  | _ => none }
def FnExactReadableOkWrongFalsely : Prop := fnExactReadableOkRow.holds Try.pinned (OpenSpec.ofChange fnExactReadableOkWrong)

/-- 'laws.FnWaysOf': WHATEVER THE INPUT: true; the input reads as it did. -/
def fnWaysOfSpec : ChangeSpec := { name := "fnWaysOf", fn := fun _ => fun
  | [d] => { results := [.lit (.bool true)], args := [d] }
  | _ => none }
def fnWaysOfRow : OpenClaim := { program := "ytbghgpgpljdjkaa", sum := "c1085fd569390ac3e73091723178d45bdfdf9dcdce2805cb87aa0a8ee7d69359", func := "loop.example/numberwords/laws.FnWaysOf", spec := "fnWaysOf", apart := false }
def FnWaysOfSaid : Prop := fnWaysOfRow.holds Try.pinned (OpenSpec.ofChange fnWaysOfSpec)

/-- ITS FALSE NEIGHBOUR: 'it returns false'. Refute it at one input. -/
def fnWaysOfWrong : ChangeSpec := { name := "fnWaysOf", fn := fun _ => fun
  | [d] => { results := [.lit (.bool false)], args := [d] }
  | _ => none }
def FnWaysOfWrongFalsely : Prop := fnWaysOfRow.holds Try.pinned (OpenSpec.ofChange fnWaysOfWrong)

/-- 'laws.FnExactWaysOf': WHATEVER THE INPUT: true; the input reads as it did. -/
def fnExactWaysOfSpec : ChangeSpec := { name := "fnExactWaysOf", fn := fun _ => fun
  | [d1, d2] => { results := [.lit (.bool true)], args := [d1, d2] }
  | _ => none }
def fnExactWaysOfRow : OpenClaim := { program := "ytbghgpgpljdjkaa", sum := "c1085fd569390ac3e73091723178d45bdfdf9dcdce2805cb87aa0a8ee7d69359", func := "loop.example/numberwords/laws.FnExactWaysOf", spec := "fnExactWaysOf", apart := false }
def FnExactWaysOfSaid : Prop := fnExactWaysOfRow.holds Try.pinned (OpenSpec.ofChange fnExactWaysOfSpec)

/-- ITS FALSE NEIGHBOUR: 'it returns false'. Refute it at one input. -/
def fnExactWaysOfWrong : ChangeSpec := { name := "fnExactWaysOf", fn := fun _ => fun
  | [d1, d2] => { results := [.lit (.bool false)], args := [d1, d2] }
  | _ => none }
def FnExactWaysOfWrongFalsely : Prop := fnExactWaysOfRow.holds Try.pinned (OpenSpec.ofChange fnExactWaysOfWrong)

/-- 'laws.FnTornOf': WHATEVER THE INPUT: true; the input reads as it did. -/
def fnTornOfSpec : ChangeSpec := { name := "fnTornOf", fn := fun _ => fun
  | [d] => { results := [.lit (.bool true)], args := [d] }
  | _ => none }
def fnTornOfRow : OpenClaim := { program := "ytbghgpgpljdjkaa", sum := "c1085fd569390ac3e73091723178d45bdfdf9dcdce2805cb87aa0a8ee7d69359", func := "loop.example/numberwords/laws.FnTornOf", spec := "fnTornOf", unfollowed := true, recurses := true, apart := false }
def FnTornOfSaid : Prop := fnTornOfRow.holds Try.pinned (OpenSpec.ofChange fnTornOfSpec)

/-- ITS FALSE NEIGHBOUR: 'it returns false'. Refute it at one input. -/
def fnTornOfWrong : ChangeSpec := { name := "fnTornOf", fn := fun _ => fun
  | [d] => { results := [.lit (.bool false)], args := [d] }
  | _ => none }
def FnTornOfWrongFalsely : Prop := fnTornOfRow.holds Try.pinned (OpenSpec.ofChange fnTornOfWrong)

/-- 'laws.FnExactTornOf': WHATEVER THE INPUT: true; the input reads as it did. -/
def fnExactTornOfSpec : ChangeSpec := { name := "fnExactTornOf", fn := fun _ => fun
  | [d1, d2] => { results := [.lit (.bool true)], args := [d1, d2] }
  | _ => none }
def fnExactTornOfRow : OpenClaim := { program := "ytbghgpgpljdjkaa", sum := "c1085fd569390ac3e73091723178d45bdfdf9dcdce2805cb87aa0a8ee7d69359", func := "loop.example/numberwords/laws.FnExactTornOf", spec := "fnExactTornOf", unfollowed := true, recurses := true, apart := false }
def FnExactTornOfSaid : Prop := fnExactTornOfRow.holds Try.pinned (OpenSpec.ofChange fnExactTornOfSpec)

/-- ITS FALSE NEIGHBOUR: 'it returns false'. Refute it at one input. -/
def fnExactTornOfWrong : ChangeSpec := { name := "fnExactTornOf", fn := fun _ => fun
  | [d1, d2] => { results := [.lit (.bool false)], args := [d1, d2] }
  | _ => none }
def FnExactTornOfWrongFalsely : Prop := fnExactTornOfRow.holds Try.pinned (OpenSpec.ofChange fnExactTornOfWrong)

/-- 'laws.FnTwoWays': WHATEVER THE INPUT: true; the input reads as it did. -/
def fnTwoWaysSpec : ChangeSpec := { name := "fnTwoWays", fn := fun _ => fun
  | [d] => { results := [.lit (.bool true)], args := [d] }
  | _ => none }
def fnTwoWaysRow : OpenClaim := { program := "ytbghgpgpljdjkaa", sum := "c1085fd569390ac3e73091723178d45bdfdf9dcdce2805cb87aa0a8ee7d69359", func := "loop.example/numberwords/laws.FnTwoWays", spec := "fnTwoWays", recurses := true, apart := false }
def FnTwoWaysSaid : Prop := fnTwoWaysRow.holds Try.pinned (OpenSpec.ofChange fnTwoWaysSpec)

/-- ITS FALSE NEIGHBOUR: 'it returns false'. Refute it at one input. -/
def fnTwoWaysWrong : ChangeSpec := { name := "fnTwoWays", fn := fun _ => fun
  | [d] => { results := [.lit (.bool false)], args := [d] }
  | _ => none }
def FnTwoWaysWrongFalsely : Prop := fnTwoWaysRow.holds Try.pinned (OpenSpec.ofChange fnTwoWaysWrong)

/-- 'laws.FnExactTwoWays': WHATEVER THE INPUT: true; the input reads as it did. -/
def fnExactTwoWaysSpec : ChangeSpec := { name := "fnExactTwoWays", fn := fun _ => fun
  | [d] => { results := [.lit (.bool true)], args := [d] }
  | _ => none }
def fnExactTwoWaysRow : OpenClaim := { program := "ytbghgpgpljdjkaa", sum := "c1085fd569390ac3e73091723178d45bdfdf9dcdce2805cb87aa0a8ee7d69359", func := "loop.example/numberwords/laws.FnExactTwoWays", spec := "fnExactTwoWays", recurses := true, apart := false }
def FnExactTwoWaysSaid : Prop := fnExactTwoWaysRow.holds Try.pinned (OpenSpec.ofChange fnExactTwoWaysSpec)

/-- ITS FALSE NEIGHBOUR: 'it returns false'. Refute it at one input. -/
def fnExactTwoWaysWrong : ChangeSpec := { name := "fnExactTwoWays", fn := fun _ => fun
  | [d] => { results := [.lit (.bool false)], args := [d] }
  | _ => none }
def FnExactTwoWaysWrongFalsely : Prop := fnExactTwoWaysRow.holds Try.pinned (OpenSpec.ofChange fnExactTwoWaysWrong)

/-- 'laws.FnRoundOf': WHATEVER THE INPUT: true; the input reads as it did. -/
def fnRoundOfSpec : ChangeSpec := { name := "fnRoundOf", fn := fun _ => fun
  | [d] => { results := [.lit (.bool true)], args := [d] }
  | _ => none }
def fnRoundOfRow : OpenClaim := { program := "ytbghgpgpljdjkaa", sum := "c1085fd569390ac3e73091723178d45bdfdf9dcdce2805cb87aa0a8ee7d69359", func := "loop.example/numberwords/laws.FnRoundOf", spec := "fnRoundOf", apart := false }
def FnRoundOfSaid : Prop := fnRoundOfRow.holds Try.pinned (OpenSpec.ofChange fnRoundOfSpec)

/-- ITS FALSE NEIGHBOUR: 'it returns false'. Refute it at one input. -/
def fnRoundOfWrong : ChangeSpec := { name := "fnRoundOf", fn := fun _ => fun
  | [d] => { results := [.lit (.bool false)], args := [d] }
  | _ => none }
def FnRoundOfWrongFalsely : Prop := fnRoundOfRow.holds Try.pinned (OpenSpec.ofChange fnRoundOfWrong)

/-- 'laws.FnExactRoundOf': WHATEVER THE INPUT: true; the input reads as it did. -/
def fnExactRoundOfSpec : ChangeSpec := { name := "fnExactRoundOf", fn := fun _ => fun
  | [d] => { results := [.lit (.bool true)], args := [d] }
  | _ => none }
def fnExactRoundOfRow : OpenClaim := { program := "ytbghgpgpljdjkaa", sum := "c1085fd569390ac3e73091723178d45bdfdf9dcdce2805cb87aa0a8ee7d69359", func := "loop.example/numberwords/laws.FnExactRoundOf", spec := "fnExactRoundOf", apart := false }
def FnExactRoundOfSaid : Prop := fnExactRoundOfRow.holds Try.pinned (OpenSpec.ofChange fnExactRoundOfSpec)

/-- ITS FALSE NEIGHBOUR: 'it returns false'. Refute it at one input. -/
def fnExactRoundOfWrong : ChangeSpec := { name := "fnExactRoundOf", fn := fun _ => fun
  | [d] => { results := [.lit (.bool false)], args := [d] }
  | _ => none }
def FnExactRoundOfWrongFalsely : Prop := fnExactRoundOfRow.holds Try.pinned (OpenSpec.ofChange fnExactRoundOfWrong)

/- THE SECOND FORM. 'bulk': how many values and letters a reading holds, each counted each time it is reached (what is shared counts as often as it is met; a slice's spare places count too). A statement '..UptoSaid' is the law's where the arguments, and the package variables that the reading takes, are together of bulk at most 1048576: NARROWER than '..Said'. Prove '..Said' where nothing that the law and all that it calls make is longer than what came in: it says more and counts as full. Else prove '..UptoSaid'. A law counts once. -/
mutual
def uptoBulk {H : Type} : DataW H → Nat
  | .lit (.string bytes) => bytes.length + 1
  | .lit _ => 1
  | .nil => 1
  | .ptr d => uptoBulk d + 1
  | .slice elems spare => uptoBulkAll elems + uptoBulkAll spare + 1
  | .agg parts => uptoBulkAll parts + 1
  | .iface _ d => uptoBulk d + 1
  | .map entries => uptoBulkEntries entries + 1
  | .held _ => 1
def uptoBulkAll {H : Type} : List (DataW H) → Nat
  | [] => 0
  | d :: r => uptoBulk d + uptoBulkAll r
def uptoBulkEntries {H : Type} : List (Lit × DataW H) → Nat
  | [] => 0
  | x :: r => uptoBulkEntry x + uptoBulkEntries r
def uptoBulkEntry {H : Type} : Lit × DataW H → Nat
  | (.string bytes, d) => bytes.length + uptoBulk d + 1
  | (_, d) => uptoBulk d + 1
 end
def uptoSmall : (H : Type) → List (DataW H) → Bool := fun _ ds => decide (uptoBulkAll ds ≤ 1048576)
def OpenSpec.upto (s : _root_.Go.ChangeSpec) : _root_.Go.OpenSpec := { _root_.Go.OpenSpec.ofChange s with cond := some uptoSmall }

/-- 'laws.FnCodeOk', WHERE WHAT IT READS IS OF BULK AT MOST 1048576: true; the input reads as it did. -/
def fnCodeOkUptoRow : OpenClaim := { program := "ytbghgpgpljdjkaa", sum := "c1085fd569390ac3e73091723178d45bdfdf9dcdce2805cb87aa0a8ee7d69359", func := "loop.example/numberwords/laws.FnCodeOk", spec := "fnCodeOk", apart := false, narrowed := true }
def FnCodeOkUptoSaid : Prop := fnCodeOkUptoRow.holds Try.pinned (OpenSpec.upto fnCodeOkSpec)

/-- 'laws.FnExactCodeOk', WHERE WHAT IT READS IS OF BULK AT MOST 1048576: true; the input reads as it did. -/
def fnExactCodeOkUptoRow : OpenClaim := { program := "ytbghgpgpljdjkaa", sum := "c1085fd569390ac3e73091723178d45bdfdf9dcdce2805cb87aa0a8ee7d69359", func := "loop.example/numberwords/laws.FnExactCodeOk", spec := "fnExactCodeOk", apart := false, narrowed := true }
def FnExactCodeOkUptoSaid : Prop := fnExactCodeOkUptoRow.holds Try.pinned (OpenSpec.upto fnExactCodeOkSpec)

/-- 'laws.FnApartOk', WHERE WHAT IT READS IS OF BULK AT MOST 1048576: true; the input reads as it did. -/
def fnApartOkUptoRow : OpenClaim := { program := "ytbghgpgpljdjkaa", sum := "c1085fd569390ac3e73091723178d45bdfdf9dcdce2805cb87aa0a8ee7d69359", func := "loop.example/numberwords/laws.FnApartOk", spec := "fnApartOk", apart := false, narrowed := true }
def FnApartOkUptoSaid : Prop := fnApartOkUptoRow.holds Try.pinned (OpenSpec.upto fnApartOkSpec)

/-- 'laws.FnExactApartOk', WHERE WHAT IT READS IS OF BULK AT MOST 1048576: true; the input reads as it did. -/
def fnExactApartOkUptoRow : OpenClaim := { program := "ytbghgpgpljdjkaa", sum := "c1085fd569390ac3e73091723178d45bdfdf9dcdce2805cb87aa0a8ee7d69359", func := "loop.example/numberwords/laws.FnExactApartOk", spec := "fnExactApartOk", apart := false, narrowed := true }
def FnExactApartOkUptoSaid : Prop := fnExactApartOkUptoRow.holds Try.pinned (OpenSpec.upto fnExactApartOkSpec)

/-- 'laws.FnReadableOk', WHERE WHAT IT READS IS OF BULK AT MOST 1048576: true; the input reads as it did. -/
def fnReadableOkUptoRow : OpenClaim := { program := "ytbghgpgpljdjkaa", sum := "c1085fd569390ac3e73091723178d45bdfdf9dcdce2805cb87aa0a8ee7d69359", func := "loop.example/numberwords/laws.FnReadableOk", spec := "fnReadableOk", recurses := true, apart := false, narrowed := true }
def FnReadableOkUptoSaid : Prop := fnReadableOkUptoRow.holds Try.pinned (OpenSpec.upto fnReadableOkSpec)

/-- 'laws.FnExactReadableOk', WHERE WHAT IT READS IS OF BULK AT MOST 1048576: true; the input reads as it did. -/
def fnExactReadableOkUptoRow : OpenClaim := { program := "ytbghgpgpljdjkaa", sum := "c1085fd569390ac3e73091723178d45bdfdf9dcdce2805cb87aa0a8ee7d69359", func := "loop.example/numberwords/laws.FnExactReadableOk", spec := "fnExactReadableOk", apart := false, narrowed := true }
def FnExactReadableOkUptoSaid : Prop := fnExactReadableOkUptoRow.holds Try.pinned (OpenSpec.upto fnExactReadableOkSpec)

/-- 'laws.FnWaysOf', WHERE WHAT IT READS IS OF BULK AT MOST 1048576: true; the input reads as it did. -/
def fnWaysOfUptoRow : OpenClaim := { program := "ytbghgpgpljdjkaa", sum := "c1085fd569390ac3e73091723178d45bdfdf9dcdce2805cb87aa0a8ee7d69359", func := "loop.example/numberwords/laws.FnWaysOf", spec := "fnWaysOf", apart := false, narrowed := true }
def FnWaysOfUptoSaid : Prop := fnWaysOfUptoRow.holds Try.pinned (OpenSpec.upto fnWaysOfSpec)

/-- 'laws.FnExactWaysOf', WHERE WHAT IT READS IS OF BULK AT MOST 1048576: true; the input reads as it did. -/
def fnExactWaysOfUptoRow : OpenClaim := { program := "ytbghgpgpljdjkaa", sum := "c1085fd569390ac3e73091723178d45bdfdf9dcdce2805cb87aa0a8ee7d69359", func := "loop.example/numberwords/laws.FnExactWaysOf", spec := "fnExactWaysOf", apart := false, narrowed := true }
def FnExactWaysOfUptoSaid : Prop := fnExactWaysOfUptoRow.holds Try.pinned (OpenSpec.upto fnExactWaysOfSpec)

/-- 'laws.FnTornOf', WHERE WHAT IT READS IS OF BULK AT MOST 1048576: true; the input reads as it did. -/
def fnTornOfUptoRow : OpenClaim := { program := "ytbghgpgpljdjkaa", sum := "c1085fd569390ac3e73091723178d45bdfdf9dcdce2805cb87aa0a8ee7d69359", func := "loop.example/numberwords/laws.FnTornOf", spec := "fnTornOf", unfollowed := true, recurses := true, apart := false, narrowed := true }
def FnTornOfUptoSaid : Prop := fnTornOfUptoRow.holds Try.pinned (OpenSpec.upto fnTornOfSpec)

/-- 'laws.FnExactTornOf', WHERE WHAT IT READS IS OF BULK AT MOST 1048576: true; the input reads as it did. -/
def fnExactTornOfUptoRow : OpenClaim := { program := "ytbghgpgpljdjkaa", sum := "c1085fd569390ac3e73091723178d45bdfdf9dcdce2805cb87aa0a8ee7d69359", func := "loop.example/numberwords/laws.FnExactTornOf", spec := "fnExactTornOf", unfollowed := true, recurses := true, apart := false, narrowed := true }
def FnExactTornOfUptoSaid : Prop := fnExactTornOfUptoRow.holds Try.pinned (OpenSpec.upto fnExactTornOfSpec)

/-- 'laws.FnTwoWays', WHERE WHAT IT READS IS OF BULK AT MOST 1048576: true; the input reads as it did. -/
def fnTwoWaysUptoRow : OpenClaim := { program := "ytbghgpgpljdjkaa", sum := "c1085fd569390ac3e73091723178d45bdfdf9dcdce2805cb87aa0a8ee7d69359", func := "loop.example/numberwords/laws.FnTwoWays", spec := "fnTwoWays", recurses := true, apart := false, narrowed := true }
def FnTwoWaysUptoSaid : Prop := fnTwoWaysUptoRow.holds Try.pinned (OpenSpec.upto fnTwoWaysSpec)

/-- 'laws.FnExactTwoWays', WHERE WHAT IT READS IS OF BULK AT MOST 1048576: true; the input reads as it did. -/
def fnExactTwoWaysUptoRow : OpenClaim := { program := "ytbghgpgpljdjkaa", sum := "c1085fd569390ac3e73091723178d45bdfdf9dcdce2805cb87aa0a8ee7d69359", func := "loop.example/numberwords/laws.FnExactTwoWays", spec := "fnExactTwoWays", recurses := true, apart := false, narrowed := true }
def FnExactTwoWaysUptoSaid : Prop := fnExactTwoWaysUptoRow.holds Try.pinned (OpenSpec.upto fnExactTwoWaysSpec)

/-- 'laws.FnRoundOf', WHERE WHAT IT READS IS OF BULK AT MOST 1048576: true; the input reads as it did. -/
def fnRoundOfUptoRow : OpenClaim := { program := "ytbghgpgpljdjkaa", sum := "c1085fd569390ac3e73091723178d45bdfdf9dcdce2805cb87aa0a8ee7d69359", func := "loop.example/numberwords/laws.FnRoundOf", spec := "fnRoundOf", apart := false, narrowed := true }
def FnRoundOfUptoSaid : Prop := fnRoundOfUptoRow.holds Try.pinned (OpenSpec.upto fnRoundOfSpec)

/-- 'laws.FnExactRoundOf', WHERE WHAT IT READS IS OF BULK AT MOST 1048576: true; the input reads as it did. -/
def fnExactRoundOfUptoRow : OpenClaim := { program := "ytbghgpgpljdjkaa", sum := "c1085fd569390ac3e73091723178d45bdfdf9dcdce2805cb87aa0a8ee7d69359", func := "loop.example/numberwords/laws.FnExactRoundOf", spec := "fnExactRoundOf", apart := false, narrowed := true }
def FnExactRoundOfUptoSaid : Prop := fnExactRoundOfUptoRow.holds Try.pinned (OpenSpec.upto fnExactRoundOfSpec)

end Rows
end Go.Proofs.Ytbghgpgpljdjkaa
