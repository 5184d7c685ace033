/-
  No cell of these rows narrows 'for every input' (looked for: loops, veiled, ifaces, maps, wideKeys, modest, calm, conditions, laid).
  DERIVED. THE GIVEN ROWS OF THIS SEAT. 12 by the template 'for every input the law returns true; each argument reads behind the call as it read before'; 0 by the template 'total and deterministic' (their statements: YtjggdlnbfoglaaaTotals.lean).
  GIVEN WITH THE SEED: the statements are not yours to turn. If you find one false, say at which input.
  Laid BY PROGRAM, IN A SANDBOX (cutbox-rows.mjs): the forced cells as the released guide's own fill.sh prints them over the translation 2d6421332a04bf88… (all of the seat's roots in one cut). By AI agents, Wed Nov 11 2026. No macro, syntax, notation, axiom, sorry.
-/
import Derived.Test.YtjggdlnbfoglaaaChecked
import GoSem.Claim
import GoSem.ClaimJoined
import GoSem.ClaimMapViews
import Derived.JoinedTies
import Derived.KernelRfl
namespace Go.Proofs.Ytjggdlnbfoglaaa
/- THE CELL 'sum', in the pinned program and in every row, IS THE sha256 OF THE DUMP (.gsa) THAT YtjggdlnbfoglaaaProg.lean LOADS. Nothing in Lean hashes anything: it is a label: what it is worth is what the hold of that sum in a sandbox is worth. -/
noncomputable def Try.pinned : Pinned := { name := "ytjggdlnbfoglaaa", sum := "2d6421332a04bf88cb276ce338e614fb98565310ba1ff9ea0b16128617539626", checked := Try.checked }
namespace Rows
def none {H : Type} : Left H := { results := [], args := [] }

/-- 'laws.FnBeforeOk': WHATEVER THE INPUT: true; the input reads as it did. -/
def fnBeforeOkSpec : ChangeSpec := { name := "fnBeforeOk", fn := fun _ => fun
  | [d] => { results := [.lit (.bool true)], args := [d] }
  | _ => none }
def fnBeforeOkRow : OpenClaim := { program := "ytjggdlnbfoglaaa", sum := "2d6421332a04bf88cb276ce338e614fb98565310ba1ff9ea0b16128617539626", func := "loop.example/numberwords/laws.FnBeforeOk", spec := "fnBeforeOk", inPlace := ["internal/abi.NoEscape", "internal/bytealg.MakeNoZero"], recurses := true, apart := false }
def FnBeforeOkSaid : Prop := fnBeforeOkRow.holds Try.pinned (OpenSpec.ofChange fnBeforeOkSpec)

/-- ITS FALSE NEIGHBOUR: 'it returns false'. Refute it at one input. -/
def fnBeforeOkWrong : ChangeSpec := { name := "fnBeforeOk", fn := fun _ => fun
  | [d] => { results := [.lit (.bool false)], args := [d] }
  | _ => none }
def FnBeforeOkWrongFalsely : Prop := fnBeforeOkRow.holds Try.pinned (OpenSpec.ofChange fnBeforeOkWrong)

/-- 'laws.FnSortedOf': WHATEVER THE INPUT: true; the input reads as it did. -/
def fnSortedOfSpec : ChangeSpec := { name := "fnSortedOf", fn := fun _ => fun
  | [d] => { results := [.lit (.bool true)], args := [d] }
  | _ => none }
def fnSortedOfRow : OpenClaim := { program := "ytjggdlnbfoglaaa", sum := "2d6421332a04bf88cb276ce338e614fb98565310ba1ff9ea0b16128617539626", func := "loop.example/numberwords/laws.FnSortedOf", spec := "fnSortedOf", inPlace := ["internal/abi.NoEscape", "internal/bytealg.MakeNoZero"], unfollowed := true, recurses := true, apart := false }
def FnSortedOfSaid : Prop := fnSortedOfRow.holds Try.pinned (OpenSpec.ofChange fnSortedOfSpec)

/-- ITS FALSE NEIGHBOUR: 'it returns false'. Refute it at one input. -/
def fnSortedOfWrong : ChangeSpec := { name := "fnSortedOf", fn := fun _ => fun
  | [d] => { results := [.lit (.bool false)], args := [d] }
  | _ => none }
def FnSortedOfWrongFalsely : Prop := fnSortedOfRow.holds Try.pinned (OpenSpec.ofChange fnSortedOfWrong)

/-- 'laws.FnFirstOf': WHATEVER THE INPUT: true; the input reads as it did. -/
def fnFirstOfSpec : ChangeSpec := { name := "fnFirstOf", fn := fun _ => fun
  | [d] => { results := [.lit (.bool true)], args := [d] }
  | _ => none }
def fnFirstOfRow : OpenClaim := { program := "ytjggdlnbfoglaaa", sum := "2d6421332a04bf88cb276ce338e614fb98565310ba1ff9ea0b16128617539626", func := "loop.example/numberwords/laws.FnFirstOf", spec := "fnFirstOf", inPlace := ["internal/abi.NoEscape", "internal/bytealg.MakeNoZero"], unfollowed := true, recurses := true, apart := false }
def FnFirstOfSaid : Prop := fnFirstOfRow.holds Try.pinned (OpenSpec.ofChange fnFirstOfSpec)

/-- ITS FALSE NEIGHBOUR: 'it returns false'. Refute it at one input. -/
def fnFirstOfWrong : ChangeSpec := { name := "fnFirstOf", fn := fun _ => fun
  | [d] => { results := [.lit (.bool false)], args := [d] }
  | _ => none }
def FnFirstOfWrongFalsely : Prop := fnFirstOfRow.holds Try.pinned (OpenSpec.ofChange fnFirstOfWrong)

/-- 'laws.FnLastOf': WHATEVER THE INPUT: true; the input reads as it did. -/
def fnLastOfSpec : ChangeSpec := { name := "fnLastOf", fn := fun _ => fun
  | [d] => { results := [.lit (.bool true)], args := [d] }
  | _ => none }
def fnLastOfRow : OpenClaim := { program := "ytjggdlnbfoglaaa", sum := "2d6421332a04bf88cb276ce338e614fb98565310ba1ff9ea0b16128617539626", func := "loop.example/numberwords/laws.FnLastOf", spec := "fnLastOf", inPlace := ["internal/abi.NoEscape", "internal/bytealg.MakeNoZero"], unfollowed := true, recurses := true, apart := false }
def FnLastOfSaid : Prop := fnLastOfRow.holds Try.pinned (OpenSpec.ofChange fnLastOfSpec)

/-- ITS FALSE NEIGHBOUR: 'it returns false'. Refute it at one input. -/
def fnLastOfWrong : ChangeSpec := { name := "fnLastOf", fn := fun _ => fun
  | [d] => { results := [.lit (.bool false)], args := [d] }
  | _ => none }
def FnLastOfWrongFalsely : Prop := fnLastOfRow.holds Try.pinned (OpenSpec.ofChange fnLastOfWrong)

/-- 'laws.FnPlaceOf': WHATEVER THE INPUT: true; the input reads as it did. -/
def fnPlaceOfSpec : ChangeSpec := { name := "fnPlaceOf", fn := fun _ => fun
  | [d] => { results := [.lit (.bool true)], args := [d] }
  | _ => none }
def fnPlaceOfRow : OpenClaim := { program := "ytjggdlnbfoglaaa", sum := "2d6421332a04bf88cb276ce338e614fb98565310ba1ff9ea0b16128617539626", func := "loop.example/numberwords/laws.FnPlaceOf", spec := "fnPlaceOf", inPlace := ["internal/abi.NoEscape", "internal/bytealg.MakeNoZero"], recurses := true, apart := false }
def FnPlaceOfSaid : Prop := fnPlaceOfRow.holds Try.pinned (OpenSpec.ofChange fnPlaceOfSpec)

/-- ITS FALSE NEIGHBOUR: 'it returns false'. Refute it at one input. -/
def fnPlaceOfWrong : ChangeSpec := { name := "fnPlaceOf", fn := fun _ => fun
  | [d] => { results := [.lit (.bool false)], args := [d] }
  | _ => none }
def FnPlaceOfWrongFalsely : Prop := fnPlaceOfRow.holds Try.pinned (OpenSpec.ofChange fnPlaceOfWrong)

/-- 'laws.FnKeptOf': WHATEVER THE INPUT: true; the input reads as it did. -/
def fnKeptOfSpec : ChangeSpec := { name := "fnKeptOf", fn := fun _ => fun
  | [d] => { results := [.lit (.bool true)], args := [d] }
  | _ => none }
def fnKeptOfRow : OpenClaim := { program := "ytjggdlnbfoglaaa", sum := "2d6421332a04bf88cb276ce338e614fb98565310ba1ff9ea0b16128617539626", func := "loop.example/numberwords/laws.FnKeptOf", spec := "fnKeptOf", inPlace := ["internal/abi.NoEscape", "internal/bytealg.MakeNoZero"], unfollowed := true, recurses := true, apart := false }
def FnKeptOfSaid : Prop := fnKeptOfRow.holds Try.pinned (OpenSpec.ofChange fnKeptOfSpec)

/-- ITS FALSE NEIGHBOUR: 'it returns false'. Refute it at one input. -/
def fnKeptOfWrong : ChangeSpec := { name := "fnKeptOf", fn := fun _ => fun
  | [d] => { results := [.lit (.bool false)], args := [d] }
  | _ => none }
def FnKeptOfWrongFalsely : Prop := fnKeptOfRow.holds Try.pinned (OpenSpec.ofChange fnKeptOfWrong)

/-- 'laws.FnExactBeforeOk': WHATEVER THE INPUT: true; the input reads as it did. -/
def fnExactBeforeOkSpec : ChangeSpec := { name := "fnExactBeforeOk", fn := fun _ => fun
  | [d1, d2, d3] => { results := [.lit (.bool true)], args := [d1, d2, d3] }
  | _ => none }
def fnExactBeforeOkRow : OpenClaim := { program := "ytjggdlnbfoglaaa", sum := "2d6421332a04bf88cb276ce338e614fb98565310ba1ff9ea0b16128617539626", func := "loop.example/numberwords/laws.FnExactBeforeOk", spec := "fnExactBeforeOk", inPlace := ["internal/abi.NoEscape", "internal/bytealg.MakeNoZero"], recurses := true, apart := false }
def FnExactBeforeOkSaid : Prop := fnExactBeforeOkRow.holds Try.pinned (OpenSpec.ofChange fnExactBeforeOkSpec)

/-- ITS FALSE NEIGHBOUR: 'it returns false'. Refute it at one input. -/
def fnExactBeforeOkWrong : ChangeSpec := { name := "fnExactBeforeOk", fn := fun _ => fun
  | [d1, d2, d3] => { results := [.lit (.bool false)], args := [d1, d2, d3] }
  | _ => none }
def FnExactBeforeOkWrongFalsely : Prop := fnExactBeforeOkRow.holds Try.pinned (OpenSpec.ofChange fnExactBeforeOkWrong)

/-- 'laws.FnExactSortedOf': WHATEVER THE INPUT: true; the input reads as it did. -/
def fnExactSortedOfSpec : ChangeSpec := { name := "fnExactSortedOf", fn := fun _ => fun
  | [d1, d2] => { results := [.lit (.bool true)], args := [d1, d2] }
  | _ => none }
def fnExactSortedOfRow : OpenClaim := { program := "ytjggdlnbfoglaaa", sum := "2d6421332a04bf88cb276ce338e614fb98565310ba1ff9ea0b16128617539626", func := "loop.example/numberwords/laws.FnExactSortedOf", spec := "fnExactSortedOf", inPlace := ["internal/abi.NoEscape", "internal/bytealg.MakeNoZero"], unfollowed := true, recurses := true, apart := false }
def FnExactSortedOfSaid : Prop := fnExactSortedOfRow.holds Try.pinned (OpenSpec.ofChange fnExactSortedOfSpec)

/-- ITS FALSE NEIGHBOUR: 'it returns false'. Refute it at one input. -/
def fnExactSortedOfWrong : ChangeSpec := { name := "fnExactSortedOf", fn := fun _ => fun
  | [d1, d2] => { results := [.lit (.bool false)], args := [d1, d2] }
  | _ => none }
def FnExactSortedOfWrongFalsely : Prop := fnExactSortedOfRow.holds Try.pinned (OpenSpec.ofChange fnExactSortedOfWrong)

/-- 'laws.FnExactFirstOf': WHATEVER THE INPUT: true; the input reads as it did. -/
def fnExactFirstOfSpec : ChangeSpec := { name := "fnExactFirstOf", fn := fun _ => fun
  | [d1, d2] => { results := [.lit (.bool true)], args := [d1, d2] }
  | _ => none }
def fnExactFirstOfRow : OpenClaim := { program := "ytjggdlnbfoglaaa", sum := "2d6421332a04bf88cb276ce338e614fb98565310ba1ff9ea0b16128617539626", func := "loop.example/numberwords/laws.FnExactFirstOf", spec := "fnExactFirstOf", inPlace := ["internal/abi.NoEscape", "internal/bytealg.MakeNoZero"], unfollowed := true, recurses := true, apart := false }
def FnExactFirstOfSaid : Prop := fnExactFirstOfRow.holds Try.pinned (OpenSpec.ofChange fnExactFirstOfSpec)

/-- ITS FALSE NEIGHBOUR: 'it returns false'. Refute it at one input. -/
def fnExactFirstOfWrong : ChangeSpec := { name := "fnExactFirstOf", fn := fun _ => fun
  | [d1, d2] => { results := [.lit (.bool false)], args := [d1, d2] }
  | _ => none }
def FnExactFirstOfWrongFalsely : Prop := fnExactFirstOfRow.holds Try.pinned (OpenSpec.ofChange fnExactFirstOfWrong)

/-- 'laws.FnExactLastOf': WHATEVER THE INPUT: true; the input reads as it did. -/
def fnExactLastOfSpec : ChangeSpec := { name := "fnExactLastOf", fn := fun _ => fun
  | [d1, d2] => { results := [.lit (.bool true)], args := [d1, d2] }
  | _ => none }
def fnExactLastOfRow : OpenClaim := { program := "ytjggdlnbfoglaaa", sum := "2d6421332a04bf88cb276ce338e614fb98565310ba1ff9ea0b16128617539626", func := "loop.example/numberwords/laws.FnExactLastOf", spec := "fnExactLastOf", inPlace := ["internal/abi.NoEscape", "internal/bytealg.MakeNoZero"], unfollowed := true, recurses := true, apart := false }
def FnExactLastOfSaid : Prop := fnExactLastOfRow.holds Try.pinned (OpenSpec.ofChange fnExactLastOfSpec)

/-- ITS FALSE NEIGHBOUR: 'it returns false'. Refute it at one input. -/
def fnExactLastOfWrong : ChangeSpec := { name := "fnExactLastOf", fn := fun _ => fun
  | [d1, d2] => { results := [.lit (.bool false)], args := [d1, d2] }
  | _ => none }
def FnExactLastOfWrongFalsely : Prop := fnExactLastOfRow.holds Try.pinned (OpenSpec.ofChange fnExactLastOfWrong)

/-- 'laws.FnExactPlaceOf': WHATEVER THE INPUT: true; the input reads as it did. -/
def fnExactPlaceOfSpec : ChangeSpec := { name := "fnExactPlaceOf", fn := fun _ => fun
  | [d1, d2, d3] => { results := [.lit (.bool true)], args := [d1, d2, d3] }
  | _ => none }
def fnExactPlaceOfRow : OpenClaim := { program := "ytjggdlnbfoglaaa", sum := "2d6421332a04bf88cb276ce338e614fb98565310ba1ff9ea0b16128617539626", func := "loop.example/numberwords/laws.FnExactPlaceOf", spec := "fnExactPlaceOf", inPlace := ["internal/abi.NoEscape", "internal/bytealg.MakeNoZero"], recurses := true, apart := false }
def FnExactPlaceOfSaid : Prop := fnExactPlaceOfRow.holds Try.pinned (OpenSpec.ofChange fnExactPlaceOfSpec)

/-- ITS FALSE NEIGHBOUR: 'it returns false'. Refute it at one input. -/
def fnExactPlaceOfWrong : ChangeSpec := { name := "fnExactPlaceOf", fn := fun _ => fun
  | [d1, d2, d3] => { results := [.lit (.bool false)], args := [d1, d2, d3] }
  | _ => none }
def FnExactPlaceOfWrongFalsely : Prop := fnExactPlaceOfRow.holds Try.pinned (OpenSpec.ofChange fnExactPlaceOfWrong)

/-- 'laws.FnExactKeptOf': WHATEVER THE INPUT: true; the input reads as it did. -/
def fnExactKeptOfSpec : ChangeSpec := { name := "fnExactKeptOf", fn := fun _ => fun
  | [d1, d2] => { results := [.lit (.bool true)], args := [d1, d2] }
  | _ => none }
def fnExactKeptOfRow : OpenClaim := { program := "ytjggdlnbfoglaaa", sum := "2d6421332a04bf88cb276ce338e614fb98565310ba1ff9ea0b16128617539626", func := "loop.example/numberwords/laws.FnExactKeptOf", spec := "fnExactKeptOf", inPlace := ["internal/abi.NoEscape", "internal/bytealg.MakeNoZero"], unfollowed := true, recurses := true, apart := false }
def FnExactKeptOfSaid : Prop := fnExactKeptOfRow.holds Try.pinned (OpenSpec.ofChange fnExactKeptOfSpec)

/-- ITS FALSE NEIGHBOUR: 'it returns false'. Refute it at one input. -/
def fnExactKeptOfWrong : ChangeSpec := { name := "fnExactKeptOf", fn := fun _ => fun
  | [d1, d2] => { results := [.lit (.bool false)], args := [d1, d2] }
  | _ => none }
def FnExactKeptOfWrongFalsely : Prop := fnExactKeptOfRow.holds Try.pinned (OpenSpec.ofChange fnExactKeptOfWrong)

/- THE SECOND FORM. 'bulk': how many values and letters a reading holds, each counted each time it is reached (what is shared counts as often as it is met; a slice's spare places count too). A statement '..UptoSaid' is the law's where the arguments, and the package variables that the reading takes, are together of bulk at most 1048576: NARROWER than '..Said'. Prove '..Said' where nothing that the law and all that it calls make is longer than what came in: it says more and counts as full. Else prove '..UptoSaid'. A law counts once. -/
mutual
def uptoBulk {H : Type} : DataW H → Nat
  | .lit (.string bytes) => bytes.length + 1
  | .lit _ => 1
  | .nil => 1
  | .ptr d => uptoBulk d + 1
  | .slice elems spare => uptoBulkAll elems + uptoBulkAll spare + 1
  | .agg parts => uptoBulkAll parts + 1
  | .iface _ d => uptoBulk d + 1
  | .map entries => uptoBulkEntries entries + 1
  | .held _ => 1
def uptoBulkAll {H : Type} : List (DataW H) → Nat
  | [] => 0
  | d :: r => uptoBulk d + uptoBulkAll r
def uptoBulkEntries {H : Type} : List (Lit × DataW H) → Nat
  | [] => 0
  | x :: r => uptoBulkEntry x + uptoBulkEntries r
def uptoBulkEntry {H : Type} : Lit × DataW H → Nat
  | (.string bytes, d) => bytes.length + uptoBulk d + 1
  | (_, d) => uptoBulk d + 1
 end
def uptoSmall : (H : Type) → List (DataW H) → Bool := fun _ ds => decide (uptoBulkAll ds ≤ 1048576)
def OpenSpec.upto (s : _root_.Go.ChangeSpec) : _root_.Go.OpenSpec := { _root_.Go.OpenSpec.ofChange s with cond := some uptoSmall }

/-- 'laws.FnBeforeOk', WHERE WHAT IT READS IS OF BULK AT MOST 1048576: true; the input reads as it did. -/
def fnBeforeOkUptoRow : OpenClaim := { program := "ytjggdlnbfoglaaa", sum := "2d6421332a04bf88cb276ce338e614fb98565310ba1ff9ea0b16128617539626", func := "loop.example/numberwords/laws.FnBeforeOk", spec := "fnBeforeOk", inPlace := ["internal/abi.NoEscape", "internal/bytealg.MakeNoZero"], recurses := true, apart := false, narrowed := true }
def FnBeforeOkUptoSaid : Prop := fnBeforeOkUptoRow.holds Try.pinned (OpenSpec.upto fnBeforeOkSpec)

/-- 'laws.FnSortedOf', WHERE WHAT IT READS IS OF BULK AT MOST 1048576: true; the input reads as it did. -/
def fnSortedOfUptoRow : OpenClaim := { program := "ytjggdlnbfoglaaa", sum := "2d6421332a04bf88cb276ce338e614fb98565310ba1ff9ea0b16128617539626", func := "loop.example/numberwords/laws.FnSortedOf", spec := "fnSortedOf", inPlace := ["internal/abi.NoEscape", "internal/bytealg.MakeNoZero"], unfollowed := true, recurses := true, apart := false, narrowed := true }
def FnSortedOfUptoSaid : Prop := fnSortedOfUptoRow.holds Try.pinned (OpenSpec.upto fnSortedOfSpec)

/-- 'laws.FnFirstOf', WHERE WHAT IT READS IS OF BULK AT MOST 1048576: true; the input reads as it did. -/
def fnFirstOfUptoRow : OpenClaim := { program := "ytjggdlnbfoglaaa", sum := "2d6421332a04bf88cb276ce338e614fb98565310ba1ff9ea0b16128617539626", func := "loop.example/numberwords/laws.FnFirstOf", spec := "fnFirstOf", inPlace := ["internal/abi.NoEscape", "internal/bytealg.MakeNoZero"], unfollowed := true, recurses := true, apart := false, narrowed := true }
def FnFirstOfUptoSaid : Prop := fnFirstOfUptoRow.holds Try.pinned (OpenSpec.upto fnFirstOfSpec)

/-- 'laws.FnLastOf', WHERE WHAT IT READS IS OF BULK AT MOST 1048576: true; the input reads as it did. -/
def fnLastOfUptoRow : OpenClaim := { program := "ytjggdlnbfoglaaa", sum := "2d6421332a04bf88cb276ce338e614fb98565310ba1ff9ea0b16128617539626", func := "loop.example/numberwords/laws.FnLastOf", spec := "fnLastOf", inPlace := ["internal/abi.NoEscape", "internal/bytealg.MakeNoZero"], unfollowed := true, recurses := true, apart := false, narrowed := true }
def FnLastOfUptoSaid : Prop := fnLastOfUptoRow.holds Try.pinned (OpenSpec.upto fnLastOfSpec)

/-- 'laws.FnPlaceOf', WHERE WHAT IT READS IS OF BULK AT MOST 1048576: true; the input reads as it did. -/
def fnPlaceOfUptoRow : OpenClaim := { program := "ytjggdlnbfoglaaa", sum := "2d6421332a04bf88cb276ce338e614fb98565310ba1ff9ea0b16128617539626", func := "loop.example/numberwords/laws.FnPlaceOf", spec := "fnPlaceOf", inPlace := ["internal/abi.NoEscape", "internal/bytealg.MakeNoZero"], recurses := true, apart := false, narrowed := true }
def FnPlaceOfUptoSaid : Prop := fnPlaceOfUptoRow.holds Try.pinned (OpenSpec.upto fnPlaceOfSpec)

/-- 'laws.FnKeptOf', WHERE WHAT IT READS IS OF BULK AT MOST 1048576: true; the input reads as it did. -/
def fnKeptOfUptoRow : OpenClaim := { program := "ytjggdlnbfoglaaa", sum := "2d6421332a04bf88cb276ce338e614fb98565310ba1ff9ea0b16128617539626", func := "loop.example/numberwords/laws.FnKeptOf", spec := "fnKeptOf", inPlace := ["internal/abi.NoEscape", "internal/bytealg.MakeNoZero"], unfollowed := true, recurses := true, apart := false, narrowed := true }
def FnKeptOfUptoSaid : Prop := fnKeptOfUptoRow.holds Try.pinned (OpenSpec.upto fnKeptOfSpec)

/-- 'laws.FnExactBeforeOk', WHERE WHAT IT READS IS OF BULK AT MOST 1048576: true; the input reads as it did. -/
def fnExactBeforeOkUptoRow : OpenClaim := { program := "ytjggdlnbfoglaaa", sum := "2d6421332a04bf88cb276ce338e614fb98565310ba1ff9ea0b16128617539626", func := "loop.example/numberwords/laws.FnExactBeforeOk", spec := "fnExactBeforeOk", inPlace := ["internal/abi.NoEscape", "internal/bytealg.MakeNoZero"], recurses := true, apart := false, narrowed := true }
def FnExactBeforeOkUptoSaid : Prop := fnExactBeforeOkUptoRow.holds Try.pinned (OpenSpec.upto fnExactBeforeOkSpec)

/-- 'laws.FnExactSortedOf', WHERE WHAT IT READS IS OF BULK AT MOST 1048576: true; the input reads as it did. -/
def fnExactSortedOfUptoRow : OpenClaim := { program := "ytjggdlnbfoglaaa", sum := "2d6421332a04bf88cb276ce338e614fb98565310ba1ff9ea0b16128617539626", func := "loop.example/numberwords/laws.FnExactSortedOf", spec := "fnExactSortedOf", inPlace := ["internal/abi.NoEscape", "internal/bytealg.MakeNoZero"], unfollowed := true, recurses := true, apart := false, narrowed := true }
def FnExactSortedOfUptoSaid : Prop := fnExactSortedOfUptoRow.holds Try.pinned (OpenSpec.upto fnExactSortedOfSpec)

/-- 'laws.FnExactFirstOf', WHERE WHAT IT READS IS OF BULK AT MOST 1048576: true; the input reads as it did. -/
def fnExactFirstOfUptoRow : OpenClaim := { program := "ytjggdlnbfoglaaa", sum := "2d6421332a04bf88cb276ce338e614fb98565310ba1ff9ea0b16128617539626", func := "loop.example/numberwords/laws.FnExactFirstOf", spec := "fnExactFirstOf", inPlace := ["internal/abi.NoEscape", "internal/bytealg.MakeNoZero"], unfollowed := true, recurses := true, apart := false, narrowed := true }
def FnExactFirstOfUptoSaid : Prop := fnExactFirstOfUptoRow.holds Try.pinned (OpenSpec.upto fnExactFirstOfSpec)

/-- 'laws.FnExactLastOf', WHERE WHAT IT READS IS OF BULK AT MOST 1048576: true; the input reads as it did. -/
def fnExactLastOfUptoRow : OpenClaim := { program := "ytjggdlnbfoglaaa", sum := "2d6421332a04bf88cb276ce338e614fb98565310ba1ff9ea0b16128617539626", func := "loop.example/numberwords/laws.FnExactLastOf", spec := "fnExactLastOf", inPlace := ["internal/abi.NoEscape", "internal/bytealg.MakeNoZero"], unfollowed := true, recurses := true, apart := false, narrowed := true }
def FnExactLastOfUptoSaid : Prop := fnExactLastOfUptoRow.holds Try.pinned (OpenSpec.upto fnExactLastOfSpec)

/-- 'laws.FnExactPlaceOf', WHERE WHAT IT READS IS OF BULK AT MOST 1048576: true; the input reads as it did. -/
def fnExactPlaceOfUptoRow : OpenClaim := { program := "ytjggdlnbfoglaaa", sum := "2d6421332a04bf88cb276ce338e614fb98565310ba1ff9ea0b16128617539626", func := "loop.example/numberwords/laws.FnExactPlaceOf", spec := "fnExactPlaceOf", inPlace := ["internal/abi.NoEscape", "internal/bytealg.MakeNoZero"], recurses := true, apart := false, narrowed := true }
def FnExactPlaceOfUptoSaid : Prop := fnExactPlaceOfUptoRow.holds Try.pinned (OpenSpec.upto fnExactPlaceOfSpec)

/-- 'laws.FnExactKeptOf', WHERE WHAT IT READS IS OF BULK AT MOST 1048576: true; the input reads as it did. -/
def fnExactKeptOfUptoRow : OpenClaim := { program := "ytjggdlnbfoglaaa", sum := "2d6421332a04bf88cb276ce338e614fb98565310ba1ff9ea0b16128617539626", func := "loop.example/numberwords/laws.FnExactKeptOf", spec := "fnExactKeptOf", inPlace := ["internal/abi.NoEscape", "internal/bytealg.MakeNoZero"], unfollowed := true, recurses := true, apart := false, narrowed := true }
def FnExactKeptOfUptoSaid : Prop := fnExactKeptOfUptoRow.holds Try.pinned (OpenSpec.upto fnExactKeptOfSpec)

end Rows
end Go.Proofs.Ytjggdlnbfoglaaa
