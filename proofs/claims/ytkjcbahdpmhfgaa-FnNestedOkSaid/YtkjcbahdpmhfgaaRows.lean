/-
  No cell of these rows narrows 'for every input' (looked for: loops, veiled, ifaces, maps, wideKeys, modest, calm, conditions, laid).
  DERIVED. THE GIVEN ROWS OF THIS SEAT. 10 by the template 'for every input the law returns true; each argument reads behind the call as it read before'; 0 by the template 'total and deterministic' (their statements: YtkjcbahdpmhfgaaTotals.lean).
  GIVEN WITH THE SEED: the statements are not yours to turn. If you find one false, say at which input.
  Laid BY PROGRAM, IN A SANDBOX (cutbox-rows.mjs): the forced cells as the released guide's own fill.sh prints them over the translation ff8557ed3397cea7… (all of the seat's roots in one cut). By AI agents, Wed Nov 11 2026. No macro, syntax, notation, axiom, sorry.
-/
import Derived.Test.YtkjcbahdpmhfgaaChecked
import GoSem.Claim
import GoSem.ClaimJoined
import GoSem.ClaimMapViews
import Derived.JoinedTies
import Derived.KernelRfl
namespace Go.Proofs.Ytkjcbahdpmhfgaa
/- THE CELL 'sum', in the pinned program and in every row, IS THE sha256 OF THE DUMP (.gsa) THAT YtkjcbahdpmhfgaaProg.lean LOADS. Nothing in Lean hashes anything: it is a label: what it is worth is what the hold of that sum in a sandbox is worth. -/
noncomputable def Try.pinned : Pinned := { name := "ytkjcbahdpmhfgaa", sum := "ff8557ed3397cea7dabe084b77c9951f5d5b8950e0e5abe12798321ec42cb4bd", checked := Try.checked }
namespace Rows
def none {H : Type} : Left H := { results := [], args := [] }

/-- 'laws.FnBasesOk': WHATEVER THE INPUT: true; the input reads as it did. -/
def fnBasesOkSpec : ChangeSpec := { name := "fnBasesOk", fn := fun _ => fun
  | [d] => { results := [.lit (.bool true)], args := [d] }
  | _ => none }
def fnBasesOkRow : OpenClaim := { program := "ytkjcbahdpmhfgaa", sum := "ff8557ed3397cea7dabe084b77c9951f5d5b8950e0e5abe12798321ec42cb4bd", func := "loop.example/numberwords/laws.FnBasesOk", spec := "fnBasesOk", apart := false }
def FnBasesOkSaid : Prop := fnBasesOkRow.holds Try.pinned (OpenSpec.ofChange fnBasesOkSpec)

/-- ITS FALSE NEIGHBOUR: 'it returns false'. Refute it at one input. -/
def fnBasesOkWrong : ChangeSpec := { name := "fnBasesOk", fn := fun _ => fun
  | [d] => { results := [.lit (.bool false)], args := [d] }
  | _ => none }
def FnBasesOkWrongFalsely : Prop := fnBasesOkRow.holds Try.pinned (OpenSpec.ofChange fnBasesOkWrong)

/-- 'laws.FnCountsOf': WHATEVER THE INPUT: true; the input reads as it did. -/
def fnCountsOfSpec : ChangeSpec := { name := "fnCountsOf", fn := fun _ => fun
  | [d] => { results := [.lit (.bool true)], args := [d] }
  | _ => none }
def fnCountsOfRow : OpenClaim := { program := "ytkjcbahdpmhfgaa", sum := "ff8557ed3397cea7dabe084b77c9951f5d5b8950e0e5abe12798321ec42cb4bd", func := "loop.example/numberwords/laws.FnCountsOf", spec := "fnCountsOf", unfollowed := true, recurses := true, apart := false }
def FnCountsOfSaid : Prop := fnCountsOfRow.holds Try.pinned (OpenSpec.ofChange fnCountsOfSpec)

/-- ITS FALSE NEIGHBOUR: 'it returns false'. Refute it at one input. -/
def fnCountsOfWrong : ChangeSpec := { name := "fnCountsOf", fn := fun _ => fun
  | [d] => { results := [.lit (.bool false)], args := [d] }
  | _ => none }
def FnCountsOfWrongFalsely : Prop := fnCountsOfRow.holds Try.pinned (OpenSpec.ofChange fnCountsOfWrong)

/-- 'laws.FnSumOf': WHATEVER THE INPUT: true; the input reads as it did. -/
def fnSumOfSpec : ChangeSpec := { name := "fnSumOf", fn := fun _ => fun
  | [d] => { results := [.lit (.bool true)], args := [d] }
  | _ => none }
def fnSumOfRow : OpenClaim := { program := "ytkjcbahdpmhfgaa", sum := "ff8557ed3397cea7dabe084b77c9951f5d5b8950e0e5abe12798321ec42cb4bd", func := "loop.example/numberwords/laws.FnSumOf", spec := "fnSumOf", apart := false }
def FnSumOfSaid : Prop := fnSumOfRow.holds Try.pinned (OpenSpec.ofChange fnSumOfSpec)

/-- ITS FALSE NEIGHBOUR: 'it returns false'. Refute it at one input. -/
def fnSumOfWrong : ChangeSpec := { name := "fnSumOf", fn := fun _ => fun
  | [d] => { results := [.lit (.bool false)], args := [d] }
  | _ => none }
def FnSumOfWrongFalsely : Prop := fnSumOfRow.holds Try.pinned (OpenSpec.ofChange fnSumOfWrong)

/-- 'laws.FnGreedyOk': WHATEVER THE INPUT: true; the input reads as it did. -/
def fnGreedyOkSpec : ChangeSpec := { name := "fnGreedyOk", fn := fun _ => fun
  | [d] => { results := [.lit (.bool true)], args := [d] }
  | _ => none }
def fnGreedyOkRow : OpenClaim := { program := "ytkjcbahdpmhfgaa", sum := "ff8557ed3397cea7dabe084b77c9951f5d5b8950e0e5abe12798321ec42cb4bd", func := "loop.example/numberwords/laws.FnGreedyOk", spec := "fnGreedyOk", unfollowed := true, recurses := true, apart := false }
def FnGreedyOkSaid : Prop := fnGreedyOkRow.holds Try.pinned (OpenSpec.ofChange fnGreedyOkSpec)

/-- ITS FALSE NEIGHBOUR: 'it returns false'. Refute it at one input. -/
def fnGreedyOkWrong : ChangeSpec := { name := "fnGreedyOk", fn := fun _ => fun
  | [d] => { results := [.lit (.bool false)], args := [d] }
  | _ => none }
def FnGreedyOkWrongFalsely : Prop := fnGreedyOkRow.holds Try.pinned (OpenSpec.ofChange fnGreedyOkWrong)

/-- 'laws.FnNestedOk': WHATEVER THE INPUT: true; the input reads as it did. -/
def fnNestedOkSpec : ChangeSpec := { name := "fnNestedOk", fn := fun _ => fun
  | [d] => { results := [.lit (.bool true)], args := [d] }
  | _ => none }
def fnNestedOkRow : OpenClaim := { program := "ytkjcbahdpmhfgaa", sum := "ff8557ed3397cea7dabe084b77c9951f5d5b8950e0e5abe12798321ec42cb4bd", func := "loop.example/numberwords/laws.FnNestedOk", spec := "fnNestedOk", apart := false }
def FnNestedOkSaid : Prop := fnNestedOkRow.holds Try.pinned (OpenSpec.ofChange fnNestedOkSpec)

/-- ITS FALSE NEIGHBOUR: 'it returns false'. Refute it at one input. -/
def fnNestedOkWrong : ChangeSpec := { name := "fnNestedOk", fn := fun _ => fun
  | [d] => { results := [.lit (.bool false)], args := [d] }
  | _ => none }
def FnNestedOkWrongFalsely : Prop := fnNestedOkRow.holds Try.pinned (OpenSpec.ofChange fnNestedOkWrong)

/-- 'laws.FnExactBasesOk': WHATEVER THE INPUT: true; the input reads as it did. -/
def fnExactBasesOkSpec : ChangeSpec := { name := "fnExactBasesOk", fn := fun _ => fun
  | [d] => { results := [.lit (.bool true)], args := [d] }
  | _ => none }
def fnExactBasesOkRow : OpenClaim := { program := "ytkjcbahdpmhfgaa", sum := "ff8557ed3397cea7dabe084b77c9951f5d5b8950e0e5abe12798321ec42cb4bd", func := "loop.example/numberwords/laws.FnExactBasesOk", spec := "fnExactBasesOk", apart := false }
def FnExactBasesOkSaid : Prop := fnExactBasesOkRow.holds Try.pinned (OpenSpec.ofChange fnExactBasesOkSpec)

/-- ITS FALSE NEIGHBOUR: 'it returns false'. Refute it at one input. -/
def fnExactBasesOkWrong : ChangeSpec := { name := "fnExactBasesOk", fn := fun _ => fun
  | [d] => { results := [.lit (.bool false)], args := [d] }
  | _ => none }
def FnExactBasesOkWrongFalsely : Prop := fnExactBasesOkRow.holds Try.pinned (OpenSpec.ofChange fnExactBasesOkWrong)

/-- 'laws.FnExactCountsOf': WHATEVER THE INPUT: true; the input reads as it did. -/
def fnExactCountsOfSpec : ChangeSpec := { name := "fnExactCountsOf", fn := fun _ => fun
  | [d1, d2] => { results := [.lit (.bool true)], args := [d1, d2] }
  | _ => none }
def fnExactCountsOfRow : OpenClaim := { program := "ytkjcbahdpmhfgaa", sum := "ff8557ed3397cea7dabe084b77c9951f5d5b8950e0e5abe12798321ec42cb4bd", func := "loop.example/numberwords/laws.FnExactCountsOf", spec := "fnExactCountsOf", unfollowed := true, recurses := true, apart := false }
def FnExactCountsOfSaid : Prop := fnExactCountsOfRow.holds Try.pinned (OpenSpec.ofChange fnExactCountsOfSpec)

/-- ITS FALSE NEIGHBOUR: 'it returns false'. Refute it at one input. -/
def fnExactCountsOfWrong : ChangeSpec := { name := "fnExactCountsOf", fn := fun _ => fun
  | [d1, d2] => { results := [.lit (.bool false)], args := [d1, d2] }
  | _ => none }
def FnExactCountsOfWrongFalsely : Prop := fnExactCountsOfRow.holds Try.pinned (OpenSpec.ofChange fnExactCountsOfWrong)

/-- 'laws.FnExactSumOf': WHATEVER THE INPUT: true; the input reads as it did. -/
def fnExactSumOfSpec : ChangeSpec := { name := "fnExactSumOf", fn := fun _ => fun
  | [d1, d2] => { results := [.lit (.bool true)], args := [d1, d2] }
  | _ => none }
def fnExactSumOfRow : OpenClaim := { program := "ytkjcbahdpmhfgaa", sum := "ff8557ed3397cea7dabe084b77c9951f5d5b8950e0e5abe12798321ec42cb4bd", func := "loop.example/numberwords/laws.FnExactSumOf", spec := "fnExactSumOf", apart := false }
def FnExactSumOfSaid : Prop := fnExactSumOfRow.holds Try.pinned (OpenSpec.ofChange fnExactSumOfSpec)

/-- ITS FALSE NEIGHBOUR: 'it returns false'. Refute it at one input. -/
def fnExactSumOfWrong : ChangeSpec := { name := "fnExactSumOf", fn := fun _ => fun
  | [d1, d2] => { results := [.lit (.bool false)], args := [d1, d2] }
  | _ => none }
def FnExactSumOfWrongFalsely : Prop := fnExactSumOfRow.holds Try.pinned (OpenSpec.ofChange fnExactSumOfWrong)

/-- 'laws.FnExactGreedyOk': WHATEVER THE INPUT: true; the input reads as it did. -/
def fnExactGreedyOkSpec : ChangeSpec := { name := "fnExactGreedyOk", fn := fun _ => fun
  | [d1, d2] => { results := [.lit (.bool true)], args := [d1, d2] }
  | _ => none }
def fnExactGreedyOkRow : OpenClaim := { program := "ytkjcbahdpmhfgaa", sum := "ff8557ed3397cea7dabe084b77c9951f5d5b8950e0e5abe12798321ec42cb4bd", func := "loop.example/numberwords/laws.FnExactGreedyOk", spec := "fnExactGreedyOk", apart := false }
def FnExactGreedyOkSaid : Prop := fnExactGreedyOkRow.holds Try.pinned (OpenSpec.ofChange fnExactGreedyOkSpec)

/-- ITS FALSE NEIGHBOUR: 'it returns false'. Refute it at one input. -/
def fnExactGreedyOkWrong : ChangeSpec := { name := "fnExactGreedyOk", fn := fun _ => fun
  | [d1, d2] => { results := [.lit (.bool false)], args := [d1, d2] }
  | _ => none }
def FnExactGreedyOkWrongFalsely : Prop := fnExactGreedyOkRow.holds Try.pinned (OpenSpec.ofChange fnExactGreedyOkWrong)

/-- 'laws.FnExactNestedOk': WHATEVER THE INPUT: true; the input reads as it did. -/
def fnExactNestedOkSpec : ChangeSpec := { name := "fnExactNestedOk", fn := fun _ => fun
  | [d] => { results := [.lit (.bool true)], args := [d] }
  | _ => none }
def fnExactNestedOkRow : OpenClaim := { program := "ytkjcbahdpmhfgaa", sum := "ff8557ed3397cea7dabe084b77c9951f5d5b8950e0e5abe12798321ec42cb4bd", func := "loop.example/numberwords/laws.FnExactNestedOk", spec := "fnExactNestedOk", apart := false }
def FnExactNestedOkSaid : Prop := fnExactNestedOkRow.holds Try.pinned (OpenSpec.ofChange fnExactNestedOkSpec)

/-- ITS FALSE NEIGHBOUR: 'it returns false'. Refute it at one input. -/
def fnExactNestedOkWrong : ChangeSpec := { name := "fnExactNestedOk", fn := fun _ => fun
  | [d] => { results := [.lit (.bool false)], args := [d] }
  | _ => none }
def FnExactNestedOkWrongFalsely : Prop := fnExactNestedOkRow.holds Try.pinned (OpenSpec.ofChange fnExactNestedOkWrong)

/- THE SECOND FORM. 'bulk': how many values and letters a reading holds, each counted each time it is reached (what is shared counts as often as it is met; a slice's spare places count too). A statement '..UptoSaid' is the law's where the arguments, and the package variables that the reading takes, are together of bulk at most 1048576: NARROWER than '..Said'. Prove '..Said' where nothing that the law and all that it calls make is longer than what came in: it says more and counts as full. Else prove '..UptoSaid'. A law counts once. -/
mutual
def uptoBulk {H : Type} : DataW H → Nat
  | .lit (.string bytes) => bytes.length + 1
  | .lit _ => 1
  | .nil => 1
  | .ptr d => uptoBulk d + 1
  | .slice elems spare => uptoBulkAll elems + uptoBulkAll spare + 1
  | .agg parts => uptoBulkAll parts + 1
  | .iface _ d => uptoBulk d + 1
  | .map entries => uptoBulkEntries entries + 1
  | .held _ => 1
def uptoBulkAll {H : Type} : List (DataW H) → Nat
  | [] => 0
  | d :: r => uptoBulk d + uptoBulkAll r
def uptoBulkEntries {H : Type} : List (Lit × DataW H) → Nat
  | [] => 0
  | x :: r => uptoBulkEntry x + uptoBulkEntries r
def uptoBulkEntry {H : Type} : Lit × DataW H → Nat
  | (.string bytes, d) => bytes.length + uptoBulk d + 1
  | (_, d) => uptoBulk d + 1
 end
def uptoSmall : (H : Type) → List (DataW H) → Bool := fun _ ds => decide (uptoBulkAll ds ≤ 1048576)
def OpenSpec.upto (s : _root_.Go.ChangeSpec) : _root_.Go.OpenSpec := { _root_.Go.OpenSpec.ofChange s with cond := some uptoSmall }

/-- 'laws.FnBasesOk', WHERE WHAT IT READS IS OF BULK AT MOST 1048576: true; the input reads as it did. -/
def fnBasesOkUptoRow : OpenClaim := { program := "ytkjcbahdpmhfgaa", sum := "ff8557ed3397cea7dabe084b77c9951f5d5b8950e0e5abe12798321ec42cb4bd", func := "loop.example/numberwords/laws.FnBasesOk", spec := "fnBasesOk", apart := false, narrowed := true }
def FnBasesOkUptoSaid : Prop := fnBasesOkUptoRow.holds Try.pinned (OpenSpec.upto fnBasesOkSpec)

/-- 'laws.FnCountsOf', WHERE WHAT IT READS IS OF BULK AT MOST 1048576: true; the input reads as it did. -/
def fnCountsOfUptoRow : OpenClaim := { program := "ytkjcbahdpmhfgaa", sum := "ff8557ed3397cea7dabe084b77c9951f5d5b8950e0e5abe12798321ec42cb4bd", func := "loop.example/numberwords/laws.FnCountsOf", spec := "fnCountsOf", unfollowed := true, recurses := true, apart := false, narrowed := true }
def FnCountsOfUptoSaid : Prop := fnCountsOfUptoRow.holds Try.pinned (OpenSpec.upto fnCountsOfSpec)

/-- 'laws.FnSumOf', WHERE WHAT IT READS IS OF BULK AT MOST 1048576: true; the input reads as it did. -/
def fnSumOfUptoRow : OpenClaim := { program := "ytkjcbahdpmhfgaa", sum := "ff8557ed3397cea7dabe084b77c9951f5d5b8950e0e5abe12798321ec42cb4bd", func := "loop.example/numberwords/laws.FnSumOf", spec := "fnSumOf", apart := false, narrowed := true }
def FnSumOfUptoSaid : Prop := fnSumOfUptoRow.holds Try.pinned (OpenSpec.upto fnSumOfSpec)

/-- 'laws.FnGreedyOk', WHERE WHAT IT READS IS OF BULK AT MOST 1048576: true; the input reads as it did. -/
def fnGreedyOkUptoRow : OpenClaim := { program := "ytkjcbahdpmhfgaa", sum := "ff8557ed3397cea7dabe084b77c9951f5d5b8950e0e5abe12798321ec42cb4bd", func := "loop.example/numberwords/laws.FnGreedyOk", spec := "fnGreedyOk", unfollowed := true, recurses := true, apart := false, narrowed := true }
def FnGreedyOkUptoSaid : Prop := fnGreedyOkUptoRow.holds Try.pinned (OpenSpec.upto fnGreedyOkSpec)

/-- 'laws.FnNestedOk', WHERE WHAT IT READS IS OF BULK AT MOST 1048576: true; the input reads as it did. -/
def fnNestedOkUptoRow : OpenClaim := { program := "ytkjcbahdpmhfgaa", sum := "ff8557ed3397cea7dabe084b77c9951f5d5b8950e0e5abe12798321ec42cb4bd", func := "loop.example/numberwords/laws.FnNestedOk", spec := "fnNestedOk", apart := false, narrowed := true }
def FnNestedOkUptoSaid : Prop := fnNestedOkUptoRow.holds Try.pinned (OpenSpec.upto fnNestedOkSpec)

/-- 'laws.FnExactBasesOk', WHERE WHAT IT READS IS OF BULK AT MOST 1048576: true; the input reads as it did. -/
def fnExactBasesOkUptoRow : OpenClaim := { program := "ytkjcbahdpmhfgaa", sum := "ff8557ed3397cea7dabe084b77c9951f5d5b8950e0e5abe12798321ec42cb4bd", func := "loop.example/numberwords/laws.FnExactBasesOk", spec := "fnExactBasesOk", apart := false, narrowed := true }
def FnExactBasesOkUptoSaid : Prop := fnExactBasesOkUptoRow.holds Try.pinned (OpenSpec.upto fnExactBasesOkSpec)

/-- 'laws.FnExactCountsOf', WHERE WHAT IT READS IS OF BULK AT MOST 1048576: true; the input reads as it did. -/
def fnExactCountsOfUptoRow : OpenClaim := { program := "ytkjcbahdpmhfgaa", sum := "ff8557ed3397cea7dabe084b77c9951f5d5b8950e0e5abe12798321ec42cb4bd", func := "loop.example/numberwords/laws.FnExactCountsOf", spec := "fnExactCountsOf", unfollowed := true, recurses := true, apart := false, narrowed := true }
def FnExactCountsOfUptoSaid : Prop := fnExactCountsOfUptoRow.holds Try.pinned (OpenSpec.upto fnExactCountsOfSpec)

/-- 'laws.FnExactSumOf', WHERE WHAT IT READS IS OF BULK AT MOST 1048576: true; the input reads as it did. -/
def fnExactSumOfUptoRow : OpenClaim := { program := "ytkjcbahdpmhfgaa", sum := "ff8557ed3397cea7dabe084b77c9951f5d5b8950e0e5abe12798321ec42cb4bd", func := "loop.example/numberwords/laws.FnExactSumOf", spec := "fnExactSumOf", apart := false, narrowed := true }
def FnExactSumOfUptoSaid : Prop := fnExactSumOfUptoRow.holds Try.pinned (OpenSpec.upto fnExactSumOfSpec)

/-- 'laws.FnExactGreedyOk', WHERE WHAT IT READS IS OF BULK AT MOST 1048576: true; the input reads as it did. -/
def fnExactGreedyOkUptoRow : OpenClaim := { program := "ytkjcbahdpmhfgaa", sum := "ff8557ed3397cea7dabe084b77c9951f5d5b8950e0e5abe12798321ec42cb4bd", func := "loop.example/numberwords/laws.FnExactGreedyOk", spec := "fnExactGreedyOk", apart := false, narrowed := true }
def FnExactGreedyOkUptoSaid : Prop := fnExactGreedyOkUptoRow.holds Try.pinned (OpenSpec.upto fnExactGreedyOkSpec)

/-- 'laws.FnExactNestedOk', WHERE WHAT IT READS IS OF BULK AT MOST 1048576: true; the input reads as it did. -/
def fnExactNestedOkUptoRow : OpenClaim := { program := "ytkjcbahdpmhfgaa", sum := "ff8557ed3397cea7dabe084b77c9951f5d5b8950e0e5abe12798321ec42cb4bd", func := "loop.example/numberwords/laws.FnExactNestedOk", spec := "fnExactNestedOk", apart := false, narrowed := true }
def FnExactNestedOkUptoSaid : Prop := fnExactNestedOkUptoRow.holds Try.pinned (OpenSpec.upto fnExactNestedOkSpec)

end Rows
end Go.Proofs.Ytkjcbahdpmhfgaa
