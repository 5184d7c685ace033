/-
  No cell of these rows narrows 'for every input' (looked for: loops, veiled, ifaces, maps, wideKeys, modest, calm, conditions, laid).
  DERIVED. THE GIVEN ROWS OF THIS SEAT. 5 by the template 'for every input the law returns true; each argument reads behind the call as it read before'; 0 by the template 'total and deterministic' (their statements: YteemgkabhkdeaaaTotals.lean).
  GIVEN WITH THE SEED: the statements are not yours to turn. If you find one false, say at which input.
  Laid BY PROGRAM, IN A SANDBOX (cutbox-rows.mjs): the forced cells as the released guide's own fill.sh prints them over the translation 4ae34152e882a630… (all of the seat's roots in one cut). By AI agents, Wed Nov 11 2026. No macro, syntax, notation, axiom, sorry.
-/
import Derived.Test.YteemgkabhkdeaaaChecked
import GoSem.Claim
import GoSem.ClaimJoined
import GoSem.ClaimMapViews
import Derived.JoinedTies
import Derived.KernelRfl
namespace Go.Proofs.Yteemgkabhkdeaaa
/- THE CELL 'sum', in the pinned program and in every row, IS THE sha256 OF THE DUMP (.gsa) THAT YteemgkabhkdeaaaProg.lean LOADS. Nothing in Lean hashes anything: it is a label: what it is worth is what the hold of that sum in a sandbox is worth. -/
noncomputable def Try.pinned : Pinned := { name := "yteemgkabhkdeaaa", sum := "4ae34152e882a6305747ad53ca467dd170363532b9596aa3028888ff488ac128", checked := Try.checked }
namespace Rows
def none {H : Type} : Left H := { results := [], args := [] }

/-- 'laws.FnReadName': WHATEVER THE INPUT: true; the input reads as it did. -/
def fnReadNameSpec : ChangeSpec := { name := "fnReadName", fn := fun _ => fun
  | [d1, d2] => { results := [.lit (.bool true)], args := [d1, d2] }
  | _ => none }
def fnReadNameRow : OpenClaim := { program := "yteemgkabhkdeaaa", sum := "4ae34152e882a6305747ad53ca467dd170363532b9596aa3028888ff488ac128", func := "loop.example/numberwords/laws.FnReadName", spec := "fnReadName", unfollowed := true, recurses := true, apart := false }
def FnReadNameSaid : Prop := fnReadNameRow.holds Try.pinned (OpenSpec.ofChange fnReadNameSpec)

/-- ITS FALSE NEIGHBOUR: 'it returns false'. Refute it at one input. -/
def fnReadNameWrong : ChangeSpec := { name := "fnReadName", fn := fun _ => fun
  | [d1, d2] => { results := [.lit (.bool false)], args := [d1, d2] }
  | _ => none }
def FnReadNameWrongFalsely : Prop := fnReadNameRow.holds Try.pinned (OpenSpec.ofChange fnReadNameWrong)

/-- 'laws.FnNextName': WHATEVER THE INPUT: true; the input reads as it did. -/
def fnNextNameSpec : ChangeSpec := { name := "fnNextName", fn := fun _ => fun
  | [d] => { results := [.lit (.bool true)], args := [d] }
  | _ => none }
def fnNextNameRow : OpenClaim := { program := "yteemgkabhkdeaaa", sum := "4ae34152e882a6305747ad53ca467dd170363532b9596aa3028888ff488ac128", func := "loop.example/numberwords/laws.FnNextName", spec := "fnNextName", unfollowed := true, recurses := true, apart := false }
def FnNextNameSaid : Prop := fnNextNameRow.holds Try.pinned (OpenSpec.ofChange fnNextNameSpec)

/-- ITS FALSE NEIGHBOUR: 'it returns false'. Refute it at one input. -/
def fnNextNameWrong : ChangeSpec := { name := "fnNextName", fn := fun _ => fun
  | [d] => { results := [.lit (.bool false)], args := [d] }
  | _ => none }
def FnNextNameWrongFalsely : Prop := fnNextNameRow.holds Try.pinned (OpenSpec.ofChange fnNextNameWrong)

/-- 'laws.FnExactReadName': WHATEVER THE INPUT: true; the input reads as it did. -/
def fnExactReadNameSpec : ChangeSpec := { name := "fnExactReadName", fn := fun _ => fun
  | [d1, d2] => { results := [.lit (.bool true)], args := [d1, d2] }
  | _ => none }
def fnExactReadNameRow : OpenClaim := { program := "yteemgkabhkdeaaa", sum := "4ae34152e882a6305747ad53ca467dd170363532b9596aa3028888ff488ac128", func := "loop.example/numberwords/laws.FnExactReadName", spec := "fnExactReadName", unfollowed := true, recurses := true, apart := false }
def FnExactReadNameSaid : Prop := fnExactReadNameRow.holds Try.pinned (OpenSpec.ofChange fnExactReadNameSpec)

/-- ITS FALSE NEIGHBOUR: 'it returns false'. Refute it at one input. -/
def fnExactReadNameWrong : ChangeSpec := { name := "fnExactReadName", fn := fun _ => fun
  | [d1, d2] => { results := [.lit (.bool false)], args := [d1, d2] }
  | _ => none }
def FnExactReadNameWrongFalsely : Prop := fnExactReadNameRow.holds Try.pinned (OpenSpec.ofChange fnExactReadNameWrong)

/-- 'laws.FnExactNamesOf': WHATEVER THE INPUT: true; the input reads as it did. -/
def fnExactNamesOfSpec : ChangeSpec := { name := "fnExactNamesOf", fn := fun _ => fun
  | [d1, d2, d3] => { results := [.lit (.bool true)], args := [d1, d2, d3] }
  | _ => none }
def fnExactNamesOfRow : OpenClaim := { program := "yteemgkabhkdeaaa", sum := "4ae34152e882a6305747ad53ca467dd170363532b9596aa3028888ff488ac128", func := "loop.example/numberwords/laws.FnExactNamesOf", spec := "fnExactNamesOf", inPlace := ["internal/abi.NoEscape", "internal/bytealg.MakeNoZero"], recurses := true, apart := false }
def FnExactNamesOfSaid : Prop := fnExactNamesOfRow.holds Try.pinned (OpenSpec.ofChange fnExactNamesOfSpec)

/-- ITS FALSE NEIGHBOUR: 'it returns false'. Refute it at one input. -/
def fnExactNamesOfWrong : ChangeSpec := { name := "fnExactNamesOf", fn := fun _ => fun
  | [d1, d2, d3] => { results := [.lit (.bool false)], args := [d1, d2, d3] }
  | _ => none }
def FnExactNamesOfWrongFalsely : Prop := fnExactNamesOfRow.holds Try.pinned (OpenSpec.ofChange fnExactNamesOfWrong)

/-- 'laws.FnExactNextName': WHATEVER THE INPUT: true; the input reads as it did. -/
def fnExactNextNameSpec : ChangeSpec := { name := "fnExactNextName", fn := fun _ => fun
  | [d1, d2] => { results := [.lit (.bool true)], args := [d1, d2] }
  | _ => none }
def fnExactNextNameRow : OpenClaim := { program := "yteemgkabhkdeaaa", sum := "4ae34152e882a6305747ad53ca467dd170363532b9596aa3028888ff488ac128", func := "loop.example/numberwords/laws.FnExactNextName", spec := "fnExactNextName", unfollowed := true, recurses := true, apart := false }
def FnExactNextNameSaid : Prop := fnExactNextNameRow.holds Try.pinned (OpenSpec.ofChange fnExactNextNameSpec)

/-- ITS FALSE NEIGHBOUR: 'it returns false'. Refute it at one input. -/
def fnExactNextNameWrong : ChangeSpec := { name := "fnExactNextName", fn := fun _ => fun
  | [d1, d2] => { results := [.lit (.bool false)], args := [d1, d2] }
  | _ => none }
def FnExactNextNameWrongFalsely : Prop := fnExactNextNameRow.holds Try.pinned (OpenSpec.ofChange fnExactNextNameWrong)

/- THE SECOND FORM. 'bulk': how many values and letters a reading holds, each counted each time it is reached (what is shared counts as often as it is met; a slice's spare places count too). A statement '..UptoSaid' is the law's where the arguments, and the package variables that the reading takes, are together of bulk at most 1048576: NARROWER than '..Said'. Prove '..Said' where nothing that the law and all that it calls make is longer than what came in: it says more and counts as full. Else prove '..UptoSaid'. A law counts once. -/
mutual
def uptoBulk {H : Type} : DataW H → Nat
  | .lit (.string bytes) => bytes.length + 1
  | .lit _ => 1
  | .nil => 1
  | .ptr d => uptoBulk d + 1
  | .slice elems spare => uptoBulkAll elems + uptoBulkAll spare + 1
  | .agg parts => uptoBulkAll parts + 1
  | .iface _ d => uptoBulk d + 1
  | .map entries => uptoBulkEntries entries + 1
  | .held _ => 1
def uptoBulkAll {H : Type} : List (DataW H) → Nat
  | [] => 0
  | d :: r => uptoBulk d + uptoBulkAll r
def uptoBulkEntries {H : Type} : List (Lit × DataW H) → Nat
  | [] => 0
  | x :: r => uptoBulkEntry x + uptoBulkEntries r
def uptoBulkEntry {H : Type} : Lit × DataW H → Nat
  | (.string bytes, d) => bytes.length + uptoBulk d + 1
  | (_, d) => uptoBulk d + 1
 end
def uptoSmall : (H : Type) → List (DataW H) → Bool := fun _ ds => decide (uptoBulkAll ds ≤ 1048576)
def OpenSpec.upto (s : _root_.Go.ChangeSpec) : _root_.Go.OpenSpec := { _root_.Go.OpenSpec.ofChange s with cond := some uptoSmall }

/-- 'laws.FnReadName', WHERE WHAT IT READS IS OF BULK AT MOST 1048576: true; the input reads as it did. -/
def fnReadNameUptoRow : OpenClaim := { program := "yteemgkabhkdeaaa", sum := "4ae34152e882a6305747ad53ca467dd170363532b9596aa3028888ff488ac128", func := "loop.example/numberwords/laws.FnReadName", spec := "fnReadName", unfollowed := true, recurses := true, apart := false, narrowed := true }
def FnReadNameUptoSaid : Prop := fnReadNameUptoRow.holds Try.pinned (OpenSpec.upto fnReadNameSpec)

/-- 'laws.FnNextName', WHERE WHAT IT READS IS OF BULK AT MOST 1048576: true; the input reads as it did. -/
def fnNextNameUptoRow : OpenClaim := { program := "yteemgkabhkdeaaa", sum := "4ae34152e882a6305747ad53ca467dd170363532b9596aa3028888ff488ac128", func := "loop.example/numberwords/laws.FnNextName", spec := "fnNextName", unfollowed := true, recurses := true, apart := false, narrowed := true }
def FnNextNameUptoSaid : Prop := fnNextNameUptoRow.holds Try.pinned (OpenSpec.upto fnNextNameSpec)

/-- 'laws.FnExactReadName', WHERE WHAT IT READS IS OF BULK AT MOST 1048576: true; the input reads as it did. -/
def fnExactReadNameUptoRow : OpenClaim := { program := "yteemgkabhkdeaaa", sum := "4ae34152e882a6305747ad53ca467dd170363532b9596aa3028888ff488ac128", func := "loop.example/numberwords/laws.FnExactReadName", spec := "fnExactReadName", unfollowed := true, recurses := true, apart := false, narrowed := true }
def FnExactReadNameUptoSaid : Prop := fnExactReadNameUptoRow.holds Try.pinned (OpenSpec.upto fnExactReadNameSpec)

/-- 'laws.FnExactNamesOf', WHERE WHAT IT READS IS OF BULK AT MOST 1048576: true; the input reads as it did. -/
def fnExactNamesOfUptoRow : OpenClaim := { program := "yteemgkabhkdeaaa", sum := "4ae34152e882a6305747ad53ca467dd170363532b9596aa3028888ff488ac128", func := "loop.example/numberwords/laws.FnExactNamesOf", spec := "fnExactNamesOf", inPlace := ["internal/abi.NoEscape", "internal/bytealg.MakeNoZero"], recurses := true, apart := false, narrowed := true }
def FnExactNamesOfUptoSaid : Prop := fnExactNamesOfUptoRow.holds Try.pinned (OpenSpec.upto fnExactNamesOfSpec)

/-- 'laws.FnExactNextName', WHERE WHAT IT READS IS OF BULK AT MOST 1048576: true; the input reads as it did. -/
def fnExactNextNameUptoRow : OpenClaim := { program := "yteemgkabhkdeaaa", sum := "4ae34152e882a6305747ad53ca467dd170363532b9596aa3028888ff488ac128", func := "loop.example/numberwords/laws.FnExactNextName", spec := "fnExactNextName", unfollowed := true, recurses := true, apart := false, narrowed := true }
def FnExactNextNameUptoSaid : Prop := fnExactNextNameUptoRow.holds Try.pinned (OpenSpec.upto fnExactNextNameSpec)

end Rows
end Go.Proofs.Yteemgkabhkdeaaa
