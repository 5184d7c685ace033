/-
  No cell of these rows narrows 'for every input' (looked for: loops, veiled, ifaces, maps, wideKeys, modest, calm, conditions, laid).
  DERIVED. THE GIVEN ROWS OF THIS SEAT. 6 by the template 'for every input the law returns true; each argument reads behind the call as it read before'; 0 by the template 'total and deterministic' (their statements: YtbckckicffjccaaTotals.lean).
  GIVEN WITH THE SEED: the statements are not yours to turn. If you find one false, say at which input.
  Laid BY PROGRAM, IN A SANDBOX (cutbox-rows.mjs): the forced cells as the released guide's own fill.sh prints them over the translation 43404a767a6c527c… (all of the seat's roots in one cut). By AI agents, Wed Nov 11 2026. No macro, syntax, notation, axiom, sorry.
-/
import Derived.Test.YtbckckicffjccaaChecked
import GoSem.Claim
import GoSem.ClaimJoined
import GoSem.ClaimMapViews
import Derived.JoinedTies
import Derived.KernelRfl
namespace Go.Proofs.Ytbckckicffjccaa
/- THE CELL 'sum', in the pinned program and in every row, IS THE sha256 OF THE DUMP (.gsa) THAT YtbckckicffjccaaProg.lean LOADS. Nothing in Lean hashes anything: it is a label: what it is worth is what the hold of that sum in a sandbox is worth. -/
noncomputable def Try.pinned : Pinned := { name := "ytbckckicffjccaa", sum := "43404a767a6c527c4c50244f6693bbd26da89408bb36b9de05a1ad4b92967bad", checked := Try.checked }
namespace Rows
def none {H : Type} : Left H := { results := [], args := [] }

/-- 'laws.FnTurnedName': WHATEVER THE INPUT: true; the input reads as it did. -/
def fnTurnedNameSpec : ChangeSpec := { name := "fnTurnedName", fn := fun _ => fun
  | [d] => { results := [.lit (.bool true)], args := [d] }
  | _ => none }
def fnTurnedNameRow : OpenClaim := { program := "ytbckckicffjccaa", sum := "43404a767a6c527c4c50244f6693bbd26da89408bb36b9de05a1ad4b92967bad", func := "loop.example/numberwords/laws.FnTurnedName", spec := "fnTurnedName", unfollowed := true, recurses := true, apart := false }
def FnTurnedNameSaid : Prop := fnTurnedNameRow.holds Try.pinned (OpenSpec.ofChange fnTurnedNameSpec)

/-- ITS FALSE NEIGHBOUR: 'it returns false'. Refute it at one input. -/
def fnTurnedNameWrong : ChangeSpec := { name := "fnTurnedName", fn := fun _ => fun
  | [d] => { results := [.lit (.bool false)], args := [d] }
  | _ => none }
def FnTurnedNameWrongFalsely : Prop := fnTurnedNameRow.holds Try.pinned (OpenSpec.ofChange fnTurnedNameWrong)

/-- 'laws.FnReadTurned': WHATEVER THE INPUT: true; the input reads as it did. -/
def fnReadTurnedSpec : ChangeSpec := { name := "fnReadTurned", fn := fun _ => fun
  | [d] => { results := [.lit (.bool true)], args := [d] }
  | _ => none }
def fnReadTurnedRow : OpenClaim := { program := "ytbckckicffjccaa", sum := "43404a767a6c527c4c50244f6693bbd26da89408bb36b9de05a1ad4b92967bad", func := "loop.example/numberwords/laws.FnReadTurned", spec := "fnReadTurned", unfollowed := true, recurses := true, apart := false }
def FnReadTurnedSaid : Prop := fnReadTurnedRow.holds Try.pinned (OpenSpec.ofChange fnReadTurnedSpec)

/-- ITS FALSE NEIGHBOUR: 'it returns false'. Refute it at one input. -/
def fnReadTurnedWrong : ChangeSpec := { name := "fnReadTurned", fn := fun _ => fun
  | [d] => { results := [.lit (.bool false)], args := [d] }
  | _ => none }
def FnReadTurnedWrongFalsely : Prop := fnReadTurnedRow.holds Try.pinned (OpenSpec.ofChange fnReadTurnedWrong)

/-- 'laws.FnIsTurned': WHATEVER THE INPUT: true; the input reads as it did. -/
def fnIsTurnedSpec : ChangeSpec := { name := "fnIsTurned", fn := fun _ => fun
  | [d] => { results := [.lit (.bool true)], args := [d] }
  | _ => none }
def fnIsTurnedRow : OpenClaim := { program := "ytbckckicffjccaa", sum := "43404a767a6c527c4c50244f6693bbd26da89408bb36b9de05a1ad4b92967bad", func := "loop.example/numberwords/laws.FnIsTurned", spec := "fnIsTurned", unfollowed := true, recurses := true, apart := false }
def FnIsTurnedSaid : Prop := fnIsTurnedRow.holds Try.pinned (OpenSpec.ofChange fnIsTurnedSpec)

/-- ITS FALSE NEIGHBOUR: 'it returns false'. Refute it at one input. -/
def fnIsTurnedWrong : ChangeSpec := { name := "fnIsTurned", fn := fun _ => fun
  | [d] => { results := [.lit (.bool false)], args := [d] }
  | _ => none }
def FnIsTurnedWrongFalsely : Prop := fnIsTurnedRow.holds Try.pinned (OpenSpec.ofChange fnIsTurnedWrong)

/-- 'laws.FnExactTurnedName': WHATEVER THE INPUT: true; the input reads as it did. -/
def fnExactTurnedNameSpec : ChangeSpec := { name := "fnExactTurnedName", fn := fun _ => fun
  | [d1, d2, d3] => { results := [.lit (.bool true)], args := [d1, d2, d3] }
  | _ => none }
def fnExactTurnedNameRow : OpenClaim := { program := "ytbckckicffjccaa", sum := "43404a767a6c527c4c50244f6693bbd26da89408bb36b9de05a1ad4b92967bad", func := "loop.example/numberwords/laws.FnExactTurnedName", spec := "fnExactTurnedName", unfollowed := true, recurses := true, apart := false }
def FnExactTurnedNameSaid : Prop := fnExactTurnedNameRow.holds Try.pinned (OpenSpec.ofChange fnExactTurnedNameSpec)

/-- ITS FALSE NEIGHBOUR: 'it returns false'. Refute it at one input. -/
def fnExactTurnedNameWrong : ChangeSpec := { name := "fnExactTurnedName", fn := fun _ => fun
  | [d1, d2, d3] => { results := [.lit (.bool false)], args := [d1, d2, d3] }
  | _ => none }
def FnExactTurnedNameWrongFalsely : Prop := fnExactTurnedNameRow.holds Try.pinned (OpenSpec.ofChange fnExactTurnedNameWrong)

/-- 'laws.FnExactReadTurned': WHATEVER THE INPUT: true; the input reads as it did. -/
def fnExactReadTurnedSpec : ChangeSpec := { name := "fnExactReadTurned", fn := fun _ => fun
  | [d1, d2, d3] => { results := [.lit (.bool true)], args := [d1, d2, d3] }
  | _ => none }
def fnExactReadTurnedRow : OpenClaim := { program := "ytbckckicffjccaa", sum := "43404a767a6c527c4c50244f6693bbd26da89408bb36b9de05a1ad4b92967bad", func := "loop.example/numberwords/laws.FnExactReadTurned", spec := "fnExactReadTurned", unfollowed := true, recurses := true, apart := false }
def FnExactReadTurnedSaid : Prop := fnExactReadTurnedRow.holds Try.pinned (OpenSpec.ofChange fnExactReadTurnedSpec)

/-- ITS FALSE NEIGHBOUR: 'it returns false'. Refute it at one input. -/
def fnExactReadTurnedWrong : ChangeSpec := { name := "fnExactReadTurned", fn := fun _ => fun
  | [d1, d2, d3] => { results := [.lit (.bool false)], args := [d1, d2, d3] }
  | _ => none }
def FnExactReadTurnedWrongFalsely : Prop := fnExactReadTurnedRow.holds Try.pinned (OpenSpec.ofChange fnExactReadTurnedWrong)

/-- 'laws.FnExactIsTurned': WHATEVER THE INPUT: true; the input reads as it did. -/
def fnExactIsTurnedSpec : ChangeSpec := { name := "fnExactIsTurned", fn := fun _ => fun
  | [d1, d2, d3] => { results := [.lit (.bool true)], args := [d1, d2, d3] }
  | _ => none }
def fnExactIsTurnedRow : OpenClaim := { program := "ytbckckicffjccaa", sum := "43404a767a6c527c4c50244f6693bbd26da89408bb36b9de05a1ad4b92967bad", func := "loop.example/numberwords/laws.FnExactIsTurned", spec := "fnExactIsTurned", unfollowed := true, recurses := true, apart := false }
def FnExactIsTurnedSaid : Prop := fnExactIsTurnedRow.holds Try.pinned (OpenSpec.ofChange fnExactIsTurnedSpec)

/-- ITS FALSE NEIGHBOUR: 'it returns false'. Refute it at one input. -/
def fnExactIsTurnedWrong : ChangeSpec := { name := "fnExactIsTurned", fn := fun _ => fun
  | [d1, d2, d3] => { results := [.lit (.bool false)], args := [d1, d2, d3] }
  | _ => none }
def FnExactIsTurnedWrongFalsely : Prop := fnExactIsTurnedRow.holds Try.pinned (OpenSpec.ofChange fnExactIsTurnedWrong)

/- THE SECOND FORM. 'bulk': how many values and letters a reading holds, each counted each time it is reached (what is shared counts as often as it is met; a slice's spare places count too). A statement '..UptoSaid' is the law's where the arguments, and the package variables that the reading takes, are together of bulk at most 1048576: NARROWER than '..Said'. Prove '..Said' where nothing that the law and all that it calls make is longer than what came in: it says more and counts as full. Else prove '..UptoSaid'. A law counts once. -/
mutual
def uptoBulk {H : Type} : DataW H → Nat
  | .lit (.string bytes) => bytes.length + 1
  | .lit _ => 1
  | .nil => 1
  | .ptr d => uptoBulk d + 1
  | .slice elems spare => uptoBulkAll elems + uptoBulkAll spare + 1
  | .agg parts => uptoBulkAll parts + 1
  | .iface _ d => uptoBulk d + 1
  | .map entries => uptoBulkEntries entries + 1
  | .held _ => 1
def uptoBulkAll {H : Type} : List (DataW H) → Nat
  | [] => 0
  | d :: r => uptoBulk d + uptoBulkAll r
def uptoBulkEntries {H : Type} : List (Lit × DataW H) → Nat
  | [] => 0
  | x :: r => uptoBulkEntry x + uptoBulkEntries r
def uptoBulkEntry {H : Type} : Lit × DataW H → Nat
  | (.string bytes, d) => bytes.length + uptoBulk d + 1
  | (_, d) => uptoBulk d + 1
 end
def uptoSmall : (H : Type) → List (DataW H) → Bool := fun _ ds => decide (uptoBulkAll ds ≤ 1048576)
def OpenSpec.upto (s : _root_.Go.ChangeSpec) : _root_.Go.OpenSpec := { _root_.Go.OpenSpec.ofChange s with cond := some uptoSmall }

/-- 'laws.FnTurnedName', WHERE WHAT IT READS IS OF BULK AT MOST 1048576: true; the input reads as it did. -/
def fnTurnedNameUptoRow : OpenClaim := { program := "ytbckckicffjccaa", sum := "43404a767a6c527c4c50244f6693bbd26da89408bb36b9de05a1ad4b92967bad", func := "loop.example/numberwords/laws.FnTurnedName", spec := "fnTurnedName", unfollowed := true, recurses := true, apart := false, narrowed := true }
def FnTurnedNameUptoSaid : Prop := fnTurnedNameUptoRow.holds Try.pinned (OpenSpec.upto fnTurnedNameSpec)

/-- 'laws.FnReadTurned', WHERE WHAT IT READS IS OF BULK AT MOST 1048576: true; the input reads as it did. -/
def fnReadTurnedUptoRow : OpenClaim := { program := "ytbckckicffjccaa", sum := "43404a767a6c527c4c50244f6693bbd26da89408bb36b9de05a1ad4b92967bad", func := "loop.example/numberwords/laws.FnReadTurned", spec := "fnReadTurned", unfollowed := true, recurses := true, apart := false, narrowed := true }
def FnReadTurnedUptoSaid : Prop := fnReadTurnedUptoRow.holds Try.pinned (OpenSpec.upto fnReadTurnedSpec)

/-- 'laws.FnIsTurned', WHERE WHAT IT READS IS OF BULK AT MOST 1048576: true; the input reads as it did. -/
def fnIsTurnedUptoRow : OpenClaim := { program := "ytbckckicffjccaa", sum := "43404a767a6c527c4c50244f6693bbd26da89408bb36b9de05a1ad4b92967bad", func := "loop.example/numberwords/laws.FnIsTurned", spec := "fnIsTurned", unfollowed := true, recurses := true, apart := false, narrowed := true }
def FnIsTurnedUptoSaid : Prop := fnIsTurnedUptoRow.holds Try.pinned (OpenSpec.upto fnIsTurnedSpec)

/-- 'laws.FnExactTurnedName', WHERE WHAT IT READS IS OF BULK AT MOST 1048576: true; the input reads as it did. -/
def fnExactTurnedNameUptoRow : OpenClaim := { program := "ytbckckicffjccaa", sum := "43404a767a6c527c4c50244f6693bbd26da89408bb36b9de05a1ad4b92967bad", func := "loop.example/numberwords/laws.FnExactTurnedName", spec := "fnExactTurnedName", unfollowed := true, recurses := true, apart := false, narrowed := true }
def FnExactTurnedNameUptoSaid : Prop := fnExactTurnedNameUptoRow.holds Try.pinned (OpenSpec.upto fnExactTurnedNameSpec)

/-- 'laws.FnExactReadTurned', WHERE WHAT IT READS IS OF BULK AT MOST 1048576: true; the input reads as it did. -/
def fnExactReadTurnedUptoRow : OpenClaim := { program := "ytbckckicffjccaa", sum := "43404a767a6c527c4c50244f6693bbd26da89408bb36b9de05a1ad4b92967bad", func := "loop.example/numberwords/laws.FnExactReadTurned", spec := "fnExactReadTurned", unfollowed := true, recurses := true, apart := false, narrowed := true }
def FnExactReadTurnedUptoSaid : Prop := fnExactReadTurnedUptoRow.holds Try.pinned (OpenSpec.upto fnExactReadTurnedSpec)

/-- 'laws.FnExactIsTurned', WHERE WHAT IT READS IS OF BULK AT MOST 1048576: true; the input reads as it did. -/
def fnExactIsTurnedUptoRow : OpenClaim := { program := "ytbckckicffjccaa", sum := "43404a767a6c527c4c50244f6693bbd26da89408bb36b9de05a1ad4b92967bad", func := "loop.example/numberwords/laws.FnExactIsTurned", spec := "fnExactIsTurned", unfollowed := true, recurses := true, apart := false, narrowed := true }
def FnExactIsTurnedUptoSaid : Prop := fnExactIsTurnedUptoRow.holds Try.pinned (OpenSpec.upto fnExactIsTurnedSpec)

end Rows
end Go.Proofs.Ytbckckicffjccaa
