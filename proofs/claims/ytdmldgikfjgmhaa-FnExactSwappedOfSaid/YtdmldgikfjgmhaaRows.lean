/-
  No cell of these rows narrows 'for every input' (looked for: loops, veiled, ifaces, maps, wideKeys, modest, calm, conditions, laid).
  DERIVED. THE GIVEN ROWS OF THIS SEAT. 12 by the template 'for every input the law returns true; each argument reads behind the call as it read before'; 0 by the template 'total and deterministic' (their statements: YtdmldgikfjgmhaaTotals.lean).
  GIVEN WITH THE SEED: the statements are not yours to turn. If you find one false, say at which input.
  Laid BY PROGRAM, IN A SANDBOX (cutbox-rows.mjs): the forced cells as the released guide's own fill.sh prints them over the translation 3c339821ab4d8d5b… (all of the seat's roots in one cut). By AI agents, Wed Nov 11 2026. No macro, syntax, notation, axiom, sorry.
-/
import Derived.Test.YtdmldgikfjgmhaaChecked
import GoSem.Claim
import GoSem.ClaimJoined
import GoSem.ClaimMapViews
import Derived.JoinedTies
import Derived.KernelRfl
namespace Go.Proofs.Ytdmldgikfjgmhaa
/- THE CELL 'sum', in the pinned program and in every row, IS THE sha256 OF THE DUMP (.gsa) THAT YtdmldgikfjgmhaaProg.lean LOADS. Nothing in Lean hashes anything: it is a label: what it is worth is what the hold of that sum in a sandbox is worth. -/
noncomputable def Try.pinned : Pinned := { name := "ytdmldgikfjgmhaa", sum := "3c339821ab4d8d5b301c18cedf7ec5e1d985c7f191f457ea6958013f8a434b61", checked := Try.checked }
namespace Rows
def none {H : Type} : Left H := { results := [], args := [] }

/-- 'laws.FnWordOk': WHATEVER THE INPUT: true; the input reads as it did. -/
def fnWordOkSpec : ChangeSpec := { name := "fnWordOk", fn := fun _ => fun
  | [d] => { results := [.lit (.bool true)], args := [d] }
  | _ => none }
def fnWordOkRow : OpenClaim := { program := "ytdmldgikfjgmhaa", sum := "3c339821ab4d8d5b301c18cedf7ec5e1d985c7f191f457ea6958013f8a434b61", func := "loop.example/numberwords/laws.FnWordOk", spec := "fnWordOk", apart := false }
def FnWordOkSaid : Prop := fnWordOkRow.holds Try.pinned (OpenSpec.ofChange fnWordOkSpec)

/-- ITS FALSE NEIGHBOUR: 'it returns false'. Refute it at one input. -/
def fnWordOkWrong : ChangeSpec := { name := "fnWordOk", fn := fun _ => fun
  | [d] => { results := [.lit (.bool false)], args := [d] }
  | _ => none }
def FnWordOkWrongFalsely : Prop := fnWordOkRow.holds Try.pinned (OpenSpec.ofChange fnWordOkWrong)

/-- 'laws.FnTongueOk': WHATEVER THE INPUT: true; the input reads as it did. -/
def fnTongueOkSpec : ChangeSpec := { name := "fnTongueOk", fn := fun _ => fun
  | [d] => { results := [.lit (.bool true)], args := [d] }
  | _ => none }
def fnTongueOkRow : OpenClaim := { program := "ytdmldgikfjgmhaa", sum := "3c339821ab4d8d5b301c18cedf7ec5e1d985c7f191f457ea6958013f8a434b61", func := "loop.example/numberwords/laws.FnTongueOk", spec := "fnTongueOk", apart := false }
def FnTongueOkSaid : Prop := fnTongueOkRow.holds Try.pinned (OpenSpec.ofChange fnTongueOkSpec)

/-- ITS FALSE NEIGHBOUR: 'it returns false'. Refute it at one input. -/
def fnTongueOkWrong : ChangeSpec := { name := "fnTongueOk", fn := fun _ => fun
  | [d] => { results := [.lit (.bool false)], args := [d] }
  | _ => none }
def FnTongueOkWrongFalsely : Prop := fnTongueOkRow.holds Try.pinned (OpenSpec.ofChange fnTongueOkWrong)

/-- 'laws.FnUnitOf': WHATEVER THE INPUT: true; the input reads as it did. -/
def fnUnitOfSpec : ChangeSpec := { name := "fnUnitOf", fn := fun _ => fun
  | [d] => { results := [.lit (.bool true)], args := [d] }
  | _ => none }
def fnUnitOfRow : OpenClaim := { program := "ytdmldgikfjgmhaa", sum := "3c339821ab4d8d5b301c18cedf7ec5e1d985c7f191f457ea6958013f8a434b61", func := "loop.example/numberwords/laws.FnUnitOf", spec := "fnUnitOf", apart := false }
def FnUnitOfSaid : Prop := fnUnitOfRow.holds Try.pinned (OpenSpec.ofChange fnUnitOfSpec)

/-- ITS FALSE NEIGHBOUR: 'it returns false'. Refute it at one input. -/
def fnUnitOfWrong : ChangeSpec := { name := "fnUnitOf", fn := fun _ => fun
  | [d] => { results := [.lit (.bool false)], args := [d] }
  | _ => none }
def FnUnitOfWrongFalsely : Prop := fnUnitOfRow.holds Try.pinned (OpenSpec.ofChange fnUnitOfWrong)

/-- 'laws.FnBaseOf': WHATEVER THE INPUT: true; the input reads as it did. -/
def fnBaseOfSpec : ChangeSpec := { name := "fnBaseOf", fn := fun _ => fun
  | [d] => { results := [.lit (.bool true)], args := [d] }
  | _ => none }
def fnBaseOfRow : OpenClaim := { program := "ytdmldgikfjgmhaa", sum := "3c339821ab4d8d5b301c18cedf7ec5e1d985c7f191f457ea6958013f8a434b61", func := "loop.example/numberwords/laws.FnBaseOf", spec := "fnBaseOf", apart := false }
def FnBaseOfSaid : Prop := fnBaseOfRow.holds Try.pinned (OpenSpec.ofChange fnBaseOfSpec)

/-- ITS FALSE NEIGHBOUR: 'it returns false'. Refute it at one input. -/
def fnBaseOfWrong : ChangeSpec := { name := "fnBaseOf", fn := fun _ => fun
  | [d] => { results := [.lit (.bool false)], args := [d] }
  | _ => none }
def FnBaseOfWrongFalsely : Prop := fnBaseOfRow.holds Try.pinned (OpenSpec.ofChange fnBaseOfWrong)

/-- 'laws.FnWordsOf': WHATEVER THE INPUT: true; the input reads as it did. -/
def fnWordsOfSpec : ChangeSpec := { name := "fnWordsOf", fn := fun _ => fun
  | [d] => { results := [.lit (.bool true)], args := [d] }
  | _ => none }
def fnWordsOfRow : OpenClaim := { program := "ytdmldgikfjgmhaa", sum := "3c339821ab4d8d5b301c18cedf7ec5e1d985c7f191f457ea6958013f8a434b61", func := "loop.example/numberwords/laws.FnWordsOf", spec := "fnWordsOf", apart := false }
def FnWordsOfSaid : Prop := fnWordsOfRow.holds Try.pinned (OpenSpec.ofChange fnWordsOfSpec)

/-- ITS FALSE NEIGHBOUR: 'it returns false'. Refute it at one input. -/
def fnWordsOfWrong : ChangeSpec := { name := "fnWordsOf", fn := fun _ => fun
  | [d] => { results := [.lit (.bool false)], args := [d] }
  | _ => none }
def FnWordsOfWrongFalsely : Prop := fnWordsOfRow.holds Try.pinned (OpenSpec.ofChange fnWordsOfWrong)

/-- 'laws.FnSwappedOf': WHATEVER THE INPUT: true; the input reads as it did. -/
def fnSwappedOfSpec : ChangeSpec := { name := "fnSwappedOf", fn := fun _ => fun
  | [d] => { results := [.lit (.bool true)], args := [d] }
  | _ => none }
def fnSwappedOfRow : OpenClaim := { program := "ytdmldgikfjgmhaa", sum := "3c339821ab4d8d5b301c18cedf7ec5e1d985c7f191f457ea6958013f8a434b61", func := "loop.example/numberwords/laws.FnSwappedOf", spec := "fnSwappedOf", unfollowed := true, recurses := true, apart := false }
def FnSwappedOfSaid : Prop := fnSwappedOfRow.holds Try.pinned (OpenSpec.ofChange fnSwappedOfSpec)

/-- ITS FALSE NEIGHBOUR: 'it returns false'. Refute it at one input. -/
def fnSwappedOfWrong : ChangeSpec := { name := "fnSwappedOf", fn := fun _ => fun
  | [d] => { results := [.lit (.bool false)], args := [d] }
  | _ => none }
def FnSwappedOfWrongFalsely : Prop := fnSwappedOfRow.holds Try.pinned (OpenSpec.ofChange fnSwappedOfWrong)

/-- 'laws.FnExactWordOk': WHATEVER THE INPUT: true; the input reads as it did. -/
def fnExactWordOkSpec : ChangeSpec := { name := "fnExactWordOk", fn := fun _ => fun
  | [d] => { results := [.lit (.bool true)], args := [d] }
  | _ => none }
def fnExactWordOkRow : OpenClaim := { program := "ytdmldgikfjgmhaa", sum := "3c339821ab4d8d5b301c18cedf7ec5e1d985c7f191f457ea6958013f8a434b61", func := "loop.example/numberwords/laws.FnExactWordOk", spec := "fnExactWordOk", apart := false }
def FnExactWordOkSaid : Prop := fnExactWordOkRow.holds Try.pinned (OpenSpec.ofChange fnExactWordOkSpec)

/-- ITS FALSE NEIGHBOUR: 'it returns false'. Refute it at one input. -/
def fnExactWordOkWrong : ChangeSpec := { name := "fnExactWordOk", fn := fun _ => fun
  | [d] => { results := [.lit (.bool false)], args := [d] }
  | _ => none }
def FnExactWordOkWrongFalsely : Prop := fnExactWordOkRow.holds Try.pinned (OpenSpec.ofChange fnExactWordOkWrong)

/-- 'laws.FnExactTongueOk': WHATEVER THE INPUT: true; the input reads as it did. -/
def fnExactTongueOkSpec : ChangeSpec := { name := "fnExactTongueOk", fn := fun _ => fun
  | [d] => { results := [.lit (.bool true)], args := [d] }
  | _ => none }
def fnExactTongueOkRow : OpenClaim := { program := "ytdmldgikfjgmhaa", sum := "3c339821ab4d8d5b301c18cedf7ec5e1d985c7f191f457ea6958013f8a434b61", func := "loop.example/numberwords/laws.FnExactTongueOk", spec := "fnExactTongueOk", apart := false }
def FnExactTongueOkSaid : Prop := fnExactTongueOkRow.holds Try.pinned (OpenSpec.ofChange fnExactTongueOkSpec)

/-- ITS FALSE NEIGHBOUR: 'it returns false'. Refute it at one input. -/
def fnExactTongueOkWrong : ChangeSpec := { name := "fnExactTongueOk", fn := fun _ => fun
  | [d] => { results := [.lit (.bool false)], args := [d] }
  | _ => none }
def FnExactTongueOkWrongFalsely : Prop := fnExactTongueOkRow.holds Try.pinned (OpenSpec.ofChange fnExactTongueOkWrong)

/-- 'laws.FnExactUnitOf': WHATEVER THE INPUT: true; the input reads as it did. -/
def fnExactUnitOfSpec : ChangeSpec := { name := "fnExactUnitOf", fn := fun _ => fun
  | [d1, d2] => { results := [.lit (.bool true)], args := [d1, d2] }
  | _ => none }
def fnExactUnitOfRow : OpenClaim := { program := "ytdmldgikfjgmhaa", sum := "3c339821ab4d8d5b301c18cedf7ec5e1d985c7f191f457ea6958013f8a434b61", func := "loop.example/numberwords/laws.FnExactUnitOf", spec := "fnExactUnitOf", apart := false }
def FnExactUnitOfSaid : Prop := fnExactUnitOfRow.holds Try.pinned (OpenSpec.ofChange fnExactUnitOfSpec)

/-- ITS FALSE NEIGHBOUR: 'it returns false'. Refute it at one input. -/
def fnExactUnitOfWrong : ChangeSpec := { name := "fnExactUnitOf", fn := fun _ => fun
  | [d1, d2] => { results := [.lit (.bool false)], args := [d1, d2] }
  | _ => none }
def FnExactUnitOfWrongFalsely : Prop := fnExactUnitOfRow.holds Try.pinned (OpenSpec.ofChange fnExactUnitOfWrong)

/-- 'laws.FnExactBaseOf': WHATEVER THE INPUT: true; the input reads as it did. -/
def fnExactBaseOfSpec : ChangeSpec := { name := "fnExactBaseOf", fn := fun _ => fun
  | [d1, d2] => { results := [.lit (.bool true)], args := [d1, d2] }
  | _ => none }
def fnExactBaseOfRow : OpenClaim := { program := "ytdmldgikfjgmhaa", sum := "3c339821ab4d8d5b301c18cedf7ec5e1d985c7f191f457ea6958013f8a434b61", func := "loop.example/numberwords/laws.FnExactBaseOf", spec := "fnExactBaseOf", apart := false }
def FnExactBaseOfSaid : Prop := fnExactBaseOfRow.holds Try.pinned (OpenSpec.ofChange fnExactBaseOfSpec)

/-- ITS FALSE NEIGHBOUR: 'it returns false'. Refute it at one input. -/
def fnExactBaseOfWrong : ChangeSpec := { name := "fnExactBaseOf", fn := fun _ => fun
  | [d1, d2] => { results := [.lit (.bool false)], args := [d1, d2] }
  | _ => none }
def FnExactBaseOfWrongFalsely : Prop := fnExactBaseOfRow.holds Try.pinned (OpenSpec.ofChange fnExactBaseOfWrong)

/-- 'laws.FnExactWordsOf': WHATEVER THE INPUT: true; the input reads as it did. -/
def fnExactWordsOfSpec : ChangeSpec := { name := "fnExactWordsOf", fn := fun _ => fun
  | [d] => { results := [.lit (.bool true)], args := [d] }
  | _ => none }
def fnExactWordsOfRow : OpenClaim := { program := "ytdmldgikfjgmhaa", sum := "3c339821ab4d8d5b301c18cedf7ec5e1d985c7f191f457ea6958013f8a434b61", func := "loop.example/numberwords/laws.FnExactWordsOf", spec := "fnExactWordsOf", apart := false }
def FnExactWordsOfSaid : Prop := fnExactWordsOfRow.holds Try.pinned (OpenSpec.ofChange fnExactWordsOfSpec)

/-- ITS FALSE NEIGHBOUR: 'it returns false'. Refute it at one input. -/
def fnExactWordsOfWrong : ChangeSpec := { name := "fnExactWordsOf", fn := fun _ => fun
  | [d] => { results := [.lit (.bool false)], args := [d] }
  | _ => none }
def FnExactWordsOfWrongFalsely : Prop := fnExactWordsOfRow.holds Try.pinned (OpenSpec.ofChange fnExactWordsOfWrong)

/-- 'laws.FnExactSwappedOf': WHATEVER THE INPUT: true; the input reads as it did. -/
def fnExactSwappedOfSpec : ChangeSpec := { name := "fnExactSwappedOf", fn := fun _ => fun
  | [d1, d2, d3] => { results := [.lit (.bool true)], args := [d1, d2, d3] }
  | _ => none }
def fnExactSwappedOfRow : OpenClaim := { program := "ytdmldgikfjgmhaa", sum := "3c339821ab4d8d5b301c18cedf7ec5e1d985c7f191f457ea6958013f8a434b61", func := "loop.example/numberwords/laws.FnExactSwappedOf", spec := "fnExactSwappedOf", unfollowed := true, recurses := true, apart := false }
def FnExactSwappedOfSaid : Prop := fnExactSwappedOfRow.holds Try.pinned (OpenSpec.ofChange fnExactSwappedOfSpec)

/-- ITS FALSE NEIGHBOUR: 'it returns false'. Refute it at one input. -/
def fnExactSwappedOfWrong : ChangeSpec := { name := "fnExactSwappedOf", fn := fun _ => fun
  | [d1, d2, d3] => { results := [.lit (.bool false)], args := [d1, d2, d3] }
  | _ => none }
def FnExactSwappedOfWrongFalsely : Prop := fnExactSwappedOfRow.holds Try.pinned (OpenSpec.ofChange fnExactSwappedOfWrong)

/- THE SECOND FORM. 'bulk': how many values and letters a reading holds, each counted each time it is reached (what is shared counts as often as it is met; a slice's spare places count too). A statement '..UptoSaid' is the law's where the arguments, and the package variables that the reading takes, are together of bulk at most 1048576: NARROWER than '..Said'. Prove '..Said' where nothing that the law and all that it calls make is longer than what came in: it says more and counts as full. Else prove '..UptoSaid'. A law counts once. -/
mutual
def uptoBulk {H : Type} : DataW H → Nat
  | .lit (.string bytes) => bytes.length + 1
  | .lit _ => 1
  | .nil => 1
  | .ptr d => uptoBulk d + 1
  | .slice elems spare => uptoBulkAll elems + uptoBulkAll spare + 1
  | .agg parts => uptoBulkAll parts + 1
  | .iface _ d => uptoBulk d + 1
  | .map entries => uptoBulkEntries entries + 1
  | .held _ => 1
def uptoBulkAll {H : Type} : List (DataW H) → Nat
  | [] => 0
  | d :: r => uptoBulk d + uptoBulkAll r
def uptoBulkEntries {H : Type} : List (Lit × DataW H) → Nat
  | [] => 0
  | x :: r => uptoBulkEntry x + uptoBulkEntries r
def uptoBulkEntry {H : Type} : Lit × DataW H → Nat
  | (.string bytes, d) => bytes.length + uptoBulk d + 1
  | (_, d) => uptoBulk d + 1
 end
def uptoSmall : (H : Type) → List (DataW H) → Bool := fun _ ds => decide (uptoBulkAll ds ≤ 1048576)
def OpenSpec.upto (s : _root_.Go.ChangeSpec) : _root_.Go.OpenSpec := { _root_.Go.OpenSpec.ofChange s with cond := some uptoSmall }

/-- 'laws.FnWordOk', WHERE WHAT IT READS IS OF BULK AT MOST 1048576: true; the input reads as it did. -/
def fnWordOkUptoRow : OpenClaim := { program := "ytdmldgikfjgmhaa", sum := "3c339821ab4d8d5b301c18cedf7ec5e1d985c7f191f457ea6958013f8a434b61", func := "loop.example/numberwords/laws.FnWordOk", spec := "fnWordOk", apart := false, narrowed := true }
def FnWordOkUptoSaid : Prop := fnWordOkUptoRow.holds Try.pinned (OpenSpec.upto fnWordOkSpec)

/-- 'laws.FnTongueOk', WHERE WHAT IT READS IS OF BULK AT MOST 1048576: true; the input reads as it did. -/
def fnTongueOkUptoRow : OpenClaim := { program := "ytdmldgikfjgmhaa", sum := "3c339821ab4d8d5b301c18cedf7ec5e1d985c7f191f457ea6958013f8a434b61", func := "loop.example/numberwords/laws.FnTongueOk", spec := "fnTongueOk", apart := false, narrowed := true }
def FnTongueOkUptoSaid : Prop := fnTongueOkUptoRow.holds Try.pinned (OpenSpec.upto fnTongueOkSpec)

/-- 'laws.FnUnitOf', WHERE WHAT IT READS IS OF BULK AT MOST 1048576: true; the input reads as it did. -/
def fnUnitOfUptoRow : OpenClaim := { program := "ytdmldgikfjgmhaa", sum := "3c339821ab4d8d5b301c18cedf7ec5e1d985c7f191f457ea6958013f8a434b61", func := "loop.example/numberwords/laws.FnUnitOf", spec := "fnUnitOf", apart := false, narrowed := true }
def FnUnitOfUptoSaid : Prop := fnUnitOfUptoRow.holds Try.pinned (OpenSpec.upto fnUnitOfSpec)

/-- 'laws.FnBaseOf', WHERE WHAT IT READS IS OF BULK AT MOST 1048576: true; the input reads as it did. -/
def fnBaseOfUptoRow : OpenClaim := { program := "ytdmldgikfjgmhaa", sum := "3c339821ab4d8d5b301c18cedf7ec5e1d985c7f191f457ea6958013f8a434b61", func := "loop.example/numberwords/laws.FnBaseOf", spec := "fnBaseOf", apart := false, narrowed := true }
def FnBaseOfUptoSaid : Prop := fnBaseOfUptoRow.holds Try.pinned (OpenSpec.upto fnBaseOfSpec)

/-- 'laws.FnWordsOf', WHERE WHAT IT READS IS OF BULK AT MOST 1048576: true; the input reads as it did. -/
def fnWordsOfUptoRow : OpenClaim := { program := "ytdmldgikfjgmhaa", sum := "3c339821ab4d8d5b301c18cedf7ec5e1d985c7f191f457ea6958013f8a434b61", func := "loop.example/numberwords/laws.FnWordsOf", spec := "fnWordsOf", apart := false, narrowed := true }
def FnWordsOfUptoSaid : Prop := fnWordsOfUptoRow.holds Try.pinned (OpenSpec.upto fnWordsOfSpec)

/-- 'laws.FnSwappedOf', WHERE WHAT IT READS IS OF BULK AT MOST 1048576: true; the input reads as it did. -/
def fnSwappedOfUptoRow : OpenClaim := { program := "ytdmldgikfjgmhaa", sum := "3c339821ab4d8d5b301c18cedf7ec5e1d985c7f191f457ea6958013f8a434b61", func := "loop.example/numberwords/laws.FnSwappedOf", spec := "fnSwappedOf", unfollowed := true, recurses := true, apart := false, narrowed := true }
def FnSwappedOfUptoSaid : Prop := fnSwappedOfUptoRow.holds Try.pinned (OpenSpec.upto fnSwappedOfSpec)

/-- 'laws.FnExactWordOk', WHERE WHAT IT READS IS OF BULK AT MOST 1048576: true; the input reads as it did. -/
def fnExactWordOkUptoRow : OpenClaim := { program := "ytdmldgikfjgmhaa", sum := "3c339821ab4d8d5b301c18cedf7ec5e1d985c7f191f457ea6958013f8a434b61", func := "loop.example/numberwords/laws.FnExactWordOk", spec := "fnExactWordOk", apart := false, narrowed := true }
def FnExactWordOkUptoSaid : Prop := fnExactWordOkUptoRow.holds Try.pinned (OpenSpec.upto fnExactWordOkSpec)

/-- 'laws.FnExactTongueOk', WHERE WHAT IT READS IS OF BULK AT MOST 1048576: true; the input reads as it did. -/
def fnExactTongueOkUptoRow : OpenClaim := { program := "ytdmldgikfjgmhaa", sum := "3c339821ab4d8d5b301c18cedf7ec5e1d985c7f191f457ea6958013f8a434b61", func := "loop.example/numberwords/laws.FnExactTongueOk", spec := "fnExactTongueOk", apart := false, narrowed := true }
def FnExactTongueOkUptoSaid : Prop := fnExactTongueOkUptoRow.holds Try.pinned (OpenSpec.upto fnExactTongueOkSpec)

/-- 'laws.FnExactUnitOf', WHERE WHAT IT READS IS OF BULK AT MOST 1048576: true; the input reads as it did. -/
def fnExactUnitOfUptoRow : OpenClaim := { program := "ytdmldgikfjgmhaa", sum := "3c339821ab4d8d5b301c18cedf7ec5e1d985c7f191f457ea6958013f8a434b61", func := "loop.example/numberwords/laws.FnExactUnitOf", spec := "fnExactUnitOf", apart := false, narrowed := true }
def FnExactUnitOfUptoSaid : Prop := fnExactUnitOfUptoRow.holds Try.pinned (OpenSpec.upto fnExactUnitOfSpec)

/-- 'laws.FnExactBaseOf', WHERE WHAT IT READS IS OF BULK AT MOST 1048576: true; the input reads as it did. -/
def fnExactBaseOfUptoRow : OpenClaim := { program := "ytdmldgikfjgmhaa", sum := "3c339821ab4d8d5b301c18cedf7ec5e1d985c7f191f457ea6958013f8a434b61", func := "loop.example/numberwords/laws.FnExactBaseOf", spec := "fnExactBaseOf", apart := false, narrowed := true }
def FnExactBaseOfUptoSaid : Prop := fnExactBaseOfUptoRow.holds Try.pinned (OpenSpec.upto fnExactBaseOfSpec)

/-- 'laws.FnExactWordsOf', WHERE WHAT IT READS IS OF BULK AT MOST 1048576: true; the input reads as it did. -/
def fnExactWordsOfUptoRow : OpenClaim := { program := "ytdmldgikfjgmhaa", sum := "3c339821ab4d8d5b301c18cedf7ec5e1d985c7f191f457ea6958013f8a434b61", func := "loop.example/numberwords/laws.FnExactWordsOf", spec := "fnExactWordsOf", apart := false, narrowed := true }
def FnExactWordsOfUptoSaid : Prop := fnExactWordsOfUptoRow.holds Try.pinned (OpenSpec.upto fnExactWordsOfSpec)

/-- 'laws.FnExactSwappedOf', WHERE WHAT IT READS IS OF BULK AT MOST 1048576: true; the input reads as it did. -/
def fnExactSwappedOfUptoRow : OpenClaim := { program := "ytdmldgikfjgmhaa", sum := "3c339821ab4d8d5b301c18cedf7ec5e1d985c7f191f457ea6958013f8a434b61", func := "loop.example/numberwords/laws.FnExactSwappedOf", spec := "fnExactSwappedOf", unfollowed := true, recurses := true, apart := false, narrowed := true }
def FnExactSwappedOfUptoSaid : Prop := fnExactSwappedOfUptoRow.holds Try.pinned (OpenSpec.upto fnExactSwappedOfSpec)

end Rows
end Go.Proofs.Ytdmldgikfjgmhaa
