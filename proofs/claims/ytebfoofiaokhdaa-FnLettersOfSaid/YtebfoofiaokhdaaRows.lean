/-
  No cell of these rows narrows 'for every input' (looked for: loops, veiled, ifaces, maps, wideKeys, modest, calm, conditions, laid).
  DERIVED. THE GIVEN ROWS OF THIS SEAT. 13 by the template 'for every input the law returns true; each argument reads behind the call as it read before'; 0 by the template 'total and deterministic' (their statements: YtebfoofiaokhdaaTotals.lean).
  GIVEN WITH THE SEED: the statements are not yours to turn. If you find one false, say at which input.
  Laid BY PROGRAM, IN A SANDBOX (cutbox-rows.mjs): the forced cells as the released guide's own fill.sh prints them over the translation 684db97d1a2b4734… (all of the seat's roots in one cut). By AI agents, Wed Nov 11 2026. No macro, syntax, notation, axiom, sorry.
-/
import Derived.Test.YtebfoofiaokhdaaChecked
import GoSem.Claim
import GoSem.ClaimJoined
import GoSem.ClaimMapViews
import Derived.JoinedTies
import Derived.KernelRfl
namespace Go.Proofs.Ytebfoofiaokhdaa
/- THE CELL 'sum', in the pinned program and in every row, IS THE sha256 OF THE DUMP (.gsa) THAT YtebfoofiaokhdaaProg.lean LOADS. Nothing in Lean hashes anything: it is a label: what it is worth is what the hold of that sum in a sandbox is worth. -/
noncomputable def Try.pinned : Pinned := { name := "ytebfoofiaokhdaa", sum := "684db97d1a2b47349e93a9a7a4c6c3f66fcb6ad9b859c6e44bc96c056cdee4ac", checked := Try.checked }
namespace Rows
def none {H : Type} : Left H := { results := [], args := [] }

/-- 'laws.FnLeastOf': WHATEVER THE INPUT: true; the input reads as it did. -/
def fnLeastOfSpec : ChangeSpec := { name := "fnLeastOf", fn := fun _ => fun
  | [d] => { results := [.lit (.bool true)], args := [d] }
  | _ => none }
def fnLeastOfRow : OpenClaim := { program := "ytebfoofiaokhdaa", sum := "684db97d1a2b47349e93a9a7a4c6c3f66fcb6ad9b859c6e44bc96c056cdee4ac", func := "loop.example/numberwords/laws.FnLeastOf", spec := "fnLeastOf", unfollowed := true, recurses := true, apart := false }
def FnLeastOfSaid : Prop := fnLeastOfRow.holds Try.pinned (OpenSpec.ofChange fnLeastOfSpec)

/-- ITS FALSE NEIGHBOUR: 'it returns false'. Refute it at one input. -/
def fnLeastOfWrong : ChangeSpec := { name := "fnLeastOf", fn := fun _ => fun
  | [d] => { results := [.lit (.bool false)], args := [d] }
  | _ => none }
def FnLeastOfWrongFalsely : Prop := fnLeastOfRow.holds Try.pinned (OpenSpec.ofChange fnLeastOfWrong)

/-- 'laws.FnCountOf': WHATEVER THE INPUT: true; the input reads as it did. -/
def fnCountOfSpec : ChangeSpec := { name := "fnCountOf", fn := fun _ => fun
  | [d] => { results := [.lit (.bool true)], args := [d] }
  | _ => none }
def fnCountOfRow : OpenClaim := { program := "ytebfoofiaokhdaa", sum := "684db97d1a2b47349e93a9a7a4c6c3f66fcb6ad9b859c6e44bc96c056cdee4ac", func := "loop.example/numberwords/laws.FnCountOf", spec := "fnCountOf", unfollowed := true, recurses := true, apart := false }
def FnCountOfSaid : Prop := fnCountOfRow.holds Try.pinned (OpenSpec.ofChange fnCountOfSpec)

/-- ITS FALSE NEIGHBOUR: 'it returns false'. Refute it at one input. -/
def fnCountOfWrong : ChangeSpec := { name := "fnCountOf", fn := fun _ => fun
  | [d] => { results := [.lit (.bool false)], args := [d] }
  | _ => none }
def FnCountOfWrongFalsely : Prop := fnCountOfRow.holds Try.pinned (OpenSpec.ofChange fnCountOfWrong)

/-- 'laws.FnMostWords': WHATEVER THE INPUT: true; the input reads as it did. -/
def fnMostWordsSpec : ChangeSpec := { name := "fnMostWords", fn := fun _ => fun
  | [d] => { results := [.lit (.bool true)], args := [d] }
  | _ => none }
def fnMostWordsRow : OpenClaim := { program := "ytebfoofiaokhdaa", sum := "684db97d1a2b47349e93a9a7a4c6c3f66fcb6ad9b859c6e44bc96c056cdee4ac", func := "loop.example/numberwords/laws.FnMostWords", spec := "fnMostWords", unfollowed := true, recurses := true, apart := false }
def FnMostWordsSaid : Prop := fnMostWordsRow.holds Try.pinned (OpenSpec.ofChange fnMostWordsSpec)

/-- ITS FALSE NEIGHBOUR: 'it returns false'. Refute it at one input. -/
def fnMostWordsWrong : ChangeSpec := { name := "fnMostWords", fn := fun _ => fun
  | [d] => { results := [.lit (.bool false)], args := [d] }
  | _ => none }
def FnMostWordsWrongFalsely : Prop := fnMostWordsRow.holds Try.pinned (OpenSpec.ofChange fnMostWordsWrong)

/-- 'laws.FnAllWords': WHATEVER THE INPUT: true; the input reads as it did. -/
def fnAllWordsSpec : ChangeSpec := { name := "fnAllWords", fn := fun _ => fun
  | [d] => { results := [.lit (.bool true)], args := [d] }
  | _ => none }
def fnAllWordsRow : OpenClaim := { program := "ytebfoofiaokhdaa", sum := "684db97d1a2b47349e93a9a7a4c6c3f66fcb6ad9b859c6e44bc96c056cdee4ac", func := "loop.example/numberwords/laws.FnAllWords", spec := "fnAllWords", unfollowed := true, recurses := true, apart := false }
def FnAllWordsSaid : Prop := fnAllWordsRow.holds Try.pinned (OpenSpec.ofChange fnAllWordsSpec)

/-- ITS FALSE NEIGHBOUR: 'it returns false'. Refute it at one input. -/
def fnAllWordsWrong : ChangeSpec := { name := "fnAllWords", fn := fun _ => fun
  | [d] => { results := [.lit (.bool false)], args := [d] }
  | _ => none }
def FnAllWordsWrongFalsely : Prop := fnAllWordsRow.holds Try.pinned (OpenSpec.ofChange fnAllWordsWrong)

/-- 'laws.FnExactLeastOf': WHATEVER THE INPUT: true; the input reads as it did. -/
def fnExactLeastOfSpec : ChangeSpec := { name := "fnExactLeastOf", fn := fun _ => fun
  | [d1, d2] => { results := [.lit (.bool true)], args := [d1, d2] }
  | _ => none }
def fnExactLeastOfRow : OpenClaim := { program := "ytebfoofiaokhdaa", sum := "684db97d1a2b47349e93a9a7a4c6c3f66fcb6ad9b859c6e44bc96c056cdee4ac", func := "loop.example/numberwords/laws.FnExactLeastOf", spec := "fnExactLeastOf", unfollowed := true, recurses := true, apart := false }
def FnExactLeastOfSaid : Prop := fnExactLeastOfRow.holds Try.pinned (OpenSpec.ofChange fnExactLeastOfSpec)

/-- ITS FALSE NEIGHBOUR: 'it returns false'. Refute it at one input. -/
def fnExactLeastOfWrong : ChangeSpec := { name := "fnExactLeastOf", fn := fun _ => fun
  | [d1, d2] => { results := [.lit (.bool false)], args := [d1, d2] }
  | _ => none }
def FnExactLeastOfWrongFalsely : Prop := fnExactLeastOfRow.holds Try.pinned (OpenSpec.ofChange fnExactLeastOfWrong)

/-- 'laws.FnExactCountOf': WHATEVER THE INPUT: true; the input reads as it did. -/
def fnExactCountOfSpec : ChangeSpec := { name := "fnExactCountOf", fn := fun _ => fun
  | [d1, d2, d3] => { results := [.lit (.bool true)], args := [d1, d2, d3] }
  | _ => none }
def fnExactCountOfRow : OpenClaim := { program := "ytebfoofiaokhdaa", sum := "684db97d1a2b47349e93a9a7a4c6c3f66fcb6ad9b859c6e44bc96c056cdee4ac", func := "loop.example/numberwords/laws.FnExactCountOf", spec := "fnExactCountOf", unfollowed := true, recurses := true, apart := false }
def FnExactCountOfSaid : Prop := fnExactCountOfRow.holds Try.pinned (OpenSpec.ofChange fnExactCountOfSpec)

/-- ITS FALSE NEIGHBOUR: 'it returns false'. Refute it at one input. -/
def fnExactCountOfWrong : ChangeSpec := { name := "fnExactCountOf", fn := fun _ => fun
  | [d1, d2, d3] => { results := [.lit (.bool false)], args := [d1, d2, d3] }
  | _ => none }
def FnExactCountOfWrongFalsely : Prop := fnExactCountOfRow.holds Try.pinned (OpenSpec.ofChange fnExactCountOfWrong)

/-- 'laws.FnExactMostWords': WHATEVER THE INPUT: true; the input reads as it did. -/
def fnExactMostWordsSpec : ChangeSpec := { name := "fnExactMostWords", fn := fun _ => fun
  | [d1, d2] => { results := [.lit (.bool true)], args := [d1, d2] }
  | _ => none }
def fnExactMostWordsRow : OpenClaim := { program := "ytebfoofiaokhdaa", sum := "684db97d1a2b47349e93a9a7a4c6c3f66fcb6ad9b859c6e44bc96c056cdee4ac", func := "loop.example/numberwords/laws.FnExactMostWords", spec := "fnExactMostWords", unfollowed := true, recurses := true, apart := false }
def FnExactMostWordsSaid : Prop := fnExactMostWordsRow.holds Try.pinned (OpenSpec.ofChange fnExactMostWordsSpec)

/-- ITS FALSE NEIGHBOUR: 'it returns false'. Refute it at one input. -/
def fnExactMostWordsWrong : ChangeSpec := { name := "fnExactMostWords", fn := fun _ => fun
  | [d1, d2] => { results := [.lit (.bool false)], args := [d1, d2] }
  | _ => none }
def FnExactMostWordsWrongFalsely : Prop := fnExactMostWordsRow.holds Try.pinned (OpenSpec.ofChange fnExactMostWordsWrong)

/-- 'laws.FnExactAllWords': WHATEVER THE INPUT: true; the input reads as it did. -/
def fnExactAllWordsSpec : ChangeSpec := { name := "fnExactAllWords", fn := fun _ => fun
  | [d1, d2] => { results := [.lit (.bool true)], args := [d1, d2] }
  | _ => none }
def fnExactAllWordsRow : OpenClaim := { program := "ytebfoofiaokhdaa", sum := "684db97d1a2b47349e93a9a7a4c6c3f66fcb6ad9b859c6e44bc96c056cdee4ac", func := "loop.example/numberwords/laws.FnExactAllWords", spec := "fnExactAllWords", unfollowed := true, recurses := true, apart := false }
def FnExactAllWordsSaid : Prop := fnExactAllWordsRow.holds Try.pinned (OpenSpec.ofChange fnExactAllWordsSpec)

/-- ITS FALSE NEIGHBOUR: 'it returns false'. Refute it at one input. -/
def fnExactAllWordsWrong : ChangeSpec := { name := "fnExactAllWords", fn := fun _ => fun
  | [d1, d2] => { results := [.lit (.bool false)], args := [d1, d2] }
  | _ => none }
def FnExactAllWordsWrongFalsely : Prop := fnExactAllWordsRow.holds Try.pinned (OpenSpec.ofChange fnExactAllWordsWrong)

/-- 'laws.FnLongOf': WHATEVER THE INPUT: true; the input reads as it did. -/
def fnLongOfSpec : ChangeSpec := { name := "fnLongOf", fn := fun _ => fun
  | [d] => { results := [.lit (.bool true)], args := [d] }
  | _ => none }
def fnLongOfRow : OpenClaim := { program := "ytebfoofiaokhdaa", sum := "684db97d1a2b47349e93a9a7a4c6c3f66fcb6ad9b859c6e44bc96c056cdee4ac", func := "loop.example/numberwords/laws.FnLongOf", spec := "fnLongOf", unfollowed := true, recurses := true, apart := false }
def FnLongOfSaid : Prop := fnLongOfRow.holds Try.pinned (OpenSpec.ofChange fnLongOfSpec)

/-- ITS FALSE NEIGHBOUR: 'it returns false'. Refute it at one input. -/
def fnLongOfWrong : ChangeSpec := { name := "fnLongOf", fn := fun _ => fun
  | [d] => { results := [.lit (.bool false)], args := [d] }
  | _ => none }
def FnLongOfWrongFalsely : Prop := fnLongOfRow.holds Try.pinned (OpenSpec.ofChange fnLongOfWrong)

/-- 'laws.FnExactLongOf': WHATEVER THE INPUT: true; the input reads as it did. -/
def fnExactLongOfSpec : ChangeSpec := { name := "fnExactLongOf", fn := fun _ => fun
  | [d1, d2] => { results := [.lit (.bool true)], args := [d1, d2] }
  | _ => none }
def fnExactLongOfRow : OpenClaim := { program := "ytebfoofiaokhdaa", sum := "684db97d1a2b47349e93a9a7a4c6c3f66fcb6ad9b859c6e44bc96c056cdee4ac", func := "loop.example/numberwords/laws.FnExactLongOf", spec := "fnExactLongOf", unfollowed := true, recurses := true, apart := false }
def FnExactLongOfSaid : Prop := fnExactLongOfRow.holds Try.pinned (OpenSpec.ofChange fnExactLongOfSpec)

/-- ITS FALSE NEIGHBOUR: 'it returns false'. Refute it at one input. -/
def fnExactLongOfWrong : ChangeSpec := { name := "fnExactLongOf", fn := fun _ => fun
  | [d1, d2] => { results := [.lit (.bool false)], args := [d1, d2] }
  | _ => none }
def FnExactLongOfWrongFalsely : Prop := fnExactLongOfRow.holds Try.pinned (OpenSpec.ofChange fnExactLongOfWrong)

/-- 'laws.FnShortenedUpTo': WHATEVER THE INPUT: true; the input reads as it did. -/
def fnShortenedUpToSpec : ChangeSpec := { name := "fnShortenedUpTo", fn := fun _ => fun
  | [d] => { results := [.lit (.bool true)], args := [d] }
  | _ => none }
def fnShortenedUpToRow : OpenClaim := { program := "ytebfoofiaokhdaa", sum := "684db97d1a2b47349e93a9a7a4c6c3f66fcb6ad9b859c6e44bc96c056cdee4ac", func := "loop.example/numberwords/laws.FnShortenedUpTo", spec := "fnShortenedUpTo", unfollowed := true, recurses := true, apart := false }
def FnShortenedUpToSaid : Prop := fnShortenedUpToRow.holds Try.pinned (OpenSpec.ofChange fnShortenedUpToSpec)

/-- ITS FALSE NEIGHBOUR: 'it returns false'. Refute it at one input. -/
def fnShortenedUpToWrong : ChangeSpec := { name := "fnShortenedUpTo", fn := fun _ => fun
  | [d] => { results := [.lit (.bool false)], args := [d] }
  | _ => none }
def FnShortenedUpToWrongFalsely : Prop := fnShortenedUpToRow.holds Try.pinned (OpenSpec.ofChange fnShortenedUpToWrong)

/-- 'laws.FnExactShortenedUpTo': WHATEVER THE INPUT: true; the input reads as it did. -/
def fnExactShortenedUpToSpec : ChangeSpec := { name := "fnExactShortenedUpTo", fn := fun _ => fun
  | [d1, d2, d3, d4] => { results := [.lit (.bool true)], args := [d1, d2, d3, d4] }
  | _ => none }
def fnExactShortenedUpToRow : OpenClaim := { program := "ytebfoofiaokhdaa", sum := "684db97d1a2b47349e93a9a7a4c6c3f66fcb6ad9b859c6e44bc96c056cdee4ac", func := "loop.example/numberwords/laws.FnExactShortenedUpTo", spec := "fnExactShortenedUpTo", unfollowed := true, recurses := true, apart := false }
def FnExactShortenedUpToSaid : Prop := fnExactShortenedUpToRow.holds Try.pinned (OpenSpec.ofChange fnExactShortenedUpToSpec)

/-- ITS FALSE NEIGHBOUR: 'it returns false'. Refute it at one input. -/
def fnExactShortenedUpToWrong : ChangeSpec := { name := "fnExactShortenedUpTo", fn := fun _ => fun
  | [d1, d2, d3, d4] => { results := [.lit (.bool false)], args := [d1, d2, d3, d4] }
  | _ => none }
def FnExactShortenedUpToWrongFalsely : Prop := fnExactShortenedUpToRow.holds Try.pinned (OpenSpec.ofChange fnExactShortenedUpToWrong)

/-- 'laws.FnLettersOf': WHATEVER THE INPUT: true; the input reads as it did. -/
def fnLettersOfSpec : ChangeSpec := { name := "fnLettersOf", fn := fun _ => fun
  | [d] => { results := [.lit (.bool true)], args := [d] }
  | _ => none }
def fnLettersOfRow : OpenClaim := { program := "ytebfoofiaokhdaa", sum := "684db97d1a2b47349e93a9a7a4c6c3f66fcb6ad9b859c6e44bc96c056cdee4ac", func := "loop.example/numberwords/laws.FnLettersOf", spec := "fnLettersOf", unfollowed := true, recurses := true, apart := false }
def FnLettersOfSaid : Prop := fnLettersOfRow.holds Try.pinned (OpenSpec.ofChange fnLettersOfSpec)

/-- ITS FALSE NEIGHBOUR: 'it returns false'. Refute it at one input. -/
def fnLettersOfWrong : ChangeSpec := { name := "fnLettersOf", fn := fun _ => fun
  | [d] => { results := [.lit (.bool false)], args := [d] }
  | _ => none }
def FnLettersOfWrongFalsely : Prop := fnLettersOfRow.holds Try.pinned (OpenSpec.ofChange fnLettersOfWrong)

/- THE SECOND FORM. 'bulk': how many values and letters a reading holds, each counted each time it is reached (what is shared counts as often as it is met; a slice's spare places count too). A statement '..UptoSaid' is the law's where the arguments, and the package variables that the reading takes, are together of bulk at most 1048576: NARROWER than '..Said'. Prove '..Said' where nothing that the law and all that it calls make is longer than what came in: it says more and counts as full. Else prove '..UptoSaid'. A law counts once. -/
mutual
def uptoBulk {H : Type} : DataW H → Nat
  | .lit (.string bytes) => bytes.length + 1
  | .lit _ => 1
  | .nil => 1
  | .ptr d => uptoBulk d + 1
  | .slice elems spare => uptoBulkAll elems + uptoBulkAll spare + 1
  | .agg parts => uptoBulkAll parts + 1
  | .iface _ d => uptoBulk d + 1
  | .map entries => uptoBulkEntries entries + 1
  | .held _ => 1
def uptoBulkAll {H : Type} : List (DataW H) → Nat
  | [] => 0
  | d :: r => uptoBulk d + uptoBulkAll r
def uptoBulkEntries {H : Type} : List (Lit × DataW H) → Nat
  | [] => 0
  | x :: r => uptoBulkEntry x + uptoBulkEntries r
def uptoBulkEntry {H : Type} : Lit × DataW H → Nat
  | (.string bytes, d) => bytes.length + uptoBulk d + 1
  | (_, d) => uptoBulk d + 1
 end
def uptoSmall : (H : Type) → List (DataW H) → Bool := fun _ ds => decide (uptoBulkAll ds ≤ 1048576)
def OpenSpec.upto (s : _root_.Go.ChangeSpec) : _root_.Go.OpenSpec := { _root_.Go.OpenSpec.ofChange s with cond := some uptoSmall }

/-- 'laws.FnLeastOf', WHERE WHAT IT READS IS OF BULK AT MOST 1048576: true; the input reads as it did. -/
def fnLeastOfUptoRow : OpenClaim := { program := "ytebfoofiaokhdaa", sum := "684db97d1a2b47349e93a9a7a4c6c3f66fcb6ad9b859c6e44bc96c056cdee4ac", func := "loop.example/numberwords/laws.FnLeastOf", spec := "fnLeastOf", unfollowed := true, recurses := true, apart := false, narrowed := true }
def FnLeastOfUptoSaid : Prop := fnLeastOfUptoRow.holds Try.pinned (OpenSpec.upto fnLeastOfSpec)

/-- 'laws.FnCountOf', WHERE WHAT IT READS IS OF BULK AT MOST 1048576: true; the input reads as it did. -/
def fnCountOfUptoRow : OpenClaim := { program := "ytebfoofiaokhdaa", sum := "684db97d1a2b47349e93a9a7a4c6c3f66fcb6ad9b859c6e44bc96c056cdee4ac", func := "loop.example/numberwords/laws.FnCountOf", spec := "fnCountOf", unfollowed := true, recurses := true, apart := false, narrowed := true }
def FnCountOfUptoSaid : Prop := fnCountOfUptoRow.holds Try.pinned (OpenSpec.upto fnCountOfSpec)

/-- 'laws.FnMostWords', WHERE WHAT IT READS IS OF BULK AT MOST 1048576: true; the input reads as it did. -/
def fnMostWordsUptoRow : OpenClaim := { program := "ytebfoofiaokhdaa", sum := "684db97d1a2b47349e93a9a7a4c6c3f66fcb6ad9b859c6e44bc96c056cdee4ac", func := "loop.example/numberwords/laws.FnMostWords", spec := "fnMostWords", unfollowed := true, recurses := true, apart := false, narrowed := true }
def FnMostWordsUptoSaid : Prop := fnMostWordsUptoRow.holds Try.pinned (OpenSpec.upto fnMostWordsSpec)

/-- 'laws.FnAllWords', WHERE WHAT IT READS IS OF BULK AT MOST 1048576: true; the input reads as it did. -/
def fnAllWordsUptoRow : OpenClaim := { program := "ytebfoofiaokhdaa", sum := "684db97d1a2b47349e93a9a7a4c6c3f66fcb6ad9b859c6e44bc96c056cdee4ac", func := "loop.example/numberwords/laws.FnAllWords", spec := "fnAllWords", unfollowed := true, recurses := true, apart := false, narrowed := true }
def FnAllWordsUptoSaid : Prop := fnAllWordsUptoRow.holds Try.pinned (OpenSpec.upto fnAllWordsSpec)

/-- 'laws.FnExactLeastOf', WHERE WHAT IT READS IS OF BULK AT MOST 1048576: true; the input reads as it did. -/
def fnExactLeastOfUptoRow : OpenClaim := { program := "ytebfoofiaokhdaa", sum := "684db97d1a2b47349e93a9a7a4c6c3f66fcb6ad9b859c6e44bc96c056cdee4ac", func := "loop.example/numberwords/laws.FnExactLeastOf", spec := "fnExactLeastOf", unfollowed := true, recurses := true, apart := false, narrowed := true }
def FnExactLeastOfUptoSaid : Prop := fnExactLeastOfUptoRow.holds Try.pinned (OpenSpec.upto fnExactLeastOfSpec)

/-- 'laws.FnExactCountOf', WHERE WHAT IT READS IS OF BULK AT MOST 1048576: true; the input reads as it did. -/
def fnExactCountOfUptoRow : OpenClaim := { program := "ytebfoofiaokhdaa", sum := "684db97d1a2b47349e93a9a7a4c6c3f66fcb6ad9b859c6e44bc96c056cdee4ac", func := "loop.example/numberwords/laws.FnExactCountOf", spec := "fnExactCountOf", unfollowed := true, recurses := true, apart := false, narrowed := true }
def FnExactCountOfUptoSaid : Prop := fnExactCountOfUptoRow.holds Try.pinned (OpenSpec.upto fnExactCountOfSpec)

/-- 'laws.FnExactMostWords', WHERE WHAT IT READS IS OF BULK AT MOST 1048576: true; the input reads as it did. -/
def fnExactMostWordsUptoRow : OpenClaim := { program := "ytebfoofiaokhdaa", sum := "684db97d1a2b47349e93a9a7a4c6c3f66fcb6ad9b859c6e44bc96c056cdee4ac", func := "loop.example/numberwords/laws.FnExactMostWords", spec := "fnExactMostWords", unfollowed := true, recurses := true, apart := false, narrowed := true }
def FnExactMostWordsUptoSaid : Prop := fnExactMostWordsUptoRow.holds Try.pinned (OpenSpec.upto fnExactMostWordsSpec)

/-- 'laws.FnExactAllWords', WHERE WHAT IT READS IS OF BULK AT MOST 1048576: true; the input reads as it did. -/
def fnExactAllWordsUptoRow : OpenClaim := { program := "ytebfoofiaokhdaa", sum := "684db97d1a2b47349e93a9a7a4c6c3f66fcb6ad9b859c6e44bc96c056cdee4ac", func := "loop.example/numberwords/laws.FnExactAllWords", spec := "fnExactAllWords", unfollowed := true, recurses := true, apart := false, narrowed := true }
def FnExactAllWordsUptoSaid : Prop := fnExactAllWordsUptoRow.holds Try.pinned (OpenSpec.upto fnExactAllWordsSpec)

/-- 'laws.FnLongOf', WHERE WHAT IT READS IS OF BULK AT MOST 1048576: true; the input reads as it did. -/
def fnLongOfUptoRow : OpenClaim := { program := "ytebfoofiaokhdaa", sum := "684db97d1a2b47349e93a9a7a4c6c3f66fcb6ad9b859c6e44bc96c056cdee4ac", func := "loop.example/numberwords/laws.FnLongOf", spec := "fnLongOf", unfollowed := true, recurses := true, apart := false, narrowed := true }
def FnLongOfUptoSaid : Prop := fnLongOfUptoRow.holds Try.pinned (OpenSpec.upto fnLongOfSpec)

/-- 'laws.FnExactLongOf', WHERE WHAT IT READS IS OF BULK AT MOST 1048576: true; the input reads as it did. -/
def fnExactLongOfUptoRow : OpenClaim := { program := "ytebfoofiaokhdaa", sum := "684db97d1a2b47349e93a9a7a4c6c3f66fcb6ad9b859c6e44bc96c056cdee4ac", func := "loop.example/numberwords/laws.FnExactLongOf", spec := "fnExactLongOf", unfollowed := true, recurses := true, apart := false, narrowed := true }
def FnExactLongOfUptoSaid : Prop := fnExactLongOfUptoRow.holds Try.pinned (OpenSpec.upto fnExactLongOfSpec)

/-- 'laws.FnShortenedUpTo', WHERE WHAT IT READS IS OF BULK AT MOST 1048576: true; the input reads as it did. -/
def fnShortenedUpToUptoRow : OpenClaim := { program := "ytebfoofiaokhdaa", sum := "684db97d1a2b47349e93a9a7a4c6c3f66fcb6ad9b859c6e44bc96c056cdee4ac", func := "loop.example/numberwords/laws.FnShortenedUpTo", spec := "fnShortenedUpTo", unfollowed := true, recurses := true, apart := false, narrowed := true }
def FnShortenedUpToUptoSaid : Prop := fnShortenedUpToUptoRow.holds Try.pinned (OpenSpec.upto fnShortenedUpToSpec)

/-- 'laws.FnExactShortenedUpTo', WHERE WHAT IT READS IS OF BULK AT MOST 1048576: true; the input reads as it did. -/
def fnExactShortenedUpToUptoRow : OpenClaim := { program := "ytebfoofiaokhdaa", sum := "684db97d1a2b47349e93a9a7a4c6c3f66fcb6ad9b859c6e44bc96c056cdee4ac", func := "loop.example/numberwords/laws.FnExactShortenedUpTo", spec := "fnExactShortenedUpTo", unfollowed := true, recurses := true, apart := false, narrowed := true }
def FnExactShortenedUpToUptoSaid : Prop := fnExactShortenedUpToUptoRow.holds Try.pinned (OpenSpec.upto fnExactShortenedUpToSpec)

/-- 'laws.FnLettersOf', WHERE WHAT IT READS IS OF BULK AT MOST 1048576: true; the input reads as it did. -/
def fnLettersOfUptoRow : OpenClaim := { program := "ytebfoofiaokhdaa", sum := "684db97d1a2b47349e93a9a7a4c6c3f66fcb6ad9b859c6e44bc96c056cdee4ac", func := "loop.example/numberwords/laws.FnLettersOf", spec := "fnLettersOf", unfollowed := true, recurses := true, apart := false, narrowed := true }
def FnLettersOfUptoSaid : Prop := fnLettersOfUptoRow.holds Try.pinned (OpenSpec.upto fnLettersOfSpec)

end Rows
end Go.Proofs.Ytebfoofiaokhdaa
