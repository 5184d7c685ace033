/-
  No cell of these rows narrows 'for every input' (looked for: loops, veiled, ifaces, maps, wideKeys, modest, calm, conditions, laid).
  DERIVED. THE GIVEN ROWS OF THIS SEAT. 8 by the template 'for every input the law returns true; each argument reads behind the call as it read before'; 0 by the template 'total and deterministic' (their statements: YtpbinajjlambfaaTotals.lean).
  GIVEN WITH THE SEED: the statements are not yours to turn. If you find one false, say at which input.
  Laid BY PROGRAM, IN A SANDBOX (cutbox-rows.mjs): the forced cells as the released guide's own fill.sh prints them over the translation 6e002289429852e5… (all of the seat's roots in one cut). By AI agents, Wed Nov 11 2026. No macro, syntax, notation, axiom, sorry.
-/
import Derived.Test.YtpbinajjlambfaaChecked
import GoSem.Claim
import GoSem.ClaimJoined
import GoSem.ClaimMapViews
import Derived.JoinedTies
import Derived.KernelRfl
namespace Go.Proofs.Ytpbinajjlambfaa
/- THE CELL 'sum', in the pinned program and in every row, IS THE sha256 OF THE DUMP (.gsa) THAT YtpbinajjlambfaaProg.lean LOADS. Nothing in Lean hashes anything: it is a label: what it is worth is what the hold of that sum in a sandbox is worth. -/
noncomputable def Try.pinned : Pinned := { name := "ytpbinajjlambfaa", sum := "6e002289429852e5c9e6e33260d75348be683b8865a6ff9c494d6775ae75a8da", checked := Try.checked }
namespace Rows
def none {H : Type} : Left H := { results := [], args := [] }

/-- 'laws.FnTakenFrom': WHATEVER THE INPUT: true; the input reads as it did. -/
def fnTakenFromSpec : ChangeSpec := { name := "fnTakenFrom", fn := fun _ => fun
  | [d] => { results := [.lit (.bool true)], args := [d] }
  | _ => none }
def fnTakenFromRow : OpenClaim := { program := "ytpbinajjlambfaa", sum := "6e002289429852e5c9e6e33260d75348be683b8865a6ff9c494d6775ae75a8da", func := "loop.example/numberwords/laws.FnTakenFrom", spec := "fnTakenFrom", unfollowed := true, recurses := true, apart := false }
def FnTakenFromSaid : Prop := fnTakenFromRow.holds Try.pinned (OpenSpec.ofChange fnTakenFromSpec)

/-- ITS FALSE NEIGHBOUR: 'it returns false'. Refute it at one input. -/
def fnTakenFromWrong : ChangeSpec := { name := "fnTakenFrom", fn := fun _ => fun
  | [d] => { results := [.lit (.bool false)], args := [d] }
  | _ => none }
def FnTakenFromWrongFalsely : Prop := fnTakenFromRow.holds Try.pinned (OpenSpec.ofChange fnTakenFromWrong)

/-- 'laws.FnShorterName': WHATEVER THE INPUT: true; the input reads as it did. -/
def fnShorterNameSpec : ChangeSpec := { name := "fnShorterName", fn := fun _ => fun
  | [d] => { results := [.lit (.bool true)], args := [d] }
  | _ => none }
def fnShorterNameRow : OpenClaim := { program := "ytpbinajjlambfaa", sum := "6e002289429852e5c9e6e33260d75348be683b8865a6ff9c494d6775ae75a8da", func := "loop.example/numberwords/laws.FnShorterName", spec := "fnShorterName", unfollowed := true, recurses := true, apart := false }
def FnShorterNameSaid : Prop := fnShorterNameRow.holds Try.pinned (OpenSpec.ofChange fnShorterNameSpec)

/-- ITS FALSE NEIGHBOUR: 'it returns false'. Refute it at one input. -/
def fnShorterNameWrong : ChangeSpec := { name := "fnShorterName", fn := fun _ => fun
  | [d] => { results := [.lit (.bool false)], args := [d] }
  | _ => none }
def FnShorterNameWrongFalsely : Prop := fnShorterNameRow.holds Try.pinned (OpenSpec.ofChange fnShorterNameWrong)

/-- 'laws.FnReadShorter': WHATEVER THE INPUT: true; the input reads as it did. -/
def fnReadShorterSpec : ChangeSpec := { name := "fnReadShorter", fn := fun _ => fun
  | [d] => { results := [.lit (.bool true)], args := [d] }
  | _ => none }
def fnReadShorterRow : OpenClaim := { program := "ytpbinajjlambfaa", sum := "6e002289429852e5c9e6e33260d75348be683b8865a6ff9c494d6775ae75a8da", func := "loop.example/numberwords/laws.FnReadShorter", spec := "fnReadShorter", unfollowed := true, recurses := true, apart := false }
def FnReadShorterSaid : Prop := fnReadShorterRow.holds Try.pinned (OpenSpec.ofChange fnReadShorterSpec)

/-- ITS FALSE NEIGHBOUR: 'it returns false'. Refute it at one input. -/
def fnReadShorterWrong : ChangeSpec := { name := "fnReadShorter", fn := fun _ => fun
  | [d] => { results := [.lit (.bool false)], args := [d] }
  | _ => none }
def FnReadShorterWrongFalsely : Prop := fnReadShorterRow.holds Try.pinned (OpenSpec.ofChange fnReadShorterWrong)

/-- 'laws.FnShortenedUpTo': WHATEVER THE INPUT: true; the input reads as it did. -/
def fnShortenedUpToSpec : ChangeSpec := { name := "fnShortenedUpTo", fn := fun _ => fun
  | [d] => { results := [.lit (.bool true)], args := [d] }
  | _ => none }
def fnShortenedUpToRow : OpenClaim := { program := "ytpbinajjlambfaa", sum := "6e002289429852e5c9e6e33260d75348be683b8865a6ff9c494d6775ae75a8da", func := "loop.example/numberwords/laws.FnShortenedUpTo", spec := "fnShortenedUpTo", unfollowed := true, recurses := true, apart := false }
def FnShortenedUpToSaid : Prop := fnShortenedUpToRow.holds Try.pinned (OpenSpec.ofChange fnShortenedUpToSpec)

/-- ITS FALSE NEIGHBOUR: 'it returns false'. Refute it at one input. -/
def fnShortenedUpToWrong : ChangeSpec := { name := "fnShortenedUpTo", fn := fun _ => fun
  | [d] => { results := [.lit (.bool false)], args := [d] }
  | _ => none }
def FnShortenedUpToWrongFalsely : Prop := fnShortenedUpToRow.holds Try.pinned (OpenSpec.ofChange fnShortenedUpToWrong)

/-- 'laws.FnExactTakenFrom': WHATEVER THE INPUT: true; the input reads as it did. -/
def fnExactTakenFromSpec : ChangeSpec := { name := "fnExactTakenFrom", fn := fun _ => fun
  | [d1, d2, d3, d4] => { results := [.lit (.bool true)], args := [d1, d2, d3, d4] }
  | _ => none }
def fnExactTakenFromRow : OpenClaim := { program := "ytpbinajjlambfaa", sum := "6e002289429852e5c9e6e33260d75348be683b8865a6ff9c494d6775ae75a8da", func := "loop.example/numberwords/laws.FnExactTakenFrom", spec := "fnExactTakenFrom", recurses := true, apart := false }
def FnExactTakenFromSaid : Prop := fnExactTakenFromRow.holds Try.pinned (OpenSpec.ofChange fnExactTakenFromSpec)

/-- ITS FALSE NEIGHBOUR: 'it returns false'. Refute it at one input. -/
def fnExactTakenFromWrong : ChangeSpec := { name := "fnExactTakenFrom", fn := fun _ => fun
  | [d1, d2, d3, d4] => { results := [.lit (.bool false)], args := [d1, d2, d3, d4] }
  | _ => none }
def FnExactTakenFromWrongFalsely : Prop := fnExactTakenFromRow.holds Try.pinned (OpenSpec.ofChange fnExactTakenFromWrong)

/-- 'laws.FnExactShorterName': WHATEVER THE INPUT: true; the input reads as it did. -/
def fnExactShorterNameSpec : ChangeSpec := { name := "fnExactShorterName", fn := fun _ => fun
  | [d1, d2, d3, d4] => { results := [.lit (.bool true)], args := [d1, d2, d3, d4] }
  | _ => none }
def fnExactShorterNameRow : OpenClaim := { program := "ytpbinajjlambfaa", sum := "6e002289429852e5c9e6e33260d75348be683b8865a6ff9c494d6775ae75a8da", func := "loop.example/numberwords/laws.FnExactShorterName", spec := "fnExactShorterName", unfollowed := true, recurses := true, apart := false }
def FnExactShorterNameSaid : Prop := fnExactShorterNameRow.holds Try.pinned (OpenSpec.ofChange fnExactShorterNameSpec)

/-- ITS FALSE NEIGHBOUR: 'it returns false'. Refute it at one input. -/
def fnExactShorterNameWrong : ChangeSpec := { name := "fnExactShorterName", fn := fun _ => fun
  | [d1, d2, d3, d4] => { results := [.lit (.bool false)], args := [d1, d2, d3, d4] }
  | _ => none }
def FnExactShorterNameWrongFalsely : Prop := fnExactShorterNameRow.holds Try.pinned (OpenSpec.ofChange fnExactShorterNameWrong)

/-- 'laws.FnExactReadShorter': WHATEVER THE INPUT: true; the input reads as it did. -/
def fnExactReadShorterSpec : ChangeSpec := { name := "fnExactReadShorter", fn := fun _ => fun
  | [d1, d2, d3, d4] => { results := [.lit (.bool true)], args := [d1, d2, d3, d4] }
  | _ => none }
def fnExactReadShorterRow : OpenClaim := { program := "ytpbinajjlambfaa", sum := "6e002289429852e5c9e6e33260d75348be683b8865a6ff9c494d6775ae75a8da", func := "loop.example/numberwords/laws.FnExactReadShorter", spec := "fnExactReadShorter", unfollowed := true, recurses := true, apart := false }
def FnExactReadShorterSaid : Prop := fnExactReadShorterRow.holds Try.pinned (OpenSpec.ofChange fnExactReadShorterSpec)

/-- ITS FALSE NEIGHBOUR: 'it returns false'. Refute it at one input. -/
def fnExactReadShorterWrong : ChangeSpec := { name := "fnExactReadShorter", fn := fun _ => fun
  | [d1, d2, d3, d4] => { results := [.lit (.bool false)], args := [d1, d2, d3, d4] }
  | _ => none }
def FnExactReadShorterWrongFalsely : Prop := fnExactReadShorterRow.holds Try.pinned (OpenSpec.ofChange fnExactReadShorterWrong)

/-- 'laws.FnExactShortenedUpTo': WHATEVER THE INPUT: true; the input reads as it did. -/
def fnExactShortenedUpToSpec : ChangeSpec := { name := "fnExactShortenedUpTo", fn := fun _ => fun
  | [d1, d2, d3, d4] => { results := [.lit (.bool true)], args := [d1, d2, d3, d4] }
  | _ => none }
def fnExactShortenedUpToRow : OpenClaim := { program := "ytpbinajjlambfaa", sum := "6e002289429852e5c9e6e33260d75348be683b8865a6ff9c494d6775ae75a8da", func := "loop.example/numberwords/laws.FnExactShortenedUpTo", spec := "fnExactShortenedUpTo", unfollowed := true, recurses := true, apart := false }
def FnExactShortenedUpToSaid : Prop := fnExactShortenedUpToRow.holds Try.pinned (OpenSpec.ofChange fnExactShortenedUpToSpec)

/-- ITS FALSE NEIGHBOUR: 'it returns false'. Refute it at one input. -/
def fnExactShortenedUpToWrong : ChangeSpec := { name := "fnExactShortenedUpTo", fn := fun _ => fun
  | [d1, d2, d3, d4] => { results := [.lit (.bool false)], args := [d1, d2, d3, d4] }
  | _ => none }
def FnExactShortenedUpToWrongFalsely : Prop := fnExactShortenedUpToRow.holds Try.pinned (OpenSpec.ofChange fnExactShortenedUpToWrong)

/- THE SECOND FORM. 'bulk': how many values and letters a reading holds, each counted each time it is reached (what is shared counts as often as it is met; a slice's spare places count too). A statement '..UptoSaid' is the law's where the arguments, and the package variables that the reading takes, are together of bulk at most 1048576: NARROWER than '..Said'. Prove '..Said' where nothing that the law and all that it calls make is longer than what came in: it says more and counts as full. Else prove '..UptoSaid'. A law counts once. -/
mutual
def uptoBulk {H : Type} : DataW H → Nat
  | .lit (.string bytes) => bytes.length + 1
  | .lit _ => 1
  | .nil => 1
  | .ptr d => uptoBulk d + 1
  | .slice elems spare => uptoBulkAll elems + uptoBulkAll spare + 1
  | .agg parts => uptoBulkAll parts + 1
  | .iface _ d => uptoBulk d + 1
  | .map entries => uptoBulkEntries entries + 1
  | .held _ => 1
def uptoBulkAll {H : Type} : List (DataW H) → Nat
  | [] => 0
  | d :: r => uptoBulk d + uptoBulkAll r
def uptoBulkEntries {H : Type} : List (Lit × DataW H) → Nat
  | [] => 0
  | x :: r => uptoBulkEntry x + uptoBulkEntries r
def uptoBulkEntry {H : Type} : Lit × DataW H → Nat
  | (.string bytes, d) => bytes.length + uptoBulk d + 1
  | (_, d) => uptoBulk d + 1
 end
def uptoSmall : (H : Type) → List (DataW H) → Bool := fun _ ds => decide (uptoBulkAll ds ≤ 1048576)
def OpenSpec.upto (s : _root_.Go.ChangeSpec) : _root_.Go.OpenSpec := { _root_.Go.OpenSpec.ofChange s with cond := some uptoSmall }

/-- 'laws.FnTakenFrom', WHERE WHAT IT READS IS OF BULK AT MOST 1048576: true; the input reads as it did. -/
def fnTakenFromUptoRow : OpenClaim := { program := "ytpbinajjlambfaa", sum := "6e002289429852e5c9e6e33260d75348be683b8865a6ff9c494d6775ae75a8da", func := "loop.example/numberwords/laws.FnTakenFrom", spec := "fnTakenFrom", unfollowed := true, recurses := true, apart := false, narrowed := true }
def FnTakenFromUptoSaid : Prop := fnTakenFromUptoRow.holds Try.pinned (OpenSpec.upto fnTakenFromSpec)

/-- 'laws.FnShorterName', WHERE WHAT IT READS IS OF BULK AT MOST 1048576: true; the input reads as it did. -/
def fnShorterNameUptoRow : OpenClaim := { program := "ytpbinajjlambfaa", sum := "6e002289429852e5c9e6e33260d75348be683b8865a6ff9c494d6775ae75a8da", func := "loop.example/numberwords/laws.FnShorterName", spec := "fnShorterName", unfollowed := true, recurses := true, apart := false, narrowed := true }
def FnShorterNameUptoSaid : Prop := fnShorterNameUptoRow.holds Try.pinned (OpenSpec.upto fnShorterNameSpec)

/-- 'laws.FnReadShorter', WHERE WHAT IT READS IS OF BULK AT MOST 1048576: true; the input reads as it did. -/
def fnReadShorterUptoRow : OpenClaim := { program := "ytpbinajjlambfaa", sum := "6e002289429852e5c9e6e33260d75348be683b8865a6ff9c494d6775ae75a8da", func := "loop.example/numberwords/laws.FnReadShorter", spec := "fnReadShorter", unfollowed := true, recurses := true, apart := false, narrowed := true }
def FnReadShorterUptoSaid : Prop := fnReadShorterUptoRow.holds Try.pinned (OpenSpec.upto fnReadShorterSpec)

/-- 'laws.FnShortenedUpTo', WHERE WHAT IT READS IS OF BULK AT MOST 1048576: true; the input reads as it did. -/
def fnShortenedUpToUptoRow : OpenClaim := { program := "ytpbinajjlambfaa", sum := "6e002289429852e5c9e6e33260d75348be683b8865a6ff9c494d6775ae75a8da", func := "loop.example/numberwords/laws.FnShortenedUpTo", spec := "fnShortenedUpTo", unfollowed := true, recurses := true, apart := false, narrowed := true }
def FnShortenedUpToUptoSaid : Prop := fnShortenedUpToUptoRow.holds Try.pinned (OpenSpec.upto fnShortenedUpToSpec)

/-- 'laws.FnExactTakenFrom', WHERE WHAT IT READS IS OF BULK AT MOST 1048576: true; the input reads as it did. -/
def fnExactTakenFromUptoRow : OpenClaim := { program := "ytpbinajjlambfaa", sum := "6e002289429852e5c9e6e33260d75348be683b8865a6ff9c494d6775ae75a8da", func := "loop.example/numberwords/laws.FnExactTakenFrom", spec := "fnExactTakenFrom", recurses := true, apart := false, narrowed := true }
def FnExactTakenFromUptoSaid : Prop := fnExactTakenFromUptoRow.holds Try.pinned (OpenSpec.upto fnExactTakenFromSpec)

/-- 'laws.FnExactShorterName', WHERE WHAT IT READS IS OF BULK AT MOST 1048576: true; the input reads as it did. -/
def fnExactShorterNameUptoRow : OpenClaim := { program := "ytpbinajjlambfaa", sum := "6e002289429852e5c9e6e33260d75348be683b8865a6ff9c494d6775ae75a8da", func := "loop.example/numberwords/laws.FnExactShorterName", spec := "fnExactShorterName", unfollowed := true, recurses := true, apart := false, narrowed := true }
def FnExactShorterNameUptoSaid : Prop := fnExactShorterNameUptoRow.holds Try.pinned (OpenSpec.upto fnExactShorterNameSpec)

/-- 'laws.FnExactReadShorter', WHERE WHAT IT READS IS OF BULK AT MOST 1048576: true; the input reads as it did. -/
def fnExactReadShorterUptoRow : OpenClaim := { program := "ytpbinajjlambfaa", sum := "6e002289429852e5c9e6e33260d75348be683b8865a6ff9c494d6775ae75a8da", func := "loop.example/numberwords/laws.FnExactReadShorter", spec := "fnExactReadShorter", unfollowed := true, recurses := true, apart := false, narrowed := true }
def FnExactReadShorterUptoSaid : Prop := fnExactReadShorterUptoRow.holds Try.pinned (OpenSpec.upto fnExactReadShorterSpec)

/-- 'laws.FnExactShortenedUpTo', WHERE WHAT IT READS IS OF BULK AT MOST 1048576: true; the input reads as it did. -/
def fnExactShortenedUpToUptoRow : OpenClaim := { program := "ytpbinajjlambfaa", sum := "6e002289429852e5c9e6e33260d75348be683b8865a6ff9c494d6775ae75a8da", func := "loop.example/numberwords/laws.FnExactShortenedUpTo", spec := "fnExactShortenedUpTo", unfollowed := true, recurses := true, apart := false, narrowed := true }
def FnExactShortenedUpToUptoSaid : Prop := fnExactShortenedUpToUptoRow.holds Try.pinned (OpenSpec.upto fnExactShortenedUpToSpec)

end Rows
end Go.Proofs.Ytpbinajjlambfaa
