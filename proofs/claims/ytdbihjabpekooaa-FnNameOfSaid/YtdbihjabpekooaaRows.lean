/-
  No cell of these rows narrows 'for every input' (looked for: loops, veiled, ifaces, maps, wideKeys, modest, calm, conditions, laid).
  DERIVED. THE GIVEN ROWS OF THIS SEAT. 8 by the template 'for every input the law returns true; each argument reads behind the call as it read before'; 0 by the template 'total and deterministic' (their statements: YtdbihjabpekooaaTotals.lean).
  GIVEN WITH THE SEED: the statements are not yours to turn. If you find one false, say at which input.
  Laid BY PROGRAM, IN A SANDBOX (cutbox-rows.mjs): the forced cells as the released guide's own fill.sh prints them over the translation ae480e4a86838a41… (all of the seat's roots in one cut). By AI agents, Wed Nov 11 2026. No macro, syntax, notation, axiom, sorry.
-/
import Derived.Test.YtdbihjabpekooaaChecked
import GoSem.Claim
import GoSem.ClaimJoined
import GoSem.ClaimMapViews
import Derived.JoinedTies
import Derived.KernelRfl
namespace Go.Proofs.Ytdbihjabpekooaa
/- THE CELL 'sum', in the pinned program and in every row, IS THE sha256 OF THE DUMP (.gsa) THAT YtdbihjabpekooaaProg.lean LOADS. Nothing in Lean hashes anything: it is a label: what it is worth is what the hold of that sum in a sandbox is worth. -/
noncomputable def Try.pinned : Pinned := { name := "ytdbihjabpekooaa", sum := "ae480e4a86838a41f23fdd754bcfc1bf7d877702afb36fc92f5266d512989b91", checked := Try.checked }
namespace Rows
def none {H : Type} : Left H := { results := [], args := [] }

/-- 'laws.FnNameOf': WHATEVER THE INPUT: true; the input reads as it did. -/
def fnNameOfSpec : ChangeSpec := { name := "fnNameOf", fn := fun _ => fun
  | [d] => { results := [.lit (.bool true)], args := [d] }
  | _ => none }
def fnNameOfRow : OpenClaim := { program := "ytdbihjabpekooaa", sum := "ae480e4a86838a41f23fdd754bcfc1bf7d877702afb36fc92f5266d512989b91", func := "loop.example/numberwords/laws.FnNameOf", spec := "fnNameOf", recurses := true, apart := false }
def FnNameOfSaid : Prop := fnNameOfRow.holds Try.pinned (OpenSpec.ofChange fnNameOfSpec)

/-- ITS FALSE NEIGHBOUR: 'it returns false'. Refute it at one input. -/
def fnNameOfWrong : ChangeSpec := { name := "fnNameOf", fn := fun _ => fun
  | [d] => { results := [.lit (.bool false)], args := [d] }
  | _ => none }
def FnNameOfWrongFalsely : Prop := fnNameOfRow.holds Try.pinned (OpenSpec.ofChange fnNameOfWrong)

/-- 'laws.FnGreatestNamed': WHATEVER THE INPUT: true; the input reads as it did. -/
def fnGreatestNamedSpec : ChangeSpec := { name := "fnGreatestNamed", fn := fun _ => fun
  | [d] => { results := [.lit (.bool true)], args := [d] }
  | _ => none }
def fnGreatestNamedRow : OpenClaim := { program := "ytdbihjabpekooaa", sum := "ae480e4a86838a41f23fdd754bcfc1bf7d877702afb36fc92f5266d512989b91", func := "loop.example/numberwords/laws.FnGreatestNamed", spec := "fnGreatestNamed", recurses := true, apart := false }
def FnGreatestNamedSaid : Prop := fnGreatestNamedRow.holds Try.pinned (OpenSpec.ofChange fnGreatestNamedSpec)

/-- ITS FALSE NEIGHBOUR: 'it returns false'. Refute it at one input. -/
def fnGreatestNamedWrong : ChangeSpec := { name := "fnGreatestNamed", fn := fun _ => fun
  | [d] => { results := [.lit (.bool false)], args := [d] }
  | _ => none }
def FnGreatestNamedWrongFalsely : Prop := fnGreatestNamedRow.holds Try.pinned (OpenSpec.ofChange fnGreatestNamedWrong)

/-- 'laws.FnLongOf': WHATEVER THE INPUT: true; the input reads as it did. -/
def fnLongOfSpec : ChangeSpec := { name := "fnLongOf", fn := fun _ => fun
  | [d] => { results := [.lit (.bool true)], args := [d] }
  | _ => none }
def fnLongOfRow : OpenClaim := { program := "ytdbihjabpekooaa", sum := "ae480e4a86838a41f23fdd754bcfc1bf7d877702afb36fc92f5266d512989b91", func := "loop.example/numberwords/laws.FnLongOf", spec := "fnLongOf", unfollowed := true, recurses := true, apart := false }
def FnLongOfSaid : Prop := fnLongOfRow.holds Try.pinned (OpenSpec.ofChange fnLongOfSpec)

/-- ITS FALSE NEIGHBOUR: 'it returns false'. Refute it at one input. -/
def fnLongOfWrong : ChangeSpec := { name := "fnLongOf", fn := fun _ => fun
  | [d] => { results := [.lit (.bool false)], args := [d] }
  | _ => none }
def FnLongOfWrongFalsely : Prop := fnLongOfRow.holds Try.pinned (OpenSpec.ofChange fnLongOfWrong)

/-- 'laws.FnTextOf': WHATEVER THE INPUT: true; the input reads as it did. -/
def fnTextOfSpec : ChangeSpec := { name := "fnTextOf", fn := fun _ => fun
  | [d] => { results := [.lit (.bool true)], args := [d] }
  | _ => none }
def fnTextOfRow : OpenClaim := { program := "ytdbihjabpekooaa", sum := "ae480e4a86838a41f23fdd754bcfc1bf7d877702afb36fc92f5266d512989b91", func := "loop.example/numberwords/laws.FnTextOf", spec := "fnTextOf", inPlace := ["internal/abi.NoEscape", "internal/bytealg.MakeNoZero"], recurses := true, apart := false }
def FnTextOfSaid : Prop := fnTextOfRow.holds Try.pinned (OpenSpec.ofChange fnTextOfSpec)

/-- ITS FALSE NEIGHBOUR: 'it returns false'. Refute it at one input. -/
def fnTextOfWrong : ChangeSpec := { name := "fnTextOf", fn := fun _ => fun
  | [d] => { results := [.lit (.bool false)], args := [d] }
  | _ => none }
def FnTextOfWrongFalsely : Prop := fnTextOfRow.holds Try.pinned (OpenSpec.ofChange fnTextOfWrong)

/-- 'laws.FnExactNameOf': WHATEVER THE INPUT: true; the input reads as it did. -/
def fnExactNameOfSpec : ChangeSpec := { name := "fnExactNameOf", fn := fun _ => fun
  | [d1, d2] => { results := [.lit (.bool true)], args := [d1, d2] }
  | _ => none }
def fnExactNameOfRow : OpenClaim := { program := "ytdbihjabpekooaa", sum := "ae480e4a86838a41f23fdd754bcfc1bf7d877702afb36fc92f5266d512989b91", func := "loop.example/numberwords/laws.FnExactNameOf", spec := "fnExactNameOf", recurses := true, apart := false }
def FnExactNameOfSaid : Prop := fnExactNameOfRow.holds Try.pinned (OpenSpec.ofChange fnExactNameOfSpec)

/-- ITS FALSE NEIGHBOUR: 'it returns false'. Refute it at one input. -/
def fnExactNameOfWrong : ChangeSpec := { name := "fnExactNameOf", fn := fun _ => fun
  | [d1, d2] => { results := [.lit (.bool false)], args := [d1, d2] }
  | _ => none }
def FnExactNameOfWrongFalsely : Prop := fnExactNameOfRow.holds Try.pinned (OpenSpec.ofChange fnExactNameOfWrong)

/-- 'laws.FnExactGreatestNamed': WHATEVER THE INPUT: true; the input reads as it did. -/
def fnExactGreatestNamedSpec : ChangeSpec := { name := "fnExactGreatestNamed", fn := fun _ => fun
  | [d] => { results := [.lit (.bool true)], args := [d] }
  | _ => none }
def fnExactGreatestNamedRow : OpenClaim := { program := "ytdbihjabpekooaa", sum := "ae480e4a86838a41f23fdd754bcfc1bf7d877702afb36fc92f5266d512989b91", func := "loop.example/numberwords/laws.FnExactGreatestNamed", spec := "fnExactGreatestNamed", apart := false }
def FnExactGreatestNamedSaid : Prop := fnExactGreatestNamedRow.holds Try.pinned (OpenSpec.ofChange fnExactGreatestNamedSpec)

/-- ITS FALSE NEIGHBOUR: 'it returns false'. Refute it at one input. -/
def fnExactGreatestNamedWrong : ChangeSpec := { name := "fnExactGreatestNamed", fn := fun _ => fun
  | [d] => { results := [.lit (.bool false)], args := [d] }
  | _ => none }
def FnExactGreatestNamedWrongFalsely : Prop := fnExactGreatestNamedRow.holds Try.pinned (OpenSpec.ofChange fnExactGreatestNamedWrong)

/-- 'laws.FnExactLongOf': WHATEVER THE INPUT: true; the input reads as it did. -/
def fnExactLongOfSpec : ChangeSpec := { name := "fnExactLongOf", fn := fun _ => fun
  | [d1, d2] => { results := [.lit (.bool true)], args := [d1, d2] }
  | _ => none }
def fnExactLongOfRow : OpenClaim := { program := "ytdbihjabpekooaa", sum := "ae480e4a86838a41f23fdd754bcfc1bf7d877702afb36fc92f5266d512989b91", func := "loop.example/numberwords/laws.FnExactLongOf", spec := "fnExactLongOf", unfollowed := true, recurses := true, apart := false }
def FnExactLongOfSaid : Prop := fnExactLongOfRow.holds Try.pinned (OpenSpec.ofChange fnExactLongOfSpec)

/-- ITS FALSE NEIGHBOUR: 'it returns false'. Refute it at one input. -/
def fnExactLongOfWrong : ChangeSpec := { name := "fnExactLongOf", fn := fun _ => fun
  | [d1, d2] => { results := [.lit (.bool false)], args := [d1, d2] }
  | _ => none }
def FnExactLongOfWrongFalsely : Prop := fnExactLongOfRow.holds Try.pinned (OpenSpec.ofChange fnExactLongOfWrong)

/-- 'laws.FnExactTextOf': WHATEVER THE INPUT: true; the input reads as it did. -/
def fnExactTextOfSpec : ChangeSpec := { name := "fnExactTextOf", fn := fun _ => fun
  | [d1, d2] => { results := [.lit (.bool true)], args := [d1, d2] }
  | _ => none }
def fnExactTextOfRow : OpenClaim := { program := "ytdbihjabpekooaa", sum := "ae480e4a86838a41f23fdd754bcfc1bf7d877702afb36fc92f5266d512989b91", func := "loop.example/numberwords/laws.FnExactTextOf", spec := "fnExactTextOf", inPlace := ["internal/abi.NoEscape", "internal/bytealg.MakeNoZero"], recurses := true, apart := false }
def FnExactTextOfSaid : Prop := fnExactTextOfRow.holds Try.pinned (OpenSpec.ofChange fnExactTextOfSpec)

/-- ITS FALSE NEIGHBOUR: 'it returns false'. Refute it at one input. -/
def fnExactTextOfWrong : ChangeSpec := { name := "fnExactTextOf", fn := fun _ => fun
  | [d1, d2] => { results := [.lit (.bool false)], args := [d1, d2] }
  | _ => none }
def FnExactTextOfWrongFalsely : Prop := fnExactTextOfRow.holds Try.pinned (OpenSpec.ofChange fnExactTextOfWrong)

/- THE SECOND FORM. 'bulk': how many values and letters a reading holds, each counted each time it is reached (what is shared counts as often as it is met; a slice's spare places count too). A statement '..UptoSaid' is the law's where the arguments, and the package variables that the reading takes, are together of bulk at most 1048576: NARROWER than '..Said'. Prove '..Said' where nothing that the law and all that it calls make is longer than what came in: it says more and counts as full. Else prove '..UptoSaid'. A law counts once. -/
mutual
def uptoBulk {H : Type} : DataW H → Nat
  | .lit (.string bytes) => bytes.length + 1
  | .lit _ => 1
  | .nil => 1
  | .ptr d => uptoBulk d + 1
  | .slice elems spare => uptoBulkAll elems + uptoBulkAll spare + 1
  | .agg parts => uptoBulkAll parts + 1
  | .iface _ d => uptoBulk d + 1
  | .map entries => uptoBulkEntries entries + 1
  | .held _ => 1
def uptoBulkAll {H : Type} : List (DataW H) → Nat
  | [] => 0
  | d :: r => uptoBulk d + uptoBulkAll r
def uptoBulkEntries {H : Type} : List (Lit × DataW H) → Nat
  | [] => 0
  | x :: r => uptoBulkEntry x + uptoBulkEntries r
def uptoBulkEntry {H : Type} : Lit × DataW H → Nat
  | (.string bytes, d) => bytes.length + uptoBulk d + 1
  | (_, d) => uptoBulk d + 1
 end
def uptoSmall : (H : Type) → List (DataW H) → Bool := fun _ ds => decide (uptoBulkAll ds ≤ 1048576)
def OpenSpec.upto (s : _root_.Go.ChangeSpec) : _root_.Go.OpenSpec := { _root_.Go.OpenSpec.ofChange s with cond := some uptoSmall }

/-- 'laws.FnNameOf', WHERE WHAT IT READS IS OF BULK AT MOST 1048576: true; the input reads as it did. -/
def fnNameOfUptoRow : OpenClaim := { program := "ytdbihjabpekooaa", sum := "ae480e4a86838a41f23fdd754bcfc1bf7d877702afb36fc92f5266d512989b91", func := "loop.example/numberwords/laws.FnNameOf", spec := "fnNameOf", recurses := true, apart := false, narrowed := true }
def FnNameOfUptoSaid : Prop := fnNameOfUptoRow.holds Try.pinned (OpenSpec.upto fnNameOfSpec)

/-- 'laws.FnGreatestNamed', WHERE WHAT IT READS IS OF BULK AT MOST 1048576: true; the input reads as it did. -/
def fnGreatestNamedUptoRow : OpenClaim := { program := "ytdbihjabpekooaa", sum := "ae480e4a86838a41f23fdd754bcfc1bf7d877702afb36fc92f5266d512989b91", func := "loop.example/numberwords/laws.FnGreatestNamed", spec := "fnGreatestNamed", recurses := true, apart := false, narrowed := true }
def FnGreatestNamedUptoSaid : Prop := fnGreatestNamedUptoRow.holds Try.pinned (OpenSpec.upto fnGreatestNamedSpec)

/-- 'laws.FnLongOf', WHERE WHAT IT READS IS OF BULK AT MOST 1048576: true; the input reads as it did. -/
def fnLongOfUptoRow : OpenClaim := { program := "ytdbihjabpekooaa", sum := "ae480e4a86838a41f23fdd754bcfc1bf7d877702afb36fc92f5266d512989b91", func := "loop.example/numberwords/laws.FnLongOf", spec := "fnLongOf", unfollowed := true, recurses := true, apart := false, narrowed := true }
def FnLongOfUptoSaid : Prop := fnLongOfUptoRow.holds Try.pinned (OpenSpec.upto fnLongOfSpec)

/-- 'laws.FnTextOf', WHERE WHAT IT READS IS OF BULK AT MOST 1048576: true; the input reads as it did. -/
def fnTextOfUptoRow : OpenClaim := { program := "ytdbihjabpekooaa", sum := "ae480e4a86838a41f23fdd754bcfc1bf7d877702afb36fc92f5266d512989b91", func := "loop.example/numberwords/laws.FnTextOf", spec := "fnTextOf", inPlace := ["internal/abi.NoEscape", "internal/bytealg.MakeNoZero"], recurses := true, apart := false, narrowed := true }
def FnTextOfUptoSaid : Prop := fnTextOfUptoRow.holds Try.pinned (OpenSpec.upto fnTextOfSpec)

/-- 'laws.FnExactNameOf', WHERE WHAT IT READS IS OF BULK AT MOST 1048576: true; the input reads as it did. -/
def fnExactNameOfUptoRow : OpenClaim := { program := "ytdbihjabpekooaa", sum := "ae480e4a86838a41f23fdd754bcfc1bf7d877702afb36fc92f5266d512989b91", func := "loop.example/numberwords/laws.FnExactNameOf", spec := "fnExactNameOf", recurses := true, apart := false, narrowed := true }
def FnExactNameOfUptoSaid : Prop := fnExactNameOfUptoRow.holds Try.pinned (OpenSpec.upto fnExactNameOfSpec)

/-- 'laws.FnExactGreatestNamed', WHERE WHAT IT READS IS OF BULK AT MOST 1048576: true; the input reads as it did. -/
def fnExactGreatestNamedUptoRow : OpenClaim := { program := "ytdbihjabpekooaa", sum := "ae480e4a86838a41f23fdd754bcfc1bf7d877702afb36fc92f5266d512989b91", func := "loop.example/numberwords/laws.FnExactGreatestNamed", spec := "fnExactGreatestNamed", apart := false, narrowed := true }
def FnExactGreatestNamedUptoSaid : Prop := fnExactGreatestNamedUptoRow.holds Try.pinned (OpenSpec.upto fnExactGreatestNamedSpec)

/-- 'laws.FnExactLongOf', WHERE WHAT IT READS IS OF BULK AT MOST 1048576: true; the input reads as it did. -/
def fnExactLongOfUptoRow : OpenClaim := { program := "ytdbihjabpekooaa", sum := "ae480e4a86838a41f23fdd754bcfc1bf7d877702afb36fc92f5266d512989b91", func := "loop.example/numberwords/laws.FnExactLongOf", spec := "fnExactLongOf", unfollowed := true, recurses := true, apart := false, narrowed := true }
def FnExactLongOfUptoSaid : Prop := fnExactLongOfUptoRow.holds Try.pinned (OpenSpec.upto fnExactLongOfSpec)

/-- 'laws.FnExactTextOf', WHERE WHAT IT READS IS OF BULK AT MOST 1048576: true; the input reads as it did. -/
def fnExactTextOfUptoRow : OpenClaim := { program := "ytdbihjabpekooaa", sum := "ae480e4a86838a41f23fdd754bcfc1bf7d877702afb36fc92f5266d512989b91", func := "loop.example/numberwords/laws.FnExactTextOf", spec := "fnExactTextOf", inPlace := ["internal/abi.NoEscape", "internal/bytealg.MakeNoZero"], recurses := true, apart := false, narrowed := true }
def FnExactTextOfUptoSaid : Prop := fnExactTextOfUptoRow.holds Try.pinned (OpenSpec.upto fnExactTextOfSpec)

end Rows
end Go.Proofs.Ytdbihjabpekooaa
