/-
  DERIVED. GIVEN WITH THE SEED: THE CARDS: each row of YteemgkabhkdeaaaDoorRows.lean that lists a variable, with what it lists TIED to the program's text (the seventh form; the later family's looks); each row that meets fmt, with fmt's text TOLD by the authors' own Lean function (tested against real Go, not proved from fmt's source: count such statements apart). THE CARD IS WHAT COUNTS. Prove the row's statement (the work); the ties are given (YteemgkabhkdeaaaDoorTie.lean); close each card by the builder's one call (the guide's Derived/Test/ToyasCard.lean, 'card_holds'). Laid BY PROGRAM, IN A SANDBOX (cutbox-door.mjs). By AI agents, Wed Nov 11 2026. No macro, syntax, notation, axiom, sorry.
-/
import Derived.Test.YteemgkabhkdeaaaDoorRows
import GoSem.ClaimSeven
namespace Go.Proofs.YteemgkabhkdeaaaDoor
namespace Rows

/-- THE TIED CARD OF 'laws.FnReadText'. -/
def fnReadTextCard : Claim7 := { stood := { row := fnReadTextRow, standIns := [], harness := (true, "59a4c4381330beec970c301a0e423a8398080da0c68800d6273fbec4feeac686"), looks := false }, kinds := [], alts := [], laidByText := true, laidKinds := [.data, .pinned], laidTests := true, laidLooks := .later }
def FnReadTextCardSaid : Prop := Claim7.holds Tryd.pinned (.plain (OpenSpec.ofChange fnReadTextSpec)) fnReadTextCard

/-- THE TIED CARD OF 'laws.FnNamesOf'. -/
def fnNamesOfCard : Claim7 := { stood := { row := fnNamesOfRow, standIns := [], harness := (true, "59a4c4381330beec970c301a0e423a8398080da0c68800d6273fbec4feeac686"), looks := false }, kinds := [], alts := [], laidByText := true, laidKinds := [.data, .pinned], laidTests := true, laidLooks := .later }
def FnNamesOfCardSaid : Prop := Claim7.holds Tryd.pinned (.plain (OpenSpec.ofChange fnNamesOfSpec)) fnNamesOfCard

/-- THE TIED CARD OF 'laws.FnExactReadText'. -/
def fnExactReadTextCard : Claim7 := { stood := { row := fnExactReadTextRow, standIns := [], harness := (true, "59a4c4381330beec970c301a0e423a8398080da0c68800d6273fbec4feeac686"), looks := false }, kinds := [], alts := [], laidByText := true, laidKinds := [.data, .pinned], laidTests := true, laidLooks := .later }
def FnExactReadTextCardSaid : Prop := Claim7.holds Tryd.pinned (.plain (OpenSpec.ofChange fnExactReadTextSpec)) fnExactReadTextCard

/-- THE SECOND FORM's CARD OF 'laws.FnReadText'. -/
def fnReadTextUptoCard : Claim7 := { stood := { row := fnReadTextUptoRow, standIns := [], harness := (true, "59a4c4381330beec970c301a0e423a8398080da0c68800d6273fbec4feeac686"), looks := false }, kinds := [], alts := [], laidByText := true, laidKinds := [.data, .pinned], laidTests := true, laidLooks := .later }
def FnReadTextUptoCardSaid : Prop := Claim7.holds Tryd.pinned (.plain (OpenSpec.upto fnReadTextSpec)) fnReadTextUptoCard

/-- THE SECOND FORM's CARD OF 'laws.FnNamesOf'. -/
def fnNamesOfUptoCard : Claim7 := { stood := { row := fnNamesOfUptoRow, standIns := [], harness := (true, "59a4c4381330beec970c301a0e423a8398080da0c68800d6273fbec4feeac686"), looks := false }, kinds := [], alts := [], laidByText := true, laidKinds := [.data, .pinned], laidTests := true, laidLooks := .later }
def FnNamesOfUptoCardSaid : Prop := Claim7.holds Tryd.pinned (.plain (OpenSpec.upto fnNamesOfSpec)) fnNamesOfUptoCard

/-- THE SECOND FORM's CARD OF 'laws.FnExactReadText'. -/
def fnExactReadTextUptoCard : Claim7 := { stood := { row := fnExactReadTextUptoRow, standIns := [], harness := (true, "59a4c4381330beec970c301a0e423a8398080da0c68800d6273fbec4feeac686"), looks := false }, kinds := [], alts := [], laidByText := true, laidKinds := [.data, .pinned], laidTests := true, laidLooks := .later }
def FnExactReadTextUptoCardSaid : Prop := Claim7.holds Tryd.pinned (.plain (OpenSpec.upto fnExactReadTextSpec)) fnExactReadTextUptoCard
end Rows
end Go.Proofs.YteemgkabhkdeaaaDoor
