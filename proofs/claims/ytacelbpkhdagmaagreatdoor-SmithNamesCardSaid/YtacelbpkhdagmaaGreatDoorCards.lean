/-
  DERIVED. GIVEN WITH THE SEED: THE CARDS: each row of YtacelbpkhdagmaaGreatDoorRows.lean that lists a variable, with what it lists TIED to the program's text (the seventh form; the later family's looks); each row that meets fmt, with fmt's text TOLD by the authors' own Lean function (tested against real Go, not proved from fmt's source: count such statements apart). THE CARD IS WHAT COUNTS. Prove the row's statement (the work); the ties are given (YtacelbpkhdagmaaGreatDoorTie.lean); close each card by the builder's one call (the guide's Derived/Test/ToyasCard.lean, 'card_holds'). Laid BY PROGRAM, IN A SANDBOX (cutbox-door.mjs). By AI agents, Wed Nov 11 2026. No macro, syntax, notation, axiom, sorry.
-/
import Derived.Test.YtacelbpkhdagmaaGreatDoorRows
import GoSem.ClaimSeven
namespace Go.Proofs.YtacelbpkhdagmaaGreatDoor
namespace Rows

/-- THE TIED CARD OF 'similelaw18.SmithNames'. -/
def smithNamesCard : Claim7 := { stood := { row := smithNamesRow, standIns := [], harness := (true, "8a21f0cc37b231000154f2d45d2f801d4e1a9b8d21689c6ea2c36a432c62cc2f"), looks := true }, kinds := [], alts := [], laidByText := true, laidKinds := [.data], laidTests := true, laidLooks := .later }
def SmithNamesCardSaid : Prop := Claim7.holds Tryz.pinned (.plain (OpenSpec.ofChange smithNamesSpec)) smithNamesCard

/-- THE TIED CARD OF 'similelaw16.MinpolyNames'. -/
def minpolyNamesCard : Claim7 := { stood := { row := minpolyNamesRow, standIns := [], harness := (true, "8a21f0cc37b231000154f2d45d2f801d4e1a9b8d21689c6ea2c36a432c62cc2f"), looks := true }, kinds := [], alts := [], laidByText := true, laidKinds := [.data], laidTests := true, laidLooks := .later }
def MinpolyNamesCardSaid : Prop := Claim7.holds Tryz.pinned (.plain (OpenSpec.ofChange minpolyNamesSpec)) minpolyNamesCard

/-- THE TIED CARD OF 'similelaw02.NumeralNames'. -/
def numeralNamesCard : Claim7 := { stood := { row := numeralNamesRow, standIns := [], harness := (true, "8a21f0cc37b231000154f2d45d2f801d4e1a9b8d21689c6ea2c36a432c62cc2f"), looks := true }, kinds := [], alts := [], laidByText := true, laidKinds := [.data, .data, .data, .data, .pinned], laidTests := true, laidLooks := .later }
def NumeralNamesCardSaid : Prop := Claim7.holds Tryz.pinned (.plain (OpenSpec.ofChange numeralNamesSpec)) numeralNamesCard

/-- THE TIED CARD OF 'similelaw24.SimilNames'. -/
def similNamesCard : Claim7 := { stood := { row := similNamesRow, standIns := [], harness := (true, "8a21f0cc37b231000154f2d45d2f801d4e1a9b8d21689c6ea2c36a432c62cc2f"), looks := true }, kinds := [], alts := [], laidByText := true, laidKinds := [.data, .data, .data, .data, .pinned], laidTests := true, laidLooks := .later }
def SimilNamesCardSaid : Prop := Claim7.holds Tryz.pinned (.plain (OpenSpec.ofChange similNamesSpec)) similNamesCard

/-- THE SECOND FORM's CARD OF 'similelaw18.SmithNames'. -/
def smithNamesUptoCard : Claim7 := { stood := { row := smithNamesUptoRow, standIns := [], harness := (true, "8a21f0cc37b231000154f2d45d2f801d4e1a9b8d21689c6ea2c36a432c62cc2f"), looks := true }, kinds := [], alts := [], laidByText := true, laidKinds := [.data], laidTests := true, laidLooks := .later }
def SmithNamesUptoCardSaid : Prop := Claim7.holds Tryz.pinned (.plain (OpenSpec.upto smithNamesSpec)) smithNamesUptoCard

/-- THE SECOND FORM's CARD OF 'similelaw16.MinpolyNames'. -/
def minpolyNamesUptoCard : Claim7 := { stood := { row := minpolyNamesUptoRow, standIns := [], harness := (true, "8a21f0cc37b231000154f2d45d2f801d4e1a9b8d21689c6ea2c36a432c62cc2f"), looks := true }, kinds := [], alts := [], laidByText := true, laidKinds := [.data], laidTests := true, laidLooks := .later }
def MinpolyNamesUptoCardSaid : Prop := Claim7.holds Tryz.pinned (.plain (OpenSpec.upto minpolyNamesSpec)) minpolyNamesUptoCard

/-- THE SECOND FORM's CARD OF 'similelaw02.NumeralNames'. -/
def numeralNamesUptoCard : Claim7 := { stood := { row := numeralNamesUptoRow, standIns := [], harness := (true, "8a21f0cc37b231000154f2d45d2f801d4e1a9b8d21689c6ea2c36a432c62cc2f"), looks := true }, kinds := [], alts := [], laidByText := true, laidKinds := [.data, .data, .data, .data, .pinned], laidTests := true, laidLooks := .later }
def NumeralNamesUptoCardSaid : Prop := Claim7.holds Tryz.pinned (.plain (OpenSpec.upto numeralNamesSpec)) numeralNamesUptoCard

/-- THE SECOND FORM's CARD OF 'similelaw24.SimilNames'. -/
def similNamesUptoCard : Claim7 := { stood := { row := similNamesUptoRow, standIns := [], harness := (true, "8a21f0cc37b231000154f2d45d2f801d4e1a9b8d21689c6ea2c36a432c62cc2f"), looks := true }, kinds := [], alts := [], laidByText := true, laidKinds := [.data, .data, .data, .data, .pinned], laidTests := true, laidLooks := .later }
def SimilNamesUptoCardSaid : Prop := Claim7.holds Tryz.pinned (.plain (OpenSpec.upto similNamesSpec)) similNamesUptoCard
end Rows
end Go.Proofs.YtacelbpkhdagmaaGreatDoor
