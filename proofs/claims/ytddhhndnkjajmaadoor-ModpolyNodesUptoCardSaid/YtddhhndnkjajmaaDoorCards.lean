/-
  DERIVED. GIVEN WITH THE SEED: THE CARDS: each row of YtddhhndnkjajmaaDoorRows.lean that lists a variable, with what it lists TIED to the program's text (the seventh form; the later family's looks); each row that meets fmt, with fmt's text TOLD by the authors' own Lean function (tested against real Go, not proved from fmt's source: count such statements apart). THE CARD IS WHAT COUNTS. Prove the row's statement (the work); the ties are given (YtddhhndnkjajmaaDoorTie.lean); close each card by the builder's one call (the guide's Derived/Test/ToyasCard.lean, 'card_holds'). Laid BY PROGRAM, IN A SANDBOX (cutbox-door.mjs). By AI agents, Wed Nov 11 2026. No macro, syntax, notation, axiom, sorry.
-/
import Derived.Test.YtddhhndnkjajmaaDoorRows
import GoSem.ClaimSeven
namespace Go.Proofs.YtddhhndnkjajmaaDoor
namespace Rows

/-- THE TIED CARD OF 'similelaw08.ModpolyRings'. -/
def modpolyRingsCard : Claim7 := { stood := { row := modpolyRingsRow, standIns := [], harness := (true, "bfbbd46707185d7b8cf20042819612b4fd207629eb53b748e9581054cffcbf5d"), looks := false }, kinds := [], alts := [], laidByText := true, laidKinds := [.data], laidTests := true, laidLooks := .later }
def ModpolyRingsCardSaid : Prop := Claim7.holds Tryd.pinned (.plain (OpenSpec.ofChange modpolyRingsSpec)) modpolyRingsCard

/-- THE TIED CARD OF 'similelaw08.ModpolyShifts'. -/
def modpolyShiftsCard : Claim7 := { stood := { row := modpolyShiftsRow, standIns := [], harness := (true, "bfbbd46707185d7b8cf20042819612b4fd207629eb53b748e9581054cffcbf5d"), looks := false }, kinds := [], alts := [], laidByText := true, laidKinds := [.data], laidTests := true, laidLooks := .later }
def ModpolyShiftsCardSaid : Prop := Claim7.holds Tryd.pinned (.plain (OpenSpec.ofChange modpolyShiftsSpec)) modpolyShiftsCard

/-- THE TIED CARD OF 'similelaw08.ModpolyValues'. -/
def modpolyValuesCard : Claim7 := { stood := { row := modpolyValuesRow, standIns := [], harness := (true, "bfbbd46707185d7b8cf20042819612b4fd207629eb53b748e9581054cffcbf5d"), looks := false }, kinds := [], alts := [], laidByText := true, laidKinds := [.data], laidTests := true, laidLooks := .later }
def ModpolyValuesCardSaid : Prop := Claim7.holds Tryd.pinned (.plain (OpenSpec.ofChange modpolyValuesSpec)) modpolyValuesCard

/-- THE TIED CARD OF 'similelaw08.ModpolyRoots'. -/
def modpolyRootsCard : Claim7 := { stood := { row := modpolyRootsRow, standIns := [], harness := (true, "bfbbd46707185d7b8cf20042819612b4fd207629eb53b748e9581054cffcbf5d"), looks := false }, kinds := [], alts := [], laidByText := true, laidKinds := [.data], laidTests := true, laidLooks := .later }
def ModpolyRootsCardSaid : Prop := Claim7.holds Tryd.pinned (.plain (OpenSpec.ofChange modpolyRootsSpec)) modpolyRootsCard

/-- THE TIED CARD OF 'similelaw08.ModpolyMakes'. -/
def modpolyMakesCard : Claim7 := { stood := { row := modpolyMakesRow, standIns := [], harness := (true, "bfbbd46707185d7b8cf20042819612b4fd207629eb53b748e9581054cffcbf5d"), looks := false }, kinds := [], alts := [], laidByText := true, laidKinds := [.data], laidTests := true, laidLooks := .later }
def ModpolyMakesCardSaid : Prop := Claim7.holds Tryd.pinned (.plain (OpenSpec.ofChange modpolyMakesSpec)) modpolyMakesCard

/-- THE TIED CARD OF 'similelaw08.ModpolyNodes'. -/
def modpolyNodesCard : Claim7 := { stood := { row := modpolyNodesRow, standIns := [], harness := (true, "bfbbd46707185d7b8cf20042819612b4fd207629eb53b748e9581054cffcbf5d"), looks := false }, kinds := [], alts := [], laidByText := true, laidKinds := [.data], laidTests := true, laidLooks := .later }
def ModpolyNodesCardSaid : Prop := Claim7.holds Tryd.pinned (.plain (OpenSpec.ofChange modpolyNodesSpec)) modpolyNodesCard

/-- THE TIED CARD OF 'similelaw08.ModpolyLines'. -/
def modpolyLinesCard : Claim7 := { stood := { row := modpolyLinesRow, standIns := [], harness := (true, "bfbbd46707185d7b8cf20042819612b4fd207629eb53b748e9581054cffcbf5d"), looks := false }, kinds := [], alts := [], laidByText := true, laidKinds := [.data], laidTests := true, laidLooks := .later }
def ModpolyLinesCardSaid : Prop := Claim7.holds Tryd.pinned (.plain (OpenSpec.ofChange modpolyLinesSpec)) modpolyLinesCard

/-- THE TIED CARD OF 'similelaw08.ModpolyFreshman'. -/
def modpolyFreshmanCard : Claim7 := { stood := { row := modpolyFreshmanRow, standIns := [], harness := (true, "bfbbd46707185d7b8cf20042819612b4fd207629eb53b748e9581054cffcbf5d"), looks := false }, kinds := [], alts := [], laidByText := true, laidKinds := [.data], laidTests := true, laidLooks := .later }
def ModpolyFreshmanCardSaid : Prop := Claim7.holds Tryd.pinned (.plain (OpenSpec.ofChange modpolyFreshmanSpec)) modpolyFreshmanCard

/-- THE SECOND FORM's CARD OF 'similelaw08.ModpolyRings'. -/
def modpolyRingsUptoCard : Claim7 := { stood := { row := modpolyRingsUptoRow, standIns := [], harness := (true, "bfbbd46707185d7b8cf20042819612b4fd207629eb53b748e9581054cffcbf5d"), looks := false }, kinds := [], alts := [], laidByText := true, laidKinds := [.data], laidTests := true, laidLooks := .later }
def ModpolyRingsUptoCardSaid : Prop := Claim7.holds Tryd.pinned (.plain (OpenSpec.upto modpolyRingsSpec)) modpolyRingsUptoCard

/-- THE SECOND FORM's CARD OF 'similelaw08.ModpolyShifts'. -/
def modpolyShiftsUptoCard : Claim7 := { stood := { row := modpolyShiftsUptoRow, standIns := [], harness := (true, "bfbbd46707185d7b8cf20042819612b4fd207629eb53b748e9581054cffcbf5d"), looks := false }, kinds := [], alts := [], laidByText := true, laidKinds := [.data], laidTests := true, laidLooks := .later }
def ModpolyShiftsUptoCardSaid : Prop := Claim7.holds Tryd.pinned (.plain (OpenSpec.upto modpolyShiftsSpec)) modpolyShiftsUptoCard

/-- THE SECOND FORM's CARD OF 'similelaw08.ModpolyValues'. -/
def modpolyValuesUptoCard : Claim7 := { stood := { row := modpolyValuesUptoRow, standIns := [], harness := (true, "bfbbd46707185d7b8cf20042819612b4fd207629eb53b748e9581054cffcbf5d"), looks := false }, kinds := [], alts := [], laidByText := true, laidKinds := [.data], laidTests := true, laidLooks := .later }
def ModpolyValuesUptoCardSaid : Prop := Claim7.holds Tryd.pinned (.plain (OpenSpec.upto modpolyValuesSpec)) modpolyValuesUptoCard

/-- THE SECOND FORM's CARD OF 'similelaw08.ModpolyRoots'. -/
def modpolyRootsUptoCard : Claim7 := { stood := { row := modpolyRootsUptoRow, standIns := [], harness := (true, "bfbbd46707185d7b8cf20042819612b4fd207629eb53b748e9581054cffcbf5d"), looks := false }, kinds := [], alts := [], laidByText := true, laidKinds := [.data], laidTests := true, laidLooks := .later }
def ModpolyRootsUptoCardSaid : Prop := Claim7.holds Tryd.pinned (.plain (OpenSpec.upto modpolyRootsSpec)) modpolyRootsUptoCard

/-- THE SECOND FORM's CARD OF 'similelaw08.ModpolyMakes'. -/
def modpolyMakesUptoCard : Claim7 := { stood := { row := modpolyMakesUptoRow, standIns := [], harness := (true, "bfbbd46707185d7b8cf20042819612b4fd207629eb53b748e9581054cffcbf5d"), looks := false }, kinds := [], alts := [], laidByText := true, laidKinds := [.data], laidTests := true, laidLooks := .later }
def ModpolyMakesUptoCardSaid : Prop := Claim7.holds Tryd.pinned (.plain (OpenSpec.upto modpolyMakesSpec)) modpolyMakesUptoCard

/-- THE SECOND FORM's CARD OF 'similelaw08.ModpolyNodes'. -/
def modpolyNodesUptoCard : Claim7 := { stood := { row := modpolyNodesUptoRow, standIns := [], harness := (true, "bfbbd46707185d7b8cf20042819612b4fd207629eb53b748e9581054cffcbf5d"), looks := false }, kinds := [], alts := [], laidByText := true, laidKinds := [.data], laidTests := true, laidLooks := .later }
def ModpolyNodesUptoCardSaid : Prop := Claim7.holds Tryd.pinned (.plain (OpenSpec.upto modpolyNodesSpec)) modpolyNodesUptoCard

/-- THE SECOND FORM's CARD OF 'similelaw08.ModpolyLines'. -/
def modpolyLinesUptoCard : Claim7 := { stood := { row := modpolyLinesUptoRow, standIns := [], harness := (true, "bfbbd46707185d7b8cf20042819612b4fd207629eb53b748e9581054cffcbf5d"), looks := false }, kinds := [], alts := [], laidByText := true, laidKinds := [.data], laidTests := true, laidLooks := .later }
def ModpolyLinesUptoCardSaid : Prop := Claim7.holds Tryd.pinned (.plain (OpenSpec.upto modpolyLinesSpec)) modpolyLinesUptoCard

/-- THE SECOND FORM's CARD OF 'similelaw08.ModpolyFreshman'. -/
def modpolyFreshmanUptoCard : Claim7 := { stood := { row := modpolyFreshmanUptoRow, standIns := [], harness := (true, "bfbbd46707185d7b8cf20042819612b4fd207629eb53b748e9581054cffcbf5d"), looks := false }, kinds := [], alts := [], laidByText := true, laidKinds := [.data], laidTests := true, laidLooks := .later }
def ModpolyFreshmanUptoCardSaid : Prop := Claim7.holds Tryd.pinned (.plain (OpenSpec.upto modpolyFreshmanSpec)) modpolyFreshmanUptoCard
end Rows
end Go.Proofs.YtddhhndnkjajmaaDoor
