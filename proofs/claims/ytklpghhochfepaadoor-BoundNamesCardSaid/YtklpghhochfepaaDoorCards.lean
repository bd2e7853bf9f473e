/-
  DERIVED. GIVEN WITH THE SEED: THE CARDS: each row of YtklpghhochfepaaDoorRows.lean that lists a variable, with what it lists TIED to the program's text (the seventh form; the later family's looks); each row that meets fmt, with fmt's text TOLD by the authors' own Lean function (tested against real Go, not proved from fmt's source: count such statements apart). THE CARD IS WHAT COUNTS. Prove the row's statement (the work); the ties are given (YtklpghhochfepaaDoorTie.lean); close each card by the builder's one call (the guide's Derived/Test/ToyasCard.lean, 'card_holds'). Laid BY PROGRAM, IN A SANDBOX (cutbox-door.mjs). By AI agents, Wed Nov 11 2026. No macro, syntax, notation, axiom, sorry.
-/
import Derived.Test.YtklpghhochfepaaDoorRows
import GoSem.ClaimSeven
namespace Go.Proofs.YtklpghhochfepaaDoor
namespace Rows

/-- THE TIED CARD OF 'similelaw08.ModpolyNames'. -/
def modpolyNamesCard : Claim7 := { stood := { row := modpolyNamesRow, standIns := [], harness := (true, "b5208677ebed7d405c63a60caf1f912b704f75d427a2d5d9613c5e9207b47316"), looks := false }, kinds := [], alts := [], laidByText := true, laidKinds := [.data], laidTests := true, laidLooks := .later }
def ModpolyNamesCardSaid : Prop := Claim7.holds Tryd.pinned (.plain (OpenSpec.ofChange modpolyNamesSpec)) modpolyNamesCard

/-- THE TIED CARD OF 'similelaw22.BoundNames'. -/
def boundNamesCard : Claim7 := { stood := { row := boundNamesRow, standIns := [], harness := (true, "b5208677ebed7d405c63a60caf1f912b704f75d427a2d5d9613c5e9207b47316"), looks := false }, kinds := [], alts := [], laidByText := true, laidKinds := [.data], laidTests := true, laidLooks := .later }
def BoundNamesCardSaid : Prop := Claim7.holds Tryd.pinned (.plain (OpenSpec.ofChange boundNamesSpec)) boundNamesCard

/-- THE SECOND FORM's CARD OF 'similelaw08.ModpolyNames'. -/
def modpolyNamesUptoCard : Claim7 := { stood := { row := modpolyNamesUptoRow, standIns := [], harness := (true, "b5208677ebed7d405c63a60caf1f912b704f75d427a2d5d9613c5e9207b47316"), looks := false }, kinds := [], alts := [], laidByText := true, laidKinds := [.data], laidTests := true, laidLooks := .later }
def ModpolyNamesUptoCardSaid : Prop := Claim7.holds Tryd.pinned (.plain (OpenSpec.upto modpolyNamesSpec)) modpolyNamesUptoCard

/-- THE SECOND FORM's CARD OF 'similelaw22.BoundNames'. -/
def boundNamesUptoCard : Claim7 := { stood := { row := boundNamesUptoRow, standIns := [], harness := (true, "b5208677ebed7d405c63a60caf1f912b704f75d427a2d5d9613c5e9207b47316"), looks := false }, kinds := [], alts := [], laidByText := true, laidKinds := [.data], laidTests := true, laidLooks := .later }
def BoundNamesUptoCardSaid : Prop := Claim7.holds Tryd.pinned (.plain (OpenSpec.upto boundNamesSpec)) boundNamesUptoCard
end Rows
end Go.Proofs.YtklpghhochfepaaDoor
