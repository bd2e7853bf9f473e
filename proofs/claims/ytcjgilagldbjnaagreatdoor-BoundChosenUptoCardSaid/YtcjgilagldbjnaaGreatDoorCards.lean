/-
  DERIVED. GIVEN WITH THE SEED: THE CARDS: each row of YtcjgilagldbjnaaGreatDoorRows.lean that lists a variable, with what it lists TIED to the program's text (the seventh form; the later family's looks); each row that meets fmt, with fmt's text TOLD by the authors' own Lean function (tested against real Go, not proved from fmt's source: count such statements apart). THE CARD IS WHAT COUNTS. Prove the row's statement (the work); the ties are given (YtcjgilagldbjnaaGreatDoorTie.lean); close each card by the builder's one call (the guide's Derived/Test/ToyasCard.lean, 'card_holds'). Laid BY PROGRAM, IN A SANDBOX (cutbox-door.mjs). By AI agents, Wed Nov 11 2026. No macro, syntax, notation, axiom, sorry.
-/
import Derived.Test.YtcjgilagldbjnaaGreatDoorRows
import GoSem.ClaimSeven
namespace Go.Proofs.YtcjgilagldbjnaaGreatDoor
namespace Rows

/-- THE TIED CARD OF 'similelaw22.BoundChooses'. -/
def boundChoosesCard : Claim7 := { stood := { row := boundChoosesRow, standIns := [], harness := (true, "c48cdb18883d82852c2a5be7d80230236abf8a54672d53e5b7ad70fbeedf14f2"), looks := false }, kinds := [], alts := [], laidByText := true, laidKinds := [.data], laidTests := true, laidLooks := .later }
def BoundChoosesCardSaid : Prop := Claim7.holds Tryz.pinned (.plain (OpenSpec.ofChange boundChoosesSpec)) boundChoosesCard

/-- THE TIED CARD OF 'similelaw22.BoundChosen'. -/
def boundChosenCard : Claim7 := { stood := { row := boundChosenRow, standIns := [], harness := (true, "c48cdb18883d82852c2a5be7d80230236abf8a54672d53e5b7ad70fbeedf14f2"), looks := false }, kinds := [], alts := [], laidByText := true, laidKinds := [.data], laidTests := true, laidLooks := .later }
def BoundChosenCardSaid : Prop := Claim7.holds Tryz.pinned (.plain (OpenSpec.ofChange boundChosenSpec)) boundChosenCard

/-- THE SECOND FORM's CARD OF 'similelaw22.BoundChooses'. -/
def boundChoosesUptoCard : Claim7 := { stood := { row := boundChoosesUptoRow, standIns := [], harness := (true, "c48cdb18883d82852c2a5be7d80230236abf8a54672d53e5b7ad70fbeedf14f2"), looks := false }, kinds := [], alts := [], laidByText := true, laidKinds := [.data], laidTests := true, laidLooks := .later }
def BoundChoosesUptoCardSaid : Prop := Claim7.holds Tryz.pinned (.plain (OpenSpec.upto boundChoosesSpec)) boundChoosesUptoCard

/-- THE SECOND FORM's CARD OF 'similelaw22.BoundChosen'. -/
def boundChosenUptoCard : Claim7 := { stood := { row := boundChosenUptoRow, standIns := [], harness := (true, "c48cdb18883d82852c2a5be7d80230236abf8a54672d53e5b7ad70fbeedf14f2"), looks := false }, kinds := [], alts := [], laidByText := true, laidKinds := [.data], laidTests := true, laidLooks := .later }
def BoundChosenUptoCardSaid : Prop := Claim7.holds Tryz.pinned (.plain (OpenSpec.upto boundChosenSpec)) boundChosenUptoCard
end Rows
end Go.Proofs.YtcjgilagldbjnaaGreatDoor
