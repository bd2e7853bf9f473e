/-
  DERIVED. GIVEN WITH THE SEED: THE CARDS: each row of YtcjgilagldbjnaaDoorRows.lean that lists a variable, with what it lists TIED to the program's text (the seventh form; the later family's looks); each row that meets fmt, with fmt's text TOLD by the authors' own Lean function (tested against real Go, not proved from fmt's source: count such statements apart). THE CARD IS WHAT COUNTS. Prove the row's statement (the work); the ties are given (YtcjgilagldbjnaaDoorTie.lean); close each card by the builder's one call (the guide's Derived/Test/ToyasCard.lean, 'card_holds'). Laid BY PROGRAM, IN A SANDBOX (cutbox-door.mjs). By AI agents, Wed Nov 11 2026. No macro, syntax, notation, axiom, sorry.
-/
import Derived.Test.YtcjgilagldbjnaaDoorRows
import GoSem.ClaimSeven
namespace Go.Proofs.YtcjgilagldbjnaaDoor
namespace Rows

/-- THE TIED CARD OF 'similelaw22.BoundEnough'. -/
def boundEnoughCard : Claim7 := { stood := { row := boundEnoughRow, standIns := [], harness := (true, "9edc960caba9b12463b28c93d12f9804f2532e08a488f65fd83c2bf59f8bf67f"), looks := false }, kinds := [], alts := [], laidByText := true, laidKinds := [.data], laidTests := true, laidLooks := .later }
def BoundEnoughCardSaid : Prop := Claim7.holds Tryd.pinned (.plain (OpenSpec.ofChange boundEnoughSpec)) boundEnoughCard

/-- THE SECOND FORM's CARD OF 'similelaw22.BoundEnough'. -/
def boundEnoughUptoCard : Claim7 := { stood := { row := boundEnoughUptoRow, standIns := [], harness := (true, "9edc960caba9b12463b28c93d12f9804f2532e08a488f65fd83c2bf59f8bf67f"), looks := false }, kinds := [], alts := [], laidByText := true, laidKinds := [.data], laidTests := true, laidLooks := .later }
def BoundEnoughUptoCardSaid : Prop := Claim7.holds Tryd.pinned (.plain (OpenSpec.upto boundEnoughSpec)) boundEnoughUptoCard
end Rows
end Go.Proofs.YtcjgilagldbjnaaDoor
