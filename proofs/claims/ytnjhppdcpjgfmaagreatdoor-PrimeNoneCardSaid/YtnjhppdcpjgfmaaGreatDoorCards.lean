/-
  DERIVED. GIVEN WITH THE SEED: THE CARDS: each row of YtnjhppdcpjgfmaaGreatDoorRows.lean that lists a variable, with what it lists TIED to the program's text (the seventh form; the later family's looks); each row that meets fmt, with fmt's text TOLD by the authors' own Lean function (tested against real Go, not proved from fmt's source: count such statements apart). THE CARD IS WHAT COUNTS. Prove the row's statement (the work); the ties are given (YtnjhppdcpjgfmaaGreatDoorTie.lean); close each card by the builder's one call (the guide's Derived/Test/ToyasCard.lean, 'card_holds'). Laid BY PROGRAM, IN A SANDBOX (cutbox-door.mjs). By AI agents, Wed Nov 11 2026. No macro, syntax, notation, axiom, sorry.
-/
import Derived.Test.YtnjhppdcpjgfmaaGreatDoorRows
import GoSem.ClaimSeven
namespace Go.Proofs.YtnjhppdcpjgfmaaGreatDoor
namespace Rows

/-- THE TIED CARD OF 'similelaw04.PrimeNone'. -/
def primeNoneCard : Claim7 := { stood := { row := primeNoneRow, standIns := [], harness := (true, "3bc4c14dabeb234c55229ea5f0618d3265053dc0a8cb3bd63c22001aa0484a14"), looks := false }, kinds := [], alts := [], laidByText := true, laidKinds := [.data, .data], laidTests := true, laidLooks := .later }
def PrimeNoneCardSaid : Prop := Claim7.holds Tryz.pinned (.plain (OpenSpec.ofChange primeNoneSpec)) primeNoneCard

/-- THE SECOND FORM's CARD OF 'similelaw04.PrimeNone'. -/
def primeNoneUptoCard : Claim7 := { stood := { row := primeNoneUptoRow, standIns := [], harness := (true, "3bc4c14dabeb234c55229ea5f0618d3265053dc0a8cb3bd63c22001aa0484a14"), looks := false }, kinds := [], alts := [], laidByText := true, laidKinds := [.data, .data], laidTests := true, laidLooks := .later }
def PrimeNoneUptoCardSaid : Prop := Claim7.holds Tryz.pinned (.plain (OpenSpec.upto primeNoneSpec)) primeNoneUptoCard
end Rows
end Go.Proofs.YtnjhppdcpjgfmaaGreatDoor
