/-
  DERIVED. GIVEN WITH THE SEED: THE CARDS: each row of YtcfalkcceanldaaGreatDoorRows.lean that lists a variable, with what it lists TIED to the program's text (the seventh form; the later family's looks); each row that meets fmt, with fmt's text TOLD by the authors' own Lean function (tested against real Go, not proved from fmt's source: count such statements apart). THE CARD IS WHAT COUNTS. Prove the row's statement (the work); the ties are given (YtcfalkcceanldaaGreatDoorTie.lean); close each card by the builder's one call (the guide's Derived/Test/ToyasCard.lean, 'card_holds'). Laid BY PROGRAM, IN A SANDBOX (cutbox-door.mjs). By AI agents, Wed Nov 11 2026. No macro, syntax, notation, axiom, sorry.
-/
import Derived.Test.YtcfalkcceanldaaGreatDoorRows
import GoSem.ClaimSeven
namespace Go.Proofs.YtcfalkcceanldaaGreatDoor
namespace Rows

/-- THE TIED CARD OF 'similelaw04.PrimeOf'. -/
def primeOfCard : Claim7 := { stood := { row := primeOfRow, standIns := [], harness := (true, "aec9f52d4ee796cebb8c9ba7c96b4af245518e2a0518d66d5f0b29654797fb4b"), looks := false }, kinds := [], alts := [], laidByText := true, laidKinds := [.data, .data], laidTests := true, laidLooks := .later }
def PrimeOfCardSaid : Prop := Claim7.holds Tryz.pinned (.plain (OpenSpec.ofChange primeOfSpec)) primeOfCard

/-- THE SECOND FORM's CARD OF 'similelaw04.PrimeOf'. -/
def primeOfUptoCard : Claim7 := { stood := { row := primeOfUptoRow, standIns := [], harness := (true, "aec9f52d4ee796cebb8c9ba7c96b4af245518e2a0518d66d5f0b29654797fb4b"), looks := false }, kinds := [], alts := [], laidByText := true, laidKinds := [.data, .data], laidTests := true, laidLooks := .later }
def PrimeOfUptoCardSaid : Prop := Claim7.holds Tryz.pinned (.plain (OpenSpec.upto primeOfSpec)) primeOfUptoCard
end Rows
end Go.Proofs.YtcfalkcceanldaaGreatDoor
