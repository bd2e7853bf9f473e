/-
  DERIVED. GIVEN WITH THE SEED: THE CARDS: each row of YtcopkeccogpkmaaDoorRows.lean that lists a variable, with what it lists TIED to the program's text (the seventh form; the later family's looks); each row that meets fmt, with fmt's text TOLD by the authors' own Lean function (tested against real Go, not proved from fmt's source: count such statements apart). THE CARD IS WHAT COUNTS. Prove the row's statement (the work); the ties are given (YtcopkeccogpkmaaDoorTie.lean); close each card by the builder's one call (the guide's Derived/Test/ToyasCard.lean, 'card_holds'). Laid BY PROGRAM, IN A SANDBOX (cutbox-door.mjs). By AI agents, Wed Nov 11 2026. No macro, syntax, notation, axiom, sorry.
-/
import Derived.Test.YtcopkeccogpkmaaDoorRows
import GoSem.ClaimSeven
namespace Go.Proofs.YtcopkeccogpkmaaDoor
namespace Rows

/-- THE TIED CARD OF 'similelaw04.PrimeFactors'. -/
def primeFactorsCard : Claim7 := { stood := { row := primeFactorsRow, standIns := [], harness := (true, "67fab7f03d093b85bc675b322ebb8474863c312906556aaf99508abc0701e61b"), looks := false }, kinds := [], alts := [], laidByText := true, laidKinds := [.data], laidTests := true, laidLooks := .later }
def PrimeFactorsCardSaid : Prop := Claim7.holds Tryd.pinned (.plain (OpenSpec.ofChange primeFactorsSpec)) primeFactorsCard

/-- THE TIED CARD OF 'similelaw04.PrimeParts'. -/
def primePartsCard : Claim7 := { stood := { row := primePartsRow, standIns := [], harness := (true, "67fab7f03d093b85bc675b322ebb8474863c312906556aaf99508abc0701e61b"), looks := false }, kinds := [], alts := [], laidByText := true, laidKinds := [.data], laidTests := true, laidLooks := .later }
def PrimePartsCardSaid : Prop := Claim7.holds Tryd.pinned (.plain (OpenSpec.ofChange primePartsSpec)) primePartsCard

/-- THE SECOND FORM's CARD OF 'similelaw04.PrimeFactors'. -/
def primeFactorsUptoCard : Claim7 := { stood := { row := primeFactorsUptoRow, standIns := [], harness := (true, "67fab7f03d093b85bc675b322ebb8474863c312906556aaf99508abc0701e61b"), looks := false }, kinds := [], alts := [], laidByText := true, laidKinds := [.data], laidTests := true, laidLooks := .later }
def PrimeFactorsUptoCardSaid : Prop := Claim7.holds Tryd.pinned (.plain (OpenSpec.upto primeFactorsSpec)) primeFactorsUptoCard

/-- THE SECOND FORM's CARD OF 'similelaw04.PrimeParts'. -/
def primePartsUptoCard : Claim7 := { stood := { row := primePartsUptoRow, standIns := [], harness := (true, "67fab7f03d093b85bc675b322ebb8474863c312906556aaf99508abc0701e61b"), looks := false }, kinds := [], alts := [], laidByText := true, laidKinds := [.data], laidTests := true, laidLooks := .later }
def PrimePartsUptoCardSaid : Prop := Claim7.holds Tryd.pinned (.plain (OpenSpec.upto primePartsSpec)) primePartsUptoCard
end Rows
end Go.Proofs.YtcopkeccogpkmaaDoor
