/-
  DERIVED. GIVEN WITH THE SEED: THE CARDS: each row of YtanlejlmckdeiaaGreatDoorRows.lean that lists a variable, with what it lists TIED to the program's text (the seventh form; the later family's looks); each row that meets fmt, with fmt's text TOLD by the authors' own Lean function (tested against real Go, not proved from fmt's source: count such statements apart). THE CARD IS WHAT COUNTS. Prove the row's statement (the work); the ties are given (YtanlejlmckdeiaaGreatDoorTie.lean); close each card by the builder's one call (the guide's Derived/Test/ToyasCard.lean, 'card_holds'). Laid BY PROGRAM, IN A SANDBOX (cutbox-door.mjs). By AI agents, Wed Nov 11 2026. No macro, syntax, notation, axiom, sorry.
-/
import Derived.Test.YtanlejlmckdeiaaGreatDoorRows
import GoSem.ClaimSeven
namespace Go.Proofs.YtanlejlmckdeiaaGreatDoor
namespace Rows

/-- THE TIED CARD OF 'similelaw03.ZintCommon'. -/
def zintCommonCard : Claim7 := { stood := { row := zintCommonRow, standIns := [], harness := (true, "24860618fe4c28933d1f1088c7bfb4839dbbf1b637c5c48fdb3fd993df573005"), looks := false }, kinds := [], alts := [], laidByText := true, laidKinds := [.data], laidTests := true, laidLooks := .later }
def ZintCommonCardSaid : Prop := Claim7.holds Tryz.pinned (.plain (OpenSpec.ofChange zintCommonSpec)) zintCommonCard

/-- THE TIED CARD OF 'similelaw03.ZintPowers'. -/
def zintPowersCard : Claim7 := { stood := { row := zintPowersRow, standIns := [], harness := (true, "24860618fe4c28933d1f1088c7bfb4839dbbf1b637c5c48fdb3fd993df573005"), looks := false }, kinds := [], alts := [], laidByText := true, laidKinds := [.data], laidTests := true, laidLooks := .later }
def ZintPowersCardSaid : Prop := Claim7.holds Tryz.pinned (.plain (OpenSpec.ofChange zintPowersSpec)) zintPowersCard

/-- THE TIED CARD OF 'similelaw03.ZintRing'. -/
def zintRingCard : Claim7 := { stood := { row := zintRingRow, standIns := [], harness := (true, "24860618fe4c28933d1f1088c7bfb4839dbbf1b637c5c48fdb3fd993df573005"), looks := false }, kinds := [], alts := [], laidByText := true, laidKinds := [.data], laidTests := true, laidLooks := .later }
def ZintRingCardSaid : Prop := Claim7.holds Tryz.pinned (.plain (OpenSpec.ofChange zintRingSpec)) zintRingCard

/-- THE SECOND FORM's CARD OF 'similelaw03.ZintCommon'. -/
def zintCommonUptoCard : Claim7 := { stood := { row := zintCommonUptoRow, standIns := [], harness := (true, "24860618fe4c28933d1f1088c7bfb4839dbbf1b637c5c48fdb3fd993df573005"), looks := false }, kinds := [], alts := [], laidByText := true, laidKinds := [.data], laidTests := true, laidLooks := .later }
def ZintCommonUptoCardSaid : Prop := Claim7.holds Tryz.pinned (.plain (OpenSpec.upto zintCommonSpec)) zintCommonUptoCard

/-- THE SECOND FORM's CARD OF 'similelaw03.ZintPowers'. -/
def zintPowersUptoCard : Claim7 := { stood := { row := zintPowersUptoRow, standIns := [], harness := (true, "24860618fe4c28933d1f1088c7bfb4839dbbf1b637c5c48fdb3fd993df573005"), looks := false }, kinds := [], alts := [], laidByText := true, laidKinds := [.data], laidTests := true, laidLooks := .later }
def ZintPowersUptoCardSaid : Prop := Claim7.holds Tryz.pinned (.plain (OpenSpec.upto zintPowersSpec)) zintPowersUptoCard

/-- THE SECOND FORM's CARD OF 'similelaw03.ZintRing'. -/
def zintRingUptoCard : Claim7 := { stood := { row := zintRingUptoRow, standIns := [], harness := (true, "24860618fe4c28933d1f1088c7bfb4839dbbf1b637c5c48fdb3fd993df573005"), looks := false }, kinds := [], alts := [], laidByText := true, laidKinds := [.data], laidTests := true, laidLooks := .later }
def ZintRingUptoCardSaid : Prop := Claim7.holds Tryz.pinned (.plain (OpenSpec.upto zintRingSpec)) zintRingUptoCard
end Rows
end Go.Proofs.YtanlejlmckdeiaaGreatDoor
