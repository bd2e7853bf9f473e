/-
  DERIVED. GIVEN WITH THE SEED: THE CARDS: each row of YtklpghhochfepaaGreatDoorRows.lean that lists a variable, with what it lists TIED to the program's text (the seventh form; the later family's looks); each row that meets fmt, with fmt's text TOLD by the authors' own Lean function (tested against real Go, not proved from fmt's source: count such statements apart). THE CARD IS WHAT COUNTS. Prove the row's statement (the work); the ties are given (YtklpghhochfepaaGreatDoorTie.lean); close each card by the builder's one call (the guide's Derived/Test/ToyasCard.lean, 'card_holds'). Laid BY PROGRAM, IN A SANDBOX (cutbox-door.mjs). By AI agents, Wed Nov 11 2026. No macro, syntax, notation, axiom, sorry.
-/
import Derived.Test.YtklpghhochfepaaGreatDoorRows
import GoSem.ClaimSeven
namespace Go.Proofs.YtklpghhochfepaaGreatDoor
namespace Rows

/-- THE TIED CARD OF 'similelaw06.CrtNames'. -/
def crtNamesCard : Claim7 := { stood := { row := crtNamesRow, standIns := [], harness := (true, "175f42c985b8c9ba4683d129e7119f75f4b274c18591a0cebb86c5a677dd9428"), looks := true }, kinds := [], alts := [], goes := true, laidByText := true, laidKinds := [.data, .data], laidTests := true, laidLooks := .later }
def CrtNamesCardSaid : Prop := Claim7.holds Tryz.pinned (.plain (OpenSpec.ofChange crtNamesSpec)) crtNamesCard

/-- THE TIED CARD OF 'similelaw12.BareissNames'. -/
def bareissNamesCard : Claim7 := { stood := { row := bareissNamesRow, standIns := [], harness := (true, "175f42c985b8c9ba4683d129e7119f75f4b274c18591a0cebb86c5a677dd9428"), looks := true }, kinds := [], alts := [], goes := true, laidByText := true, laidKinds := [.data], laidTests := true, laidLooks := .later }
def BareissNamesCardSaid : Prop := Claim7.holds Tryz.pinned (.plain (OpenSpec.ofChange bareissNamesSpec)) bareissNamesCard

/-- THE TIED CARD OF 'similelaw14.EvalmNames'. -/
def evalmNamesCard : Claim7 := { stood := { row := evalmNamesRow, standIns := [], harness := (true, "175f42c985b8c9ba4683d129e7119f75f4b274c18591a0cebb86c5a677dd9428"), looks := true }, kinds := [], alts := [], goes := true, laidByText := true, laidKinds := [.data], laidTests := true, laidLooks := .later }
def EvalmNamesCardSaid : Prop := Claim7.holds Tryz.pinned (.plain (OpenSpec.ofChange evalmNamesSpec)) evalmNamesCard

/-- THE TIED CARD OF 'similelaw20.CharfreeNames'. -/
def charfreeNamesCard : Claim7 := { stood := { row := charfreeNamesRow, standIns := [], harness := (true, "175f42c985b8c9ba4683d129e7119f75f4b274c18591a0cebb86c5a677dd9428"), looks := true }, kinds := [], alts := [], goes := true, laidByText := true, laidKinds := [.data], laidTests := true, laidLooks := .later }
def CharfreeNamesCardSaid : Prop := Claim7.holds Tryz.pinned (.plain (OpenSpec.ofChange charfreeNamesSpec)) charfreeNamesCard

/-- THE SECOND FORM's CARD OF 'similelaw06.CrtNames'. -/
def crtNamesUptoCard : Claim7 := { stood := { row := crtNamesUptoRow, standIns := [], harness := (true, "175f42c985b8c9ba4683d129e7119f75f4b274c18591a0cebb86c5a677dd9428"), looks := true }, kinds := [], alts := [], goes := true, laidByText := true, laidKinds := [.data, .data], laidTests := true, laidLooks := .later }
def CrtNamesUptoCardSaid : Prop := Claim7.holds Tryz.pinned (.plain (OpenSpec.upto crtNamesSpec)) crtNamesUptoCard

/-- THE SECOND FORM's CARD OF 'similelaw12.BareissNames'. -/
def bareissNamesUptoCard : Claim7 := { stood := { row := bareissNamesUptoRow, standIns := [], harness := (true, "175f42c985b8c9ba4683d129e7119f75f4b274c18591a0cebb86c5a677dd9428"), looks := true }, kinds := [], alts := [], goes := true, laidByText := true, laidKinds := [.data], laidTests := true, laidLooks := .later }
def BareissNamesUptoCardSaid : Prop := Claim7.holds Tryz.pinned (.plain (OpenSpec.upto bareissNamesSpec)) bareissNamesUptoCard

/-- THE SECOND FORM's CARD OF 'similelaw14.EvalmNames'. -/
def evalmNamesUptoCard : Claim7 := { stood := { row := evalmNamesUptoRow, standIns := [], harness := (true, "175f42c985b8c9ba4683d129e7119f75f4b274c18591a0cebb86c5a677dd9428"), looks := true }, kinds := [], alts := [], goes := true, laidByText := true, laidKinds := [.data], laidTests := true, laidLooks := .later }
def EvalmNamesUptoCardSaid : Prop := Claim7.holds Tryz.pinned (.plain (OpenSpec.upto evalmNamesSpec)) evalmNamesUptoCard

/-- THE SECOND FORM's CARD OF 'similelaw20.CharfreeNames'. -/
def charfreeNamesUptoCard : Claim7 := { stood := { row := charfreeNamesUptoRow, standIns := [], harness := (true, "175f42c985b8c9ba4683d129e7119f75f4b274c18591a0cebb86c5a677dd9428"), looks := true }, kinds := [], alts := [], goes := true, laidByText := true, laidKinds := [.data], laidTests := true, laidLooks := .later }
def CharfreeNamesUptoCardSaid : Prop := Claim7.holds Tryz.pinned (.plain (OpenSpec.upto charfreeNamesSpec)) charfreeNamesUptoCard
end Rows
end Go.Proofs.YtklpghhochfepaaGreatDoor
