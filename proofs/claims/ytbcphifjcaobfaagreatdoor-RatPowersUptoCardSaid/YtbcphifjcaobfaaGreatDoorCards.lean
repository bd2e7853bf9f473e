/-
  DERIVED. GIVEN WITH THE SEED: THE CARDS: each row of YtbcphifjcaobfaaGreatDoorRows.lean that lists a variable, with what it lists TIED to the program's text (the seventh form; the later family's looks); each row that meets fmt, with fmt's text TOLD by the authors' own Lean function (tested against real Go, not proved from fmt's source: count such statements apart). THE CARD IS WHAT COUNTS. Prove the row's statement (the work); the ties are given (YtbcphifjcaobfaaGreatDoorTie.lean); close each card by the builder's one call (the guide's Derived/Test/ToyasCard.lean, 'card_holds'). Laid BY PROGRAM, IN A SANDBOX (cutbox-door.mjs). By AI agents, Wed Nov 11 2026. No macro, syntax, notation, axiom, sorry.
-/
import Derived.Test.YtbcphifjcaobfaaGreatDoorRows
import GoSem.ClaimSeven
namespace Go.Proofs.YtbcphifjcaobfaaGreatDoor
namespace Rows

/-- THE TIED CARD OF 'similelaw05.RatForms'. -/
def ratFormsCard : Claim7 := { stood := { row := ratFormsRow, standIns := [], harness := (true, "d8b0cf6edc37beb44750119c796a393d567b2da37357b85b2d0ce25775fcd427"), looks := false }, kinds := [], alts := [], laidByText := true, laidKinds := [.data], laidTests := true, laidLooks := .later }
def RatFormsCardSaid : Prop := Claim7.holds Tryz.pinned (.plain (OpenSpec.ofChange ratFormsSpec)) ratFormsCard

/-- THE TIED CARD OF 'similelaw05.RatSums'. -/
def ratSumsCard : Claim7 := { stood := { row := ratSumsRow, standIns := [], harness := (true, "d8b0cf6edc37beb44750119c796a393d567b2da37357b85b2d0ce25775fcd427"), looks := false }, kinds := [], alts := [], laidByText := true, laidKinds := [.data], laidTests := true, laidLooks := .later }
def RatSumsCardSaid : Prop := Claim7.holds Tryz.pinned (.plain (OpenSpec.ofChange ratSumsSpec)) ratSumsCard

/-- THE TIED CARD OF 'similelaw05.RatQuotients'. -/
def ratQuotientsCard : Claim7 := { stood := { row := ratQuotientsRow, standIns := [], harness := (true, "d8b0cf6edc37beb44750119c796a393d567b2da37357b85b2d0ce25775fcd427"), looks := false }, kinds := [], alts := [], laidByText := true, laidKinds := [.data], laidTests := true, laidLooks := .later }
def RatQuotientsCardSaid : Prop := Claim7.holds Tryz.pinned (.plain (OpenSpec.ofChange ratQuotientsSpec)) ratQuotientsCard

/-- THE TIED CARD OF 'similelaw05.RatPowers'. -/
def ratPowersCard : Claim7 := { stood := { row := ratPowersRow, standIns := [], harness := (true, "d8b0cf6edc37beb44750119c796a393d567b2da37357b85b2d0ce25775fcd427"), looks := false }, kinds := [], alts := [], laidByText := true, laidKinds := [.data, .data], laidTests := true, laidLooks := .later }
def RatPowersCardSaid : Prop := Claim7.holds Tryz.pinned (.plain (OpenSpec.ofChange ratPowersSpec)) ratPowersCard

/-- THE TIED CARD OF 'similelaw05.RatCommon'. -/
def ratCommonCard : Claim7 := { stood := { row := ratCommonRow, standIns := [], harness := (true, "d8b0cf6edc37beb44750119c796a393d567b2da37357b85b2d0ce25775fcd427"), looks := false }, kinds := [], alts := [], laidByText := true, laidKinds := [.data], laidTests := true, laidLooks := .later }
def RatCommonCardSaid : Prop := Claim7.holds Tryz.pinned (.plain (OpenSpec.ofChange ratCommonSpec)) ratCommonCard

/-- THE TIED CARD OF 'similelaw05.RatParts'. -/
def ratPartsCard : Claim7 := { stood := { row := ratPartsRow, standIns := [], harness := (true, "d8b0cf6edc37beb44750119c796a393d567b2da37357b85b2d0ce25775fcd427"), looks := false }, kinds := [], alts := [], laidByText := true, laidKinds := [.data], laidTests := true, laidLooks := .later }
def RatPartsCardSaid : Prop := Claim7.holds Tryz.pinned (.plain (OpenSpec.ofChange ratPartsSpec)) ratPartsCard

/-- THE TIED CARD OF 'similelaw05.RatField'. -/
def ratFieldCard : Claim7 := { stood := { row := ratFieldRow, standIns := [], harness := (true, "d8b0cf6edc37beb44750119c796a393d567b2da37357b85b2d0ce25775fcd427"), looks := false }, kinds := [], alts := [], laidByText := true, laidKinds := [.data], laidTests := true, laidLooks := .later }
def RatFieldCardSaid : Prop := Claim7.holds Tryz.pinned (.plain (OpenSpec.ofChange ratFieldSpec)) ratFieldCard

/-- THE SECOND FORM's CARD OF 'similelaw05.RatForms'. -/
def ratFormsUptoCard : Claim7 := { stood := { row := ratFormsUptoRow, standIns := [], harness := (true, "d8b0cf6edc37beb44750119c796a393d567b2da37357b85b2d0ce25775fcd427"), looks := false }, kinds := [], alts := [], laidByText := true, laidKinds := [.data], laidTests := true, laidLooks := .later }
def RatFormsUptoCardSaid : Prop := Claim7.holds Tryz.pinned (.plain (OpenSpec.upto ratFormsSpec)) ratFormsUptoCard

/-- THE SECOND FORM's CARD OF 'similelaw05.RatSums'. -/
def ratSumsUptoCard : Claim7 := { stood := { row := ratSumsUptoRow, standIns := [], harness := (true, "d8b0cf6edc37beb44750119c796a393d567b2da37357b85b2d0ce25775fcd427"), looks := false }, kinds := [], alts := [], laidByText := true, laidKinds := [.data], laidTests := true, laidLooks := .later }
def RatSumsUptoCardSaid : Prop := Claim7.holds Tryz.pinned (.plain (OpenSpec.upto ratSumsSpec)) ratSumsUptoCard

/-- THE SECOND FORM's CARD OF 'similelaw05.RatQuotients'. -/
def ratQuotientsUptoCard : Claim7 := { stood := { row := ratQuotientsUptoRow, standIns := [], harness := (true, "d8b0cf6edc37beb44750119c796a393d567b2da37357b85b2d0ce25775fcd427"), looks := false }, kinds := [], alts := [], laidByText := true, laidKinds := [.data], laidTests := true, laidLooks := .later }
def RatQuotientsUptoCardSaid : Prop := Claim7.holds Tryz.pinned (.plain (OpenSpec.upto ratQuotientsSpec)) ratQuotientsUptoCard

/-- THE SECOND FORM's CARD OF 'similelaw05.RatPowers'. -/
def ratPowersUptoCard : Claim7 := { stood := { row := ratPowersUptoRow, standIns := [], harness := (true, "d8b0cf6edc37beb44750119c796a393d567b2da37357b85b2d0ce25775fcd427"), looks := false }, kinds := [], alts := [], laidByText := true, laidKinds := [.data, .data], laidTests := true, laidLooks := .later }
def RatPowersUptoCardSaid : Prop := Claim7.holds Tryz.pinned (.plain (OpenSpec.upto ratPowersSpec)) ratPowersUptoCard

/-- THE SECOND FORM's CARD OF 'similelaw05.RatCommon'. -/
def ratCommonUptoCard : Claim7 := { stood := { row := ratCommonUptoRow, standIns := [], harness := (true, "d8b0cf6edc37beb44750119c796a393d567b2da37357b85b2d0ce25775fcd427"), looks := false }, kinds := [], alts := [], laidByText := true, laidKinds := [.data], laidTests := true, laidLooks := .later }
def RatCommonUptoCardSaid : Prop := Claim7.holds Tryz.pinned (.plain (OpenSpec.upto ratCommonSpec)) ratCommonUptoCard

/-- THE SECOND FORM's CARD OF 'similelaw05.RatParts'. -/
def ratPartsUptoCard : Claim7 := { stood := { row := ratPartsUptoRow, standIns := [], harness := (true, "d8b0cf6edc37beb44750119c796a393d567b2da37357b85b2d0ce25775fcd427"), looks := false }, kinds := [], alts := [], laidByText := true, laidKinds := [.data], laidTests := true, laidLooks := .later }
def RatPartsUptoCardSaid : Prop := Claim7.holds Tryz.pinned (.plain (OpenSpec.upto ratPartsSpec)) ratPartsUptoCard

/-- THE SECOND FORM's CARD OF 'similelaw05.RatField'. -/
def ratFieldUptoCard : Claim7 := { stood := { row := ratFieldUptoRow, standIns := [], harness := (true, "d8b0cf6edc37beb44750119c796a393d567b2da37357b85b2d0ce25775fcd427"), looks := false }, kinds := [], alts := [], laidByText := true, laidKinds := [.data], laidTests := true, laidLooks := .later }
def RatFieldUptoCardSaid : Prop := Claim7.holds Tryz.pinned (.plain (OpenSpec.upto ratFieldSpec)) ratFieldUptoCard
end Rows
end Go.Proofs.YtbcphifjcaobfaaGreatDoor
