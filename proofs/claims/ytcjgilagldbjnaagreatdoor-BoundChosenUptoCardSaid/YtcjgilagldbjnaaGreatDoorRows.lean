/-
  NARROWER THAN 'FOR EVERY INPUT', by the rows' own cells (each row's printed sentence says how): BoundChooses: laid · BoundChosen: laid.
  DERIVED. THE GIVEN ROWS OF THIS SEAT. 2 by the template 'for every input the law returns true; each argument reads behind the call as it read before'; 0 by the template 'total and deterministic' (their statements: YtcjgilagldbjnaaGreatDoorTotals.lean).
  GIVEN WITH THE SEED: the statements are not yours to turn. If you find one false, say at which input.
  Laid BY PROGRAM, IN A SANDBOX (cutbox-rows.mjs): the forced cells as the released guide's own fill.sh prints them over the translation e319429fbf232a38… (all of the seat's roots in one cut). By AI agents, Wed Nov 11 2026. No macro, syntax, notation, axiom, sorry.
-/
import Derived.Test.YtcjgilagldbjnaaGreatDoorChecked
import GoSem.Claim
import GoSem.ClaimJoined
import GoSem.ClaimMapViews
import Derived.JoinedTies
import Derived.KernelRfl
namespace Go.Proofs.YtcjgilagldbjnaaGreatDoor
/- THE CELL 'sum', in the pinned program and in every row, IS THE sha256 OF THE DUMP (.gsa) THAT YtcjgilagldbjnaaGreatDoorProg.lean LOADS. Nothing in Lean hashes anything: it is a label: what it is worth is what the hold of that sum in a sandbox is worth. -/
noncomputable def Tryz.pinned : Pinned := { name := "ytcjgilagldbjnaagreatdoor", sum := "e319429fbf232a38fece98d29a2e7a642cd1d5a9b75234927a825dbde24e19dc", checked := Tryz.checked }
namespace Rows
def none {H : Type} : Left H := { results := [], args := [] }

/- WHAT THE LISTED PACKAGE-LEVEL VARIABLES READ AS WHEN THE CALL BEGINS. Each datum BY PROGRAM (the guide's laid-datum.mjs) off the statement by which the dump's own 'gosem.cut.vars' lays the variable. In a bare row this is a premise. The card (YtcjgilagldbjnaaGreatDoorCards.lean) ties it to the program's text. -/
def laid_simile_prime_bases {H : Type} : DataW H := .agg [.lit (.int .u32 2), .lit (.int .u32 7), .lit (.int .u32 61)]

/-- 'similelaw22.BoundChooses': WHATEVER THE INPUT: true; the input reads as it did. -/
def boundChoosesSpec : ChangeSpec := { name := "boundChooses", fn := fun _ => fun
  | [d1, d2] => { results := [.lit (.bool true)], args := [d1, d2] }
  | _ => none }
def boundChoosesRow : OpenClaim := { program := "ytcjgilagldbjnaagreatdoor", sum := "e319429fbf232a38fece98d29a2e7a642cd1d5a9b75234927a825dbde24e19dc", func := "simile/similelaw22.BoundChooses", spec := "boundChooses", inPlace := ["math/bits.Add64", "math/bits.Sub64"], unfollowed := true, recurses := true, named := ["simile/prime.bases"], apart := false, laid := [("simile/prime.bases", laid_simile_prime_bases)] }
def BoundChoosesSaid : Prop := boundChoosesRow.holds Tryz.pinned (OpenSpec.ofChange boundChoosesSpec)

/-- ITS FALSE NEIGHBOUR: 'it returns false'. Refute it at one input. -/
def boundChoosesWrong : ChangeSpec := { name := "boundChooses", fn := fun _ => fun
  | [d1, d2] => { results := [.lit (.bool false)], args := [d1, d2] }
  | _ => none }
def BoundChoosesWrongFalsely : Prop := boundChoosesRow.holds Tryz.pinned (OpenSpec.ofChange boundChoosesWrong)

/-- 'similelaw22.BoundChosen': WHATEVER THE INPUT: true; the input reads as it did. -/
def boundChosenSpec : ChangeSpec := { name := "boundChosen", fn := fun _ => fun
  | [d1, d2] => { results := [.lit (.bool true)], args := [d1, d2] }
  | _ => none }
def boundChosenRow : OpenClaim := { program := "ytcjgilagldbjnaagreatdoor", sum := "e319429fbf232a38fece98d29a2e7a642cd1d5a9b75234927a825dbde24e19dc", func := "simile/similelaw22.BoundChosen", spec := "boundChosen", inPlace := ["math/bits.Add64", "math/bits.Sub64"], unfollowed := true, recurses := true, named := ["simile/prime.bases"], apart := false, laid := [("simile/prime.bases", laid_simile_prime_bases)] }
def BoundChosenSaid : Prop := boundChosenRow.holds Tryz.pinned (OpenSpec.ofChange boundChosenSpec)

/-- ITS FALSE NEIGHBOUR: 'it returns false'. Refute it at one input. -/
def boundChosenWrong : ChangeSpec := { name := "boundChosen", fn := fun _ => fun
  | [d1, d2] => { results := [.lit (.bool false)], args := [d1, d2] }
  | _ => none }
def BoundChosenWrongFalsely : Prop := boundChosenRow.holds Tryz.pinned (OpenSpec.ofChange boundChosenWrong)

/- THE SECOND FORM. 'bulk': how many values and letters a reading holds, each counted each time it is reached (what is shared counts as often as it is met; a slice's spare places count too). A statement '..UptoSaid' is the law's where the arguments, and the package variables that the reading takes, are together of bulk at most 1048576: NARROWER than '..Said'. Prove '..Said' where nothing that the law and all that it calls make is longer than what came in: it says more and counts as full. Else prove '..UptoSaid'. A law counts once. -/
mutual
def uptoBulk {H : Type} : DataW H → Nat
  | .lit (.string bytes) => bytes.length + 1
  | .lit _ => 1
  | .nil => 1
  | .ptr d => uptoBulk d + 1
  | .slice elems spare => uptoBulkAll elems + uptoBulkAll spare + 1
  | .agg parts => uptoBulkAll parts + 1
  | .iface _ d => uptoBulk d + 1
  | .map entries => uptoBulkEntries entries + 1
  | .held _ => 1
def uptoBulkAll {H : Type} : List (DataW H) → Nat
  | [] => 0
  | d :: r => uptoBulk d + uptoBulkAll r
def uptoBulkEntries {H : Type} : List (Lit × DataW H) → Nat
  | [] => 0
  | x :: r => uptoBulkEntry x + uptoBulkEntries r
def uptoBulkEntry {H : Type} : Lit × DataW H → Nat
  | (.string bytes, d) => bytes.length + uptoBulk d + 1
  | (_, d) => uptoBulk d + 1
 end
def uptoSmall : (H : Type) → List (DataW H) → Bool := fun _ ds => decide (uptoBulkAll ds ≤ 1048576)
def OpenSpec.upto (s : _root_.Go.ChangeSpec) : _root_.Go.OpenSpec := { _root_.Go.OpenSpec.ofChange s with cond := some uptoSmall }

/-- 'similelaw22.BoundChooses', WHERE WHAT IT READS IS OF BULK AT MOST 1048576: true; the input reads as it did. -/
def boundChoosesUptoRow : OpenClaim := { program := "ytcjgilagldbjnaagreatdoor", sum := "e319429fbf232a38fece98d29a2e7a642cd1d5a9b75234927a825dbde24e19dc", func := "simile/similelaw22.BoundChooses", spec := "boundChooses", inPlace := ["math/bits.Add64", "math/bits.Sub64"], unfollowed := true, recurses := true, named := ["simile/prime.bases"], apart := false, laid := [("simile/prime.bases", laid_simile_prime_bases)], narrowed := true }
def BoundChoosesUptoSaid : Prop := boundChoosesUptoRow.holds Tryz.pinned (OpenSpec.upto boundChoosesSpec)

/-- 'similelaw22.BoundChosen', WHERE WHAT IT READS IS OF BULK AT MOST 1048576: true; the input reads as it did. -/
def boundChosenUptoRow : OpenClaim := { program := "ytcjgilagldbjnaagreatdoor", sum := "e319429fbf232a38fece98d29a2e7a642cd1d5a9b75234927a825dbde24e19dc", func := "simile/similelaw22.BoundChosen", spec := "boundChosen", inPlace := ["math/bits.Add64", "math/bits.Sub64"], unfollowed := true, recurses := true, named := ["simile/prime.bases"], apart := false, laid := [("simile/prime.bases", laid_simile_prime_bases)], narrowed := true }
def BoundChosenUptoSaid : Prop := boundChosenUptoRow.holds Tryz.pinned (OpenSpec.upto boundChosenSpec)

end Rows
end Go.Proofs.YtcjgilagldbjnaaGreatDoor
