/-
  NARROWER THAN 'FOR EVERY INPUT', by the rows' own cells (each row's printed sentence says how): ModpolyNames: laid · BoundNames: laid.
  DERIVED. THE GIVEN ROWS OF THIS SEAT. 2 by the template 'for every input the law returns true; each argument reads behind the call as it read before'; 0 by the template 'total and deterministic' (their statements: YtklpghhochfepaaDoorTotals.lean).
  GIVEN WITH THE SEED: the statements are not yours to turn. If you find one false, say at which input.
  Laid BY PROGRAM, IN A SANDBOX (cutbox-rows.mjs): the forced cells as the released guide's own fill.sh prints them over the translation 65fdc7ad6f52ef47… (all of the seat's roots in one cut). By AI agents, Wed Nov 11 2026. No macro, syntax, notation, axiom, sorry.
-/
import Derived.Test.YtklpghhochfepaaDoorChecked
import GoSem.Claim
import GoSem.ClaimJoined
import GoSem.ClaimMapViews
import Derived.JoinedTies
import Derived.KernelRfl
namespace Go.Proofs.YtklpghhochfepaaDoor
/- THE CELL 'sum', in the pinned program and in every row, IS THE sha256 OF THE DUMP (.gsa) THAT YtklpghhochfepaaDoorProg.lean LOADS. Nothing in Lean hashes anything: it is a label: what it is worth is what the hold of that sum in a sandbox is worth. -/
noncomputable def Tryd.pinned : Pinned := { name := "ytklpghhochfepaadoor", sum := "65fdc7ad6f52ef47be5ca6d87fbbf01d8f0a0b12e9081b2f674c12d701b5a1d2", checked := Tryd.checked }
namespace Rows
def none {H : Type} : Left H := { results := [], args := [] }

/- WHAT THE LISTED PACKAGE-LEVEL VARIABLES READ AS WHEN THE CALL BEGINS. Each datum BY PROGRAM (the guide's laid-datum.mjs) off the statement by which the dump's own 'gosem.cut.vars' lays the variable. In a bare row this is a premise. The card (YtklpghhochfepaaDoorCards.lean) ties it to the program's text. -/
def laid_simile_prime_bases {H : Type} : DataW H := .agg [.lit (.int .u32 2), .lit (.int .u32 7), .lit (.int .u32 61)]

/-- 'similelaw08.ModpolyNames': WHATEVER THE INPUT: true; the input reads as it did. -/
def modpolyNamesSpec : ChangeSpec := { name := "modpolyNames", fn := fun _ => fun
  | [] => { results := [.lit (.bool true)], args := [] }
  | _ => none }
def modpolyNamesRow : OpenClaim := { program := "ytklpghhochfepaadoor", sum := "65fdc7ad6f52ef47be5ca6d87fbbf01d8f0a0b12e9081b2f674c12d701b5a1d2", func := "simile/similelaw08.ModpolyNames", spec := "modpolyNames", inPlace := ["math/bits.Add64"], unfollowed := true, recurses := true, named := ["simile/prime.bases"], apart := false, laid := [("simile/prime.bases", laid_simile_prime_bases)] }
def ModpolyNamesSaid : Prop := modpolyNamesRow.holds Tryd.pinned (OpenSpec.ofChange modpolyNamesSpec)

/-- ITS FALSE NEIGHBOUR: 'it returns false'. Refute it at one input. -/
def modpolyNamesWrong : ChangeSpec := { name := "modpolyNames", fn := fun _ => fun
  | [] => { results := [.lit (.bool false)], args := [] }
  | _ => none }
def ModpolyNamesWrongFalsely : Prop := modpolyNamesRow.holds Tryd.pinned (OpenSpec.ofChange modpolyNamesWrong)

/-- 'similelaw22.BoundNames': WHATEVER THE INPUT: true; the input reads as it did. -/
def boundNamesSpec : ChangeSpec := { name := "boundNames", fn := fun _ => fun
  | [] => { results := [.lit (.bool true)], args := [] }
  | _ => none }
def boundNamesRow : OpenClaim := { program := "ytklpghhochfepaadoor", sum := "65fdc7ad6f52ef47be5ca6d87fbbf01d8f0a0b12e9081b2f674c12d701b5a1d2", func := "simile/similelaw22.BoundNames", spec := "boundNames", inPlace := ["math/bits.Add64", "math/bits.Sub64"], unfollowed := true, recurses := true, named := ["simile/prime.bases"], apart := false, laid := [("simile/prime.bases", laid_simile_prime_bases)] }
def BoundNamesSaid : Prop := boundNamesRow.holds Tryd.pinned (OpenSpec.ofChange boundNamesSpec)

/-- ITS FALSE NEIGHBOUR: 'it returns false'. Refute it at one input. -/
def boundNamesWrong : ChangeSpec := { name := "boundNames", fn := fun _ => fun
  | [] => { results := [.lit (.bool false)], args := [] }
  | _ => none }
def BoundNamesWrongFalsely : Prop := boundNamesRow.holds Tryd.pinned (OpenSpec.ofChange boundNamesWrong)

/- THE SECOND FORM. 'bulk': how many values and letters a reading holds, each counted each time it is reached (what is shared counts as often as it is met; a slice's spare places count too). A statement '..UptoSaid' is the law's where the arguments, and the package variables that the reading takes, are together of bulk at most 1048576: NARROWER than '..Said'. Prove '..Said' where nothing that the law and all that it calls make is longer than what came in: it says more and counts as full. Else prove '..UptoSaid'. A law counts once. -/
mutual
def uptoBulk {H : Type} : DataW H → Nat
  | .lit (.string bytes) => bytes.length + 1
  | .lit _ => 1
  | .nil => 1
  | .ptr d => uptoBulk d + 1
  | .slice elems spare => uptoBulkAll elems + uptoBulkAll spare + 1
  | .agg parts => uptoBulkAll parts + 1
  | .iface _ d => uptoBulk d + 1
  | .map entries => uptoBulkEntries entries + 1
  | .held _ => 1
def uptoBulkAll {H : Type} : List (DataW H) → Nat
  | [] => 0
  | d :: r => uptoBulk d + uptoBulkAll r
def uptoBulkEntries {H : Type} : List (Lit × DataW H) → Nat
  | [] => 0
  | x :: r => uptoBulkEntry x + uptoBulkEntries r
def uptoBulkEntry {H : Type} : Lit × DataW H → Nat
  | (.string bytes, d) => bytes.length + uptoBulk d + 1
  | (_, d) => uptoBulk d + 1
 end
def uptoSmall : (H : Type) → List (DataW H) → Bool := fun _ ds => decide (uptoBulkAll ds ≤ 1048576)
def OpenSpec.upto (s : _root_.Go.ChangeSpec) : _root_.Go.OpenSpec := { _root_.Go.OpenSpec.ofChange s with cond := some uptoSmall }

/-- 'similelaw08.ModpolyNames', WHERE WHAT IT READS IS OF BULK AT MOST 1048576: true; the input reads as it did. -/
def modpolyNamesUptoRow : OpenClaim := { program := "ytklpghhochfepaadoor", sum := "65fdc7ad6f52ef47be5ca6d87fbbf01d8f0a0b12e9081b2f674c12d701b5a1d2", func := "simile/similelaw08.ModpolyNames", spec := "modpolyNames", inPlace := ["math/bits.Add64"], unfollowed := true, recurses := true, named := ["simile/prime.bases"], apart := false, laid := [("simile/prime.bases", laid_simile_prime_bases)], narrowed := true }
def ModpolyNamesUptoSaid : Prop := modpolyNamesUptoRow.holds Tryd.pinned (OpenSpec.upto modpolyNamesSpec)

/-- 'similelaw22.BoundNames', WHERE WHAT IT READS IS OF BULK AT MOST 1048576: true; the input reads as it did. -/
def boundNamesUptoRow : OpenClaim := { program := "ytklpghhochfepaadoor", sum := "65fdc7ad6f52ef47be5ca6d87fbbf01d8f0a0b12e9081b2f674c12d701b5a1d2", func := "simile/similelaw22.BoundNames", spec := "boundNames", inPlace := ["math/bits.Add64", "math/bits.Sub64"], unfollowed := true, recurses := true, named := ["simile/prime.bases"], apart := false, laid := [("simile/prime.bases", laid_simile_prime_bases)], narrowed := true }
def BoundNamesUptoSaid : Prop := boundNamesUptoRow.holds Tryd.pinned (OpenSpec.upto boundNamesSpec)

end Rows
end Go.Proofs.YtklpghhochfepaaDoor
