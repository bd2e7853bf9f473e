/-
  NARROWER THAN 'FOR EVERY INPUT', by the rows' own cells (each row's printed sentence says how): HessAsks: laid · HessReduces: laid · HessOf: laid · HessSame: laid.
  DERIVED. THE GIVEN ROWS OF THIS SEAT. 4 by the template 'for every input the law returns true; each argument reads behind the call as it read before'; 0 by the template 'total and deterministic' (their statements: YtbafiahmcfkboaaDoorTotals.lean).
  GIVEN WITH THE SEED: the statements are not yours to turn. If you find one false, say at which input.
  Laid BY PROGRAM, IN A SANDBOX (cutbox-rows.mjs): the forced cells as the released guide's own fill.sh prints them over the translation baab4909e670f653… (all of the seat's roots in one cut). By AI agents, Wed Nov 11 2026. No macro, syntax, notation, axiom, sorry.
-/
import Derived.Test.YtbafiahmcfkboaaDoorChecked
import GoSem.Claim
import GoSem.ClaimJoined
import GoSem.ClaimMapViews
import Derived.JoinedTies
import Derived.KernelRfl
namespace Go.Proofs.YtbafiahmcfkboaaDoor
/- THE CELL 'sum', in the pinned program and in every row, IS THE sha256 OF THE DUMP (.gsa) THAT YtbafiahmcfkboaaDoorProg.lean LOADS. Nothing in Lean hashes anything: it is a label: what it is worth is what the hold of that sum in a sandbox is worth. -/
noncomputable def Tryd.pinned : Pinned := { name := "ytbafiahmcfkboaadoor", sum := "baab4909e670f653e22cc8875b5ce384170aeaff5c39e2db4525681772ef5d06", checked := Tryd.checked }
namespace Rows
def none {H : Type} : Left H := { results := [], args := [] }

/- WHAT THE LISTED PACKAGE-LEVEL VARIABLES READ AS WHEN THE CALL BEGINS. Each datum BY PROGRAM (the guide's laid-datum.mjs) off the statement by which the dump's own 'gosem.cut.vars' lays the variable. In a bare row this is a premise. The card (YtbafiahmcfkboaaDoorCards.lean) ties it to the program's text. -/
def laid_simile_prime_bases {H : Type} : DataW H := .agg [.lit (.int .u32 2), .lit (.int .u32 7), .lit (.int .u32 61)]

/-- 'similelaw21.HessAsks': WHATEVER THE INPUT: true; the input reads as it did. -/
def hessAsksSpec : ChangeSpec := { name := "hessAsks", fn := fun _ => fun
  | [d1, d2] => { results := [.lit (.bool true)], args := [d1, d2] }
  | _ => none }
def hessAsksRow : OpenClaim := { program := "ytbafiahmcfkboaadoor", sum := "baab4909e670f653e22cc8875b5ce384170aeaff5c39e2db4525681772ef5d06", func := "simile/similelaw21.HessAsks", spec := "hessAsks", unfollowed := true, recurses := true, named := ["simile/prime.bases"], apart := false, laid := [("simile/prime.bases", laid_simile_prime_bases)] }
def HessAsksSaid : Prop := hessAsksRow.holds Tryd.pinned (OpenSpec.ofChange hessAsksSpec)

/-- ITS FALSE NEIGHBOUR: 'it returns false'. Refute it at one input. -/
def hessAsksWrong : ChangeSpec := { name := "hessAsks", fn := fun _ => fun
  | [d1, d2] => { results := [.lit (.bool false)], args := [d1, d2] }
  | _ => none }
def HessAsksWrongFalsely : Prop := hessAsksRow.holds Tryd.pinned (OpenSpec.ofChange hessAsksWrong)

/-- 'similelaw21.HessReduces': WHATEVER THE INPUT: true; the input reads as it did. -/
def hessReducesSpec : ChangeSpec := { name := "hessReduces", fn := fun _ => fun
  | [d1, d2] => { results := [.lit (.bool true)], args := [d1, d2] }
  | _ => none }
def hessReducesRow : OpenClaim := { program := "ytbafiahmcfkboaadoor", sum := "baab4909e670f653e22cc8875b5ce384170aeaff5c39e2db4525681772ef5d06", func := "simile/similelaw21.HessReduces", spec := "hessReduces", unfollowed := true, recurses := true, named := ["simile/prime.bases"], apart := false, laid := [("simile/prime.bases", laid_simile_prime_bases)] }
def HessReducesSaid : Prop := hessReducesRow.holds Tryd.pinned (OpenSpec.ofChange hessReducesSpec)

/-- ITS FALSE NEIGHBOUR: 'it returns false'. Refute it at one input. -/
def hessReducesWrong : ChangeSpec := { name := "hessReduces", fn := fun _ => fun
  | [d1, d2] => { results := [.lit (.bool false)], args := [d1, d2] }
  | _ => none }
def HessReducesWrongFalsely : Prop := hessReducesRow.holds Tryd.pinned (OpenSpec.ofChange hessReducesWrong)

/-- 'similelaw21.HessOf': WHATEVER THE INPUT: true; the input reads as it did. -/
def hessOfSpec : ChangeSpec := { name := "hessOf", fn := fun _ => fun
  | [d1, d2] => { results := [.lit (.bool true)], args := [d1, d2] }
  | _ => none }
def hessOfRow : OpenClaim := { program := "ytbafiahmcfkboaadoor", sum := "baab4909e670f653e22cc8875b5ce384170aeaff5c39e2db4525681772ef5d06", func := "simile/similelaw21.HessOf", spec := "hessOf", unfollowed := true, recurses := true, named := ["simile/prime.bases"], apart := false, laid := [("simile/prime.bases", laid_simile_prime_bases)] }
def HessOfSaid : Prop := hessOfRow.holds Tryd.pinned (OpenSpec.ofChange hessOfSpec)

/-- ITS FALSE NEIGHBOUR: 'it returns false'. Refute it at one input. -/
def hessOfWrong : ChangeSpec := { name := "hessOf", fn := fun _ => fun
  | [d1, d2] => { results := [.lit (.bool false)], args := [d1, d2] }
  | _ => none }
def HessOfWrongFalsely : Prop := hessOfRow.holds Tryd.pinned (OpenSpec.ofChange hessOfWrong)

/-- 'similelaw21.HessSame': WHATEVER THE INPUT: true; the input reads as it did. -/
def hessSameSpec : ChangeSpec := { name := "hessSame", fn := fun _ => fun
  | [d1, d2] => { results := [.lit (.bool true)], args := [d1, d2] }
  | _ => none }
def hessSameRow : OpenClaim := { program := "ytbafiahmcfkboaadoor", sum := "baab4909e670f653e22cc8875b5ce384170aeaff5c39e2db4525681772ef5d06", func := "simile/similelaw21.HessSame", spec := "hessSame", unfollowed := true, recurses := true, named := ["simile/prime.bases"], apart := false, laid := [("simile/prime.bases", laid_simile_prime_bases)] }
def HessSameSaid : Prop := hessSameRow.holds Tryd.pinned (OpenSpec.ofChange hessSameSpec)

/-- ITS FALSE NEIGHBOUR: 'it returns false'. Refute it at one input. -/
def hessSameWrong : ChangeSpec := { name := "hessSame", fn := fun _ => fun
  | [d1, d2] => { results := [.lit (.bool false)], args := [d1, d2] }
  | _ => none }
def HessSameWrongFalsely : Prop := hessSameRow.holds Tryd.pinned (OpenSpec.ofChange hessSameWrong)

/- THE SECOND FORM. 'bulk': how many values and letters a reading holds, each counted each time it is reached (what is shared counts as often as it is met; a slice's spare places count too). A statement '..UptoSaid' is the law's where the arguments, and the package variables that the reading takes, are together of bulk at most 1048576: NARROWER than '..Said'. Prove '..Said' where nothing that the law and all that it calls make is longer than what came in: it says more and counts as full. Else prove '..UptoSaid'. A law counts once. -/
mutual
def uptoBulk {H : Type} : DataW H → Nat
  | .lit (.string bytes) => bytes.length + 1
  | .lit _ => 1
  | .nil => 1
  | .ptr d => uptoBulk d + 1
  | .slice elems spare => uptoBulkAll elems + uptoBulkAll spare + 1
  | .agg parts => uptoBulkAll parts + 1
  | .iface _ d => uptoBulk d + 1
  | .map entries => uptoBulkEntries entries + 1
  | .held _ => 1
def uptoBulkAll {H : Type} : List (DataW H) → Nat
  | [] => 0
  | d :: r => uptoBulk d + uptoBulkAll r
def uptoBulkEntries {H : Type} : List (Lit × DataW H) → Nat
  | [] => 0
  | x :: r => uptoBulkEntry x + uptoBulkEntries r
def uptoBulkEntry {H : Type} : Lit × DataW H → Nat
  | (.string bytes, d) => bytes.length + uptoBulk d + 1
  | (_, d) => uptoBulk d + 1
 end
def uptoSmall : (H : Type) → List (DataW H) → Bool := fun _ ds => decide (uptoBulkAll ds ≤ 1048576)
def OpenSpec.upto (s : _root_.Go.ChangeSpec) : _root_.Go.OpenSpec := { _root_.Go.OpenSpec.ofChange s with cond := some uptoSmall }

/-- 'similelaw21.HessAsks', WHERE WHAT IT READS IS OF BULK AT MOST 1048576: true; the input reads as it did. -/
def hessAsksUptoRow : OpenClaim := { program := "ytbafiahmcfkboaadoor", sum := "baab4909e670f653e22cc8875b5ce384170aeaff5c39e2db4525681772ef5d06", func := "simile/similelaw21.HessAsks", spec := "hessAsks", unfollowed := true, recurses := true, named := ["simile/prime.bases"], apart := false, laid := [("simile/prime.bases", laid_simile_prime_bases)], narrowed := true }
def HessAsksUptoSaid : Prop := hessAsksUptoRow.holds Tryd.pinned (OpenSpec.upto hessAsksSpec)

/-- 'similelaw21.HessReduces', WHERE WHAT IT READS IS OF BULK AT MOST 1048576: true; the input reads as it did. -/
def hessReducesUptoRow : OpenClaim := { program := "ytbafiahmcfkboaadoor", sum := "baab4909e670f653e22cc8875b5ce384170aeaff5c39e2db4525681772ef5d06", func := "simile/similelaw21.HessReduces", spec := "hessReduces", unfollowed := true, recurses := true, named := ["simile/prime.bases"], apart := false, laid := [("simile/prime.bases", laid_simile_prime_bases)], narrowed := true }
def HessReducesUptoSaid : Prop := hessReducesUptoRow.holds Tryd.pinned (OpenSpec.upto hessReducesSpec)

/-- 'similelaw21.HessOf', WHERE WHAT IT READS IS OF BULK AT MOST 1048576: true; the input reads as it did. -/
def hessOfUptoRow : OpenClaim := { program := "ytbafiahmcfkboaadoor", sum := "baab4909e670f653e22cc8875b5ce384170aeaff5c39e2db4525681772ef5d06", func := "simile/similelaw21.HessOf", spec := "hessOf", unfollowed := true, recurses := true, named := ["simile/prime.bases"], apart := false, laid := [("simile/prime.bases", laid_simile_prime_bases)], narrowed := true }
def HessOfUptoSaid : Prop := hessOfUptoRow.holds Tryd.pinned (OpenSpec.upto hessOfSpec)

/-- 'similelaw21.HessSame', WHERE WHAT IT READS IS OF BULK AT MOST 1048576: true; the input reads as it did. -/
def hessSameUptoRow : OpenClaim := { program := "ytbafiahmcfkboaadoor", sum := "baab4909e670f653e22cc8875b5ce384170aeaff5c39e2db4525681772ef5d06", func := "simile/similelaw21.HessSame", spec := "hessSame", unfollowed := true, recurses := true, named := ["simile/prime.bases"], apart := false, laid := [("simile/prime.bases", laid_simile_prime_bases)], narrowed := true }
def HessSameUptoSaid : Prop := hessSameUptoRow.holds Tryd.pinned (OpenSpec.upto hessSameSpec)

end Rows
end Go.Proofs.YtbafiahmcfkboaaDoor
