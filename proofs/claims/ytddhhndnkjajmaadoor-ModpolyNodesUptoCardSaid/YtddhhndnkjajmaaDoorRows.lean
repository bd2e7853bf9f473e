/-
  NARROWER THAN 'FOR EVERY INPUT', by the rows' own cells (each row's printed sentence says how): ModpolyRings: laid · ModpolyShifts: laid · ModpolyValues: laid · ModpolyRoots: laid · ModpolyMakes: laid · ModpolyNodes: laid · ModpolyLines: laid · ModpolyFreshman: laid.
  DERIVED. THE GIVEN ROWS OF THIS SEAT. 8 by the template 'for every input the law returns true; each argument reads behind the call as it read before'; 0 by the template 'total and deterministic' (their statements: YtddhhndnkjajmaaDoorTotals.lean).
  GIVEN WITH THE SEED: the statements are not yours to turn. If you find one false, say at which input.
  Laid BY PROGRAM, IN A SANDBOX (cutbox-rows.mjs): the forced cells as the released guide's own fill.sh prints them over the translation adcd422e49deb5fd… (all of the seat's roots in one cut). By AI agents, Wed Nov 11 2026. No macro, syntax, notation, axiom, sorry.
-/
import Derived.Test.YtddhhndnkjajmaaDoorChecked
import GoSem.Claim
import GoSem.ClaimJoined
import GoSem.ClaimMapViews
import Derived.JoinedTies
import Derived.KernelRfl
namespace Go.Proofs.YtddhhndnkjajmaaDoor
/- THE CELL 'sum', in the pinned program and in every row, IS THE sha256 OF THE DUMP (.gsa) THAT YtddhhndnkjajmaaDoorProg.lean LOADS. Nothing in Lean hashes anything: it is a label: what it is worth is what the hold of that sum in a sandbox is worth. -/
noncomputable def Tryd.pinned : Pinned := { name := "ytddhhndnkjajmaadoor", sum := "adcd422e49deb5fd005605fc04f3008e159d3baf7f7f5260803d4bd49f31d376", checked := Tryd.checked }
namespace Rows
def none {H : Type} : Left H := { results := [], args := [] }

/- WHAT THE LISTED PACKAGE-LEVEL VARIABLES READ AS WHEN THE CALL BEGINS. Each datum BY PROGRAM (the guide's laid-datum.mjs) off the statement by which the dump's own 'gosem.cut.vars' lays the variable. In a bare row this is a premise. The card (YtddhhndnkjajmaaDoorCards.lean) ties it to the program's text. -/
def laid_simile_prime_bases {H : Type} : DataW H := .agg [.lit (.int .u32 2), .lit (.int .u32 7), .lit (.int .u32 61)]

/-- 'similelaw08.ModpolyRings': WHATEVER THE INPUT: true; the input reads as it did. -/
def modpolyRingsSpec : ChangeSpec := { name := "modpolyRings", fn := fun _ => fun
  | [d1, d2, d3] => { results := [.lit (.bool true)], args := [d1, d2, d3] }
  | _ => none }
def modpolyRingsRow : OpenClaim := { program := "ytddhhndnkjajmaadoor", sum := "adcd422e49deb5fd005605fc04f3008e159d3baf7f7f5260803d4bd49f31d376", func := "simile/similelaw08.ModpolyRings", spec := "modpolyRings", inPlace := ["math/bits.Add64"], unfollowed := true, recurses := true, named := ["simile/prime.bases"], apart := false, laid := [("simile/prime.bases", laid_simile_prime_bases)] }
def ModpolyRingsSaid : Prop := modpolyRingsRow.holds Tryd.pinned (OpenSpec.ofChange modpolyRingsSpec)

/-- ITS FALSE NEIGHBOUR: 'it returns false'. Refute it at one input. -/
def modpolyRingsWrong : ChangeSpec := { name := "modpolyRings", fn := fun _ => fun
  | [d1, d2, d3] => { results := [.lit (.bool false)], args := [d1, d2, d3] }
  | _ => none }
def ModpolyRingsWrongFalsely : Prop := modpolyRingsRow.holds Tryd.pinned (OpenSpec.ofChange modpolyRingsWrong)

/-- 'similelaw08.ModpolyShifts': WHATEVER THE INPUT: true; the input reads as it did. -/
def modpolyShiftsSpec : ChangeSpec := { name := "modpolyShifts", fn := fun _ => fun
  | [d1, d2] => { results := [.lit (.bool true)], args := [d1, d2] }
  | _ => none }
def modpolyShiftsRow : OpenClaim := { program := "ytddhhndnkjajmaadoor", sum := "adcd422e49deb5fd005605fc04f3008e159d3baf7f7f5260803d4bd49f31d376", func := "simile/similelaw08.ModpolyShifts", spec := "modpolyShifts", inPlace := ["math/bits.Add64"], unfollowed := true, recurses := true, named := ["simile/prime.bases"], apart := false, laid := [("simile/prime.bases", laid_simile_prime_bases)] }
def ModpolyShiftsSaid : Prop := modpolyShiftsRow.holds Tryd.pinned (OpenSpec.ofChange modpolyShiftsSpec)

/-- ITS FALSE NEIGHBOUR: 'it returns false'. Refute it at one input. -/
def modpolyShiftsWrong : ChangeSpec := { name := "modpolyShifts", fn := fun _ => fun
  | [d1, d2] => { results := [.lit (.bool false)], args := [d1, d2] }
  | _ => none }
def ModpolyShiftsWrongFalsely : Prop := modpolyShiftsRow.holds Tryd.pinned (OpenSpec.ofChange modpolyShiftsWrong)

/-- 'similelaw08.ModpolyValues': WHATEVER THE INPUT: true; the input reads as it did. -/
def modpolyValuesSpec : ChangeSpec := { name := "modpolyValues", fn := fun _ => fun
  | [d1, d2, d3] => { results := [.lit (.bool true)], args := [d1, d2, d3] }
  | _ => none }
def modpolyValuesRow : OpenClaim := { program := "ytddhhndnkjajmaadoor", sum := "adcd422e49deb5fd005605fc04f3008e159d3baf7f7f5260803d4bd49f31d376", func := "simile/similelaw08.ModpolyValues", spec := "modpolyValues", inPlace := ["math/bits.Add64"], unfollowed := true, recurses := true, named := ["simile/prime.bases"], apart := false, laid := [("simile/prime.bases", laid_simile_prime_bases)] }
def ModpolyValuesSaid : Prop := modpolyValuesRow.holds Tryd.pinned (OpenSpec.ofChange modpolyValuesSpec)

/-- ITS FALSE NEIGHBOUR: 'it returns false'. Refute it at one input. -/
def modpolyValuesWrong : ChangeSpec := { name := "modpolyValues", fn := fun _ => fun
  | [d1, d2, d3] => { results := [.lit (.bool false)], args := [d1, d2, d3] }
  | _ => none }
def ModpolyValuesWrongFalsely : Prop := modpolyValuesRow.holds Tryd.pinned (OpenSpec.ofChange modpolyValuesWrong)

/-- 'similelaw08.ModpolyRoots': WHATEVER THE INPUT: true; the input reads as it did. -/
def modpolyRootsSpec : ChangeSpec := { name := "modpolyRoots", fn := fun _ => fun
  | [d1, d2] => { results := [.lit (.bool true)], args := [d1, d2] }
  | _ => none }
def modpolyRootsRow : OpenClaim := { program := "ytddhhndnkjajmaadoor", sum := "adcd422e49deb5fd005605fc04f3008e159d3baf7f7f5260803d4bd49f31d376", func := "simile/similelaw08.ModpolyRoots", spec := "modpolyRoots", inPlace := ["math/bits.Add64"], unfollowed := true, recurses := true, named := ["simile/prime.bases"], apart := false, laid := [("simile/prime.bases", laid_simile_prime_bases)] }
def ModpolyRootsSaid : Prop := modpolyRootsRow.holds Tryd.pinned (OpenSpec.ofChange modpolyRootsSpec)

/-- ITS FALSE NEIGHBOUR: 'it returns false'. Refute it at one input. -/
def modpolyRootsWrong : ChangeSpec := { name := "modpolyRoots", fn := fun _ => fun
  | [d1, d2] => { results := [.lit (.bool false)], args := [d1, d2] }
  | _ => none }
def ModpolyRootsWrongFalsely : Prop := modpolyRootsRow.holds Tryd.pinned (OpenSpec.ofChange modpolyRootsWrong)

/-- 'similelaw08.ModpolyMakes': WHATEVER THE INPUT: true; the input reads as it did. -/
def modpolyMakesSpec : ChangeSpec := { name := "modpolyMakes", fn := fun _ => fun
  | [d1, d2, d3] => { results := [.lit (.bool true)], args := [d1, d2, d3] }
  | _ => none }
def modpolyMakesRow : OpenClaim := { program := "ytddhhndnkjajmaadoor", sum := "adcd422e49deb5fd005605fc04f3008e159d3baf7f7f5260803d4bd49f31d376", func := "simile/similelaw08.ModpolyMakes", spec := "modpolyMakes", inPlace := ["math/bits.Add64"], unfollowed := true, recurses := true, named := ["simile/prime.bases"], apart := false, laid := [("simile/prime.bases", laid_simile_prime_bases)] }
def ModpolyMakesSaid : Prop := modpolyMakesRow.holds Tryd.pinned (OpenSpec.ofChange modpolyMakesSpec)

/-- ITS FALSE NEIGHBOUR: 'it returns false'. Refute it at one input. -/
def modpolyMakesWrong : ChangeSpec := { name := "modpolyMakes", fn := fun _ => fun
  | [d1, d2, d3] => { results := [.lit (.bool false)], args := [d1, d2, d3] }
  | _ => none }
def ModpolyMakesWrongFalsely : Prop := modpolyMakesRow.holds Tryd.pinned (OpenSpec.ofChange modpolyMakesWrong)

/-- 'similelaw08.ModpolyNodes': WHATEVER THE INPUT: true; the input reads as it did. -/
def modpolyNodesSpec : ChangeSpec := { name := "modpolyNodes", fn := fun _ => fun
  | [d1, d2, d3] => { results := [.lit (.bool true)], args := [d1, d2, d3] }
  | _ => none }
def modpolyNodesRow : OpenClaim := { program := "ytddhhndnkjajmaadoor", sum := "adcd422e49deb5fd005605fc04f3008e159d3baf7f7f5260803d4bd49f31d376", func := "simile/similelaw08.ModpolyNodes", spec := "modpolyNodes", inPlace := ["math/bits.Add64"], unfollowed := true, recurses := true, named := ["simile/prime.bases"], apart := false, laid := [("simile/prime.bases", laid_simile_prime_bases)] }
def ModpolyNodesSaid : Prop := modpolyNodesRow.holds Tryd.pinned (OpenSpec.ofChange modpolyNodesSpec)

/-- ITS FALSE NEIGHBOUR: 'it returns false'. Refute it at one input. -/
def modpolyNodesWrong : ChangeSpec := { name := "modpolyNodes", fn := fun _ => fun
  | [d1, d2, d3] => { results := [.lit (.bool false)], args := [d1, d2, d3] }
  | _ => none }
def ModpolyNodesWrongFalsely : Prop := modpolyNodesRow.holds Tryd.pinned (OpenSpec.ofChange modpolyNodesWrong)

/-- 'similelaw08.ModpolyLines': WHATEVER THE INPUT: true; the input reads as it did. -/
def modpolyLinesSpec : ChangeSpec := { name := "modpolyLines", fn := fun _ => fun
  | [d1, d2] => { results := [.lit (.bool true)], args := [d1, d2] }
  | _ => none }
def modpolyLinesRow : OpenClaim := { program := "ytddhhndnkjajmaadoor", sum := "adcd422e49deb5fd005605fc04f3008e159d3baf7f7f5260803d4bd49f31d376", func := "simile/similelaw08.ModpolyLines", spec := "modpolyLines", inPlace := ["math/bits.Add64"], unfollowed := true, recurses := true, named := ["simile/prime.bases"], apart := false, laid := [("simile/prime.bases", laid_simile_prime_bases)] }
def ModpolyLinesSaid : Prop := modpolyLinesRow.holds Tryd.pinned (OpenSpec.ofChange modpolyLinesSpec)

/-- ITS FALSE NEIGHBOUR: 'it returns false'. Refute it at one input. -/
def modpolyLinesWrong : ChangeSpec := { name := "modpolyLines", fn := fun _ => fun
  | [d1, d2] => { results := [.lit (.bool false)], args := [d1, d2] }
  | _ => none }
def ModpolyLinesWrongFalsely : Prop := modpolyLinesRow.holds Tryd.pinned (OpenSpec.ofChange modpolyLinesWrong)

/-- 'similelaw08.ModpolyFreshman': WHATEVER THE INPUT: true; the input reads as it did. -/
def modpolyFreshmanSpec : ChangeSpec := { name := "modpolyFreshman", fn := fun _ => fun
  | [d1, d2, d3] => { results := [.lit (.bool true)], args := [d1, d2, d3] }
  | _ => none }
def modpolyFreshmanRow : OpenClaim := { program := "ytddhhndnkjajmaadoor", sum := "adcd422e49deb5fd005605fc04f3008e159d3baf7f7f5260803d4bd49f31d376", func := "simile/similelaw08.ModpolyFreshman", spec := "modpolyFreshman", inPlace := ["math/bits.Add64"], unfollowed := true, recurses := true, named := ["simile/prime.bases"], apart := false, laid := [("simile/prime.bases", laid_simile_prime_bases)] }
def ModpolyFreshmanSaid : Prop := modpolyFreshmanRow.holds Tryd.pinned (OpenSpec.ofChange modpolyFreshmanSpec)

/-- ITS FALSE NEIGHBOUR: 'it returns false'. Refute it at one input. -/
def modpolyFreshmanWrong : ChangeSpec := { name := "modpolyFreshman", fn := fun _ => fun
  | [d1, d2, d3] => { results := [.lit (.bool false)], args := [d1, d2, d3] }
  | _ => none }
def ModpolyFreshmanWrongFalsely : Prop := modpolyFreshmanRow.holds Tryd.pinned (OpenSpec.ofChange modpolyFreshmanWrong)

/- THE SECOND FORM. 'bulk': how many values and letters a reading holds, each counted each time it is reached (what is shared counts as often as it is met; a slice's spare places count too). A statement '..UptoSaid' is the law's where the arguments, and the package variables that the reading takes, are together of bulk at most 1048576: NARROWER than '..Said'. Prove '..Said' where nothing that the law and all that it calls make is longer than what came in: it says more and counts as full. Else prove '..UptoSaid'. A law counts once. -/
mutual
def uptoBulk {H : Type} : DataW H → Nat
  | .lit (.string bytes) => bytes.length + 1
  | .lit _ => 1
  | .nil => 1
  | .ptr d => uptoBulk d + 1
  | .slice elems spare => uptoBulkAll elems + uptoBulkAll spare + 1
  | .agg parts => uptoBulkAll parts + 1
  | .iface _ d => uptoBulk d + 1
  | .map entries => uptoBulkEntries entries + 1
  | .held _ => 1
def uptoBulkAll {H : Type} : List (DataW H) → Nat
  | [] => 0
  | d :: r => uptoBulk d + uptoBulkAll r
def uptoBulkEntries {H : Type} : List (Lit × DataW H) → Nat
  | [] => 0
  | x :: r => uptoBulkEntry x + uptoBulkEntries r
def uptoBulkEntry {H : Type} : Lit × DataW H → Nat
  | (.string bytes, d) => bytes.length + uptoBulk d + 1
  | (_, d) => uptoBulk d + 1
 end
def uptoSmall : (H : Type) → List (DataW H) → Bool := fun _ ds => decide (uptoBulkAll ds ≤ 1048576)
def OpenSpec.upto (s : _root_.Go.ChangeSpec) : _root_.Go.OpenSpec := { _root_.Go.OpenSpec.ofChange s with cond := some uptoSmall }

/-- 'similelaw08.ModpolyRings', WHERE WHAT IT READS IS OF BULK AT MOST 1048576: true; the input reads as it did. -/
def modpolyRingsUptoRow : OpenClaim := { program := "ytddhhndnkjajmaadoor", sum := "adcd422e49deb5fd005605fc04f3008e159d3baf7f7f5260803d4bd49f31d376", func := "simile/similelaw08.ModpolyRings", spec := "modpolyRings", inPlace := ["math/bits.Add64"], unfollowed := true, recurses := true, named := ["simile/prime.bases"], apart := false, laid := [("simile/prime.bases", laid_simile_prime_bases)], narrowed := true }
def ModpolyRingsUptoSaid : Prop := modpolyRingsUptoRow.holds Tryd.pinned (OpenSpec.upto modpolyRingsSpec)

/-- 'similelaw08.ModpolyShifts', WHERE WHAT IT READS IS OF BULK AT MOST 1048576: true; the input reads as it did. -/
def modpolyShiftsUptoRow : OpenClaim := { program := "ytddhhndnkjajmaadoor", sum := "adcd422e49deb5fd005605fc04f3008e159d3baf7f7f5260803d4bd49f31d376", func := "simile/similelaw08.ModpolyShifts", spec := "modpolyShifts", inPlace := ["math/bits.Add64"], unfollowed := true, recurses := true, named := ["simile/prime.bases"], apart := false, laid := [("simile/prime.bases", laid_simile_prime_bases)], narrowed := true }
def ModpolyShiftsUptoSaid : Prop := modpolyShiftsUptoRow.holds Tryd.pinned (OpenSpec.upto modpolyShiftsSpec)

/-- 'similelaw08.ModpolyValues', WHERE WHAT IT READS IS OF BULK AT MOST 1048576: true; the input reads as it did. -/
def modpolyValuesUptoRow : OpenClaim := { program := "ytddhhndnkjajmaadoor", sum := "adcd422e49deb5fd005605fc04f3008e159d3baf7f7f5260803d4bd49f31d376", func := "simile/similelaw08.ModpolyValues", spec := "modpolyValues", inPlace := ["math/bits.Add64"], unfollowed := true, recurses := true, named := ["simile/prime.bases"], apart := false, laid := [("simile/prime.bases", laid_simile_prime_bases)], narrowed := true }
def ModpolyValuesUptoSaid : Prop := modpolyValuesUptoRow.holds Tryd.pinned (OpenSpec.upto modpolyValuesSpec)

/-- 'similelaw08.ModpolyRoots', WHERE WHAT IT READS IS OF BULK AT MOST 1048576: true; the input reads as it did. -/
def modpolyRootsUptoRow : OpenClaim := { program := "ytddhhndnkjajmaadoor", sum := "adcd422e49deb5fd005605fc04f3008e159d3baf7f7f5260803d4bd49f31d376", func := "simile/similelaw08.ModpolyRoots", spec := "modpolyRoots", inPlace := ["math/bits.Add64"], unfollowed := true, recurses := true, named := ["simile/prime.bases"], apart := false, laid := [("simile/prime.bases", laid_simile_prime_bases)], narrowed := true }
def ModpolyRootsUptoSaid : Prop := modpolyRootsUptoRow.holds Tryd.pinned (OpenSpec.upto modpolyRootsSpec)

/-- 'similelaw08.ModpolyMakes', WHERE WHAT IT READS IS OF BULK AT MOST 1048576: true; the input reads as it did. -/
def modpolyMakesUptoRow : OpenClaim := { program := "ytddhhndnkjajmaadoor", sum := "adcd422e49deb5fd005605fc04f3008e159d3baf7f7f5260803d4bd49f31d376", func := "simile/similelaw08.ModpolyMakes", spec := "modpolyMakes", inPlace := ["math/bits.Add64"], unfollowed := true, recurses := true, named := ["simile/prime.bases"], apart := false, laid := [("simile/prime.bases", laid_simile_prime_bases)], narrowed := true }
def ModpolyMakesUptoSaid : Prop := modpolyMakesUptoRow.holds Tryd.pinned (OpenSpec.upto modpolyMakesSpec)

/-- 'similelaw08.ModpolyNodes', WHERE WHAT IT READS IS OF BULK AT MOST 1048576: true; the input reads as it did. -/
def modpolyNodesUptoRow : OpenClaim := { program := "ytddhhndnkjajmaadoor", sum := "adcd422e49deb5fd005605fc04f3008e159d3baf7f7f5260803d4bd49f31d376", func := "simile/similelaw08.ModpolyNodes", spec := "modpolyNodes", inPlace := ["math/bits.Add64"], unfollowed := true, recurses := true, named := ["simile/prime.bases"], apart := false, laid := [("simile/prime.bases", laid_simile_prime_bases)], narrowed := true }
def ModpolyNodesUptoSaid : Prop := modpolyNodesUptoRow.holds Tryd.pinned (OpenSpec.upto modpolyNodesSpec)

/-- 'similelaw08.ModpolyLines', WHERE WHAT IT READS IS OF BULK AT MOST 1048576: true; the input reads as it did. -/
def modpolyLinesUptoRow : OpenClaim := { program := "ytddhhndnkjajmaadoor", sum := "adcd422e49deb5fd005605fc04f3008e159d3baf7f7f5260803d4bd49f31d376", func := "simile/similelaw08.ModpolyLines", spec := "modpolyLines", inPlace := ["math/bits.Add64"], unfollowed := true, recurses := true, named := ["simile/prime.bases"], apart := false, laid := [("simile/prime.bases", laid_simile_prime_bases)], narrowed := true }
def ModpolyLinesUptoSaid : Prop := modpolyLinesUptoRow.holds Tryd.pinned (OpenSpec.upto modpolyLinesSpec)

/-- 'similelaw08.ModpolyFreshman', WHERE WHAT IT READS IS OF BULK AT MOST 1048576: true; the input reads as it did. -/
def modpolyFreshmanUptoRow : OpenClaim := { program := "ytddhhndnkjajmaadoor", sum := "adcd422e49deb5fd005605fc04f3008e159d3baf7f7f5260803d4bd49f31d376", func := "simile/similelaw08.ModpolyFreshman", spec := "modpolyFreshman", inPlace := ["math/bits.Add64"], unfollowed := true, recurses := true, named := ["simile/prime.bases"], apart := false, laid := [("simile/prime.bases", laid_simile_prime_bases)], narrowed := true }
def ModpolyFreshmanUptoSaid : Prop := modpolyFreshmanUptoRow.holds Tryd.pinned (OpenSpec.upto modpolyFreshmanSpec)

end Rows
end Go.Proofs.YtddhhndnkjajmaaDoor
