/-
  No cell of these rows narrows 'for every input' (looked for: loops, veiled, ifaces, maps, wideKeys, modest, calm, conditions, laid).
  DERIVED. THE GIVEN ROWS OF THIS SEAT. 4 by the template 'for every input the law returns true; each argument reads behind the call as it read before'; 0 by the template 'total and deterministic' (their statements: YtanlejlmckdeiaaGreatTotals.lean).
  GIVEN WITH THE SEED: the statements are not yours to turn. If you find one false, say at which input.
  Laid BY PROGRAM, IN A SANDBOX (cutbox-rows.mjs): the forced cells as the released guide's own fill.sh prints them over the translation 0f6c787c92fba5c2… (all of the seat's roots in one cut). By AI agents, Wed Nov 11 2026. No macro, syntax, notation, axiom, sorry.
-/
import Derived.Test.YtanlejlmckdeiaaGreatChecked
import GoSem.Claim
import GoSem.ClaimJoined
import GoSem.ClaimMapViews
import Derived.JoinedTies
import Derived.KernelRfl
namespace Go.Proofs.YtanlejlmckdeiaaGreat
/- THE CELL 'sum', in the pinned program and in every row, IS THE sha256 OF THE DUMP (.gsa) THAT YtanlejlmckdeiaaGreatProg.lean LOADS. Nothing in Lean hashes anything: it is a label: what it is worth is what the hold of that sum in a sandbox is worth. -/
noncomputable def Tryz.pinned : Pinned := { name := "ytanlejlmckdeiaagreat", sum := "0f6c787c92fba5c21634d126b08969d5e9b43e6b7b0a302aa38ced9281b59104", checked := Tryz.checked }
namespace Rows
def none {H : Type} : Left H := { results := [], args := [] }

/-- 'similelaw03.ZintForms': WHATEVER THE INPUT: true; the input reads as it did. -/
def zintFormsSpec : ChangeSpec := { name := "zintForms", fn := fun _ => fun
  | [d1, d2, d3] => { results := [.lit (.bool true)], args := [d1, d2, d3] }
  | _ => none }
def zintFormsRow : OpenClaim := { program := "ytanlejlmckdeiaagreat", sum := "0f6c787c92fba5c21634d126b08969d5e9b43e6b7b0a302aa38ced9281b59104", func := "simile/similelaw03.ZintForms", spec := "zintForms", inPlace := ["math/bits.Sub64", "math/bits.Add64"], unfollowed := true, recurses := true, named := ["math/bits.divideError", "math/bits.overflowError"], apart := false }
def ZintFormsSaid : Prop := zintFormsRow.holds Tryz.pinned (OpenSpec.ofChange zintFormsSpec)

/-- ITS FALSE NEIGHBOUR: 'it returns false'. Refute it at one input. -/
def zintFormsWrong : ChangeSpec := { name := "zintForms", fn := fun _ => fun
  | [d1, d2, d3] => { results := [.lit (.bool false)], args := [d1, d2, d3] }
  | _ => none }
def ZintFormsWrongFalsely : Prop := zintFormsRow.holds Tryz.pinned (OpenSpec.ofChange zintFormsWrong)

/-- 'similelaw03.ZintSums': WHATEVER THE INPUT: true; the input reads as it did. -/
def zintSumsSpec : ChangeSpec := { name := "zintSums", fn := fun _ => fun
  | [d1, d2] => { results := [.lit (.bool true)], args := [d1, d2] }
  | _ => none }
def zintSumsRow : OpenClaim := { program := "ytanlejlmckdeiaagreat", sum := "0f6c787c92fba5c21634d126b08969d5e9b43e6b7b0a302aa38ced9281b59104", func := "simile/similelaw03.ZintSums", spec := "zintSums", inPlace := ["math/bits.Add64", "math/bits.Sub64"], unfollowed := true, recurses := true, named := ["math/bits.divideError", "math/bits.overflowError"], apart := false }
def ZintSumsSaid : Prop := zintSumsRow.holds Tryz.pinned (OpenSpec.ofChange zintSumsSpec)

/-- ITS FALSE NEIGHBOUR: 'it returns false'. Refute it at one input. -/
def zintSumsWrong : ChangeSpec := { name := "zintSums", fn := fun _ => fun
  | [d1, d2] => { results := [.lit (.bool false)], args := [d1, d2] }
  | _ => none }
def ZintSumsWrongFalsely : Prop := zintSumsRow.holds Tryz.pinned (OpenSpec.ofChange zintSumsWrong)

/-- 'similelaw03.ZintDivides': WHATEVER THE INPUT: true; the input reads as it did. -/
def zintDividesSpec : ChangeSpec := { name := "zintDivides", fn := fun _ => fun
  | [d1, d2, d3] => { results := [.lit (.bool true)], args := [d1, d2, d3] }
  | _ => none }
def zintDividesRow : OpenClaim := { program := "ytanlejlmckdeiaagreat", sum := "0f6c787c92fba5c21634d126b08969d5e9b43e6b7b0a302aa38ced9281b59104", func := "simile/similelaw03.ZintDivides", spec := "zintDivides", inPlace := ["math/bits.Sub64", "math/bits.Add64"], unfollowed := true, recurses := true, named := ["math/bits.divideError", "math/bits.overflowError"], apart := false }
def ZintDividesSaid : Prop := zintDividesRow.holds Tryz.pinned (OpenSpec.ofChange zintDividesSpec)

/-- ITS FALSE NEIGHBOUR: 'it returns false'. Refute it at one input. -/
def zintDividesWrong : ChangeSpec := { name := "zintDivides", fn := fun _ => fun
  | [d1, d2, d3] => { results := [.lit (.bool false)], args := [d1, d2, d3] }
  | _ => none }
def ZintDividesWrongFalsely : Prop := zintDividesRow.holds Tryz.pinned (OpenSpec.ofChange zintDividesWrong)

/-- 'similelaw03.ZintBezout': WHATEVER THE INPUT: true; the input reads as it did. -/
def zintBezoutSpec : ChangeSpec := { name := "zintBezout", fn := fun _ => fun
  | [d1, d2] => { results := [.lit (.bool true)], args := [d1, d2] }
  | _ => none }
def zintBezoutRow : OpenClaim := { program := "ytanlejlmckdeiaagreat", sum := "0f6c787c92fba5c21634d126b08969d5e9b43e6b7b0a302aa38ced9281b59104", func := "simile/similelaw03.ZintBezout", spec := "zintBezout", inPlace := ["math/bits.Sub64", "math/bits.Add64"], unfollowed := true, recurses := true, named := ["math/bits.divideError", "math/bits.overflowError"], apart := false }
def ZintBezoutSaid : Prop := zintBezoutRow.holds Tryz.pinned (OpenSpec.ofChange zintBezoutSpec)

/-- ITS FALSE NEIGHBOUR: 'it returns false'. Refute it at one input. -/
def zintBezoutWrong : ChangeSpec := { name := "zintBezout", fn := fun _ => fun
  | [d1, d2] => { results := [.lit (.bool false)], args := [d1, d2] }
  | _ => none }
def ZintBezoutWrongFalsely : Prop := zintBezoutRow.holds Tryz.pinned (OpenSpec.ofChange zintBezoutWrong)

/- THE SECOND FORM. 'bulk': how many values and letters a reading holds, each counted each time it is reached (what is shared counts as often as it is met; a slice's spare places count too). A statement '..UptoSaid' is the law's where the arguments, and the package variables that the reading takes, are together of bulk at most 1048576: NARROWER than '..Said'. Prove '..Said' where nothing that the law and all that it calls make is longer than what came in: it says more and counts as full. Else prove '..UptoSaid'. A law counts once. -/
mutual
def uptoBulk {H : Type} : DataW H → Nat
  | .lit (.string bytes) => bytes.length + 1
  | .lit _ => 1
  | .nil => 1
  | .ptr d => uptoBulk d + 1
  | .slice elems spare => uptoBulkAll elems + uptoBulkAll spare + 1
  | .agg parts => uptoBulkAll parts + 1
  | .iface _ d => uptoBulk d + 1
  | .map entries => uptoBulkEntries entries + 1
  | .held _ => 1
def uptoBulkAll {H : Type} : List (DataW H) → Nat
  | [] => 0
  | d :: r => uptoBulk d + uptoBulkAll r
def uptoBulkEntries {H : Type} : List (Lit × DataW H) → Nat
  | [] => 0
  | x :: r => uptoBulkEntry x + uptoBulkEntries r
def uptoBulkEntry {H : Type} : Lit × DataW H → Nat
  | (.string bytes, d) => bytes.length + uptoBulk d + 1
  | (_, d) => uptoBulk d + 1
 end
def uptoSmall : (H : Type) → List (DataW H) → Bool := fun _ ds => decide (uptoBulkAll ds ≤ 1048576)
def OpenSpec.upto (s : _root_.Go.ChangeSpec) : _root_.Go.OpenSpec := { _root_.Go.OpenSpec.ofChange s with cond := some uptoSmall }

/-- 'similelaw03.ZintForms', WHERE WHAT IT READS IS OF BULK AT MOST 1048576: true; the input reads as it did. -/
def zintFormsUptoRow : OpenClaim := { program := "ytanlejlmckdeiaagreat", sum := "0f6c787c92fba5c21634d126b08969d5e9b43e6b7b0a302aa38ced9281b59104", func := "simile/similelaw03.ZintForms", spec := "zintForms", inPlace := ["math/bits.Sub64", "math/bits.Add64"], unfollowed := true, recurses := true, named := ["math/bits.divideError", "math/bits.overflowError"], apart := false, narrowed := true }
def ZintFormsUptoSaid : Prop := zintFormsUptoRow.holds Tryz.pinned (OpenSpec.upto zintFormsSpec)

/-- 'similelaw03.ZintSums', WHERE WHAT IT READS IS OF BULK AT MOST 1048576: true; the input reads as it did. -/
def zintSumsUptoRow : OpenClaim := { program := "ytanlejlmckdeiaagreat", sum := "0f6c787c92fba5c21634d126b08969d5e9b43e6b7b0a302aa38ced9281b59104", func := "simile/similelaw03.ZintSums", spec := "zintSums", inPlace := ["math/bits.Add64", "math/bits.Sub64"], unfollowed := true, recurses := true, named := ["math/bits.divideError", "math/bits.overflowError"], apart := false, narrowed := true }
def ZintSumsUptoSaid : Prop := zintSumsUptoRow.holds Tryz.pinned (OpenSpec.upto zintSumsSpec)

/-- 'similelaw03.ZintDivides', WHERE WHAT IT READS IS OF BULK AT MOST 1048576: true; the input reads as it did. -/
def zintDividesUptoRow : OpenClaim := { program := "ytanlejlmckdeiaagreat", sum := "0f6c787c92fba5c21634d126b08969d5e9b43e6b7b0a302aa38ced9281b59104", func := "simile/similelaw03.ZintDivides", spec := "zintDivides", inPlace := ["math/bits.Sub64", "math/bits.Add64"], unfollowed := true, recurses := true, named := ["math/bits.divideError", "math/bits.overflowError"], apart := false, narrowed := true }
def ZintDividesUptoSaid : Prop := zintDividesUptoRow.holds Tryz.pinned (OpenSpec.upto zintDividesSpec)

/-- 'similelaw03.ZintBezout', WHERE WHAT IT READS IS OF BULK AT MOST 1048576: true; the input reads as it did. -/
def zintBezoutUptoRow : OpenClaim := { program := "ytanlejlmckdeiaagreat", sum := "0f6c787c92fba5c21634d126b08969d5e9b43e6b7b0a302aa38ced9281b59104", func := "simile/similelaw03.ZintBezout", spec := "zintBezout", inPlace := ["math/bits.Sub64", "math/bits.Add64"], unfollowed := true, recurses := true, named := ["math/bits.divideError", "math/bits.overflowError"], apart := false, narrowed := true }
def ZintBezoutUptoSaid : Prop := zintBezoutUptoRow.holds Tryz.pinned (OpenSpec.upto zintBezoutSpec)

end Rows
end Go.Proofs.YtanlejlmckdeiaaGreat
