/-
  NARROWER THAN 'FOR EVERY INPUT', by the rows' own cells (each row's printed sentence says how): CrtAdds: laid · CrtNone: laid · CrtOf: laid · CrtLifts: laid · CrtJoins: laid · CrtRecons: laid · CrtSays: laid · CrtSigned: laid · CrtFractions: laid.
  DERIVED. THE GIVEN ROWS OF THIS SEAT. 9 by the template 'for every input the law returns true; each argument reads behind the call as it read before'; 0 by the template 'total and deterministic' (their statements: YtadpelhmjmamnaaGreatDoorTotals.lean).
  GIVEN WITH THE SEED: the statements are not yours to turn. If you find one false, say at which input.
  Laid BY PROGRAM, IN A SANDBOX (cutbox-rows.mjs): the forced cells as the released guide's own fill.sh prints them over the translation f68aa7c3a31d9065… (all of the seat's roots in one cut). By AI agents, Wed Nov 11 2026. No macro, syntax, notation, axiom, sorry.
-/
import Derived.Test.YtadpelhmjmamnaaGreatDoorChecked
import GoSem.Claim
import GoSem.ClaimJoined
import GoSem.ClaimMapViews
import Derived.JoinedTies
import Derived.KernelRfl
namespace Go.Proofs.YtadpelhmjmamnaaGreatDoor
/- THE CELL 'sum', in the pinned program and in every row, IS THE sha256 OF THE DUMP (.gsa) THAT YtadpelhmjmamnaaGreatDoorProg.lean LOADS. Nothing in Lean hashes anything: it is a label: what it is worth is what the hold of that sum in a sandbox is worth. -/
noncomputable def Tryz.pinned : Pinned := { name := "ytadpelhmjmamnaagreatdoor", sum := "f68aa7c3a31d90652804d32f2640f0bb6c835b16d6d80861859b5044ef2af0db", checked := Tryz.checked }
namespace Rows
def none {H : Type} : Left H := { results := [], args := [] }

/- WHAT THE LISTED PACKAGE-LEVEL VARIABLES READ AS WHEN THE CALL BEGINS. Each datum BY PROGRAM (the guide's laid-datum.mjs) off the statement by which the dump's own 'gosem.cut.vars' lays the variable. In a bare row this is a premise. The card (YtadpelhmjmamnaaGreatDoorCards.lean) ties it to the program's text. -/
def laid_math_bits_deBruijn64tab {H : Type} : DataW H := .agg [.lit (.int .u8 0), .lit (.int .u8 1), .lit (.int .u8 56), .lit (.int .u8 2), .lit (.int .u8 57), .lit (.int .u8 49), .lit (.int .u8 28), .lit (.int .u8 3), .lit (.int .u8 61), .lit (.int .u8 58), .lit (.int .u8 42), .lit (.int .u8 50), .lit (.int .u8 38), .lit (.int .u8 29), .lit (.int .u8 17), .lit (.int .u8 4), .lit (.int .u8 62), .lit (.int .u8 47), .lit (.int .u8 59), .lit (.int .u8 36), .lit (.int .u8 45), .lit (.int .u8 43), .lit (.int .u8 51), .lit (.int .u8 22), .lit (.int .u8 53), .lit (.int .u8 39), .lit (.int .u8 33), .lit (.int .u8 30), .lit (.int .u8 24), .lit (.int .u8 18), .lit (.int .u8 12), .lit (.int .u8 5), .lit (.int .u8 63), .lit (.int .u8 55), .lit (.int .u8 48), .lit (.int .u8 27), .lit (.int .u8 60), .lit (.int .u8 41), .lit (.int .u8 37), .lit (.int .u8 16), .lit (.int .u8 46), .lit (.int .u8 35), .lit (.int .u8 44), .lit (.int .u8 21), .lit (.int .u8 52), .lit (.int .u8 32), .lit (.int .u8 23), .lit (.int .u8 11), .lit (.int .u8 54), .lit (.int .u8 26), .lit (.int .u8 40), .lit (.int .u8 15), .lit (.int .u8 34), .lit (.int .u8 20), .lit (.int .u8 31), .lit (.int .u8 10), .lit (.int .u8 25), .lit (.int .u8 14), .lit (.int .u8 19), .lit (.int .u8 9), .lit (.int .u8 13), .lit (.int .u8 8), .lit (.int .u8 7), .lit (.int .u8 6)]
def laid_simile_prime_bases {H : Type} : DataW H := .agg [.lit (.int .u32 2), .lit (.int .u32 7), .lit (.int .u32 61)]

/-- 'similelaw06.CrtAdds': WHATEVER THE INPUT: true; the input reads as it did. -/
def crtAddsSpec : ChangeSpec := { name := "crtAdds", fn := fun _ => fun
  | [d] => { results := [.lit (.bool true)], args := [d] }
  | _ => none }
def crtAddsRow : OpenClaim := { program := "ytadpelhmjmamnaagreatdoor", sum := "f68aa7c3a31d90652804d32f2640f0bb6c835b16d6d80861859b5044ef2af0db", func := "simile/similelaw06.CrtAdds", spec := "crtAdds", inPlace := ["math/bits.Add64", "math/bits.Sub64", "internal/reflectlite.TypeOf"], unfollowed := true, recurses := true, named := ["simile/prime.bases", "math/bits.divideError", "math/bits.overflowError", "math/bits.deBruijn64tab"], apart := false, laid := [("math/bits.deBruijn64tab", laid_math_bits_deBruijn64tab), ("simile/prime.bases", laid_simile_prime_bases)] }
def CrtAddsSaid : Prop := crtAddsRow.holds Tryz.pinned (OpenSpec.ofChange crtAddsSpec)

/-- ITS FALSE NEIGHBOUR: 'it returns false'. Refute it at one input. -/
def crtAddsWrong : ChangeSpec := { name := "crtAdds", fn := fun _ => fun
  | [d] => { results := [.lit (.bool false)], args := [d] }
  | _ => none }
def CrtAddsWrongFalsely : Prop := crtAddsRow.holds Tryz.pinned (OpenSpec.ofChange crtAddsWrong)

/-- 'similelaw06.CrtNone': WHATEVER THE INPUT: true; the input reads as it did. -/
def crtNoneSpec : ChangeSpec := { name := "crtNone", fn := fun _ => fun
  | [d1, d2] => { results := [.lit (.bool true)], args := [d1, d2] }
  | _ => none }
def crtNoneRow : OpenClaim := { program := "ytadpelhmjmamnaagreatdoor", sum := "f68aa7c3a31d90652804d32f2640f0bb6c835b16d6d80861859b5044ef2af0db", func := "simile/similelaw06.CrtNone", spec := "crtNone", inPlace := ["math/bits.Add64", "math/bits.Sub64", "internal/reflectlite.TypeOf"], unfollowed := true, recurses := true, named := ["simile/prime.bases", "math/bits.divideError", "math/bits.overflowError", "math/bits.deBruijn64tab"], apart := false, laid := [("math/bits.deBruijn64tab", laid_math_bits_deBruijn64tab), ("simile/prime.bases", laid_simile_prime_bases)] }
def CrtNoneSaid : Prop := crtNoneRow.holds Tryz.pinned (OpenSpec.ofChange crtNoneSpec)

/-- ITS FALSE NEIGHBOUR: 'it returns false'. Refute it at one input. -/
def crtNoneWrong : ChangeSpec := { name := "crtNone", fn := fun _ => fun
  | [d1, d2] => { results := [.lit (.bool false)], args := [d1, d2] }
  | _ => none }
def CrtNoneWrongFalsely : Prop := crtNoneRow.holds Tryz.pinned (OpenSpec.ofChange crtNoneWrong)

/-- 'similelaw06.CrtOf': WHATEVER THE INPUT: true; the input reads as it did. -/
def crtOfSpec : ChangeSpec := { name := "crtOf", fn := fun _ => fun
  | [d1, d2] => { results := [.lit (.bool true)], args := [d1, d2] }
  | _ => none }
def crtOfRow : OpenClaim := { program := "ytadpelhmjmamnaagreatdoor", sum := "f68aa7c3a31d90652804d32f2640f0bb6c835b16d6d80861859b5044ef2af0db", func := "simile/similelaw06.CrtOf", spec := "crtOf", inPlace := ["math/bits.Add64", "math/bits.Sub64", "internal/reflectlite.TypeOf"], unfollowed := true, recurses := true, named := ["simile/prime.bases", "math/bits.divideError", "math/bits.overflowError", "math/bits.deBruijn64tab"], apart := false, laid := [("math/bits.deBruijn64tab", laid_math_bits_deBruijn64tab), ("simile/prime.bases", laid_simile_prime_bases)] }
def CrtOfSaid : Prop := crtOfRow.holds Tryz.pinned (OpenSpec.ofChange crtOfSpec)

/-- ITS FALSE NEIGHBOUR: 'it returns false'. Refute it at one input. -/
def crtOfWrong : ChangeSpec := { name := "crtOf", fn := fun _ => fun
  | [d1, d2] => { results := [.lit (.bool false)], args := [d1, d2] }
  | _ => none }
def CrtOfWrongFalsely : Prop := crtOfRow.holds Tryz.pinned (OpenSpec.ofChange crtOfWrong)

/-- 'similelaw06.CrtLifts': WHATEVER THE INPUT: true; the input reads as it did. -/
def crtLiftsSpec : ChangeSpec := { name := "crtLifts", fn := fun _ => fun
  | [d1, d2] => { results := [.lit (.bool true)], args := [d1, d2] }
  | _ => none }
def crtLiftsRow : OpenClaim := { program := "ytadpelhmjmamnaagreatdoor", sum := "f68aa7c3a31d90652804d32f2640f0bb6c835b16d6d80861859b5044ef2af0db", func := "simile/similelaw06.CrtLifts", spec := "crtLifts", inPlace := ["math/bits.Add64", "math/bits.Sub64", "internal/reflectlite.TypeOf"], unfollowed := true, recurses := true, named := ["simile/prime.bases", "math/bits.divideError", "math/bits.overflowError", "math/bits.deBruijn64tab"], apart := false, laid := [("math/bits.deBruijn64tab", laid_math_bits_deBruijn64tab), ("simile/prime.bases", laid_simile_prime_bases)] }
def CrtLiftsSaid : Prop := crtLiftsRow.holds Tryz.pinned (OpenSpec.ofChange crtLiftsSpec)

/-- ITS FALSE NEIGHBOUR: 'it returns false'. Refute it at one input. -/
def crtLiftsWrong : ChangeSpec := { name := "crtLifts", fn := fun _ => fun
  | [d1, d2] => { results := [.lit (.bool false)], args := [d1, d2] }
  | _ => none }
def CrtLiftsWrongFalsely : Prop := crtLiftsRow.holds Tryz.pinned (OpenSpec.ofChange crtLiftsWrong)

/-- 'similelaw06.CrtJoins': WHATEVER THE INPUT: true; the input reads as it did. -/
def crtJoinsSpec : ChangeSpec := { name := "crtJoins", fn := fun _ => fun
  | [d1, d2] => { results := [.lit (.bool true)], args := [d1, d2] }
  | _ => none }
def crtJoinsRow : OpenClaim := { program := "ytadpelhmjmamnaagreatdoor", sum := "f68aa7c3a31d90652804d32f2640f0bb6c835b16d6d80861859b5044ef2af0db", func := "simile/similelaw06.CrtJoins", spec := "crtJoins", inPlace := ["math/bits.Sub64", "math/bits.Add64", "internal/reflectlite.TypeOf"], unfollowed := true, recurses := true, named := ["math/bits.divideError", "math/bits.overflowError", "simile/prime.bases", "math/bits.deBruijn64tab"], apart := false, laid := [("math/bits.deBruijn64tab", laid_math_bits_deBruijn64tab), ("simile/prime.bases", laid_simile_prime_bases)] }
def CrtJoinsSaid : Prop := crtJoinsRow.holds Tryz.pinned (OpenSpec.ofChange crtJoinsSpec)

/-- ITS FALSE NEIGHBOUR: 'it returns false'. Refute it at one input. -/
def crtJoinsWrong : ChangeSpec := { name := "crtJoins", fn := fun _ => fun
  | [d1, d2] => { results := [.lit (.bool false)], args := [d1, d2] }
  | _ => none }
def CrtJoinsWrongFalsely : Prop := crtJoinsRow.holds Tryz.pinned (OpenSpec.ofChange crtJoinsWrong)

/-- 'similelaw06.CrtRecons': WHATEVER THE INPUT: true; the input reads as it did. -/
def crtReconsSpec : ChangeSpec := { name := "crtRecons", fn := fun _ => fun
  | [d1, d2, d3] => { results := [.lit (.bool true)], args := [d1, d2, d3] }
  | _ => none }
def crtReconsRow : OpenClaim := { program := "ytadpelhmjmamnaagreatdoor", sum := "f68aa7c3a31d90652804d32f2640f0bb6c835b16d6d80861859b5044ef2af0db", func := "simile/similelaw06.CrtRecons", spec := "crtRecons", inPlace := ["math/bits.Add64", "math/bits.Sub64", "internal/reflectlite.TypeOf"], unfollowed := true, recurses := true, named := ["math/bits.divideError", "math/bits.overflowError", "math/bits.deBruijn64tab", "simile/prime.bases"], apart := false, laid := [("math/bits.deBruijn64tab", laid_math_bits_deBruijn64tab), ("simile/prime.bases", laid_simile_prime_bases)] }
def CrtReconsSaid : Prop := crtReconsRow.holds Tryz.pinned (OpenSpec.ofChange crtReconsSpec)

/-- ITS FALSE NEIGHBOUR: 'it returns false'. Refute it at one input. -/
def crtReconsWrong : ChangeSpec := { name := "crtRecons", fn := fun _ => fun
  | [d1, d2, d3] => { results := [.lit (.bool false)], args := [d1, d2, d3] }
  | _ => none }
def CrtReconsWrongFalsely : Prop := crtReconsRow.holds Tryz.pinned (OpenSpec.ofChange crtReconsWrong)

/-- 'similelaw06.CrtSays': WHATEVER THE INPUT: true; the input reads as it did. -/
def crtSaysSpec : ChangeSpec := { name := "crtSays", fn := fun _ => fun
  | [d] => { results := [.lit (.bool true)], args := [d] }
  | _ => none }
def crtSaysRow : OpenClaim := { program := "ytadpelhmjmamnaagreatdoor", sum := "f68aa7c3a31d90652804d32f2640f0bb6c835b16d6d80861859b5044ef2af0db", func := "simile/similelaw06.CrtSays", spec := "crtSays", inPlace := ["math/bits.Add64", "math/bits.Sub64", "internal/reflectlite.TypeOf"], unfollowed := true, recurses := true, named := ["simile/prime.bases", "math/bits.divideError", "math/bits.overflowError", "math/bits.deBruijn64tab"], apart := false, laid := [("math/bits.deBruijn64tab", laid_math_bits_deBruijn64tab), ("simile/prime.bases", laid_simile_prime_bases)] }
def CrtSaysSaid : Prop := crtSaysRow.holds Tryz.pinned (OpenSpec.ofChange crtSaysSpec)

/-- ITS FALSE NEIGHBOUR: 'it returns false'. Refute it at one input. -/
def crtSaysWrong : ChangeSpec := { name := "crtSays", fn := fun _ => fun
  | [d] => { results := [.lit (.bool false)], args := [d] }
  | _ => none }
def CrtSaysWrongFalsely : Prop := crtSaysRow.holds Tryz.pinned (OpenSpec.ofChange crtSaysWrong)

/-- 'similelaw06.CrtSigned': WHATEVER THE INPUT: true; the input reads as it did. -/
def crtSignedSpec : ChangeSpec := { name := "crtSigned", fn := fun _ => fun
  | [d1, d2] => { results := [.lit (.bool true)], args := [d1, d2] }
  | _ => none }
def crtSignedRow : OpenClaim := { program := "ytadpelhmjmamnaagreatdoor", sum := "f68aa7c3a31d90652804d32f2640f0bb6c835b16d6d80861859b5044ef2af0db", func := "simile/similelaw06.CrtSigned", spec := "crtSigned", inPlace := ["math/bits.Add64", "math/bits.Sub64", "internal/reflectlite.TypeOf"], unfollowed := true, recurses := true, named := ["simile/prime.bases", "math/bits.divideError", "math/bits.overflowError", "math/bits.deBruijn64tab"], apart := false, laid := [("math/bits.deBruijn64tab", laid_math_bits_deBruijn64tab), ("simile/prime.bases", laid_simile_prime_bases)] }
def CrtSignedSaid : Prop := crtSignedRow.holds Tryz.pinned (OpenSpec.ofChange crtSignedSpec)

/-- ITS FALSE NEIGHBOUR: 'it returns false'. Refute it at one input. -/
def crtSignedWrong : ChangeSpec := { name := "crtSigned", fn := fun _ => fun
  | [d1, d2] => { results := [.lit (.bool false)], args := [d1, d2] }
  | _ => none }
def CrtSignedWrongFalsely : Prop := crtSignedRow.holds Tryz.pinned (OpenSpec.ofChange crtSignedWrong)

/-- 'similelaw06.CrtFractions': WHATEVER THE INPUT: true; the input reads as it did. -/
def crtFractionsSpec : ChangeSpec := { name := "crtFractions", fn := fun _ => fun
  | [d1, d2, d3] => { results := [.lit (.bool true)], args := [d1, d2, d3] }
  | _ => none }
def crtFractionsRow : OpenClaim := { program := "ytadpelhmjmamnaagreatdoor", sum := "f68aa7c3a31d90652804d32f2640f0bb6c835b16d6d80861859b5044ef2af0db", func := "simile/similelaw06.CrtFractions", spec := "crtFractions", inPlace := ["math/bits.Add64", "math/bits.Sub64", "internal/reflectlite.TypeOf"], unfollowed := true, recurses := true, named := ["simile/prime.bases", "math/bits.divideError", "math/bits.overflowError", "math/bits.deBruijn64tab"], apart := false, laid := [("math/bits.deBruijn64tab", laid_math_bits_deBruijn64tab), ("simile/prime.bases", laid_simile_prime_bases)] }
def CrtFractionsSaid : Prop := crtFractionsRow.holds Tryz.pinned (OpenSpec.ofChange crtFractionsSpec)

/-- ITS FALSE NEIGHBOUR: 'it returns false'. Refute it at one input. -/
def crtFractionsWrong : ChangeSpec := { name := "crtFractions", fn := fun _ => fun
  | [d1, d2, d3] => { results := [.lit (.bool false)], args := [d1, d2, d3] }
  | _ => none }
def CrtFractionsWrongFalsely : Prop := crtFractionsRow.holds Tryz.pinned (OpenSpec.ofChange crtFractionsWrong)

/- THE SECOND FORM. 'bulk': how many values and letters a reading holds, each counted each time it is reached (what is shared counts as often as it is met; a slice's spare places count too). A statement '..UptoSaid' is the law's where the arguments, and the package variables that the reading takes, are together of bulk at most 1048576: NARROWER than '..Said'. Prove '..Said' where nothing that the law and all that it calls make is longer than what came in: it says more and counts as full. Else prove '..UptoSaid'. A law counts once. -/
mutual
def uptoBulk {H : Type} : DataW H → Nat
  | .lit (.string bytes) => bytes.length + 1
  | .lit _ => 1
  | .nil => 1
  | .ptr d => uptoBulk d + 1
  | .slice elems spare => uptoBulkAll elems + uptoBulkAll spare + 1
  | .agg parts => uptoBulkAll parts + 1
  | .iface _ d => uptoBulk d + 1
  | .map entries => uptoBulkEntries entries + 1
  | .held _ => 1
def uptoBulkAll {H : Type} : List (DataW H) → Nat
  | [] => 0
  | d :: r => uptoBulk d + uptoBulkAll r
def uptoBulkEntries {H : Type} : List (Lit × DataW H) → Nat
  | [] => 0
  | x :: r => uptoBulkEntry x + uptoBulkEntries r
def uptoBulkEntry {H : Type} : Lit × DataW H → Nat
  | (.string bytes, d) => bytes.length + uptoBulk d + 1
  | (_, d) => uptoBulk d + 1
 end
def uptoSmall : (H : Type) → List (DataW H) → Bool := fun _ ds => decide (uptoBulkAll ds ≤ 1048576)
def OpenSpec.upto (s : _root_.Go.ChangeSpec) : _root_.Go.OpenSpec := { _root_.Go.OpenSpec.ofChange s with cond := some uptoSmall }

/-- 'similelaw06.CrtAdds', WHERE WHAT IT READS IS OF BULK AT MOST 1048576: true; the input reads as it did. -/
def crtAddsUptoRow : OpenClaim := { program := "ytadpelhmjmamnaagreatdoor", sum := "f68aa7c3a31d90652804d32f2640f0bb6c835b16d6d80861859b5044ef2af0db", func := "simile/similelaw06.CrtAdds", spec := "crtAdds", inPlace := ["math/bits.Add64", "math/bits.Sub64", "internal/reflectlite.TypeOf"], unfollowed := true, recurses := true, named := ["simile/prime.bases", "math/bits.divideError", "math/bits.overflowError", "math/bits.deBruijn64tab"], apart := false, laid := [("math/bits.deBruijn64tab", laid_math_bits_deBruijn64tab), ("simile/prime.bases", laid_simile_prime_bases)], narrowed := true }
def CrtAddsUptoSaid : Prop := crtAddsUptoRow.holds Tryz.pinned (OpenSpec.upto crtAddsSpec)

/-- 'similelaw06.CrtNone', WHERE WHAT IT READS IS OF BULK AT MOST 1048576: true; the input reads as it did. -/
def crtNoneUptoRow : OpenClaim := { program := "ytadpelhmjmamnaagreatdoor", sum := "f68aa7c3a31d90652804d32f2640f0bb6c835b16d6d80861859b5044ef2af0db", func := "simile/similelaw06.CrtNone", spec := "crtNone", inPlace := ["math/bits.Add64", "math/bits.Sub64", "internal/reflectlite.TypeOf"], unfollowed := true, recurses := true, named := ["simile/prime.bases", "math/bits.divideError", "math/bits.overflowError", "math/bits.deBruijn64tab"], apart := false, laid := [("math/bits.deBruijn64tab", laid_math_bits_deBruijn64tab), ("simile/prime.bases", laid_simile_prime_bases)], narrowed := true }
def CrtNoneUptoSaid : Prop := crtNoneUptoRow.holds Tryz.pinned (OpenSpec.upto crtNoneSpec)

/-- 'similelaw06.CrtOf', WHERE WHAT IT READS IS OF BULK AT MOST 1048576: true; the input reads as it did. -/
def crtOfUptoRow : OpenClaim := { program := "ytadpelhmjmamnaagreatdoor", sum := "f68aa7c3a31d90652804d32f2640f0bb6c835b16d6d80861859b5044ef2af0db", func := "simile/similelaw06.CrtOf", spec := "crtOf", inPlace := ["math/bits.Add64", "math/bits.Sub64", "internal/reflectlite.TypeOf"], unfollowed := true, recurses := true, named := ["simile/prime.bases", "math/bits.divideError", "math/bits.overflowError", "math/bits.deBruijn64tab"], apart := false, laid := [("math/bits.deBruijn64tab", laid_math_bits_deBruijn64tab), ("simile/prime.bases", laid_simile_prime_bases)], narrowed := true }
def CrtOfUptoSaid : Prop := crtOfUptoRow.holds Tryz.pinned (OpenSpec.upto crtOfSpec)

/-- 'similelaw06.CrtLifts', WHERE WHAT IT READS IS OF BULK AT MOST 1048576: true; the input reads as it did. -/
def crtLiftsUptoRow : OpenClaim := { program := "ytadpelhmjmamnaagreatdoor", sum := "f68aa7c3a31d90652804d32f2640f0bb6c835b16d6d80861859b5044ef2af0db", func := "simile/similelaw06.CrtLifts", spec := "crtLifts", inPlace := ["math/bits.Add64", "math/bits.Sub64", "internal/reflectlite.TypeOf"], unfollowed := true, recurses := true, named := ["simile/prime.bases", "math/bits.divideError", "math/bits.overflowError", "math/bits.deBruijn64tab"], apart := false, laid := [("math/bits.deBruijn64tab", laid_math_bits_deBruijn64tab), ("simile/prime.bases", laid_simile_prime_bases)], narrowed := true }
def CrtLiftsUptoSaid : Prop := crtLiftsUptoRow.holds Tryz.pinned (OpenSpec.upto crtLiftsSpec)

/-- 'similelaw06.CrtJoins', WHERE WHAT IT READS IS OF BULK AT MOST 1048576: true; the input reads as it did. -/
def crtJoinsUptoRow : OpenClaim := { program := "ytadpelhmjmamnaagreatdoor", sum := "f68aa7c3a31d90652804d32f2640f0bb6c835b16d6d80861859b5044ef2af0db", func := "simile/similelaw06.CrtJoins", spec := "crtJoins", inPlace := ["math/bits.Sub64", "math/bits.Add64", "internal/reflectlite.TypeOf"], unfollowed := true, recurses := true, named := ["math/bits.divideError", "math/bits.overflowError", "simile/prime.bases", "math/bits.deBruijn64tab"], apart := false, laid := [("math/bits.deBruijn64tab", laid_math_bits_deBruijn64tab), ("simile/prime.bases", laid_simile_prime_bases)], narrowed := true }
def CrtJoinsUptoSaid : Prop := crtJoinsUptoRow.holds Tryz.pinned (OpenSpec.upto crtJoinsSpec)

/-- 'similelaw06.CrtRecons', WHERE WHAT IT READS IS OF BULK AT MOST 1048576: true; the input reads as it did. -/
def crtReconsUptoRow : OpenClaim := { program := "ytadpelhmjmamnaagreatdoor", sum := "f68aa7c3a31d90652804d32f2640f0bb6c835b16d6d80861859b5044ef2af0db", func := "simile/similelaw06.CrtRecons", spec := "crtRecons", inPlace := ["math/bits.Add64", "math/bits.Sub64", "internal/reflectlite.TypeOf"], unfollowed := true, recurses := true, named := ["math/bits.divideError", "math/bits.overflowError", "math/bits.deBruijn64tab", "simile/prime.bases"], apart := false, laid := [("math/bits.deBruijn64tab", laid_math_bits_deBruijn64tab), ("simile/prime.bases", laid_simile_prime_bases)], narrowed := true }
def CrtReconsUptoSaid : Prop := crtReconsUptoRow.holds Tryz.pinned (OpenSpec.upto crtReconsSpec)

/-- 'similelaw06.CrtSays', WHERE WHAT IT READS IS OF BULK AT MOST 1048576: true; the input reads as it did. -/
def crtSaysUptoRow : OpenClaim := { program := "ytadpelhmjmamnaagreatdoor", sum := "f68aa7c3a31d90652804d32f2640f0bb6c835b16d6d80861859b5044ef2af0db", func := "simile/similelaw06.CrtSays", spec := "crtSays", inPlace := ["math/bits.Add64", "math/bits.Sub64", "internal/reflectlite.TypeOf"], unfollowed := true, recurses := true, named := ["simile/prime.bases", "math/bits.divideError", "math/bits.overflowError", "math/bits.deBruijn64tab"], apart := false, laid := [("math/bits.deBruijn64tab", laid_math_bits_deBruijn64tab), ("simile/prime.bases", laid_simile_prime_bases)], narrowed := true }
def CrtSaysUptoSaid : Prop := crtSaysUptoRow.holds Tryz.pinned (OpenSpec.upto crtSaysSpec)

/-- 'similelaw06.CrtSigned', WHERE WHAT IT READS IS OF BULK AT MOST 1048576: true; the input reads as it did. -/
def crtSignedUptoRow : OpenClaim := { program := "ytadpelhmjmamnaagreatdoor", sum := "f68aa7c3a31d90652804d32f2640f0bb6c835b16d6d80861859b5044ef2af0db", func := "simile/similelaw06.CrtSigned", spec := "crtSigned", inPlace := ["math/bits.Add64", "math/bits.Sub64", "internal/reflectlite.TypeOf"], unfollowed := true, recurses := true, named := ["simile/prime.bases", "math/bits.divideError", "math/bits.overflowError", "math/bits.deBruijn64tab"], apart := false, laid := [("math/bits.deBruijn64tab", laid_math_bits_deBruijn64tab), ("simile/prime.bases", laid_simile_prime_bases)], narrowed := true }
def CrtSignedUptoSaid : Prop := crtSignedUptoRow.holds Tryz.pinned (OpenSpec.upto crtSignedSpec)

/-- 'similelaw06.CrtFractions', WHERE WHAT IT READS IS OF BULK AT MOST 1048576: true; the input reads as it did. -/
def crtFractionsUptoRow : OpenClaim := { program := "ytadpelhmjmamnaagreatdoor", sum := "f68aa7c3a31d90652804d32f2640f0bb6c835b16d6d80861859b5044ef2af0db", func := "simile/similelaw06.CrtFractions", spec := "crtFractions", inPlace := ["math/bits.Add64", "math/bits.Sub64", "internal/reflectlite.TypeOf"], unfollowed := true, recurses := true, named := ["simile/prime.bases", "math/bits.divideError", "math/bits.overflowError", "math/bits.deBruijn64tab"], apart := false, laid := [("math/bits.deBruijn64tab", laid_math_bits_deBruijn64tab), ("simile/prime.bases", laid_simile_prime_bases)], narrowed := true }
def CrtFractionsUptoSaid : Prop := crtFractionsUptoRow.holds Tryz.pinned (OpenSpec.upto crtFractionsSpec)

end Rows
end Go.Proofs.YtadpelhmjmamnaaGreatDoor
