/- The contracts of sum and difference. Conditions: p above 0 and below 2^32; both normal. Coefficients of a product of polynomials. No conditions. The contract of product. Conditions: p above 0 and below 2^32; both normal. The contracts of shifted, eval, derivative. Conditions: p above 0 and below 2^32. -/
import Derived.Test.YtbafiahmcfkboaaDoorPkHm36
import Derived.Deep.RegionHeld3
import Derived.IntWalk
import Derived.Test.YtbafiahmcfkboaaDoorPkHm35
import Derived.Shelf.Spec.BitsCarry
import Derived.Deep.DeepCutAuto
namespace Go.Proofs.YtbafiahmcfkboaaDoor
section
open Go.RowKit

theorem PS.cg {p : Nat} {w w' : World} {z z' : Z} {e : Ending} (h : PS p w z e w') (hz : Cg p z z') : PS p w z' e w' := by
  obtain ⟨r, h1, h2, h3⟩ := h
  exact ⟨r, h1, h2, h3.trans hz⟩
end
section

end
section
open Go.RowKit

/-- What stands for 2^64 modulo p. -/
def spN (p : Nat) : Nat := 18446744073709551616 % p
end
section
open Go.RowKit
end
end Go.Proofs.YtbafiahmcfkboaaDoor
