/- The contracts of raise, greatest, cut, compareWords and joined. Conditions: words; fewer than any slice can have. The contract of joined. Conditions: words; the lower part not longer than the place of the upper one, which is above 0. append of so many noughts (of a made row) onto a row of one's own, both arms. Conditions: at most 2^43 words. The numbers behind division by halves. No conditions of its own. The contract of threeByTwo, given that of twoByOne for half as many words. Conditions: words; the divisor's top bit; at most 2^28 words. -/
import Derived.Test.YtcjgilagldbjnaaDoorPkBe18
import Derived.Test.YtcjgilagldbjnaaDoorPkBe13
import Derived.Maps.AppendAt
import Derived.ArgAppend
import Derived.Test.YtcjgilagldbjnaaDoorPkBe17
import Derived.Test.YtcjgilagldbjnaaDoorPkBe20
import Derived.Test.YtcjgilagldbjnaaDoorPkBe19
import Derived.Deep.LoopGhost
namespace Go.Proofs.YtcjgilagldbjnaaDoor
section
open Go.RowKit
end
section
open Go.RowKit
end
section
open Go.RowKit
end
section
open Go.RowKit

theorem bz_done {U V q r : Nat} (h : r + q * V = U) (h2 : U < (q + 1) * V) : q = U / V ∧ r = U % V := by
  rw [Nat.add_mul, Nat.one_mul] at h2
  have hr : r < V := by omega
  have h3 : U = r + V * q := by rw [Nat.mul_comm]; exact h.symm
  subst h3
  rw [Nat.add_mul_div_left _ _ (by omega), Nat.div_eq_of_lt hr, Nat.add_mul_mod_self_left, Nat.mod_eq_of_lt hr]
  omega
end
section
open Go.RowKit
end
end Go.Proofs.YtcjgilagldbjnaaDoor
