/- The contracts of raise, greatest, cut, compareWords and join. The contract of joined. append of so many noughts (of a made row) onto a row of one'. The numbers behind division by halves. The contract of threeByTwo, given that of twoByOne for half . -/
import Derived.Test.YtcjgilagldbjnaaGreatDoorPkBb19
import Derived.Test.YtcjgilagldbjnaaGreatDoorPkBb14
import Derived.Maps.AppendAt
import Derived.ArgAppend
import Derived.Test.YtcjgilagldbjnaaGreatDoorPkBb18
import Derived.Test.YtcjgilagldbjnaaGreatDoorPkBb21
import Derived.Test.YtcjgilagldbjnaaGreatDoorPkBb20
import Derived.Deep.LoopGhost
namespace Go.Proofs.YtcjgilagldbjnaaGreatDoor
section
open Go.RowKit
end
section
open Go.RowKit
end
section
open Go.RowKit
end
section
open Go.RowKit
theorem bz_done {U V q r : Nat} (h : r + q * V = U) (h2 : U < (q + 1) * V) : q = U / V ∧ r = U % V := by
 rw [Nat.add_mul, Nat.one_mul] at h2
 have hr : r < V := by omega
 have h3 : U = r + V * q := by rw [Nat.mul_comm]; exact h.symm
 subst h3
 rw [Nat.add_mul_div_left _ _ (by omega), Nat.div_eq_of_lt hr, Nat.add_mul_mod_self_left, Nat.mod_eq_of_lt hr]
 omega
end
section
open Go.RowKit
structure Bz (h U V b uh ul Vt Vl : Nat) (us vs hs ts vt vl ls : List Nat) : Prop where
 eb : b = 18446744073709551616 ^ h
 b0 : 0 < b
 hs_eq : hs = trimL (us.drop h)
 ts_eq : ts = trimL (hs.drop h)
 ls_eq : ls = trimL (us.take h)
 vt_eq : vt = vs.drop h
 vl_eq : vl = vs.take h
 nhs : Num 18446744073709551616 hs uh
 nts : Num 18446744073709551616 ts (uh / b)
 nvt : Num 18446744073709551616 vt Vt
 nls : Num 18446744073709551616 ls ul
 dvl : Dig 18446744073709551616 vl
 vvl : val 18446744073709551616 vl = Vl
 lhs : hs.length ≤ 2 * h
 lvt : vt.length = h
 lvl : vl.length = h
 lls : ls.length ≤ h
 eU : U = uh * b + ul
 eV : V = Vt * b + Vl
 ulb : ul < b
 Vlb : Vl < b
 top : b ≤ 2 * Vt
 lt : U < V * b
end
end Go.Proofs.YtcjgilagldbjnaaGreatDoor
