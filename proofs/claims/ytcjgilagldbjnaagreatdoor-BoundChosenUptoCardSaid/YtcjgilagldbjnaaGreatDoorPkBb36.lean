/- The reckoning of the kernel for primes below 2^32: divisors . -/
import Derived.Test.YtcjgilagldbjnaaGreatDoorPkBb32
namespace Go.Proofs.YtcjgilagldbjnaaGreatDoor
set_option maxRecDepth 100000

theorem mid_14 : range2 mid 14844 132421 = true := by decide +kernel
theorem mid_15 : range2 mid 15119 162109 = true := by decide +kernel
theorem mid_16 : range2 mid 15330 192347 = true := by decide +kernel
theorem mid_17 : range2 mid 15472 223007 = true := by decide +kernel
theorem mid_18 : range2 mid 4097 253951 = true := by decide +kernel
end Go.Proofs.YtcjgilagldbjnaaGreatDoor
