/- The reckoning of the kernel for primes below 2^32: divisors . -/
import Derived.Test.YtcjgilagldbjnaaGreatDoorPkBb32
namespace Go.Proofs.YtcjgilagldbjnaaGreatDoor
set_option maxRecDepth 100000

theorem mid_7 : range2 mid 1420 6581 = true := by decide +kernel
theorem mid_8 : range2 mid 2996 9421 = true := by decide +kernel
theorem mid_9 : range2 mid 6448 15413 = true := by decide +kernel
theorem mid_10 : range2 mid 10457 28309 = true := by decide +kernel
theorem mid_11 : range2 mid 12859 49223 = true := by decide +kernel
theorem mid_12 : range2 mid 14115 74941 = true := by decide +kernel
theorem mid_13 : range2 mid 14625 103171 = true := by decide +kernel
end Go.Proofs.YtcjgilagldbjnaaGreatDoor
