/- The reckoning of the kernel for primes below 2^32: divisors . -/
import Derived.Test.YtcjgilagldbjnaaGreatDoorPkBb32
namespace Go.Proofs.YtcjgilagldbjnaaGreatDoor
set_option maxRecDepth 100000

theorem mid_0 : range2 mid 124 2049 = true := by decide +kernel
theorem mid_1 : range2 mid 156 2297 = true := by decide +kernel
theorem mid_2 : range2 mid 150 2609 = true := by decide +kernel
theorem mid_3 : range2 mid 232 2909 = true := by decide +kernel
theorem mid_4 : range2 mid 320 3373 = true := by decide +kernel
theorem mid_5 : range2 mid 513 4013 = true := by decide +kernel
theorem mid_6 : range2 mid 771 5039 = true := by decide +kernel
end Go.Proofs.YtcjgilagldbjnaaGreatDoor
