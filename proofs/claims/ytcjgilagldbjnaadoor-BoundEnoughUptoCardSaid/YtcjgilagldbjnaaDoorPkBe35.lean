/- The reckoning of the kernel for primes below 2^32: divisors of middle size, 3. No conditions. -/
import Derived.Test.YtcjgilagldbjnaaDoorPkBe31
namespace Go.Proofs.YtcjgilagldbjnaaDoor
set_option maxRecDepth 100000

theorem mid_14 : range2 mid 14844 132421 = true := by decide +kernel
theorem mid_15 : range2 mid 15119 162109 = true := by decide +kernel
theorem mid_16 : range2 mid 15330 192347 = true := by decide +kernel
theorem mid_17 : range2 mid 15472 223007 = true := by decide +kernel
theorem mid_18 : range2 mid 4097 253951 = true := by decide +kernel
end Go.Proofs.YtcjgilagldbjnaaDoor
