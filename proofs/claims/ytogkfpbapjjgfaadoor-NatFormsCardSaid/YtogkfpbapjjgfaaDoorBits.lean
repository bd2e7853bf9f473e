/- The library's bits functions at this translation, in the spelling that the walks want. Conditions: the arguments are words of their kinds. -/
import Derived.Test.YtogkfpbapjjgfaaDoorCmp
import Derived.Test.YtogkfpbapjjgfaaDoorShelf
import Derived.Lib.ItoaNum
namespace Go.Proofs.YtogkfpbapjjgfaaDoor
open Go.RowKit

theorem lz64_any (x : Nat) (w : World) (h : x < 18446744073709551616) : Calls Tryd.prog 68 #[.int .u64 (x : Int)] w fun e w' => e = .returned (.int .i64 (64 - (Lib.bitLen x : Int))) ∧ w = w' :=
  (Go.Proofs.Tryd.bits_LeadingZeros64 (x : Int) w (by omega) (by omega)).mono fun _ _ ⟨he, hw⟩ => ⟨by rw [he]; simp, hw.symm⟩
theorem len32_any (x : Nat) (w : World) (h : x < 4294967296) : Calls Tryd.prog 40 #[.int .u32 (x : Int)] w fun e w' => e = .returned (.int .i64 (Lib.bitLen x : Int)) ∧ w = w' :=
  (Go.Proofs.Tryd.bits_Len32 (x : Int) w (by omega) (by omega)).mono fun _ _ ⟨he, hw⟩ => ⟨by rw [he]; simp, hw.symm⟩
theorem mul64_any (x y : Nat) (w : World) (hx : x < 18446744073709551616) (hy : y < 18446744073709551616) : Calls Tryd.prog 61 #[.int .u64 (x : Int), .int .u64 (y : Int)] w fun e w' => e = .returned (.tuple #[.int .u64 ((x * y / 18446744073709551616 : Nat) : Int), .int .u64 ((x * y % 18446744073709551616 : Nat) : Int)]) ∧ w = w' :=
  (Go.Proofs.Tryd.bits_Mul64 x y hx hy w).mono fun _ _ ⟨he, hw⟩ => ⟨he, hw.symm⟩

theorem bitLen_bounds (x : Nat) (h : x < 18446744073709551616) (h0 : x ≠ 0) : 1 ≤ Lib.bitLen x ∧ 2 ^ (Lib.bitLen x - 1) ≤ x ∧ x < 2 ^ Lib.bitLen x :=
  Lib.bitLenAux_bounds 64 x h h0
theorem bitLen_zero : Lib.bitLen 0 = 0 := rfl
theorem bitLen_le64 (x : Nat) (h : x < 18446744073709551616) : Lib.bitLen x ≤ 64 := Lib.bitLen_le x 64 (Nat.le_refl _) h
end Go.Proofs.YtogkfpbapjjgfaaDoor
