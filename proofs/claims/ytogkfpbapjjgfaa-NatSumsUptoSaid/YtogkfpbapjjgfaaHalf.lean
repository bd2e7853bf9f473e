/- Plain numbers: a word by half a word, with the digit guessed by the upper halves (Knuth's way). No conditions but those of each. -/
import Derived.Test.YtogkfpbapjjgfaaNum
namespace Go.Proofs.Ytogkfpbapjjgfaa

/-- What the loop knows of its digit q and rest r. -/
structure Half (Y Y1 Y0 U L q r : Nat) : Prop where
  sum : q * Y1 + r = U
  rest : r < 4294967296
  ge : (U * 4294967296 + L) / Y ≤ q
  le : q ≤ 4294967297

section
variable {Y Y1 Y0 U L q r : Nat}
theorem half_start (hY : Y = Y1 * 4294967296 + Y0) (h1 : 2147483648 ≤ Y1) (h2 : Y1 < 4294967296) (h0 : Y0 < 4294967296) (hL : L < 4294967296) (hU : U < Y) : Half Y Y1 Y0 U L (U / Y1) (U % Y1) := by
  have hd := Nat.div_add_mod U Y1
  have hm : U % Y1 < Y1 := Nat.mod_lt _ (by omega)
  rw [Nat.mul_comm] at hd
  refine ⟨hd, by omega, ?_, ?_⟩
  · rw [← Nat.lt_succ_iff, Nat.div_lt_iff_lt_mul (by omega), hY, Nat.succ_mul, Nat.mul_add, ← Nat.mul_assoc]
    generalize U / Y1 * Y1 = a at *
    generalize U / Y1 * Y0 = b at *
    omega
  · have : U / Y1 < 4294967298 := by
      rw [Nat.div_lt_iff_lt_mul (by omega)]
      omega
    omega
theorem half_Q (hY : Y = Y1 * 4294967296 + Y0) (_ : 2147483648 ≤ Y1) (hL : L < 4294967296) (hU : U < Y) : (U * 4294967296 + L) / Y < 4294967296 := by
  rw [Nat.div_lt_iff_lt_mul (by omega)]; omega
theorem half_over (hY : Y = Y1 * 4294967296 + Y0) (h1 : 2147483648 ≤ Y1) (h : Half Y Y1 Y0 U L q r) (hc : 4294967296 * r + L < q * Y0) : (U * 4294967296 + L) / Y < q := by
  rw [Nat.div_lt_iff_lt_mul (by omega), hY, Nat.mul_add, ← Nat.mul_assoc]
  have := h.sum
  generalize q * Y1 = a at *
  generalize q * Y0 = b at *
  omega
theorem half_down (h : Half Y Y1 Y0 U L q r) (hlt : (U * 4294967296 + L) / Y < q) (hr : r + Y1 < 4294967296) : Half Y Y1 Y0 U L (q - 1) (r + Y1) := by
  have hq : 0 < q := Nat.zero_lt_of_lt hlt
  obtain ⟨k, rfl⟩ : ∃ k, q = k + 1 := ⟨q - 1, by omega⟩
  refine ⟨?_, hr, Nat.lt_succ_iff.1 hlt, by have := h.le; omega⟩
  have := h.sum
  rw [Nat.succ_mul] at this
  simp only [Nat.add_sub_cancel]
  omega
theorem half_out (hY : Y = Y1 * 4294967296 + Y0) (h1 : 2147483648 ≤ Y1) (h : Half Y Y1 Y0 U L q r) (hc : q * Y0 ≤ 4294967296 * r + L) : q = (U * 4294967296 + L) / Y := by
  refine Nat.le_antisymm ?_ h.ge
  rw [Nat.le_div_iff_mul_le (by omega), hY, Nat.mul_add, ← Nat.mul_assoc]
  have := h.sum
  generalize q * Y1 = a at *
  generalize q * Y0 = b at *
  omega
theorem half_break (hY : Y = Y1 * 4294967296 + Y0) (h1 : 2147483648 ≤ Y1) (h0 : Y0 < 4294967296) (h : Half Y Y1 Y0 U L q r) (hlt : (U * 4294967296 + L) / Y < q) (hr : 4294967296 ≤ r + Y1) : q - 1 = (U * 4294967296 + L) / Y := by
  have hq : 0 < q := Nat.zero_lt_of_lt hlt
  obtain ⟨k, rfl⟩ : ∃ k, q = k + 1 := ⟨q - 1, by omega⟩
  simp only [Nat.add_sub_cancel]
  refine Nat.le_antisymm ?_ (Nat.lt_succ_iff.1 hlt)
  have hs := h.sum
  have hl := h.le
  rw [Nat.succ_mul] at hs
  have hk : k * Y0 ≤ 4294967296 * Y0 := Nat.mul_le_mul_right _ (by omega)
  rw [Nat.le_div_iff_mul_le (by omega), hY, Nat.mul_add, ← Nat.mul_assoc]
  generalize k * Y1 = a at *
  generalize k * Y0 = b at *
  omega
end
theorem two_halves (Y A L0 : Nat) (hY : 0 < Y) : (A * 4294967296 + L0) / Y = A / Y * 4294967296 + (A % Y * 4294967296 + L0) / Y ∧ (A * 4294967296 + L0) % Y = (A % Y * 4294967296 + L0) % Y := by
  have h := Nat.div_add_mod A Y
  have e : A * 4294967296 + L0 = Y * (A / Y * 4294967296) + (A % Y * 4294967296 + L0) := by
    conv => lhs; rw [← h]
    rw [Nat.add_mul, Nat.mul_assoc]; omega
  constructor
  · conv => lhs; rw [e]
    rw [Nat.mul_add_div hY]
  · conv => lhs; rw [e]
    rw [Nat.mul_add_mod]
theorem shifted_div (N y p : Nat) (hp : 0 < p) : N * p / (y * p) = N / y ∧ N * p % (y * p) / p = N % y := by
  refine ⟨Nat.mul_div_mul_right _ _ hp, ?_⟩
  rw [Nat.mul_mod_mul_right, Nat.mul_div_cancel _ hp]
/-- What Div64 reckons is the quotient and the rest. -/
theorem div64_fin {hi lo y s Y U L L1 L0 : Nat} (hs : s < 64) (hy : 0 < y) (hY : Y = y * 2 ^ s) (hU : U = hi * 2 ^ s + lo / 2 ^ (64 - s)) (hL : L = lo * 2 ^ s % 18446744073709551616) (_ : lo < 18446744073709551616) (hL1 : L1 = L / 4294967296) (hL0 : L0 = L % 4294967296) :
    (U * 4294967296 + L1) / Y * 4294967296 + ((U * 4294967296 + L1) % Y * 4294967296 + L0) / Y = (hi * 18446744073709551616 + lo) / y ∧ ((U * 4294967296 + L1) % Y * 4294967296 + L0) % Y / 2 ^ s = (hi * 18446744073709551616 + lo) % y := by
  have hp : 0 < 2 ^ s := Nat.two_pow_pos s
  have hYp : 0 < Y := by rw [hY]; exact Nat.mul_pos hy hp
  obtain ⟨a, b⟩ := two_halves Y (U * 4294967296 + L1) L0 hYp
  rw [← a, ← b]
  have e64 : 2 ^ (64 - s) * 2 ^ s = 18446744073709551616 := by rw [← Nat.pow_add, show 64 - s + s = 64 from by omega]
  have el : lo * 2 ^ s = lo / 2 ^ (64 - s) * 18446744073709551616 + L := by
    have h1 := Nat.div_add_mod (lo * 2 ^ s) 18446744073709551616
    have h2 : lo * 2 ^ s / 18446744073709551616 = lo / 2 ^ (64 - s) := by
      rw [← e64, Nat.mul_div_mul_right _ _ hp]
    rw [h2, ← hL] at h1
    omega
  have e : (U * 4294967296 + L1) * 4294967296 + L0 = (hi * 18446744073709551616 + lo) * 2 ^ s := by
    rw [Nat.add_mul (hi * 18446744073709551616) lo, el, hU]
    rw [show hi * 18446744073709551616 * 2 ^ s = hi * 2 ^ s * 18446744073709551616 from by rw [Nat.mul_assoc, Nat.mul_comm 18446744073709551616, ← Nat.mul_assoc]]
    generalize hi * 2 ^ s = p1
    generalize lo / 2 ^ (64 - s) = p2
    omega
  rw [e, hY]
  exact shifted_div _ _ _ hp
end Go.Proofs.Ytogkfpbapjjgfaa
