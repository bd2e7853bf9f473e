/- Square roots modulo a prime by Tonelli's and Shanks's way: what the loop keeps. No conditions. -/
import Derived.Test.YtnjhppdcpjgfmaaDoorPrimeX
namespace Go.Proofs.YtnjhppdcpjgfmaaDoor
open Go.RowKit

/-- twos, step, out and rest, as the loop leaves them: step's order is 2^twos, rest's is less, and out^2 is a rest. -/
def Ton (a p tw st ou re : Nat) : Prop :=
  1 ≤ tw ∧ st ^ 2 ^ (tw - 1) % p = p - 1 ∧ re ^ 2 ^ (tw - 1) % p = 1 ∧ ou * ou % p = a * re % p ∧ st < p ∧ ou < p ∧ re < p

theorem sq_mod (x p k : Nat) : (x * x % p) ^ 2 ^ k % p = x ^ 2 ^ (k + 1) % p := by
  rw [← Nat.pow_mod, ← Nat.pow_two, ← Nat.pow_mul, Nat.pow_succ, Nat.mul_comm]
theorem pow_two_step (x p k : Nat) : x ^ 2 ^ k % p * (x ^ 2 ^ k % p) % p = x ^ 2 ^ (k + 1) % p := by
  rw [← Nat.mul_mod, ← Nat.pow_two, ← Nat.pow_mul, ← Nat.pow_succ]

/-- A number that is no square: the loop for 'other' ends. -/
theorem Pr.non_square {p : Nat} (hp : Pr p) (h2 : 2 < p) : ∃ y, 2 ≤ y ∧ y < p ∧ y ^ ((p - 1) / 2) % p ≠ 1 := by
  have ho := hp.odd h2
  obtain ⟨y, h0, h1, h3⟩ := hp.some_not (m := (p - 1) / 2) (by omega) (by omega)
  refine ⟨y, ?_, h1, h3⟩
  rcases Nat.lt_or_ge y 2 with h4 | h4
  · obtain rfl : y = 1 := by omega
    rw [Nat.one_pow, Nat.mod_eq_of_lt (by omega)] at h3
    exact absurd rfl h3
  · exact h4

theorem Ton.start {a p d t o : Nat} (hp : Pr p) (h2 : 2 < p) (hd : p - 1 = d * 2 ^ t) (hodd : d % 2 = 1) (ho : o ^ ((p - 1) / 2) % p ≠ 1) (ho0 : o % p ≠ 0) (ha : a ^ ((p - 1) / 2) % p = 1) :
    Ton a p t (o ^ d % p) (a ^ (d / 2 + 1) % p) (a ^ d % p) := by
  have h5 := hp.odd h2
  have ht : 1 ≤ t := by
    rcases Nat.eq_zero_or_pos t with h | h
    · subst h; rw [Nat.pow_zero, Nat.mul_one] at hd; omega
    · exact h
  obtain ⟨s, rfl⟩ : ∃ s, t = s + 1 := ⟨t - 1, by omega⟩
  have hh : (p - 1) / 2 = d * 2 ^ s := by
    rw [hd, Nat.pow_succ, ← Nat.mul_assoc, Nat.mul_div_cancel _ (by omega)]
  have hl := fun x : Nat => Nat.mod_lt x hp.pos
  refine ⟨ht, ?_, ?_, ?_, hl _, hl _, hl _⟩
  · rw [Nat.add_sub_cancel, ← Nat.pow_mod, ← Nat.pow_mul, ← hh]
    refine (hp.roots ?_ (hl _)).resolve_left ho
    rw [pow_square, show (p - 1) / 2 * 2 = p - 1 from by omega]
    exact hp.fermat fun h => ho0 (Nat.mod_eq_zero_of_dvd h)
  · rw [Nat.add_sub_cancel, ← Nat.pow_mod, ← Nat.pow_mul, ← hh]; exact ha
  · rw [← Nat.mul_mod, ← Nat.pow_add, Nat.mul_mod_mod, ← Nat.pow_succ']
    congr 2; omega

/-- k: how often rest is squared till it is 1. -/
theorem Ton.shrinks {a p tw st ou re k : Nat} (h : Ton a p tw st ou re) (hk : k < tw) (hne : re ^ 2 ^ k % p ≠ 1) : k + 1 < tw := by
  rcases Nat.lt_or_ge (k + 1) tw with h1 | h1
  · exact h1
  · exfalso
    obtain rfl : k = tw - 1 := by omega
    exact hne h.2.2.1
/-- twos goes down to k + 1, and step is squared as often. -/
def Ste (p k tw st : Nat) : Prop := k + 1 ≤ tw ∧ st ^ 2 ^ (tw - 1) % p = p - 1 ∧ st < p
theorem Ste.down {p k tw st : Nat} (hp : 0 < p) (h : Ste p k tw st) (hk : k + 1 < tw) : Ste p k (tw - 1) (st * st % p) := by
  obtain ⟨_, h2, _⟩ := h
  refine ⟨by omega, ?_, Nat.mod_lt _ hp⟩
  rw [sq_mod, show tw - 1 - 1 + 1 = tw - 1 from by omega]; exact h2
theorem Ton.next {a p k st ou re : Nat} (hp : Pr p) (hs : st ^ 2 ^ k % p = p - 1) (h4 : ou * ou % p = a * re % p) (hk : 0 < k) (h1 : re ^ 2 ^ k % p = 1) (hmin : ∀ j, j < k → re ^ 2 ^ j % p ≠ 1) :
    Ton a p k (st * st % p) (ou * st % p) (re * (st * st % p) % p) := by
  have hl := fun x : Nat => Nat.mod_lt x hp.pos
  obtain ⟨j, rfl⟩ : ∃ j, k = j + 1 := ⟨k - 1, by omega⟩
  have hr : re ^ 2 ^ j % p = p - 1 := by
    refine (hp.roots ?_ (hl _)).resolve_left (hmin j (by omega))
    rw [pow_two_step]; exact h1
  refine ⟨hk, ?_, ?_, ?_, hl _, hl _, hl _⟩
  · rw [Nat.add_sub_cancel, sq_mod]; exact hs
  · rw [Nat.add_sub_cancel, ← Nat.pow_mod, Nat.mul_pow, Nat.mul_mod, hr, sq_mod, hs]
    exact minus_square hp.1
  · rw [← Nat.mul_mod, Nat.mul_mod_mod, ← Nat.mul_assoc a re, Nat.mul_mod_mod, show ou * st * (ou * st) = ou * ou * (st * st) from by ac_rfl, Nat.mul_mod, h4, ← Nat.mul_mod]
theorem Ton.done {a p tw st ou : Nat} (h : Ton a p tw st ou 1) : ou * ou % p = a % p := by
  rw [h.2.2.2.1, Nat.mul_one]
end Go.Proofs.YtnjhppdcpjgfmaaDoor
