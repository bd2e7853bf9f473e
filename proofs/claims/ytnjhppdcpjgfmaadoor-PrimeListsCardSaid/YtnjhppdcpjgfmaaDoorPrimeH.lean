/- Fac says one list of each number; the contract of the reference's Factors. No conditions. -/
import Derived.Test.YtnjhppdcpjgfmaaDoorPrimeG
namespace Go.Proofs.YtnjhppdcpjgfmaaDoor
open Go.RowKit

theorem pow_strip {p : Nat} (hp : 2 ≤ p) : ∀ (a b x y : Nat), p ^ a * x = p ^ b * y → x % p ≠ 0 → y % p ≠ 0 → a = b ∧ x = y
  | 0, 0, x, y, h, _, _ => ⟨rfl, by simpa using h⟩
  | 0, b + 1, x, y, h, hx, _ => by
    exfalso
    rw [Nat.pow_zero, Nat.one_mul, Nat.pow_succ, Nat.mul_comm (p ^ b) p, Nat.mul_assoc] at h
    exact hx (by rw [h]; exact Nat.mul_mod_right _ _)
  | a + 1, 0, x, y, h, _, hy => by
    exfalso
    rw [Nat.pow_zero, Nat.one_mul, Nat.pow_succ, Nat.mul_comm (p ^ a) p, Nat.mul_assoc] at h
    exact hy (by rw [← h]; exact Nat.mul_mod_right _ _)
  | a + 1, b + 1, x, y, h, hx, hy => by
    rw [Nat.pow_succ, Nat.pow_succ, Nat.mul_comm (p ^ a) p, Nat.mul_comm (p ^ b) p, Nat.mul_assoc, Nat.mul_assoc] at h
    obtain ⟨h1, h2⟩ := pow_strip hp a b x y (Nat.eq_of_mul_eq_mul_left (by omega) h) hx hy
    exact ⟨by omega, h2⟩

theorem Fac.one_nil {l : List (Nat × Nat)} (h : Fac 1 l) : l = [] := by
  cases l with
  | nil => rfl
  | cons x l =>
    obtain ⟨p, t⟩ := x
    obtain ⟨m, _, _, ⟨h2, h3, _⟩, _⟩ := h
    rw [Nat.mod_eq_of_lt (by omega)] at h3
    cases h3
theorem Fac.unique : ∀ {n : Nat} {l k : List (Nat × Nat)}, Fac n l → Fac n k → l = k
  | n, [], k, h, h' => by
    obtain rfl : n = 1 := h
    exact h'.one_nil.symm
  | n, (p, t) :: l, k, h, h' => by
    cases k with
    | nil =>
      obtain rfl : n = 1 := h'
      exact absurd h.one_nil (by simp)
    | cons x k =>
      obtain ⟨q, s⟩ := x
      obtain ⟨m, ht, hm, hl, hmp, hf⟩ := h
      obtain ⟨m', hs, hm', hl', hmp', hf'⟩ := h'
      obtain rfl := hl.unique hl'
      obtain ⟨rfl, rfl⟩ := pow_strip hl.1 t s m m' (by rw [← hm, hm']) hmp hmp'
      rw [Fac.unique hf hf']

/-- The reference's list so far, m being what is left of n. -/
def Acc (n m : Nat) (L : List (Nat × Nat)) : Prop :=
  (L = [] ∧ m = n) ∨ ∃ L0 p t m1, L = L0 ++ [(p, t)] ∧ 0 < t ∧ m1 = p ^ t * m ∧ Least m1 p ∧ 0 < m ∧ m1 ≤ n ∧ ∀ l, Fac m1 l → Fac n (L0 ++ l)
theorem Acc.done {n : Nat} {L : List (Nat × Nat)} (h : Acc n 1 L) (hn : 0 < n) : Fac n L := by
  rcases h with ⟨rfl, rfl⟩ | ⟨L0, p, t, m1, rfl, ht, hm, hl, hmp, hn1, hf⟩
  · exact rfl
  · exact hf _ ⟨1, ht, hm, hl, by rw [Nat.mod_eq_of_lt (by have := hl.1; omega)]; omega, rfl⟩
/-- One more of the last prime. -/
theorem Acc.more {n m : Nat} {L0 : List (Nat × Nat)} {p t m1 x : Nat} (ht : 0 < t) (hm : m1 = p ^ t * m) (hl : Least m1 p) (hn : m1 ≤ n) (hf : ∀ l, Fac m1 l → Fac n (L0 ++ l)) (hx : m = p * x) (hx0 : 0 < x) : Acc n x (L0 ++ [(p, t + 1)]) :=
  .inr ⟨L0, p, t + 1, m1, rfl, by omega, by rw [hm, hx, Nat.pow_succ, Nat.mul_assoc], hl, hx0, hn, hf⟩
/-- A new prime. -/
theorem Acc.new {n m : Nat} {L : List (Nat × Nat)} {q x : Nat} (h : Acc n m L) (hq : Least m q) (hne : ∀ L0 p t, L = L0 ++ [(p, t)] → p ≠ q) (hx : m = q * x) (hx0 : 0 < x) : Acc n x (L ++ [(q, 1)]) := by
  refine .inr ⟨L, q, 1, m, rfl, by omega, by rw [Nat.pow_one]; exact hx, hq, hx0, ?_⟩
  rcases h with ⟨rfl, rfl⟩ | ⟨L0, p, t, m1, rfl, ht, hm, hl, hm0, hn1, hf⟩
  · exact ⟨Nat.le_refl _, fun l hl => hl⟩
  · refine ⟨?_, fun l hfl => ?_⟩
    · have : m ≤ p ^ t * m := Nat.le_mul_of_pos_left _ (Nat.pow_pos (by have := hl.1; omega))
      omega
    rw [List.append_assoc]
    refine hf _ ⟨m, ht, hm, hl, fun h0 => hne L0 p t rfl ?_, hfl⟩
    refine Least.unique (n := m) ⟨hl.1, h0, fun e h1 h2 h3 => hl.2.2 e h1 h2 ?_⟩ hq
    rw [hm]
    exact Nat.mod_eq_zero_of_dvd (Nat.dvd_trans (Nat.dvd_of_mod_eq_zero h3) (Nat.dvd_mul_left _ _))
end Go.Proofs.YtnjhppdcpjgfmaaDoor
