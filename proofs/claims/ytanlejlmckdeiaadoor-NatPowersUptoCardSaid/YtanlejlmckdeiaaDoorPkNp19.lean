/- The numbers behind the greatest common divisor. No conditions of its own. The contract of wordRoot; the numbers behind the root. Conditions: a word. -/
import Derived.Test.YtanlejlmckdeiaaDoorPkNp13
import Derived.Shelf.Spec.TrailingZeros
import Derived.Deep.LoopGhost
namespace Go.Proofs.YtanlejlmckdeiaaDoor
section
open Go.RowKit

theorem odd_coprime {a : Nat} (ha : a % 2 = 1) (k : Nat) : Nat.Coprime (2 ^ k) a := by
  refine Nat.Coprime.pow_left k ?_
  show Nat.gcd 2 a = 1
  rw [Nat.gcd_rec, ha]; rfl
theorem odd_gcd {a : Nat} (ha : a % 2 = 1) (k b : Nat) : Nat.gcd a (2 ^ k * b) = Nat.gcd a b := Nat.Coprime.gcd_mul_left_cancel_right b (odd_coprime ha k)
theorem gcd_even (k a b : Nat) : Nat.gcd (2 ^ k * a) (2 ^ k * b) = 2 ^ k * Nat.gcd a b := Nat.gcd_mul_left _ _ _
/-- A number's odd part. -/
theorem ctz_spec {x : Nat} (h0 : x ≠ 0) (h : x < 18446744073709551616) : Lib.ctz 64 x < 64 ∧ x / 2 ^ Lib.ctz 64 x % 2 = 1 ∧ x = 2 ^ Lib.ctz 64 x * (x / 2 ^ Lib.ctz 64 x) := by
  obtain ⟨m, hm, hk⟩ := Lib.ctzFrom_spec 64 x (by omega) h
  have e0 : Lib.ctz 64 x = Lib.ctzFrom 64 x := by unfold Lib.ctz; rw [if_neg h0]
  rw [e0]
  obtain ⟨k, hke⟩ : ∃ k, k = Lib.ctzFrom 64 x := ⟨_, rfl⟩
  rw [← hke] at hm hk ⊢
  have e1 : x / 2 ^ k = 2 * m + 1 := by rw [hm]; exact Nat.mul_div_cancel_left _ (Nat.two_pow_pos k)
  rw [e1]
  exact ⟨hk, by omega, hm⟩
theorem or_split {a b t : Nat} (h : (a ||| b) % 2 ^ t = 0) : a % 2 ^ t = 0 ∧ b % 2 ^ t = 0 := by
  have h1 : ∀ j, j < t → (a ||| b).testBit j = false := fun j hj => by
    have h2 := congrArg (fun z => Nat.testBit z j) h
    simp only [Nat.testBit_mod_two_pow, Nat.zero_testBit, hj, decide_true, Bool.true_and] at h2
    exact h2
  constructor
  · refine Nat.eq_of_testBit_eq fun j => ?_
    rw [Nat.testBit_mod_two_pow, Nat.zero_testBit]
    by_cases hj : j < t
    · have := h1 j hj
      rw [Nat.testBit_or, Bool.or_eq_false_iff] at this
      rw [this.1, Bool.and_false]
    · simp [hj]
  · refine Nat.eq_of_testBit_eq fun j => ?_
    rw [Nat.testBit_mod_two_pow, Nat.zero_testBit]
    by_cases hj : j < t
    · have := h1 j hj
      rw [Nat.testBit_or, Bool.or_eq_false_iff] at this
      rw [this.2, Bool.and_false]
    · simp [hj]
/-- By how many twos the two are divided together. -/
theorem gcd_start {a b : Nat} (ha : a ≠ 0) (hab : a < 18446744073709551616) (_ : b ≠ 0) (hbb : b < 18446744073709551616) : Nat.gcd a b = Nat.gcd (a / 2 ^ Lib.ctz 64 a) b * 2 ^ Lib.ctz 64 (a ||| b) := by
  have hor : a ||| b < 18446744073709551616 := Nat.or_lt_two_pow (n := 64) hab hbb
  have hor0 : a ||| b ≠ 0 := fun e => ha (Nat.or_eq_zero_iff.1 e).1
  obtain ⟨_, c2, c3⟩ := ctz_spec hor0 hor
  obtain ⟨_, d2, d3⟩ := ctz_spec ha hab
  obtain ⟨t, ht⟩ : ∃ t, t = Lib.ctz 64 (a ||| b) := ⟨_, rfl⟩
  rw [← ht] at c2 c3 ⊢
  obtain ⟨j, hj⟩ : ∃ j, j = Lib.ctz 64 a := ⟨_, rfl⟩
  rw [← hj] at d2 d3 ⊢
  obtain ⟨a1, ha1⟩ : ∃ a1, a1 = a / 2 ^ j := ⟨_, rfl⟩
  rw [← ha1] at d2 d3 ⊢
  have hp := Nat.two_pow_pos t
  obtain ⟨e1, e2⟩ := or_split (a := a) (b := b) (t := t) (by rw [c3]; exact Nat.mul_mod_right _ _)
  obtain ⟨a', ha'⟩ : ∃ a', a = 2 ^ t * a' := ⟨a / 2 ^ t, by rw [Nat.mul_div_cancel' (Nat.dvd_of_mod_eq_zero e1)]⟩
  obtain ⟨b', hb'⟩ : ∃ b', b = 2 ^ t * b' := ⟨b / 2 ^ t, by rw [Nat.mul_div_cancel' (Nat.dvd_of_mod_eq_zero e2)]⟩
  have hodd : a' % 2 = 1 ∨ b' % 2 = 1 := by
    rw [Nat.or_div_two_pow, ha', hb', Nat.mul_div_cancel_left _ hp, Nat.mul_div_cancel_left _ hp] at c2
    have h9 := Nat.or_mod_two_eq_one.1 c2
    exact h9
  have hg : Nat.gcd a b = 2 ^ t * Nat.gcd a' b' := by rw [ha', hb', gcd_even]
  have hg2 : Nat.gcd a1 b = Nat.gcd a1 b' := by rw [hb', odd_gcd d2]
  rw [hg, hg2, Nat.mul_comm]
  congr 1
  have htj : t ≤ j := by
    rcases Nat.lt_or_ge j t with hlt | hge
    · exfalso
      obtain ⟨i, rfl⟩ : ∃ i, t = j + 1 + i := ⟨t - j - 1, by omega⟩
      have h9 : a1 = 2 * (2 ^ i * a') := by
        have h8 : 2 ^ j * a1 = 2 ^ j * (2 * (2 ^ i * a')) := by
          rw [← d3, ha', Nat.pow_add, Nat.pow_succ, Nat.mul_assoc, Nat.mul_assoc]
        exact Nat.eq_of_mul_eq_mul_left (Nat.two_pow_pos j) h8
      omega
    · exact hge
  obtain ⟨i, rfl⟩ : ∃ i, j = t + i := ⟨j - t, by omega⟩
  have ha2 : a' = 2 ^ i * a1 := by
    have h8 : 2 ^ t * a' = 2 ^ t * (2 ^ i * a1) := by rw [← ha', ← Nat.mul_assoc, ← Nat.pow_add]; exact d3
    exact Nat.eq_of_mul_eq_mul_left hp h8
  rcases hodd with ho | ho
  · have hi : i = 0 := by
      rcases Nat.eq_zero_or_pos i with h0 | h0
      · exact h0
      · exfalso
        obtain ⟨k, rfl⟩ : ∃ k, i = k + 1 := ⟨i - 1, by omega⟩
        rw [Nat.pow_succ, Nat.mul_comm (2 ^ k), Nat.mul_assoc] at ha2
        omega
    rw [ha2, hi, Nat.pow_zero, Nat.one_mul]
  · rw [ha2, Nat.gcd_comm, odd_gcd ho, Nat.gcd_comm]

/-- The two numbers between two of Euclid's steps by the top words. -/
structure Leh (e : Bool) (x0 y0 x y u1 u2 v1 v2 : Nat) : Prop where
  le : y ≤ x
  comb : x0 = v2 * x + v1 * y
  uv : u2 ≤ v2
  sum : u1 + u2 ≤ v1 + v2
  v2p : 1 ≤ v2
  idx : if e then x + u1 * x0 = v1 * y0 else x + v1 * y0 = u1 * x0
  idy : if e then y + v2 * y0 = u2 * x0 else y + u2 * x0 = v2 * y0
  det : if e then u2 * v1 = u1 * v2 + 1 else u1 * v2 = u2 * v1 + 1
theorem Leh.start {x0 y0 : Nat} (h : y0 ≤ x0) : Leh false x0 y0 x0 y0 1 0 0 1 :=
  ⟨h, by omega, by omega, by omega, by omega, by simp, by simp, by simp⟩
theorem Leh.next {e : Bool} {x0 y0 x y u1 u2 v1 v2 : Nat} (h : Leh e x0 y0 x y u1 u2 v1 v2) (g1 : v2 ≤ y) : Leh (!e) x0 y0 y (x % y) u2 (u1 + x / y * u2) v2 (v1 + x / y * v2) := by
  have hy : 0 < y := Nat.lt_of_lt_of_le h.v2p g1
  have hq : 1 ≤ x / y := (Nat.le_div_iff_mul_le hy).2 (by rw [Nat.one_mul]; exact h.le)
  have hm := Nat.div_add_mod x y
  obtain ⟨le, comb, uv, sum, v2p, idx, idy, det⟩ := h
  generalize x / y = q at *
  obtain ⟨r, hr⟩ : ∃ r, r = x % y := ⟨_, rfl⟩
  have hrl : r < y := by rw [hr]; exact Nat.mod_lt _ hy
  rw [← hr] at hm ⊢
  clear hr
  obtain ⟨p, rfl⟩ : ∃ p, q = p + 1 := ⟨q - 1, by omega⟩
  have hpuv : p * u2 ≤ p * v2 := Nat.mul_le_mul_left _ uv
  refine ⟨Nat.le_of_lt hrl, ?_, ?_, ?_, ?_, ?_, ?_, ?_⟩
  · subst hm; grind
  · rw [Nat.add_mul, Nat.add_mul]; omega
  · rw [Nat.add_mul, Nat.add_mul]; omega
  · rw [Nat.add_mul]; omega
  · cases e <;> simp only [Bool.not_true, Bool.not_false, if_true, Bool.false_eq_true, if_false] at idy ⊢ <;> exact idy
  · subst hm
    cases e <;> simp only [Bool.not_true, Bool.not_false, if_true, Bool.false_eq_true, if_false] at idx idy ⊢ <;> grind
  · cases e <;> simp only [Bool.not_true, Bool.not_false, if_true, Bool.false_eq_true, if_false] at det ⊢ <;> grind
theorem Leh.fits {e : Bool} {x0 y0 x y u1 u2 v1 v2 : Nat} (h : Leh e x0 y0 x y u1 u2 v1 v2) (g1 : v2 ≤ y) : v1 + v2 ≤ x0 ∧ v1 + x / y * v2 ≤ x0 ∧ u1 + x / y * u2 ≤ x0 := by
  have hn := h.next g1
  have hy : 1 ≤ y := Nat.le_trans h.v2p g1
  have hx : 1 ≤ x := Nat.le_trans hy h.le
  have c1 := h.comb
  have c2 := hn.comb
  have m1 := Nat.mul_le_mul_left v2 hx
  have m2 := Nat.mul_le_mul_left v1 hy
  have m3 := Nat.mul_le_mul_left (v1 + x / y * v2) hy
  have uv := hn.uv
  generalize (v1 + x / y * v2) = z at *
  omega
theorem low_ge {s t y x0 y0 D ra rb X Y : Nat} (h : y + s * x0 = t * y0) (hs : s ≤ y) (hX : X = x0 * D + ra) (hY : Y = y0 * D + rb) (ha : ra < D) : s * X ≤ t * Y := by
  have h1 : s * ra ≤ y * D := Nat.mul_le_mul hs (Nat.le_of_lt ha)
  have h2 : (y + s * x0) * D = t * y0 * D := by rw [h]
  subst hX hY
  rw [Nat.add_mul] at h2
  rw [Nat.mul_add, Nat.mul_add, ← Nat.mul_assoc, ← Nat.mul_assoc]
  omega
theorem uni_gcd {A B p q r s : Nat} (det : p * s = r * q + 1) (h1 : q * B ≤ p * A) (h2 : r * A ≤ s * B) : Nat.gcd (p * A - q * B) (s * B - r * A) = Nat.gcd A B ∧ A = s * (p * A - q * B) + q * (s * B - r * A) := by
  obtain ⟨a, ha⟩ : ∃ a, p * A = a + q * B := ⟨p * A - q * B, by omega⟩
  obtain ⟨b, hb⟩ : ∃ b, s * B = b + r * A := ⟨s * B - r * A, by omega⟩
  have ea : p * A - q * B = a := by omega
  have eb : s * B - r * A = b := by omega
  rw [ea, eb]
  have eA : A = s * a + q * b := by
    have e1 : s * (p * A) = s * (a + q * B) := by rw [ha]
    have e2 : q * (s * B) = q * (b + r * A) := by rw [hb]
    have e3 : p * s * A = (r * q + 1) * A := by rw [det]
    grind
  have eB : B = r * a + p * b := by
    have e1 : r * (p * A) = r * (a + q * B) := by rw [ha]
    have e2 : p * (s * B) = p * (b + r * A) := by rw [hb]
    have e3 : p * s * B = (r * q + 1) * B := by rw [det]
    grind
  refine ⟨?_, eA⟩
  refine Nat.dvd_antisymm ?_ ?_
  · refine Nat.dvd_gcd ?_ ?_
    · rw [eA]; exact Nat.dvd_add (Nat.dvd_mul_left_of_dvd (Nat.gcd_dvd_left _ _) _) (Nat.dvd_mul_left_of_dvd (Nat.gcd_dvd_right _ _) _)
    · rw [eB]; exact Nat.dvd_add (Nat.dvd_mul_left_of_dvd (Nat.gcd_dvd_left _ _) _) (Nat.dvd_mul_left_of_dvd (Nat.gcd_dvd_right _ _) _)
  · refine Nat.dvd_gcd ?_ ?_
    · rw [← ea]; exact Nat.dvd_sub (Nat.dvd_mul_left_of_dvd (Nat.gcd_dvd_left _ _) _) (Nat.dvd_mul_left_of_dvd (Nat.gcd_dvd_right _ _) _)
    · rw [← eb]; exact Nat.dvd_sub (Nat.dvd_mul_left_of_dvd (Nat.gcd_dvd_right _ _) _) (Nat.dvd_mul_left_of_dvd (Nat.gcd_dvd_left _ _) _)

/-- What the steps k A - l B and m B - n A make: fitting, ordered, with the same divisors. -/
structure Mixed (A B k l m n : Nat) : Prop where
  h1 : l * B ≤ k * A
  h2 : n * A ≤ m * B
  le : m * B - n * A ≤ k * A - l * B
  gcd : Nat.gcd (k * A - l * B) (m * B - n * A) = Nat.gcd A B
  less : 1 ≤ l → 1 ≤ m → k * A - l * B + (m * B - n * A) ≤ A
theorem Leh.mixed {x0 y0 x y u1 u2 v1 v2 D ra rb A B : Nat} (h : Leh false x0 y0 x y u1 u2 v1 v2) (g1 : v2 ≤ y) (g2 : y + v1 + v2 ≤ x) (hA : A = x0 * D + ra) (hB : B = y0 * D + rb) (ha : ra < D) (hb : rb < D) : Mixed A B u1 v1 v2 u2 := by
  have ix : x + v1 * y0 = u1 * x0 := by simpa using h.idx
  have iy : y + u2 * x0 = v2 * y0 := by simpa using h.idy
  have dt : u1 * v2 = u2 * v1 + 1 := by simpa using h.det
  have k1 := low_ge iy (Nat.le_trans h.uv g1) hA hB ha
  have k2 : (v1 + v2) * B ≤ (u1 + u2) * A := low_ge (y := x - y) (by rw [Nat.add_mul, Nat.add_mul]; omega) (by omega) hB hA hb
  rw [Nat.add_mul, Nat.add_mul] at k2
  have k3 : v1 * B ≤ u1 * A := by omega
  obtain ⟨j1, j2⟩ := uni_gcd dt k3 k1
  refine ⟨k3, k1, by omega, j1, fun h1 h2 => ?_⟩
  have m1 := Nat.mul_le_mul_right (u1 * A - v1 * B) h2
  have m2 := Nat.mul_le_mul_right (v2 * B - u2 * A) h1
  rw [Nat.one_mul] at m1 m2
  omega
theorem Leh.mixed2 {x0 y0 x y u1 u2 v1 v2 D ra rb A B : Nat} (h : Leh true x0 y0 x y u1 u2 v1 v2) (g1 : v2 ≤ y) (g2 : y + v1 + v2 ≤ x) (hA : A = x0 * D + ra) (hB : B = y0 * D + rb) (ha : ra < D) (hb : rb < D) :
    u1 * A ≤ v1 * B ∧ v2 * B ≤ u2 * A ∧ u2 * A - v2 * B ≤ v1 * B - u1 * A ∧ Nat.gcd (v1 * B - u1 * A) (u2 * A - v2 * B) = Nat.gcd A B ∧ (1 ≤ v1 → v1 * B - u1 * A + (u2 * A - v2 * B) ≤ A) := by
  have ix : x + u1 * x0 = v1 * y0 := by simpa using h.idx
  have iy : y + v2 * y0 = u2 * x0 := by simpa using h.idy
  have dt : u2 * v1 = u1 * v2 + 1 := by simpa using h.det
  have sm := h.sum
  have k1 := low_ge iy g1 hB hA hb
  have k2 : (u1 + u2) * A ≤ (v1 + v2) * B := low_ge (y := x - y) (by rw [Nat.add_mul, Nat.add_mul]; omega) (by omega) hA hB ha
  rw [Nat.add_mul, Nat.add_mul] at k2
  have k3 : u1 * A ≤ v1 * B := by omega
  obtain ⟨j1, j2⟩ := uni_gcd (p := v1) (q := u1) (r := v2) (s := u2) (A := B) (B := A) (by rw [Nat.mul_comm, dt, Nat.mul_comm]) k3 k1
  have j3 : A = v2 * (v1 * B - u1 * A) + v1 * (u2 * A - v2 * B) := by
    obtain ⟨a, ha'⟩ : ∃ a, v1 * B = a + u1 * A := ⟨v1 * B - u1 * A, by omega⟩
    obtain ⟨b, hb'⟩ : ∃ b, u2 * A = b + v2 * B := ⟨u2 * A - v2 * B, by omega⟩
    have ea : v1 * B - u1 * A = a := by omega
    have eb : u2 * A - v2 * B = b := by omega
    rw [ea, eb]
    have e1 : v2 * (v1 * B) = v2 * (a + u1 * A) := by rw [ha']
    have e2 : v1 * (u2 * A) = v1 * (b + v2 * B) := by rw [hb']
    have e3 : u2 * v1 * A = (u1 * v2 + 1) * A := by rw [dt]
    grind
  refine ⟨k3, k1, by omega, by rw [j1, Nat.gcd_comm], fun h1 => ?_⟩
  have m1 := Nat.mul_le_mul_right (v1 * B - u1 * A) h.v2p
  have m2 := Nat.mul_le_mul_right (u2 * A - v2 * B) h1
  rw [Nat.one_mul] at m1 m2
  omega
end
section
open Go.RowKit

/-- The root, rounded down. -/
def IsRoot (a s : Nat) : Prop := s * s ≤ a ∧ a < (s + 1) * (s + 1)
theorem IsRoot.unique {a s t : Nat} (h : IsRoot a s) (k : IsRoot a t) : s = t := by
  rcases Nat.lt_trichotomy s t with hlt | he | hgt
  · have h1 : (s + 1) * (s + 1) ≤ t * t := Nat.mul_le_mul hlt hlt
    have := h.2; have := k.1; omega
  · exact he
  · have h1 : (t + 1) * (t + 1) ≤ s * s := Nat.mul_le_mul hgt hgt
    have := k.2; have := h.1; omega
theorem four_mul_le (x y : Nat) : 4 * (x * y) ≤ (x + y) * (x + y) := by
  rcases Nat.le_total x y with h | h
  · obtain ⟨d, rfl⟩ : ∃ d, y = x + d := ⟨y - x, by omega⟩
    have : (x + (x + d)) * (x + (x + d)) = 4 * (x * (x + d)) + d * d := by grind
    omega
  · obtain ⟨d, rfl⟩ : ∃ d, x = y + d := ⟨x - y, by omega⟩
    have : (y + d + y) * (y + d + y) = 4 * ((y + d) * y) + d * d := by grind
    omega
/-- A step of Newton's is not below the root. -/
theorem newton_ge {a x : Nat} (hx : 0 < x) : a < ((x + a / x) / 2 + 1) * ((x + a / x) / 2 + 1) := by
  have h1 : a < x * (a / x + 1) := by
    have := Nat.div_add_mod a x
    have := Nat.mod_lt a hx
    rw [Nat.mul_add, Nat.mul_one]
    omega
  have h2 := four_mul_le x (a / x + 1)
  obtain ⟨r, hr⟩ : ∃ r, r = (x + a / x) / 2 + 1 := ⟨_, rfl⟩
  rw [← hr]
  have h3 : x + (a / x + 1) ≤ 2 * r := by omega
  have h4 := Nat.mul_le_mul h3 h3
  have h5 : 2 * r * (2 * r) = 4 * (r * r) := by grind
  omega
theorem root_down {a r : Nat} (h : a < (r + 1) * (r + 1)) (h2 : a < r * r) : 0 < r ∧ a < (r - 1 + 1) * (r - 1 + 1) := by
  have h0 : 0 < r := by
    rcases Nat.eq_zero_or_pos r with h0 | h0
    · subst h0; omega
    · exact h0
  refine ⟨h0, ?_⟩
  rw [show r - 1 + 1 = r from by omega]
  exact h2
theorem or_bit {r k : Nat} (h : r % 2 ^ (k + 1) = 0) : r ||| 2 ^ k = r + 2 ^ k := by
  have e : r = 2 ^ (k + 1) * (r / 2 ^ (k + 1)) := by
    have := Nat.div_add_mod r (2 ^ (k + 1))
    omega
  have h1 : 2 ^ k < 2 ^ (k + 1) := Nat.pow_lt_pow_right (by omega) (by omega)
  have h2 := Nat.two_pow_add_eq_or_of_lt h1 (r / 2 ^ (k + 1))
  rw [← e] at h2
  exact h2.symm
theorem half_step {r k : Nat} (h : r % 2 ^ (k + 1) = 0) : r % 2 ^ k = 0 ∧ (r + 2 ^ k) % 2 ^ k = 0 := by
  have h1 : r % 2 ^ k = 0 := by
    have h3 : 2 ^ k ∣ 2 ^ (k + 1) := Nat.pow_dvd_pow 2 (by omega)
    exact Nat.mod_eq_zero_of_dvd (Nat.dvd_trans h3 (Nat.dvd_of_mod_eq_zero h))
  exact ⟨h1, by rw [Nat.add_mod_right]; exact h1⟩

/-- The state between two bits. -/
def Rooting (n k r : Nat) : Prop := r % 2 ^ k = 0 ∧ r * r ≤ n ∧ n < (r + 2 ^ k) * (r + 2 ^ k) ∧ r + 2 ^ k ≤ 4294967296
theorem Rooting.start {n : Nat} (hn : n < 18446744073709551616) : Rooting n 32 0 := ⟨rfl, by omega, by simpa using hn, by decide⟩
theorem Rooting.yes {n k r : Nat} (h : Rooting n (k + 1) r) (h2 : (r + 2 ^ k) * (r + 2 ^ k) ≤ n) : Rooting n k (r + 2 ^ k) := by
  obtain ⟨a1, a2, a3, a4⟩ := h
  have e : r + 2 ^ (k + 1) = r + 2 ^ k + 2 ^ k := by rw [Nat.pow_succ]; omega
  rw [e] at a3 a4
  exact ⟨(half_step a1).2, h2, a3, a4⟩
theorem Rooting.no {n k r : Nat} (h : Rooting n (k + 1) r) (h2 : n < (r + 2 ^ k) * (r + 2 ^ k)) : Rooting n k r := by
  obtain ⟨a1, a2, a3, a4⟩ := h
  have e : r + 2 ^ (k + 1) = r + 2 ^ k + 2 ^ k := by rw [Nat.pow_succ]; omega
  rw [e] at a4
  exact ⟨(half_step a1).1, a2, h2, by omega⟩
theorem Rooting.end_ {n r : Nat} (h : Rooting n 0 r) : IsRoot n r ∧ r < 4294967296 := by
  obtain ⟨_, a2, a3, a4⟩ := h
  rw [Nat.pow_zero] at a3 a4
  exact ⟨⟨a2, a3⟩, by omega⟩

set_option maxHeartbeats 800000 in
theorem wordRoot_any (n : Nat) (hn : n < 18446744073709551616) (w : World) :
    Calls Tryd.prog 15 #[.int .u64 (n : Int)] w fun e w' => (∃ s : Nat, e = .returned (.int .u64 (s : Int)) ∧ IsRoot n s ∧ s < 4294967296) ∧ w = w' := by
  go_enter Tryd.func15, Tryd.ntmps15
  go_wp2_with fail
  go_loopg [3, 4, 5] 32 (fun K rv bv _ wr => ∃ r b : Nat, rv = .int .u64 (r : Int) ∧ bv = .int .u64 (b : Int) ∧ b = 2 ^ K / 2 ∧ K ≤ 32 ∧ Rooting n K r ∧ wr = w)
  case atStart => exact ⟨0, 2147483648, rfl, rfl, by decide, Nat.le_refl _, Rooting.start hn, rfl⟩
  case round =>
    obtain ⟨r, b, rfl, rfl, hb, hK, hR, rfl⟩ := hrel
    have HR := Lib.hid hR
    have Hb := Lib.hid hb
    clear hR hb
    by_cases h0 : gk = 0
    · subst h0
      have hb0 : b = 0 := Hb.out
      subst hb0
      go_wp2_with fail
      go_ret
      obtain ⟨f1, f2⟩ := HR.out.end_
      exact ⟨⟨r, rfl, f1, f2⟩, rfl⟩
    · obtain ⟨k, rfl⟩ : ∃ k, gk = k + 1 := ⟨gk - 1, by omega⟩
      have hbk : b = 2 ^ k := by rw [Hb.out, Nat.pow_succ]; omega
      have hb1 : 0 < b := by rw [hbk]; exact Nat.two_pow_pos k
      have hrb : r + 2 * b ≤ 4294967296 := by
        have := HR.out.2.2.2
        rw [Nat.pow_succ, ← hbk] at this
        omega
      have ho : r ||| b = r + b := by rw [hbk]; exact or_bit HR.out.1
      have hor := bits_or_u64_nat r b (by omega) (by omega)
      rw [ho] at hor
      obtain ⟨t, ht⟩ : ∃ t, t = r + b := ⟨_, rfl⟩
      rw [← ht] at hor
      have htb : t < 4294967296 := by omega
      obtain ⟨sq, hsq⟩ : ∃ sq, sq = t * t := ⟨_, rfl⟩
      have hsqb : sq ≤ 18446744065119617025 := by
        rw [hsq]
        have : t * t ≤ 4294967295 * 4294967295 := Nat.mul_le_mul (by omega) (by omega)
        omega
      have E1 : Hid (IntKind.u64.wrap ((t : Int) * (t : Int)) = (sq : Int)) := by
        show IntKind.u64.wrap ((t : Int) * (t : Int)) = (sq : Int)
        rw [show (t : Int) * (t : Int) = (sq : Int) from by rw [hsq]; simp, IntKind.wrap_u64]; omega
      have Hor := Lib.hid hor
      have E2 : Hid ((b : Int) / 2 = ((b / 2 : Nat) : Int)) := by show (b : Int) / 2 = ((b / 2 : Nat) : Int); omega
      have t1 : decide (0 < b) = true := decide_eq_true hb1
      obtain ⟨h2, hh2⟩ : ∃ h2, h2 = b / 2 := ⟨_, rfl⟩
      rw [← hh2] at E2
      have Hh2 : Hid (h2 = 2 ^ k / 2) := by show _ = _; rw [hh2, hbk]
      have Hbk := Lib.hid hbk
      have Ht := Lib.hid ht
      have Hsq := Lib.hid hsq
      clear hbk ho hor ht hsq hh2
      by_cases hle : sq ≤ n
      · have t2 : decide (sq ≤ n) = true := decide_eq_true hle
        go_wp2_with (first | simp only [t1] | simp only [Hor.out] | simp only [E1.out] | simp only [t2] | simp only [E2.out])
        go_roundg k
        case measure => omega
        case rel => exact ⟨t, h2, rfl, rfl, Hh2.out, by omega, by
          have h9 := HR.out.yes (by rw [← Hbk.out, ← Ht.out, ← Hsq.out]; exact hle)
          rwa [← Hbk.out, ← Ht.out] at h9, rfl⟩
      · have t2 : decide (sq ≤ n) = false := decide_eq_false hle
        go_wp2_with (first | simp only [t1] | simp only [Hor.out] | simp only [E1.out] | simp only [t2] | simp only [E2.out])
        go_roundg k
        case measure => omega
        case rel => exact ⟨r, h2, rfl, rfl, Hh2.out, by omega, HR.out.no (by rw [← Hbk.out, ← Ht.out, ← Hsq.out]; omega), rfl⟩
end
end Go.Proofs.YtanlejlmckdeiaaDoor
