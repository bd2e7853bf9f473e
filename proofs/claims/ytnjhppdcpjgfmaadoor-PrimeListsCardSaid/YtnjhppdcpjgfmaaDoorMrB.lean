/- Orders of numbers modulo a prime, and what a number that passes for a prime says of its divisors. No conditions. -/
import Derived.Test.YtnjhppdcpjgfmaaDoorMrA
namespace Go.Proofs.YtnjhppdcpjgfmaaDoor

theorem pow_one_mod {q : Nat} (h : 1 < q) (k : Nat) {x : Nat} (hx : x % q = 1) : x ^ k % q = 1 := by
  rw [Nat.pow_mod, hx, Nat.one_pow, Nat.mod_eq_of_lt h]
theorem pow_mul_one {q b i : Nat} (h : 1 < q) (hi : b ^ i % q = 1) (j : Nat) : b ^ (i * j) % q = 1 := by
  rw [Nat.pow_mul]; exact pow_one_mod h j hi
theorem pow_of_dvd {q b i j : Nat} (h : 1 < q) (hi : b ^ i % q = 1) (hd : i ∣ j) : b ^ j % q = 1 := by
  obtain ⟨c, rfl⟩ := hd
  exact pow_mul_one h hi c
theorem pow_add_one {q b i : Nat} (hi : b ^ i % q = 1) (j : Nat) : b ^ (i + j) % q = b ^ j % q := by
  rw [Nat.pow_add, Nat.mul_mod, hi, Nat.one_mul, Nat.mod_mod]
theorem pow_gcd {q b : Nat} (h : 1 < q) : ∀ i j, b ^ i % q = 1 → b ^ j % q = 1 → b ^ (Nat.gcd i j) % q = 1 := by
  intro i j
  induction i, j using Nat.gcd.induction with
  | H0 n => intro _ hn; rwa [Nat.gcd_zero_left]
  | H1 m n hm ih =>
    intro h1 h2
    rw [Nat.gcd_rec]
    refine ih ?_ h1
    have e : n = m * (n / m) + n % m := (Nat.div_add_mod n m).symm
    rw [e, pow_add_one (pow_mul_one h h1 _)] at h2
    exact h2

/-- 2^k, 7^k, 61^k are 1 modulo q. -/
def B3 (q k : Nat) : Prop := 2 ^ k % q = 1 ∧ 7 ^ k % q = 1 ∧ 61 ^ k % q = 1
theorem B3.of_dvd {q i j : Nat} (hq : 1 < q) (h : B3 q i) (hd : i ∣ j) : B3 q j := ⟨pow_of_dvd hq h.1 hd, pow_of_dvd hq h.2.1 hd, pow_of_dvd hq h.2.2 hd⟩
theorem B3.gcd {q i j : Nat} (hq : 1 < q) (h : B3 q i) (k : B3 q j) : B3 q (Nat.gcd i j) := ⟨pow_gcd hq _ _ h.1 k.1, pow_gcd hq _ _ h.2.1 k.2.1, pow_gcd hq _ _ h.2.2 k.2.2⟩
/-- d / f will not do. -/
def Min3 (q f d : Nat) : Prop := f ∣ d → ¬ B3 q (d / f)
theorem Min3.of_dvd {q f d d' : Nat} (hq : 1 < q) (hf : 0 < f) (h : Min3 q f d) (hd : d' ∣ d) : Min3 q f d' := fun hfd hb => by
  refine h (Nat.dvd_trans hfd hd) (hb.of_dvd hq ?_)
  obtain ⟨a, rfl⟩ := hfd
  obtain ⟨c, rfl⟩ := hd
  rw [Nat.mul_div_cancel_left _ hf, Nat.mul_assoc, Nat.mul_div_cancel_left _ hf]
  exact Nat.dvd_mul_right _ _
/-- A number that will do, and none of its parts by a prime: it divides all that will do. -/
theorem order_dvd {q d k : Nat} (hq : 1 < q) (hd0 : 0 < d) (hd : B3 q d) (hm : ∀ f, Pr f → Min3 q f d) (hk : B3 q k) : d ∣ k := by
  have hg := hk.gcd hq hd
  have hgd : Nat.gcd k d ∣ d := Nat.gcd_dvd_right k d
  have hgk : Nat.gcd k d ∣ k := Nat.gcd_dvd_left k d
  obtain ⟨c, hc⟩ := hgd
  generalize Nat.gcd k d = g at hg hgk hc
  rcases Nat.lt_or_ge c 2 with h2 | h2
  · rcases Nat.eq_zero_or_pos c with h0 | h0
    · subst h0; omega
    · obtain rfl : c = 1 := by omega
      rw [hc, Nat.mul_one]; exact hgk
  · obtain ⟨f, hf, hfc⟩ := exists_pr c h2
    refine absurd (hg.of_dvd hq ?_) (hm f hf (Nat.dvd_trans hfc ⟨g, by rw [hc, Nat.mul_comm]⟩))
    obtain ⟨e, rfl⟩ := hfc
    rw [hc, show g * (f * e) = f * (g * e) from by ac_rfl, Nat.mul_div_cancel_left _ hf.pos]
    exact Nat.dvd_mul_right _ _

/-- What n says that passes Fermat's test to the three bases. -/
def Psp (n : Nat) : Prop := B3 n (n - 1)
theorem B3.down {n q k : Nat} (h : B3 n k) (hq : 1 < q) (hd : q ∣ n) : B3 q k := by
  have key : ∀ x, x % n = 1 → x % q = 1 := fun x hx => by
    have := Nat.mod_mod_of_dvd x hd
    rw [hx, Nat.mod_eq_of_lt hq] at this
    exact this.symm
  exact ⟨key _ h.1, key _ h.2.1, key _ h.2.2⟩
theorem not_dvd_of_pow {q b k : Nat} (_hq : 1 < q) (hk : 0 < k) (h : b ^ k % q = 1) : ¬ q ∣ b := fun hd => by
  have : q ∣ b ^ k := Nat.dvd_trans hd (by
    obtain ⟨j, rfl⟩ : ∃ j, k = j + 1 := ⟨k - 1, by omega⟩
    exact ⟨b ^ j, by rw [Nat.pow_succ, Nat.mul_comm]⟩)
  rw [Nat.mod_eq_zero_of_dvd this] at h
  omega
/-- A prime q: all three bases will do at q - 1. -/
theorem B3.fermat {q k : Nat} (hp : Pr q) (hk : 0 < k) (h : B3 q k) : B3 q (q - 1) :=
  ⟨hp.fermat (not_dvd_of_pow hp.1 hk h.1), hp.fermat (not_dvd_of_pow hp.1 hk h.2.1), hp.fermat (not_dvd_of_pow hp.1 hk h.2.2)⟩
/-- n = q m: m - 1 will do. -/
theorem B3.rest {n q m : Nat} (hp : Pr q) (hn : n = q * m) (hm : 1 < m) (h : Psp n) : B3 q (m - 1) := by
  have hq := hp.1
  have h2 : 2 * 2 ≤ q * m := Nat.mul_le_mul hq hm
  have hd : B3 q (n - 1) := B3.down h hq ⟨m, hn⟩
  have hf := B3.fermat hp (by omega) hd
  have e : n - 1 = (q - 1) * m + (m - 1) := by
    rw [Nat.sub_mul, Nat.one_mul, hn]
    have : m ≤ q * m := Nat.le_mul_of_pos_left m (by omega)
    omega
  rw [e] at hd
  refine ⟨?_, ?_, ?_⟩
  · have := hd.1; rwa [pow_add_one (pow_mul_one hq hf.1 _)] at this
  · have := hd.2.1; rwa [pow_add_one (pow_mul_one hq hf.2.1 _)] at this
  · have := hd.2.2; rwa [pow_add_one (pow_mul_one hq hf.2.2 _)] at this
/-- (1 + k q)^j, modulo q q. -/
theorem pow_first (q k : Nat) : ∀ j, ∃ c, (1 + k * q) ^ j = 1 + j * k * q + c * (q * q)
  | 0 => ⟨0, by simp⟩
  | j + 1 => by
    obtain ⟨c, hc⟩ := pow_first q k j
    refine ⟨j * k * k + c * (1 + k * q), ?_⟩
    rw [Nat.pow_succ, hc]
    simp only [Nat.add_mul, Nat.mul_add, Nat.one_mul, Nat.mul_one]
    have e1 : j * k * q * (k * q) = j * k * k * (q * q) := by ac_rfl
    have e2 : c * (q * q) * (k * q) = c * (k * q) * (q * q) := by ac_rfl
    rw [e1, e2]
    omega
/-- A prime whose square divides n. -/
theorem square_says {n q b : Nat} (hp : Pr q) (hn : q * q ∣ n) (hn0 : 0 < n) (h : b ^ (n - 1) % n = 1) : b ^ (q - 1) % (q * q) = 1 := by
  have hq := hp.1
  have hqq : 2 * 2 ≤ q * q := Nat.mul_le_mul hq hq
  have hqn : q ∣ n := Nat.dvd_trans ⟨q, rfl⟩ hn
  have hn4 := Nat.le_of_dvd hn0 hn
  have hx : b ^ (n - 1) % (q * q) = 1 := by
    have := Nat.mod_mod_of_dvd (b ^ (n - 1)) hn
    rw [h, Nat.mod_eq_of_lt (by omega)] at this
    exact this.symm
  have hxq : b ^ (n - 1) % q = 1 := by
    have := Nat.mod_mod_of_dvd (b ^ (n - 1)) hqn
    rw [h, Nat.mod_eq_of_lt (by omega)] at this
    exact this.symm
  have hf := hp.fermat (not_dvd_of_pow hq (by omega) hxq)
  -- y = b^(q-1) = 1 + k q
  obtain ⟨k, hk⟩ : ∃ k, b ^ (q - 1) = 1 + k * q := ⟨b ^ (q - 1) / q, by have := Nat.div_add_mod (b ^ (q - 1)) q; rw [hf, Nat.mul_comm] at this; omega⟩
  have h1 : b ^ ((n - 1) * (q - 1)) % (q * q) = 1 := pow_mul_one (by omega) hx _
  obtain ⟨c, hc⟩ := pow_first q k (n - 1)
  rw [Nat.mul_comm, Nat.pow_mul, hk, hc] at h1
  rw [Nat.add_mul_mod_self_right] at h1
  have h2 : q * q ∣ (n - 1) * k * q := by
    have h3 : (1 + (n - 1) * k * q) % (q * q) = 1 % (q * q) := by rw [h1, Nat.mod_eq_of_lt (by omega)]
    have h4 := Nat.dvd_of_mod_eq_zero (Nat.sub_mod_eq_zero_of_mod_eq h3)
    rwa [Nat.add_sub_cancel_left] at h4
  have h5 : q ∣ (n - 1) * k := Nat.dvd_of_mul_dvd_mul_right hp.pos h2
  rcases hp.dvd_mul h5 with h6 | h6
  · exfalso
    obtain ⟨u, hu⟩ := hqn
    obtain ⟨v, hv⟩ := h6
    have : q ∣ 1 := (Nat.dvd_add_right (show q ∣ q * v from ⟨v, rfl⟩)).1 (by rw [← hv, show n - 1 + 1 = n from by omega]; exact ⟨u, hu⟩)
    exact hp.not_dvd_one this
  · obtain ⟨u, rfl⟩ := h6
    rw [hk, show q * u * q = u * (q * q) from by ac_rfl, Nat.add_mul_mod_self_right, Nat.mod_eq_of_lt (by omega)]
end Go.Proofs.YtnjhppdcpjgfmaaDoor
