/- Numbers: primes, Fermat's little theorem, orders. No conditions. -/
namespace Go.Proofs.YtnjhppdcpjgfmaaDoor

/-- A prime. -/
def Pr (p : Nat) : Prop := 2 ≤ p ∧ ∀ e, e ∣ p → e = 1 ∨ e = p
theorem Pr.two {p : Nat} (h : Pr p) : 2 ≤ p := h.1
theorem Pr.pos {p : Nat} (h : Pr p) : 0 < p := by have := h.1; omega
theorem Pr.gcd {p : Nat} (h : Pr p) {a : Nat} (ha : ¬ p ∣ a) : Nat.gcd p a = 1 := by
  rcases h.2 _ (Nat.gcd_dvd_left p a) with e | e
  · exact e
  · exact absurd (e ▸ Nat.gcd_dvd_right p a) ha
theorem Pr.dvd_mul {p : Nat} (h : Pr p) {a b : Nat} (hab : p ∣ a * b) : p ∣ a ∨ p ∣ b := by
  by_cases ha : p ∣ a
  · exact Or.inl ha
  · exact Or.inr (Nat.Coprime.dvd_of_dvd_mul_left (h.gcd ha) hab)
theorem Pr.dvd_pow {p : Nat} (h : Pr p) {a : Nat} : ∀ {k : Nat}, p ∣ a ^ k → p ∣ a
  | 0, hk => by
    have := Nat.le_of_dvd (by omega) (by simpa using hk : p ∣ 1)
    have := h.1
    omega
  | k + 1, hk => by
    rw [Nat.pow_succ] at hk
    rcases h.dvd_mul hk with h1 | h1
    · exact h.dvd_pow h1
    · exact h1
theorem Pr.not_dvd_one {p : Nat} (h : Pr p) : ¬ p ∣ 1 := fun hd => by
  have := Nat.le_of_dvd (by omega) hd
  have := h.1
  omega
theorem Pr.eq_of_dvd {p q : Nat} (h : Pr p) (k : Pr q) (hd : p ∣ q) : p = q := by
  rcases k.2 p hd with e | e
  · have := h.1; omega
  · exact e
theorem Pr.not_dvd_lt {p a : Nat} (_h : Pr p) (ha : 0 < a) (hlt : a < p) : ¬ p ∣ a := fun hd => by
  have := Nat.le_of_dvd ha hd
  omega

theorem exists_pr : ∀ (n : Nat), 2 ≤ n → ∃ p, Pr p ∧ p ∣ n := by
  intro n
  induction n using Nat.strongRecOn with
  | _ n ih =>
    intro h
    by_cases hp : Pr n
    · exact ⟨n, hp, Nat.dvd_refl n⟩
    · have hx : ∃ e, e ∣ n ∧ e ≠ 1 ∧ e ≠ n := by
        refine Classical.byContradiction fun hn => hp ⟨h, fun e he => ?_⟩
        by_cases h1 : e = 1
        · exact Or.inl h1
        · by_cases h2 : e = n
          · exact Or.inr h2
          · exact absurd ⟨e, he, h1, h2⟩ hn
      obtain ⟨e, he, h1, h2⟩ := hx
      have hle := Nat.le_of_dvd (by omega) he
      have h0 : e ≠ 0 := fun h0 => by subst h0; have := Nat.eq_zero_of_zero_dvd he; omega
      obtain ⟨p, hp1, hp2⟩ := ih e (by omega) (by omega)
      exact ⟨p, hp1, Nat.dvd_trans hp2 he⟩

theorem exists_greatest (n : Nat) (h : 2 ≤ n) : ∃ q, Pr q ∧ q ∣ n ∧ ∀ p, Pr p → p ∣ n → p ≤ q := by
  have key : ∀ k, k ≤ n → (∀ p, Pr p → p ∣ n → p ≤ k) → ∃ q, Pr q ∧ q ∣ n ∧ ∀ p, Pr p → p ∣ n → p ≤ q := by
    intro k
    induction k with
    | zero =>
      intro _ hk
      obtain ⟨p, hp, hd⟩ := exists_pr n h
      have := hk p hp hd
      have := hp.1
      omega
    | succ k ih =>
      intro hkn hk
      by_cases hq : Pr (k + 1) ∧ (k + 1) ∣ n
      · exact ⟨k + 1, hq.1, hq.2, hk⟩
      · refine ih (by omega) fun p hp hd => ?_
        have h1 := hk p hp hd
        rcases Nat.lt_or_ge p (k + 1) with h2 | h2
        · omega
        · obtain rfl : p = k + 1 := by omega
          exact absurd ⟨hp, hd⟩ hq
  exact key n (Nat.le_refl _) fun p _ hd => Nat.le_of_dvd (by omega) hd

/-! Fermat's little theorem -/
def ch : Nat → Nat → Nat
  | _, 0 => 1
  | 0, _ + 1 => 0
  | n + 1, k + 1 => ch n k + ch n (k + 1)
theorem ch_zero (n : Nat) : ch n 0 = 1 := by cases n <;> rfl
theorem ch_over : ∀ (n k : Nat), n < k → ch n k = 0
  | 0, 0, h => by omega
  | 0, k + 1, _ => rfl
  | n + 1, 0, h => by omega
  | n + 1, k + 1, h => by rw [ch, ch_over n k (by omega), ch_over n (k + 1) (by omega)]
theorem ch_self : ∀ n, ch n n = 1
  | 0 => rfl
  | n + 1 => by rw [ch, ch_self n, ch_over n (n + 1) (by omega)]
theorem ch_one : ∀ n, ch n 1 = n
  | 0 => rfl
  | n + 1 => by rw [ch, ch_one n, ch_zero]; omega
theorem ch_mul : ∀ (n k : Nat), (n + 1) * ch n k = ch (n + 1) (k + 1) * (k + 1)
  | 0, 0 => rfl
  | 0, k + 1 => by simp [ch]
  | n + 1, 0 => by rw [ch_zero, ch_one]
  | n + 1, k + 1 => by
    have h1 := ch_mul n k
    have h2 := ch_mul n (k + 1)
    have e1 : ch (n + 1) (k + 1) = ch n k + ch n (k + 1) := rfl
    have e2 : ch (n + 2) (k + 2) = ch (n + 1) (k + 1) + ch (n + 1) (k + 2) := rfl
    show (n + 2) * ch (n + 1) (k + 1) = ch (n + 2) (k + 2) * (k + 2)
    have h3 : (n + 1) * ch n k + (n + 1) * ch n (k + 1) = (n + 1) * ch (n + 1) (k + 1) := by rw [e1, Nat.mul_add]
    have h4 : ch (n + 1) (k + 1) * (k + 2) = ch (n + 1) (k + 1) * (k + 1) + ch (n + 1) (k + 1) := Nat.mul_succ _ _
    have h5 : (n + 2) * ch (n + 1) (k + 1) = (n + 1) * ch (n + 1) (k + 1) + ch (n + 1) (k + 1) := Nat.succ_mul _ _
    have h6 : (n + 1) * ch n (k + 1) = ch (n + 1) (k + 2) * (k + 2) := h2
    have h7 : ch (n + 2) (k + 2) * (k + 2) = ch (n + 1) (k + 1) * (k + 2) + ch (n + 1) (k + 2) * (k + 2) := by rw [e2, Nat.add_mul]
    omega
theorem Pr.dvd_ch {p k : Nat} (h : Pr p) (h0 : 0 < k) (hk : k < p) : p ∣ ch p k := by
  obtain ⟨n, rfl⟩ : ∃ n, p = n + 1 := ⟨p - 1, by have := h.1; omega⟩
  obtain ⟨j, rfl⟩ : ∃ j, k = j + 1 := ⟨k - 1, by omega⟩
  have hm := ch_mul n j
  rcases h.dvd_mul (show (n + 1) ∣ ch (n + 1) (j + 1) * (j + 1) from hm ▸ Nat.dvd_mul_right _ _) with h1 | h1
  · exact h1
  · exact absurd h1 (h.not_dvd_lt (by omega) hk)
def bs (a n : Nat) : Nat → Nat
  | 0 => 1
  | k + 1 => bs a n k + ch n (k + 1) * a ^ (k + 1)
theorem bs_succ (a n : Nat) : ∀ k, bs a (n + 1) (k + 1) = bs a n (k + 1) + a * bs a n k
  | 0 => by simp [bs, ch, ch_zero, Nat.add_mul]; omega
  | k + 1 => by
    rw [bs, bs_succ a n k, bs]
    rw [show bs a n (k + 1 + 1) = bs a n k + ch n (k + 1) * a ^ (k + 1) + ch n (k + 1 + 1) * a ^ (k + 1 + 1) from rfl, show ch (n + 1) (k + 1 + 1) = ch n (k + 1) + ch n (k + 1 + 1) from rfl, Nat.add_mul, Nat.mul_add, show a * (ch n (k + 1) * a ^ (k + 1)) = ch n (k + 1) * a ^ (k + 1 + 1) from by rw [Nat.pow_succ a (k + 1)]; ac_rfl]
    omega
theorem bs_all (a : Nat) : ∀ n, (a + 1) ^ n = bs a n n
  | 0 => rfl
  | n + 1 => by
    rw [bs_succ, bs, ch_over n (n + 1) (by omega), Nat.zero_mul, Nat.add_zero, ← bs_all a n, Nat.pow_succ, Nat.mul_add, Nat.mul_one, Nat.mul_comm]
    omega
theorem Pr.bs_mod {p : Nat} (h : Pr p) (a : Nat) : ∀ k, k < p → bs a p k % p = 1
  | 0, _ => Nat.mod_eq_of_lt h.1
  | k + 1, hk => by
    obtain ⟨c, hc⟩ := h.dvd_ch (show 0 < k + 1 by omega) hk
    rw [bs, hc, Nat.mul_assoc, Nat.add_mul_mod_self_left, h.bs_mod a k (by omega)]
theorem Pr.fermat' {p : Nat} (h : Pr p) : ∀ a : Nat, a ^ p % p = a % p
  | 0 => by
    have := h.1
    rw [Nat.zero_pow (by omega)]
  | a + 1 => by
    have h2 := h.1
    obtain ⟨n, hn⟩ : ∃ n, p = n + 1 := ⟨p - 1, by omega⟩
    have e : bs a p p = bs a p n + a ^ p := by
      have : bs a p (n + 1) = bs a p n + ch p (n + 1) * a ^ (n + 1) := rfl
      rw [← hn, ch_self, Nat.one_mul] at this
      exact this
    rw [bs_all, e, Nat.add_mod, h.bs_mod a n (by omega), h.fermat' a, ← Nat.add_mod_mod 1 (a % p) p, Nat.mod_mod, Nat.add_mod_mod, Nat.add_comm]
theorem Pr.fermat {p a : Nat} (h : Pr p) (ha : ¬ p ∣ a) : a ^ (p - 1) % p = 1 := by
  have h2 := h.1
  have hf := h.fermat' a
  have ha0 : 0 < a := Nat.pos_of_ne_zero fun h0 => ha (h0 ▸ Nat.dvd_zero p)
  have hpos : 0 < a ^ (p - 1) := Nat.pow_pos ha0
  have e : a ^ p = a * a ^ (p - 1) := by
    obtain ⟨n, rfl⟩ : ∃ n, p = n + 1 := ⟨p - 1, by omega⟩
    rw [Nat.add_sub_cancel, Nat.pow_succ, Nat.mul_comm]
  have hd : p ∣ a * (a ^ (p - 1) - 1) := by
    rw [Nat.mul_sub, ← e, Nat.mul_one]
    exact (Nat.dvd_of_mod_eq_zero (Nat.sub_mod_eq_zero_of_mod_eq hf))
  rcases h.dvd_mul hd with h1 | h1
  · exact absurd h1 ha
  · obtain ⟨c, hc⟩ := h1
    have : a ^ (p - 1) = 1 + p * c := by omega
    rw [this, Nat.add_mul_mod_self_left, Nat.mod_eq_of_lt h2]
end Go.Proofs.YtnjhppdcpjgfmaaDoor
