/- Each prime has a primitive root; sums of powers. No conditions. -/
import Derived.Test.YtnjhppdcpjgfmaaDoorPrimeU
namespace Go.Proofs.YtnjhppdcpjgfmaaDoor
open Go.RowKit

/-- 0^m + 1^m + .. + (n - 1)^m. -/
def psum (m : Nat) : Nat → Nat
  | 0 => 0
  | n + 1 => psum m n + n ^ m
def psums (m n : Nat) : Nat → Nat
  | 0 => psum 0 n
  | k + 1 => psums m n k + ch (m + 1) (k + 1) * psum (k + 1) n
theorem psums_succ (m n : Nat) : ∀ k, psums m (n + 1) k = psums m n k + bs n (m + 1) k
  | 0 => by simp [psums, psum, bs]
  | k + 1 => by
    rw [psums, psums_succ m n k, psums, bs, psum, Nat.mul_add]
    omega
theorem psums_zero (m : Nat) : ∀ k, psums m 0 k = 0
  | 0 => rfl
  | k + 1 => by rw [psums, psums_zero m k, psum, Nat.mul_zero]
theorem psums_all (m : Nat) : ∀ n, n ^ (m + 1) = psums m n m
  | 0 => by rw [psums_zero, Nat.zero_pow (by omega)]
  | n + 1 => by
    rw [psums_succ, ← psums_all m n, bs_all, bs, ch_self, Nat.one_mul]
    omega
theorem ch_pred : ∀ n, ch (n + 1) n = n + 1
  | 0 => rfl
  | n + 1 => by rw [ch, ch_pred n, ch_self]
theorem Pr.dvd_psum {p : Nat} (hp : Pr p) : ∀ m, m + 1 < p → p ∣ psum m p := by
  intro m
  induction m using Nat.strongRecOn with
  | _ m ih =>
    intro hm
    have h0 : p ∣ psum 0 p := by
      have : ∀ n, psum 0 n = n := by
        intro n
        induction n with
        | zero => rfl
        | succ n ih => rw [psum, ih, Nat.pow_zero]
      rw [this]; exact Nat.dvd_refl p
    cases m with
    | zero => exact h0
    | succ m =>
      have hall : p ∣ psums (m + 1) p (m + 1) := by
        rw [← psums_all]; exact ⟨p ^ (m + 1), by rw [Nat.pow_succ, Nat.mul_comm]⟩
      have hless : ∀ k, k ≤ m → p ∣ psums (m + 1) p k := by
        intro k
        induction k with
        | zero => intro _; exact h0
        | succ k ihk =>
          intro hk
          rw [psums]
          exact Nat.dvd_add (ihk (by omega)) (Nat.dvd_trans (ih (k + 1) (by omega) (by omega)) (Nat.dvd_mul_left _ _))
      rw [psums] at hall
      have h1 := (Nat.dvd_add_right (hless m (Nat.le_refl _))).1 hall
      rw [ch_pred] at h1
      rcases hp.dvd_mul h1 with h2 | h2
      · exact absurd h2 (hp.not_dvd_lt (by omega) hm)
      · exact h2
/-- No exponent below p - 1 serves all. -/
theorem Pr.some_not {p m : Nat} (hp : Pr p) (h0 : 0 < m) (hm : m < p - 1) : ∃ y, 0 < y ∧ y < p ∧ y ^ m % p ≠ 1 := by
  refine Classical.byContradiction fun hn => ?_
  have hall : ∀ y, 0 < y → y < p → y ^ m % p = 1 := fun y h1 h2 => Classical.byContradiction fun h3 => hn ⟨y, h1, h2, h3⟩
  have key : ∀ n, n < p → psum m (n + 1) % p = n := by
    intro n
    induction n with
    | zero => intro _; rw [psum, psum, Nat.zero_pow h0]; exact Nat.zero_mod p
    | succ n ih =>
      intro hlt
      rw [psum, Nat.add_mod, ih (by omega), hall (n + 1) (by omega) hlt, Nat.mod_eq_of_lt hlt]
  have h1 := key (p - 1) (by have := hp.1; omega)
  have h2 := hp.dvd_psum m (by omega)
  rw [show p - 1 + 1 = p from by have := hp.1; omega, Nat.mod_eq_zero_of_dvd h2] at h1
  have := hp.1
  omega

theorem IsOrd.mul {p a b m n : Nat} (hp : Pr p) (ha : IsOrd a p m) (hb : IsOrd b p n) (hc : Nat.Coprime m n) : IsOrd (a * b) p (m * n) := by
  have hp1 := hp.1
  have hmul : ∀ k, (a * b) ^ k % p = (a ^ k % p) * (b ^ k % p) % p := fun k => by rw [Nat.mul_pow, Nat.mul_mod]
  refine ⟨Nat.mul_pos ha.1 hb.1, ?_, fun k hk => ?_⟩
  · rw [hmul, pow_mul_one hp1 ha.2.1, Nat.mul_comm m n, pow_mul_one hp1 hb.2.1]
    exact Nat.mod_eq_of_lt (by omega)
  · refine Nat.Coprime.mul_dvd_of_dvd_of_dvd hc ?_ ?_
    · have h1 := pow_mul_one hp1 hk n
      rw [hmul, Nat.mul_comm k n, pow_mul_one hp1 hb.2.1, Nat.mul_one, Nat.mod_mod] at h1
      exact hc.dvd_of_dvd_mul_left (ha.2.2 _ h1)
    · have h1 := pow_mul_one hp1 hk m
      rw [hmul, Nat.mul_comm k m, pow_mul_one hp1 ha.2.1, Nat.one_mul, Nat.mod_mod] at h1
      exact hc.symm.dvd_of_dvd_mul_left (hb.2.2 _ h1)
/-- An element whose order is a prime's power. -/
theorem Pr.power_order {p f t : Nat} (hp : Pr p) (hf : Pr f) (ht : 0 < t) (hd : f ^ t ∣ p - 1) : ∃ z, IsOrd z p (f ^ t) := by
  have hp1 := hp.1
  obtain ⟨k, rfl⟩ : ∃ k, t = k + 1 := ⟨t - 1, by omega⟩
  obtain ⟨c, hc⟩ := hd
  have hc0 : 0 < c := Nat.pos_of_ne_zero fun h => by subst h; omega
  have hfk : 0 < f ^ k := Nat.pow_pos hf.pos
  have e1 : p - 1 = f ^ k * c * f := by rw [hc, Nat.pow_succ]; ac_rfl
  have hlt : f ^ k * c < p - 1 := by
    rw [e1]
    have h2 := hf.1
    have : f ^ k * c * 2 ≤ f ^ k * c * f := Nat.mul_le_mul_left _ h2
    have : 0 < f ^ k * c := Nat.mul_pos hfk hc0
    omega
  obtain ⟨y, hy0, hyp, hy⟩ := hp.some_not (Nat.mul_pos hfk hc0) hlt
  refine ⟨y ^ c, isOrd_of_min hp1 (Nat.pow_pos hf.pos) ?_ fun g hg hgd hb => ?_⟩
  · rw [← Nat.pow_mul, Nat.mul_comm, ← hc]
    exact hp.fermat (hp.not_dvd_lt hy0 hyp)
  · have hgf : g = f := hg.eq_of_dvd hf (hg.dvd_pow hgd)
    subst hgf
    rw [Nat.pow_succ, Nat.mul_div_cancel _ hf.pos, ← Nat.pow_mul, Nat.mul_comm c] at hb
    exact hy hb
theorem Fac.root {p : Nat} (hp : Pr p) : ∀ {n : Nat} {L : List (Nat × Nat)}, Fac n L → n ∣ p - 1 → ∃ g, IsOrd g p n
  | n, [], h, _ => by
    obtain rfl : n = 1 := h
    exact ⟨1, by omega, Nat.mod_eq_of_lt hp.1, fun k _ => Nat.one_dvd k⟩
  | n, (f, t) :: L, h, hd => by
    obtain ⟨m, ht, hm, hl, hmf, hF⟩ := h
    have hf := hl.pr
    rw [hm] at hd
    obtain ⟨g, hg⟩ := hF.root hp (Nat.dvd_trans (Nat.dvd_mul_left _ _) hd)
    obtain ⟨z, hz⟩ := hp.power_order hf ht (Nat.dvd_trans (Nat.dvd_mul_right _ _) hd)
    refine ⟨z * g, hm ▸ hz.mul hp hg ?_⟩
    have h1 : Nat.Coprime f m := hf.gcd fun h => hmf (Nat.mod_eq_zero_of_dvd h)
    exact Nat.Coprime.pow_left t h1
theorem fac_exists : ∀ n, 0 < n → ∃ L, Fac n L := by
  intro n
  induction n using Nat.strongRecOn with
  | _ n ih =>
    intro h0
    by_cases h1 : n = 1
    · exact ⟨[], h1⟩
    · obtain ⟨f, hf⟩ := least_exists n (by omega)
      have hf2 := hf.1
      -- the whole power of f
      have hs : ∀ k, 0 < k → k ≤ n → k % f = 0 ∨ k % f ≠ 0 → ∃ t m, k = f ^ t * m ∧ m % f ≠ 0 ∧ 0 < m := by
        intro k
        induction k using Nat.strongRecOn with
        | _ k ihk =>
          intro hk0 hkn _
          by_cases hkf : k % f = 0
          · have hlt : k / f < k := Nat.div_lt_self hk0 hf2
            have hpos : 0 < k / f := Nat.div_pos (Nat.le_of_dvd hk0 (Nat.dvd_of_mod_eq_zero hkf)) (by omega)
            obtain ⟨t, m, e, hm, hm0⟩ := ihk (k / f) hlt hpos (by omega) (by omega)
            refine ⟨t + 1, m, ?_, hm, hm0⟩
            have := Nat.mul_div_cancel' (Nat.dvd_of_mod_eq_zero hkf)
            rw [Nat.pow_succ, Nat.mul_comm (f ^ t) f, Nat.mul_assoc, ← e, this]
          · exact ⟨0, k, by simp, hkf, hk0⟩
      obtain ⟨t, m, e, hm, hm0⟩ := hs n h0 (Nat.le_refl _) (by omega)
      have ht : 0 < t := Nat.pos_of_ne_zero fun h => by
        subst h
        rw [Nat.pow_zero, Nat.one_mul] at e
        exact hm (e ▸ hf.2.1)
      have hlt : m < n := by
        rw [e]
        have h2 : 2 ^ 1 ≤ f ^ t := Nat.le_trans (Nat.pow_le_pow_left hf2 1) (Nat.pow_le_pow_right (by omega) ht)
        have h3 : 2 * m ≤ f ^ t * m := Nat.mul_le_mul_right _ (by simpa using h2)
        omega
      obtain ⟨L, hL⟩ := ih m hlt hm0
      exact ⟨(f, t) :: L, m, ht, e, hf, hm, hL⟩
theorem IsOrd.mod {a p o : Nat} (h : IsOrd a p o) : IsOrd (a % p) p o := by
  have e : ∀ k, (a % p) ^ k % p = a ^ k % p := fun k => (Nat.pow_mod a k p).symm
  exact ⟨h.1, by rw [e]; exact h.2.1, fun k hk => h.2.2 k (by rwa [e] at hk)⟩
theorem IsOrd.not_zero {a p o : Nat} (h : IsOrd a p o) : a % p ≠ 0 := fun h0 => by
  have h1 := h.2.1
  rw [Nat.pow_mod, h0, Nat.zero_pow h.1, Nat.zero_mod] at h1
  omega
theorem Pr.has_root {p : Nat} (hp : Pr p) : ∃ g, 0 < g ∧ g < p ∧ IsOrd g p (p - 1) := by
  obtain ⟨L, hL⟩ := fac_exists (p - 1) (by have := hp.1; omega)
  obtain ⟨g, hg⟩ := hL.root hp (Nat.dvd_refl _)
  have h0 := hg.not_zero
  exact ⟨g % p, by omega, Nat.mod_lt _ hp.pos, hg.mod⟩
/-- g is the least number whose order is p - 1. -/
def LeastRoot (p g : Nat) : Prop := 0 < g ∧ g < p ∧ IsOrd g p (p - 1) ∧ ∀ x, 0 < x → x < g → ¬ IsOrd x p (p - 1)
theorem LeastRoot.unique {p g g' : Nat} (h : LeastRoot p g) (h' : LeastRoot p g') : g = g' := by
  rcases Nat.lt_trichotomy g g' with h1 | h1 | h1
  · exact absurd h.2.2.1 (h'.2.2.2 g h.1 h1)
  · exact h1
  · exact absurd h'.2.2.1 (h.2.2.2 g' h'.1 h1)
theorem Pr.least_root {p : Nat} (hp : Pr p) : ∃ g, LeastRoot p g := by
  obtain ⟨g, h1, h2, h3⟩ := hp.has_root
  have key : ∀ n g, g ≤ n → 0 < g → g < p → IsOrd g p (p - 1) → ∃ g, LeastRoot p g := by
    intro n
    induction n with
    | zero => intro g h1 h2; omega
    | succ n ih =>
      intro g h1 h2 h3 h4
      by_cases hx : ∃ x, 0 < x ∧ x < g ∧ IsOrd x p (p - 1)
      · obtain ⟨x, x1, x2, x3⟩ := hx
        exact ih x (by omega) x1 (by omega) x3
      · exact ⟨g, h2, h3, h4, fun x x1 x2 x3 => hx ⟨x, x1, x2, x3⟩⟩
  exact key g g (Nat.le_refl _) h1 h2 h3
end Go.Proofs.YtnjhppdcpjgfmaaDoor
