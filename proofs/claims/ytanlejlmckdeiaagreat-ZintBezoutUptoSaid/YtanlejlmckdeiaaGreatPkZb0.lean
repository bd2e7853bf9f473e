/- Plain numbers: the state of Euclid's steps with one coefficient; what Bezout answers. No conditions. -/
import Derived.Test.YtanlejlmckdeiaaGreatPkZd13
namespace Go.Proofs.YtanlejlmckdeiaaGreat
/-- The state of Euclid's steps: each remainder is A times its number, but for a multiple of B. -/
structure EuB (A B r r2 x x2 : Int) : Prop where
  r0 : 0 ≤ r
  s0 : 0 ≤ r2
  c1 : B ∣ r - A * x
  c2 : B ∣ r2 - A * x2
  g : Int.gcd r r2 = Int.gcd A B
  b : x2.natAbs * r.natAbs + x.natAbs * r2.natAbs ≤ B.natAbs
  bx : x.natAbs ≤ B.natAbs
  bx2 : x2.natAbs ≤ B.natAbs
theorem EuB.start {A B : Int} (hA : 0 ≤ A) (hB : 0 < B) : EuB A B A B 1 0 :=
  ⟨hA, by omega, by simp, by simp, rfl, by simp, by omega, by simp⟩
theorem EuB.start2 {A B : Int} (hA : 0 ≤ A) (hB : 0 < B) : EuB A B B A 0 1 :=
  ⟨by omega, hA, by simp, by simp, Int.gcd_comm _ _, by simp, by simp, by omega⟩
theorem EuB.next {A B r r2 x x2 : Int} (h : EuB A B r r2 x x2) (h2 : r2 ≠ 0) : EuB A B r2 (r % r2) x2 (x - r / r2 * x2) := by
  have hs := h.s0
  have hr := h.r0
  have hp : 0 < r2 := by omega
  have e := Int.mul_ediv_add_emod r r2
  have q0 : 0 ≤ r / r2 := Int.ediv_nonneg hr hs
  have m0 := Int.emod_nonneg r h2
  have m1 := Int.emod_lt_of_pos r hp
  have hb := h.b
  have hkey : (x - r / r2 * x2).natAbs * r2.natAbs + x2.natAbs * (r % r2).natAbs ≤ B.natAbs := by
    have t1 : (x - r / r2 * x2).natAbs ≤ x.natAbs + (r / r2).natAbs * x2.natAbs := by
      rw [← Int.natAbs_mul]; omega
    have t2 : (r / r2).natAbs * r2.natAbs + (r % r2).natAbs = r.natAbs := by
      rw [← Int.natAbs_mul]
      have : 0 ≤ r / r2 * r2 := Int.mul_nonneg q0 hs
      rw [Int.mul_comm] at e
      omega
    have t3 := Nat.mul_le_mul_right r2.natAbs t1
    rw [Nat.add_mul] at t3
    have t4 : x2.natAbs * r.natAbs = (r / r2).natAbs * x2.natAbs * r2.natAbs + x2.natAbs * (r % r2).natAbs := by
      rw [← t2]; grind
    omega
  refine ⟨hs, m0, h.c2, ?_, ?_, by omega, h.bx2, ?_⟩
  · have e2 : r % r2 - A * (x - r / r2 * x2) = (r - A * x) - r / r2 * (r2 - A * x2) := by grind
    rw [e2]
    exact Int.dvd_sub h.c1 (Int.dvd_trans h.c2 (Int.dvd_mul_left _ _))
  · rw [← h.g, Int.gcd_comm r r2]
    have e3 : r % r2 = r - r2 * (r / r2) := by omega
    rw [e3]
    exact Int.gcd_sub_mul_left_right ..
  · have : (x - r / r2 * x2).natAbs * 1 ≤ (x - r / r2 * x2).natAbs * r2.natAbs := Nat.mul_le_mul_left _ (by omega)
    omega
theorem EuB.done {A B r x x2 : Int} (h : EuB A B r 0 x x2) : r = (Int.gcd A B : Nat) ∧ B ∣ (Int.gcd A B : Nat) - A * x := by
  have h1 := h.g
  rw [Int.gcd_zero_right] at h1
  have h2 := h.r0
  have e : r = (Int.gcd A B : Nat) := by omega
  exact ⟨e, e ▸ h.c1⟩

/-- What Bezout answers. -/
def BezIs (a b g x y : Int) : Prop :=
  g = (Int.gcd a b : Nat) ∧ (if b = 0 then x = a.sign ∧ y = 0 else 0 ≤ x ∧ x * g < b.natAbs ∧ a * x + b * y = g)
theorem BezIs.unique {a b g x y g' x' y' : Int} (h : BezIs a b g x y) (k : BezIs a b g' x' y') : g = g' ∧ x = x' ∧ y = y' := by
  obtain ⟨h1, h2⟩ := h
  obtain ⟨k1, k2⟩ := k
  have eg : g = g' := h1.trans k1.symm
  subst eg
  by_cases hb : b = 0
  · rw [if_pos hb] at h2 k2
    exact ⟨rfl, h2.1.trans k2.1.symm, h2.2.trans k2.2.symm⟩
  · rw [if_neg hb] at h2 k2
    obtain ⟨h3, h4, h5⟩ := h2
    obtain ⟨k3, k4, k5⟩ := k2
    have hg0 : 0 < g := by
      have := Int.gcd_pos_of_ne_zero_right a hb
      omega
    obtain ⟨p, hp⟩ : g ∣ a := h1 ▸ Int.gcd_dvd_left a b
    obtain ⟨q, hq⟩ : g ∣ b := h1 ▸ Int.gcd_dvd_right a b
    have hcop : Int.gcd p q = 1 := by
      have := Int.gcd_mul_left g p q
      rw [← hp, ← hq] at this
      have e3 : g.natAbs * Int.gcd p q = g.natAbs * 1 := by omega
      exact Nat.eq_of_mul_eq_mul_left (by omega) e3
    have e1 : p * (x - x') = q * (y' - y) := by
      have : g * (p * (x - x')) = g * (q * (y' - y)) := by rw [hp, hq] at h5 k5; grind
      exact Int.eq_of_mul_eq_mul_left (by omega) this
    have d1 : q ∣ p * (x - x') := ⟨_, e1⟩
    have d2 : q ∣ x - x' := by
      have d3 : q.natAbs ∣ p.natAbs * (x - x').natAbs := by rw [← Int.natAbs_mul]; exact Int.natAbs_dvd_natAbs.2 d1
      have hc2 : Nat.Coprime q.natAbs p.natAbs := by
        show Nat.gcd _ _ = 1
        rw [Nat.gcd_comm]; exact hcop
      exact Int.natAbs_dvd_natAbs.1 (hc2.dvd_of_dvd_mul_left d3)
    have hqg : q.natAbs * g.natAbs = b.natAbs := by rw [hq, Int.natAbs_mul, Nat.mul_comm]
    have hx : x.natAbs < q.natAbs := by
      refine Nat.lt_of_mul_lt_mul_right (a := g.natAbs) ?_
      rw [hqg, ← Int.natAbs_mul]
      have : 0 ≤ x * g := Int.mul_nonneg h3 (by omega)
      omega
    have hx' : x'.natAbs < q.natAbs := by
      refine Nat.lt_of_mul_lt_mul_right (a := g.natAbs) ?_
      rw [hqg, ← Int.natAbs_mul]
      have : 0 ≤ x' * g := Int.mul_nonneg k3 (by omega)
      omega
    have e2 : x = x' := by
      have h9 : x - x' = 0 := Int.eq_zero_of_dvd_of_natAbs_lt_natAbs d2 (by omega)
      omega
    subst e2
    have h8 : b * y = b * y' := by omega
    exact ⟨rfl, rfl, Int.eq_of_mul_eq_mul_left hb h8⟩
/-- From any number that serves to the least one. -/
theorem BezIs.of_mod {a b x : Int} (hb : b ≠ 0) (h : b ∣ (Int.gcd a b : Nat) - a * x) :
    BezIs a b (Int.gcd a b : Nat) (x % (b / (Int.gcd a b : Nat))) (((Int.gcd a b : Nat) - a * (x % (b / (Int.gcd a b : Nat)))) / b) ∧ b ∣ (Int.gcd a b : Nat) - a * (x % (b / (Int.gcd a b : Nat))) := by
  obtain ⟨g, hg⟩ : ∃ g : Int, g = (Int.gcd a b : Nat) := ⟨_, rfl⟩
  rw [← hg] at h ⊢
  have hg0 : 0 < g := by
    have := Int.gcd_pos_of_ne_zero_right a hb
    omega
  obtain ⟨p, hp⟩ : g ∣ a := hg ▸ Int.gcd_dvd_left a b
  obtain ⟨q, hq⟩ : g ∣ b := hg ▸ Int.gcd_dvd_right a b
  have hbq : b / g = q := by rw [hq]; exact Int.mul_ediv_cancel_left _ (by omega)
  rw [hbq]
  have hq0 : q ≠ 0 := by rintro rfl; simp at hq; exact hb hq
  have m0 := Int.emod_nonneg x hq0
  have m1 : x % q < q.natAbs := by
    rcases Int.lt_or_gt_of_ne hq0 with h | h
    · have := Int.emod_lt_of_pos x (show 0 < -q by omega)
      rw [Int.emod_neg] at this
      omega
    · have := Int.emod_lt_of_pos x h
      omega
  have e := Int.mul_ediv_add_emod x q
  have d : b ∣ g - a * (x % q) := by
    have e2 : g - a * (x % q) = (g - a * x) + b * (p * (x / q)) := by grind
    rw [e2]
    exact Int.dvd_add h (Int.dvd_mul_right _ _)
  refine ⟨⟨hg, ?_⟩, d⟩
  rw [if_neg hb]
  refine ⟨m0, ?_, ?_⟩
  · have h1 : (x % q) * g < (q.natAbs : Int) * g := Int.mul_lt_mul_of_pos_right m1 hg0
    have h2 : (q.natAbs : Int) * g = b.natAbs := by
      rw [hq, Int.natAbs_mul, Int.natCast_mul]
      have : (g.natAbs : Int) = g := by omega
      rw [this, Int.mul_comm]
    omega
  · have := Int.mul_ediv_cancel' d
    omega
/-- The way by a over g modulo b over g. -/
theorem bez_ref {a b x : Int} (hb : b ≠ 0) (h : ((b / (Int.gcd a b : Nat)).natAbs : Int) ∣ (Int.gcd ((a / (Int.gcd a b : Nat)) % ((b / (Int.gcd a b : Nat)).natAbs : Int)) ((b / (Int.gcd a b : Nat)).natAbs : Int) : Nat) - ((a / (Int.gcd a b : Nat)) % ((b / (Int.gcd a b : Nat)).natAbs : Int)) * x) :
    b ∣ (Int.gcd a b : Nat) - a * x := by
  obtain ⟨g, hg⟩ : ∃ g : Int, g = (Int.gcd a b : Nat) := ⟨_, rfl⟩
  rw [← hg] at h ⊢
  have hg0 : 0 < g := by
    have := Int.gcd_pos_of_ne_zero_right a hb
    omega
  obtain ⟨p, hp⟩ : g ∣ a := hg ▸ Int.gcd_dvd_left a b
  obtain ⟨q, hq⟩ : g ∣ b := hg ▸ Int.gcd_dvd_right a b
  have hbq : b / g = q := by rw [hq]; exact Int.mul_ediv_cancel_left _ (by omega)
  have hap : a / g = p := by rw [hp]; exact Int.mul_ediv_cancel_left _ (by omega)
  rw [hbq, hap] at h
  have hq0 : q ≠ 0 := by rintro rfl; simp at hq; exact hb hq
  have hcop : Int.gcd p q = 1 := by
    have := Int.gcd_mul_left g p q
    rw [← hp, ← hq] at this
    have e3 : g.natAbs * Int.gcd p q = g.natAbs * 1 := by omega
    exact Nat.eq_of_mul_eq_mul_left (by omega) e3
  obtain ⟨k, hk⟩ : ∃ k : Int, k = (q.natAbs : Int) := ⟨_, rfl⟩
  rw [← hk] at h
  have e := Int.mul_ediv_add_emod p k
  have hgk : Int.gcd p k = 1 := by rw [hk]; unfold Int.gcd at hcop ⊢; rwa [Int.natAbs_natCast]
  have hg1 : Int.gcd (p % k) k = 1 := by
    have e3 : p % k = p - k * (p / k) := by omega
    rw [e3, Int.mul_comm, Int.gcd_sub_mul_right_left]
    exact hgk
  rw [hg1] at h
  have h2 : q ∣ 1 - p * x := by
    have e4 : 1 - p * x = ((1 : Nat) - p % k * x) - k * (p / k * x) := by rw [← Int.mul_assoc]; grind
    rw [e4]
    have hqk : q ∣ k := by rw [hk]; exact Int.dvd_natAbs_self
    exact Int.dvd_sub (Int.dvd_trans hqk h) (Int.dvd_trans hqk (Int.dvd_mul_right _ _))
  obtain ⟨m, hm⟩ := h2
  refine ⟨m, ?_⟩
  rw [hq, Int.mul_assoc, ← hm]
  conv => lhs; rw [hp]
  grind
end Go.Proofs.YtanlejlmckdeiaaGreat
