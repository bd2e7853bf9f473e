/- Bezout's answers by numbers: behind Euclid's steps, as the program and as the reference go on. No conditions. -/
import Derived.Test.YtanlejlmckdeiaaGreatPkZb0
namespace Go.Proofs.YtanlejlmckdeiaaGreat
theorem gcd_abs9 (z y : Int) : Int.gcd (z.natAbs : Int) (y.natAbs : Int) = Int.gcd z y := by simp [Int.gcd]
theorem bez_exact {z y r : Int} (hy : y ≠ 0) (hr : r = (Int.gcd z y : Nat)) : 0 < r ∧ Int.tmod y r = 0 ∧ Int.tdiv y r = y / r ∧ y / r ≠ 0 ∧ Int.tmod z r = 0 ∧ Int.tdiv z r = z / r ∧ r * (y / r) = y := by
  have h1 : r ∣ y := by rw [hr]; exact Int.gcd_dvd_right ..
  have h2 : r ∣ z := by rw [hr]; exact Int.gcd_dvd_left ..
  have h3 : 0 < r := by have := Int.gcd_pos_of_ne_zero_right z hy; omega
  have h4 := Int.mul_ediv_cancel' h1
  refine ⟨h3, Int.tmod_eq_zero_of_dvd h1, Int.tdiv_eq_ediv_of_dvd h1, fun e => ?_, Int.tmod_eq_zero_of_dvd h2, Int.tdiv_eq_ediv_of_dvd h2, h4⟩
  rw [e, Int.mul_zero] at h4
  exact hy h4.symm
theorem bez_fin {z y r x : Int} (hy : y ≠ 0) (hr : r = (Int.gcd z y : Nat)) (hd : y ∣ (Int.gcd z y : Nat) - z * x) :
    Int.tmod (r - z * (x % (y / r))) y = 0 ∧ BezIs z y r (x % (y / r)) (Int.tdiv (r - z * (x % (y / r))) y) := by
  obtain ⟨h1, h2⟩ := BezIs.of_mod hy hd
  rw [← hr] at h1 h2
  refine ⟨Int.tmod_eq_zero_of_dvd h2, ?_⟩
  rw [Int.tdiv_eq_ediv_of_dvd h2]
  exact h1
theorem sgn_mul {g : Bool} {z : Int} (x : Int) (h : ivalN g z.natAbs = z) : z * (if g = true then -x else x) = (z.natAbs : Int) * x := by
  cases g
  · rw [ival_false] at h
    rw [if_neg (by decide)]; rw [h]
  · rw [ival_true] at h
    rw [if_pos rfl]
    obtain ⟨n, hn⟩ : ∃ n, n = z.natAbs := ⟨_, rfl⟩
    rw [← hn] at h ⊢
    rw [← h]; grind
theorem bez_loop {g : Bool} {z y r x x2 : Int} (hg : ivalN g z.natAbs = z) (h : EuB z.natAbs y.natAbs r 0 x x2) : r = (Int.gcd z y : Nat) ∧ y ∣ (Int.gcd z y : Nat) - z * (if g = true then -x else x) := by
  obtain ⟨h1, h2⟩ := h.done
  rw [gcd_abs9] at h1 h2
  rw [sgn_mul x hg]
  exact ⟨h1, Int.natAbs_dvd.1 h2⟩
theorem bez_ref_fin {z y G Q R X : Int} (hy : y ≠ 0) (hG : G = (Int.gcd z y : Nat)) (hQ : Q = ((y / G).natAbs : Int)) (hR : R = (z / G) % Q) (h0 : 0 ≤ X) (h1 : X < Q) (h2 : Q ∣ (Int.gcd R Q : Nat) - R * X) :
    Int.tmod (G - z * X) y = 0 ∧ BezIs z y G X (Int.tdiv (G - z * X) y) := by
  obtain ⟨g0, _, _, _, _, _, g1⟩ := bez_exact hy hG
  have hd : y ∣ (Int.gcd z y : Nat) - z * X := bez_ref hy (by rw [← hG, ← hQ, ← hR]; exact h2)
  rw [← hG] at hd
  refine ⟨Int.tmod_eq_zero_of_dvd hd, hG, ?_⟩
  rw [if_neg hy, Int.tdiv_eq_ediv_of_dvd hd]
  refine ⟨h0, ?_, ?_⟩
  · have e1 : G.natAbs * (y / G).natAbs = y.natAbs := by rw [← Int.natAbs_mul, g1]
    have e2 : ((y.natAbs : Nat) : Int) = Q * G := by
      rw [← e1, hQ, Int.natCast_mul, Int.mul_comm, show ((G.natAbs : Nat) : Int) = G from by omega]
    rw [e2]
    exact Int.mul_lt_mul_of_pos_right h1 g0
  · have := Int.mul_ediv_cancel' hd
    omega
end Go.Proofs.YtanlejlmckdeiaaGreat
