/- The contracts of prime's times and power: a b modulo p; a^e modulo p. Conditions: p above 0 (times), above 1 (power). -/
import Derived.Test.YtnjhppdcpjgfmaaDoorMem
import Derived.Test.YtnjhppdcpjgfmaaDoorRows
namespace Go.Proofs.YtnjhppdcpjgfmaaDoor
open Go.RowKit

set_option maxHeartbeats 400000 in
theorem times_any (a b p : Nat) (w : World) (ha : a < 4294967296) (hb : b < 4294967296) (hp : p < 4294967296) (hp0 : 0 < p) :
    Calls Tryd.prog 61 #[.int .u32 (a : Int), .int .u32 (b : Int), .int .u32 (p : Int)] w fun e w' => e = .returned (.int .u32 ((a * b % p : Nat) : Int)) ∧ w' = w := by
  have hab : a * b ≤ 4294967295 * 4294967295 := Nat.mul_le_mul (by omega) (by omega)
  have hm : a * b % p < p := Nat.mod_lt _ hp0
  obtain ⟨m, hme⟩ : ∃ m, m = a * b := ⟨_, rfl⟩
  have t1 : IntKind.u64.wrap ((a : Int) * (b : Int)) = (m : Int) := by
    rw [IntKind.wrap_u64, ← Int.natCast_mul, ← hme]; omega
  have t2 : ((p : Int) == 0) = false := by simp; omega
  have t3 : IntKind.u32.wrap ((m : Int) % (p : Int)) = ((m % p : Nat) : Int) := by
    rw [IntKind.wrap_u32, hme]; omega
  rw [← hme]
  clear hme
  go_enter Tryd.func61, Tryd.ntmps61
  go_wp2
  go_ret
  exact ⟨by simp, rfl⟩

theorem pow_half (a e p : Nat) : a ^ e % p = (if e % 2 = 1 then ((a ^ (e / 2) % p) * (a ^ (e / 2) % p) % p) * a % p else (a ^ (e / 2) % p) * (a ^ (e / 2) % p) % p) := by
  have h : a ^ (e / 2) * a ^ (e / 2) = a ^ (e / 2 + e / 2) := (Nat.pow_add a _ _).symm
  by_cases hc : e % 2 = 1
  · rw [if_pos hc, ← Nat.mul_mod, h, Nat.mod_mul_mod, ← Nat.pow_succ, show (e / 2 + e / 2).succ = e from by omega]
  · rw [if_neg hc, ← Nat.mul_mod, h, show e / 2 + e / 2 = e from by omega]

set_option maxHeartbeats 400000 in
theorem power_any (a p : Nat) (ha : a < 4294967296) (hp : p < 4294967296) (hp1 : 1 < p) : ∀ (k e : Nat), e < 2 ^ k → e < 18446744073709551616 → ∀ w : World,
    Calls Tryd.prog 57 #[.int .u32 (a : Int), .int .u64 (e : Int), .int .u32 (p : Int)] w fun r w' => r = .returned (.int .u32 ((a ^ e % p : Nat) : Int)) ∧ w' = w := by
  intro k
  induction k with
  | zero =>
    intro e he _ w
    obtain rfl : e = 0 := by simpa using he
    have h1 : a ^ 0 % p = 1 := by rw [Nat.pow_zero, Nat.mod_eq_of_lt hp1]
    rw [h1]
    go_enter Tryd.func57, Tryd.ntmps57
    go_wp2
    go_ret
    exact ⟨rfl, rfl⟩
  | succ k ih =>
    intro e he hlt w
    by_cases h0 : e = 0
    · subst h0
      have h1 : a ^ 0 % p = 1 := by rw [Nat.pow_zero, Nat.mod_eq_of_lt hp1]
      rw [h1]
      go_enter Tryd.func57, Tryd.ntmps57
      go_wp2
      go_ret
      exact ⟨rfl, rfl⟩
    · have hh : e / 2 < 2 ^ k := by rw [Nat.pow_succ] at he; omega
      have hi := ih (e / 2) hh (by omega)
      have hv := pow_half a e p
      have hq : a ^ (e / 2) % p < p := Nat.mod_lt _ (by omega)
      obtain ⟨r, hr⟩ : ∃ r, r = a ^ e % p := ⟨_, rfl⟩
      obtain ⟨q, hqe⟩ : ∃ q, q = a ^ (e / 2) % p := ⟨_, rfl⟩
      have hs : q * q % p < p := Nat.mod_lt _ (by omega)
      rw [← hr]
      rw [← hr, ← hqe] at hv
      rw [← hqe] at hq hi
      obtain ⟨s, hse⟩ : ∃ s, s = q * q % p := ⟨_, rfl⟩
      rw [← hse] at hv hs
      have Hse := Lib.hid hse
      have t0 : ((e : Int) == 0) = false := by simp; omega
      obtain ⟨d, hde⟩ : ∃ d, d = e / 2 := ⟨_, rfl⟩
      rw [← hde] at hi
      have t1 : (e : Int) / 2 = (d : Int) := by omega
      clear hse hr hqe ih he hh hde
      by_cases hc : e % 2 = 1
      · rw [if_pos hc] at hv
        have t2 : ((e : Int) % 2 == 1) = true := by simp; omega
        have Hv := Lib.hid hv
        clear hv hc
        go_enter Tryd.func57, Tryd.ntmps57
        go_wp2_with fail
        refine (hi _).mono ?_
        rintro _ _ ⟨rfl, rfl⟩
        go_wp2_with fail
        refine (times_any q q p _ (by omega) (by omega) hp (by omega)).mono ?_
        rintro _ _ ⟨rfl, rfl⟩
        rw [← Hse.out]
        go_wp2_with fail
        refine (times_any s a p _ (by omega) ha hp (by omega)).mono ?_
        rintro _ _ ⟨rfl, rfl⟩
        rw [← Hv.out]
        go_wp2
        go_ret
        exact ⟨rfl, rfl⟩
      · rw [if_neg hc] at hv
        have t2 : ((e : Int) % 2 == 1) = false := by simp; omega
        have Hv := Lib.hid hv
        clear hv hc
        go_enter Tryd.func57, Tryd.ntmps57
        go_wp2_with fail
        refine (hi _).mono ?_
        rintro _ _ ⟨rfl, rfl⟩
        go_wp2_with fail
        refine (times_any q q p _ (by omega) (by omega) hp (by omega)).mono ?_
        rintro _ _ ⟨rfl, rfl⟩
        rw [← Hse.out, ← Hv.out]
        go_wp2
        go_ret
        exact ⟨rfl, rfl⟩
end Go.Proofs.YtnjhppdcpjgfmaaDoor
