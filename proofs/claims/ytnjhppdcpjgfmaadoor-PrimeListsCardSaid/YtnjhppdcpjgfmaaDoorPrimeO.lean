/- prime's Add, Sub, Mul, Neg, Pow and what the reference answers. Conditions: p a prime, or none; bases reads 2, 7, 61. -/
import Derived.Test.YtnjhppdcpjgfmaaDoorPrimeN
import Derived.Deep.QuietTactic
import Derived.BigQuiet
namespace Go.Proofs.YtnjhppdcpjgfmaaDoor
open Go.RowKit

def pairA (x e : Int) : Ending := .returned (.tuple #[.int .u32 x, .int .i64 e])

theorem add_lt (a b p : Nat) (hp : 0 < p) : (a + b) % p < p := Nat.mod_lt _ hp

set_option maxHeartbeats 400000 in
theorem padd_no (a b p : Nat) (hp : ¬ Pr p) (hlt : p < 4294967296) (w : World) (hw : Bases w) :
    Calls Tryd.prog 44 #[.int .u32 (a : Int), .int .u32 (b : Int), .int .u32 (p : Int)] w fun r w' => r = .returned (.tuple #[.int .u32 0, .int .i64 40]) ∧ w' = w := by
  have Hw := Lib.hid hw
  have Hi := Lib.hid (fun W hW => is_no p hp hlt W hW)
  clear hw hp
  go_enter Tryd.func44, Tryd.ntmps44
  go_wp2_with fail
  refine (Hi.out _ Hw.out).mono ?_
  rintro _ _ ⟨rfl, rfl⟩
  go_wp2
  go_ret2
  exact ⟨rfl, rfl⟩

set_option maxHeartbeats 400000 in
theorem psub_no (a b p : Nat) (hp : ¬ Pr p) (hlt : p < 4294967296) (w : World) (hw : Bases w) :
    Calls Tryd.prog 54 #[.int .u32 (a : Int), .int .u32 (b : Int), .int .u32 (p : Int)] w fun r w' => r = .returned (.tuple #[.int .u32 0, .int .i64 40]) ∧ w' = w := by
  have Hw := Lib.hid hw
  have Hi := Lib.hid (fun W hW => is_no p hp hlt W hW)
  clear hw hp
  go_enter Tryd.func54, Tryd.ntmps54
  go_wp2_with fail
  refine (Hi.out _ Hw.out).mono ?_
  rintro _ _ ⟨rfl, rfl⟩
  go_wp2
  go_ret2
  exact ⟨rfl, rfl⟩

set_option maxHeartbeats 400000 in
theorem pmul_no (a b p : Nat) (hp : ¬ Pr p) (hlt : p < 4294967296) (w : World) (hw : Bases w) :
    Calls Tryd.prog 43 #[.int .u32 (a : Int), .int .u32 (b : Int), .int .u32 (p : Int)] w fun r w' => r = .returned (.tuple #[.int .u32 0, .int .i64 40]) ∧ w' = w := by
  have Hw := Lib.hid hw
  have Hi := Lib.hid (fun W hW => is_no p hp hlt W hW)
  clear hw hp
  go_enter Tryd.func43, Tryd.ntmps43
  go_wp2_with fail
  refine (Hi.out _ Hw.out).mono ?_
  rintro _ _ ⟨rfl, rfl⟩
  go_wp2
  go_ret2
  exact ⟨rfl, rfl⟩

set_option maxHeartbeats 400000 in
theorem ppow_no (a e p : Nat) (hp : ¬ Pr p) (hlt : p < 4294967296) (w : World) (hw : Bases w) :
    Calls Tryd.prog 31 #[.int .u32 (a : Int), .int .u64 (e : Int), .int .u32 (p : Int)] w fun r w' => r = .returned (.tuple #[.int .u32 0, .int .i64 40]) ∧ w' = w := by
  have Hw := Lib.hid hw
  have Hi := Lib.hid (fun W hW => is_no p hp hlt W hW)
  clear hw hp
  go_enter Tryd.func31, Tryd.ntmps31
  go_wp2_with fail
  refine (Hi.out _ Hw.out).mono ?_
  rintro _ _ ⟨rfl, rfl⟩
  go_wp2
  go_ret2
  exact ⟨rfl, rfl⟩

set_option maxHeartbeats 400000 in
theorem pquo_no (a b p : Nat) (hp : ¬ Pr p) (hlt : p < 4294967296) (w : World) (hw : Bases w) :
    Calls Tryd.prog 46 #[.int .u32 (a : Int), .int .u32 (b : Int), .int .u32 (p : Int)] w fun r w' => r = .returned (.tuple #[.int .u32 0, .int .i64 40]) ∧ w' = w := by
  have Hw := Lib.hid hw
  have Hi := Lib.hid (fun W hW => is_no p hp hlt W hW)
  clear hw hp
  go_enter Tryd.func46, Tryd.ntmps46
  go_wp2_with fail
  refine (Hi.out _ Hw.out).mono ?_
  rintro _ _ ⟨rfl, rfl⟩
  go_wp2
  go_ret2
  exact ⟨rfl, rfl⟩

set_option maxHeartbeats 400000 in
theorem pneg_no (a p : Nat) (hp : ¬ Pr p) (hlt : p < 4294967296) (w : World) (hw : Bases w) :
    Calls Tryd.prog 45 #[.int .u32 (a : Int), .int .u32 (p : Int)] w fun r w' => r = .returned (.tuple #[.int .u32 0, .int .i64 40]) ∧ w' = w := by
  have H := Lib.hid (fun W hW => psub_no 0 a p hp hlt W hW)
  have Hw := Lib.hid hw
  clear hw hp
  go_enter Tryd.func45, Tryd.ntmps45
  go_wp2_with fail
  refine (H.out _ Hw.out).mono ?_
  rintro _ _ ⟨rfl, rfl⟩
  go_wp2
  go_ret2
  exact ⟨rfl, rfl⟩
set_option maxHeartbeats 400000 in
theorem pinv_no (a p : Nat) (hp : ¬ Pr p) (hlt : p < 4294967296) (w : World) (hw : Bases w) :
    Calls Tryd.prog 51 #[.int .u32 (a : Int), .int .u32 (p : Int)] w fun r w' => r = .returned (.tuple #[.int .u32 0, .int .i64 40]) ∧ w' = w := by
  have H := Lib.hid (fun W hW => pquo_no 1 a p hp hlt W hW)
  have Hw := Lib.hid hw
  clear hw hp
  go_enter Tryd.func51, Tryd.ntmps51
  go_wp2_with fail
  refine (H.out _ Hw.out).mono ?_
  rintro _ _ ⟨rfl, rfl⟩
  go_wp2
  go_ret2
  exact ⟨rfl, rfl⟩

/-! A prime. -/
theorem cast_mod (a p : Nat) : ((a : Int) % (p : Int)) = ((a % p : Nat) : Int) := (Int.natCast_emod a p).symm

set_option maxHeartbeats 400000 in
theorem padd_yes (a b p : Nat) (ha : a < 4294967296) (hb : b < 4294967296) (hp : Pr p) (hlt : p < 4294967296) (w : World) (hw : Bases w) :
    Calls Tryd.prog 44 #[.int .u32 (a : Int), .int .u32 (b : Int), .int .u32 (p : Int)] w fun r w' => r = .returned (.tuple #[.int .u32 (((a + b) % p : Nat) : Int), .int .i64 0]) ∧ w' = w := by
  have Hw := Lib.hid hw
  have Hi := Lib.hid (fun W hW => is_yes p hp hlt W hW)
  have hp0 := hp.1
  have hx := add_lt a b p (by omega)
  have t1 : ((a : Int) + (b : Int)) % (p : Int) = (((a + b) % p : Nat) : Int) := by rw [← cast_mod]; rfl
  obtain ⟨x, hxe⟩ : ∃ x, x = (a + b) % p := ⟨_, rfl⟩
  rw [← hxe] at hx t1 ⊢
  clear hxe
  have t2 : ((p : Int) == 0) = false := by simp; omega
  clear hw hp
  go_enter Tryd.func44, Tryd.ntmps44
  go_wp2_with fail
  refine (Hi.out _ Hw.out).mono ?_
  rintro _ _ ⟨rfl, rfl⟩
  go_wp2
  go_ret2
  exact ⟨rfl, rfl⟩

set_option maxHeartbeats 400000 in
theorem psub_yes (a b p : Nat) (ha : a < 4294967296) (hb : b < 4294967296) (hp : Pr p) (hlt : p < 4294967296) (w : World) (hw : Bases w) :
    Calls Tryd.prog 54 #[.int .u32 (a : Int), .int .u32 (b : Int), .int .u32 (p : Int)] w fun r w' => r = .returned (.tuple #[.int .u32 (((a + (p - b % p)) % p : Nat) : Int), .int .i64 0]) ∧ w' = w := by
  have Hw := Lib.hid hw
  have Hi := Lib.hid (fun W hW => is_yes p hp hlt W hW)
  have hp0 := hp.1
  have hc : b % p < p := Nat.mod_lt _ (by omega)
  have t0 : (b : Int) % (p : Int) = ((b % p : Nat) : Int) := cast_mod b p
  obtain ⟨c, hce⟩ : ∃ c, c = b % p := ⟨_, rfl⟩
  rw [← hce] at hc t0 ⊢
  obtain ⟨d, hd⟩ : ∃ d, d = p - c := ⟨_, rfl⟩
  have td : (p : Int) - (c : Int) = (d : Int) := by omega
  have hd2 : d ≤ p := by omega
  rw [← hd]
  clear hce hd
  have hx := add_lt a d p (by omega)
  have t1 : ((a : Int) + (d : Int)) % (p : Int) = (((a + d) % p : Nat) : Int) := by rw [← cast_mod]; rfl
  obtain ⟨x, hxe⟩ : ∃ x, x = (a + d) % p := ⟨_, rfl⟩
  rw [← hxe] at hx t1 ⊢
  clear hxe
  have t2 : ((p : Int) == 0) = false := by simp; omega
  clear hw hp
  go_enter Tryd.func54, Tryd.ntmps54
  go_wp2_with fail
  refine (Hi.out _ Hw.out).mono ?_
  rintro _ _ ⟨rfl, rfl⟩
  go_wp2
  go_ret2
  exact ⟨rfl, rfl⟩

set_option maxHeartbeats 400000 in
theorem pneg_yes (a p : Nat) (ha : a < 4294967296) (hp : Pr p) (hlt : p < 4294967296) (w : World) (hw : Bases w) :
    Calls Tryd.prog 45 #[.int .u32 (a : Int), .int .u32 (p : Int)] w fun r w' => r = .returned (.tuple #[.int .u32 (((0 + (p - a % p)) % p : Nat) : Int), .int .i64 0]) ∧ w' = w := by
  have h := fun W hW => psub_yes 0 a p (by omega) ha hp hlt W hW
  obtain ⟨x, hxe⟩ : ∃ x, x = (0 + (p - a % p)) % p := ⟨_, rfl⟩
  simp only [← hxe] at h ⊢
  have H := Lib.hid h
  have Hw := Lib.hid hw
  clear hw hp h hxe
  go_enter Tryd.func45, Tryd.ntmps45
  go_wp2_with fail
  refine (H.out _ Hw.out).mono ?_
  rintro _ _ ⟨rfl, rfl⟩
  go_wp2
  go_ret2
  exact ⟨rfl, rfl⟩

set_option maxHeartbeats 400000 in
theorem pmul_yes (a b p : Nat) (ha : a < 4294967296) (hb : b < 4294967296) (hp : Pr p) (hlt : p < 4294967296) (w : World) (hw : Bases w) :
    Calls Tryd.prog 43 #[.int .u32 (a : Int), .int .u32 (b : Int), .int .u32 (p : Int)] w fun r w' => r = .returned (.tuple #[.int .u32 ((a * b % p : Nat) : Int), .int .i64 0]) ∧ w' = w := by
  have Hw := Lib.hid hw
  have Hi := Lib.hid (fun W hW => is_yes p hp hlt W hW)
  have Ht := Lib.hid (fun W => times_any a b p W ha hb hlt hp.pos)
  clear hw hp
  go_enter Tryd.func43, Tryd.ntmps43
  go_wp2_with fail
  refine (Hi.out _ Hw.out).mono ?_
  rintro _ _ ⟨rfl, rfl⟩
  go_wp2_with fail
  refine (Ht.out _).mono ?_
  rintro _ _ ⟨rfl, rfl⟩
  go_wp2
  go_ret2
  exact ⟨rfl, rfl⟩

theorem power_all (a p e : Nat) (ha : a < 4294967296) (hp : p < 4294967296) (hp1 : 1 < p) (he : e < 18446744073709551616) (w : World) :
    Calls Tryd.prog 57 #[.int .u32 (a : Int), .int .u64 (e : Int), .int .u32 (p : Int)] w fun r w' => r = .returned (.int .u32 ((a ^ e % p : Nat) : Int)) ∧ w' = w :=
  power_any a p ha hp hp1 64 e (by simpa using he) he w

set_option maxHeartbeats 400000 in
theorem ppow_yes (a e p : Nat) (ha : a < 4294967296) (he : e < 18446744073709551616) (hp : Pr p) (hlt : p < 4294967296) (w : World) (hw : Bases w) :
    Calls Tryd.prog 31 #[.int .u32 (a : Int), .int .u64 (e : Int), .int .u32 (p : Int)] w fun r w' => r = .returned (.tuple #[.int .u32 ((a ^ e % p : Nat) : Int), .int .i64 0]) ∧ w' = w := by
  have Hw := Lib.hid hw
  have Hi := Lib.hid (fun W hW => is_yes p hp hlt W hW)
  have Ht := Lib.hid (fun W => power_all a p e ha hlt hp.1 he W)
  clear hw hp
  go_enter Tryd.func31, Tryd.ntmps31
  go_wp2_with fail
  refine (Hi.out _ Hw.out).mono ?_
  rintro _ _ ⟨rfl, rfl⟩
  go_wp2_with fail
  refine (Ht.out _).mono ?_
  rintro _ _ ⟨rfl, rfl⟩
  go_wp2
  go_ret2
  exact ⟨rfl, rfl⟩

/-! The reference. -/
set_option maxHeartbeats 400000 in
theorem radd_any (a b p : Nat) (ha : a < 4294967296) (hb : b < 4294967296) (hp : p < 4294967296) (hp0 : 0 < p) (w : World) :
    Calls Tryd.prog 55 #[.int .u32 (a : Int), .int .u32 (b : Int), .int .u32 (p : Int)] w fun r w' => r = .returned (.int .u32 (((a + b) % p : Nat) : Int)) ∧ w' = w := by
  have hx := add_lt a b p hp0
  have t1 : ((a : Int) + (b : Int)) % (p : Int) = (((a + b) % p : Nat) : Int) := by rw [← cast_mod]; rfl
  obtain ⟨x, hxe⟩ : ∃ x, x = (a + b) % p := ⟨_, rfl⟩
  rw [← hxe] at hx t1 ⊢
  clear hxe
  have t2 : ((p : Int) == 0) = false := by simp; omega
  go_enter Tryd.func55, Tryd.ntmps55
  go_wp2
  go_ret
  exact ⟨rfl, rfl⟩
theorem sub_alike (a b p : Nat) (hp0 : 0 < p) : (a % p + p - b % p) % p = (a + (p - b % p)) % p := by
  have hb : b % p < p := Nat.mod_lt _ hp0
  rw [show a % p + p - b % p = a % p + (p - b % p) from by omega, Nat.mod_add_mod]
set_option maxHeartbeats 400000 in
theorem rsub_any (a b p : Nat) (ha : a < 4294967296) (hb : b < 4294967296) (hp : p < 4294967296) (hp0 : 0 < p) (w : World) :
    Calls Tryd.prog 38 #[.int .u32 (a : Int), .int .u32 (b : Int), .int .u32 (p : Int)] w fun r w' => r = .returned (.int .u32 (((a + (p - b % p)) % p : Nat) : Int)) ∧ Dr w w' := by
  have hx := add_lt a (p - b % p) p hp0
  rw [← sub_alike a b p hp0] at hx ⊢
  have hc : b % p < p := Nat.mod_lt _ hp0
  have hd : a % p < p := Nat.mod_lt _ hp0
  have t0 : (b : Int) % (p : Int) = ((b % p : Nat) : Int) := cast_mod b p
  have t3 : (a : Int) % (p : Int) = ((a % p : Nat) : Int) := cast_mod a p
  obtain ⟨c, hce⟩ : ∃ c, c = b % p := ⟨_, rfl⟩
  obtain ⟨d, hde⟩ : ∃ d, d = a % p := ⟨_, rfl⟩
  rw [← hce] at hc t0 ⊢
  rw [← hde] at hd t3 ⊢
  rw [← hce, ← hde] at hx
  clear hce hde
  have t1 : ((d : Int) + (p : Int) - (c : Int)) % (p : Int) = (((d + p - c) % p : Nat) : Int) := by
    rw [← cast_mod]; congr 1; omega
  obtain ⟨x, hxe⟩ : ∃ x, x = (d + p - c) % p := ⟨_, rfl⟩
  rw [← hxe] at hx t1 ⊢
  clear hxe
  have t2 : ((p : Int) == 0) = false := by simp; omega
  go_enter Tryd.func38, Tryd.ntmps38
  go_wp2
  go_quiet (fail)
  go_wp2
  go_ret
  exact ⟨rfl, (Dr.refl _).step _⟩
set_option maxHeartbeats 400000 in
theorem rmul_any (a b p : Nat) (ha : a < 4294967296) (hb : b < 4294967296) (hp : p < 4294967296) (hp0 : 0 < p) (w : World) :
    Calls Tryd.prog 37 #[.int .u32 (a : Int), .int .u32 (b : Int), .int .u32 (p : Int)] w fun r w' => r = .returned (.int .u32 ((a * b % p : Nat) : Int)) ∧ w' = w := by
  have hab : a * b ≤ 4294967295 * 4294967295 := Nat.mul_le_mul (by omega) (by omega)
  have hm : a * b % p < p := Nat.mod_lt _ hp0
  obtain ⟨m, hme⟩ : ∃ m, m = a * b := ⟨_, rfl⟩
  have t1 : IntKind.u64.wrap ((a : Int) * (b : Int)) = (m : Int) := by
    rw [IntKind.wrap_u64, ← Int.natCast_mul, ← hme]; omega
  have t2 : ((p : Int) == 0) = false := by simp; omega
  have t3 : (m : Int) % (p : Int) = ((m % p : Nat) : Int) := cast_mod m p
  rw [← hme] at hm ⊢
  obtain ⟨x, hxe⟩ : ∃ x, x = m % p := ⟨_, rfl⟩
  rw [← hxe] at hm t3 ⊢
  clear hme hxe
  go_enter Tryd.func37, Tryd.ntmps37
  go_wp2
  go_ret
  exact ⟨rfl, rfl⟩

/-- One round of the reference's Pow. -/
theorem pow_round (a e p : Nat) : (a * a % p) ^ (e / 2) % p = (a ^ 2) ^ (e / 2) % p := by rw [← Nat.pow_mod, Nat.pow_two]
theorem rpow_step (o a e p : Nat) : (if e % 2 = 1 then o * a % p else o) * (a * a % p) ^ (e / 2) % p = o * a ^ e % p := by
  have h1 : a ^ e = (a ^ 2) ^ (e / 2) * a ^ (e % 2) := by
    rw [← Nat.pow_mul, ← Nat.pow_add]; congr 1; omega
  rw [Nat.mul_mod, pow_round, ← Nat.mul_mod]
  by_cases hc : e % 2 = 1
  · rw [if_pos hc, h1, hc, Nat.pow_one, Nat.mod_mul_mod]; congr 1; ac_rfl
  · rw [if_neg hc, h1, show e % 2 = 0 from by omega, Nat.pow_zero, Nat.mul_one]

set_option maxHeartbeats 800000 in
theorem rpow_any (a e p : Nat) (ha : a < 4294967296) (he : e < 18446744073709551616) (hp : p < 4294967296) (hp0 : 0 < p) (w : World) :
    Calls Tryd.prog 33 #[.int .u32 (a : Int), .int .u64 (e : Int), .int .u32 (p : Int)] w fun r w' => r = .returned (.int .u32 ((a ^ e % p : Nat) : Int)) ∧ w' = w := by
  have t2 : ((p : Int) == 0) = false := by simp; omega
  have t3 : (1 : Int) % (p : Int) = ((1 % p : Nat) : Int) := cast_mod 1 p
  have h1 : 1 % p < p := Nat.mod_lt _ hp0
  obtain ⟨R, hR⟩ : ∃ R, R = a ^ e % p := ⟨_, rfl⟩
  have hs : 1 % p * a ^ e % p = R := by rw [Nat.mod_mul_mod, Nat.one_mul, hR]
  obtain ⟨o1, ho1⟩ : ∃ o1, o1 = 1 % p := ⟨_, rfl⟩
  rw [← ho1] at t3 h1 hs
  have T3 := Lib.hid t3
  clear t3
  rw [← hR]
  have Hs := Lib.hid hs
  clear hR hs ho1
  go_enter Tryd.func33, Tryd.ntmps33
  go_wp2
  go_loop [0, 1, 7] (fun av ev ov => ∃ (x k o : Nat), av = .int .u32 (x : Int) ∧ ev = .int .u64 (k : Int) ∧ ov = .int .u32 (o : Int) ∧ x < 4294967296 ∧ k < 18446744073709551616 ∧ o < p ∧ o * x ^ k % p = R) (fun _ ev _ => (intOf ev).toNat)
  case atStart => exact ⟨a, e, o1, rfl, rfl, by rw [T3.out], ha, he, h1, Hs.out⟩
  case round =>
    obtain ⟨x, k, o, rfl, rfl, rfl, hx, hk, ho, hrel⟩ := hrel
    by_cases hk0 : k = 0
    · subst hk0
      have : o = R := by rw [← hrel, Nat.pow_zero, Nat.mul_one, Nat.mod_eq_of_lt ho]
      subst this
      clear hrel
      go_wp2
      go_ret
      exact ⟨rfl, rfl⟩
    · have hst := rpow_step o x k p
      rw [hrel] at hst
      have hxx : x * x % p < p := Nat.mod_lt _ hp0
      have hox : o * x % p < p := Nat.mod_lt _ hp0
      obtain ⟨xx, hxe⟩ : ∃ xx, xx = x * x % p := ⟨_, rfl⟩
      obtain ⟨ox, hoe⟩ : ∃ ox, ox = o * x % p := ⟨_, rfl⟩
      have Hxx := Lib.hid (fun W => hxe ▸ rmul_any x x p hx hx hp hp0 W)
      have Hox := Lib.hid (fun W => hoe ▸ rmul_any o x p (by omega) hx hp hp0 W)
      rw [← hxe] at hst hxx
      rw [← hoe] at hst hox
      obtain ⟨d, hd⟩ : ∃ d, d = k / 2 := ⟨_, rfl⟩
      have t4 : (k : Int) / 2 = (d : Int) := by omega
      rw [← hd] at hst
      have hdk : d < k := by omega
      have hk1 : 0 < k := by omega
      clear hrel hxe hoe hd hk0
      by_cases hc : k % 2 = 1
      · rw [if_pos hc] at hst
        have Hst := Lib.hid hst
        have t5 : ((k : Int) % 2 == 1) = true := by simp; omega
        clear hst hc
        go_wp2_with fail
        refine (Hox.out _).mono ?_
        rintro _ _ ⟨rfl, rfl⟩
        go_wp2_with fail
        refine (Hxx.out _).mono ?_
        rintro _ _ ⟨rfl, rfl⟩
        go_wp2
        go_round
        case rel => exact ⟨xx, d, ox, rfl, rfl, rfl, by omega, by omega, hox, Hst.out⟩
        case measure => simp [intOf]; omega
      · rw [if_neg hc] at hst
        have Hst := Lib.hid hst
        have t5 : ((k : Int) % 2 == 1) = false := by simp; omega
        clear hst hc
        go_wp2_with fail
        refine (Hxx.out _).mono ?_
        rintro _ _ ⟨rfl, rfl⟩
        go_wp2
        go_round
        case rel => exact ⟨xx, d, o, rfl, rfl, rfl, by omega, by omega, ho, Hst.out⟩
        case measure => simp [intOf]; omega

set_option maxHeartbeats 400000 in
theorem rinv_any (a p : Nat) (ha : a < 4294967296) (hp : p < 4294967296) (hp1 : 1 < p) (w : World) :
    Calls Tryd.prog 56 #[.int .u32 (a : Int), .int .u32 (p : Int)] w fun r w' => r = .returned (.int .u32 ((a ^ (p - 2) % p : Nat) : Int)) ∧ w' = w := by
  obtain ⟨e, he⟩ : ∃ e, e = p - 2 := ⟨_, rfl⟩
  have H := Lib.hid (fun W => rpow_any a e p ha (by omega) hp (by omega) W)
  have t1 : (p : Int) - 2 = (e : Int) := by omega
  rw [← he]
  clear he
  go_enter Tryd.func56, Tryd.ntmps56
  go_wp2_with fail
  refine (H.out _).mono ?_
  rintro _ _ ⟨rfl, rfl⟩
  go_wp2
  go_ret
  exact ⟨rfl, rfl⟩

/-- told, of an answer as it is wanted, and of an error. -/
theorem told_right (x : Nat) (e : Int) (w : World) (he : e = 0) :
    Calls Tryd.prog 32 #[.int .u32 (x : Int), .int .i64 e, .int .u32 (x : Int), .int .i64 e] w fun r w' => r = .returned (.bool true) ∧ w' = w := by
  subst he
  have t1 : ((x : Int) == (x : Int)) = true := by simp
  go_enter Tryd.func32, Tryd.ntmps32
  go_wp2_with fail
  refine (num_any _ _).mono ?_
  rintro _ _ ⟨rfl, rfl⟩
  go_wp2
  go_ret
  exact ⟨rfl, rfl⟩
theorem told_error (y e : Int) (w : World) (he : (e != 0) = true) :
    Calls Tryd.prog 32 #[.int .u32 0, .int .i64 e, .int .u32 y, .int .i64 e] w fun r w' => r = .returned (.bool true) ∧ w' = w := by
  have t1 : ((e : Int) == (e : Int)) = true := by simp
  go_enter Tryd.func32, Tryd.ntmps32
  go_wp2_with fail
  refine (num_any _ _).mono ?_
  rintro _ _ ⟨rfl, rfl⟩
  go_wp2
  go_ret
  exact ⟨rfl, rfl⟩
end Go.Proofs.YtnjhppdcpjgfmaaDoor
