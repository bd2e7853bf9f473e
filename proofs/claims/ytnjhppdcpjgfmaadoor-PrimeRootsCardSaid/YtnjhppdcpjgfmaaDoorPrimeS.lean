/- Legendre's sign, and the walk of PrimeFermat: true. Conditions: p a prime; bases reads 2, 7, 61. -/
import Derived.Test.YtnjhppdcpjgfmaaDoorPrimeO
namespace Go.Proofs.YtnjhppdcpjgfmaaDoor
open Go.RowKit

set_option maxHeartbeats 400000 in
theorem isSquare_two (a : Nat) (w : World) :
    Calls Tryd.prog 58 #[.int .u32 (a : Int), .int .u32 2] w fun r w' => r = .returned (.bool true) ∧ w' = w := by
  go_enter Tryd.func58, Tryd.ntmps58
  go_wp2
  go_ret
  exact ⟨rfl, rfl⟩
/-- Is a, not 0 modulo p, a square, as the program asks? -/
def Sq (a p : Nat) : Prop := p = 2 ∨ a ^ ((p - 1) / 2) % p = 1
theorem isSquare_yes (a p : Nat) (ha : a < 4294967296) (hp : Pr p) (hlt : p < 4294967296) (h : Sq a p) (w : World) :
    Calls Tryd.prog 58 #[.int .u32 (a : Int), .int .u32 (p : Int)] w fun r w' => r = .returned (.bool true) ∧ w' = w := by
  by_cases h2 : p = 2
  · subst h2; exact isSquare_two a w
  · have := isSquare_any a p ((p - 1) / 2) ha hlt (by have := hp.1; omega) rfl w
    rwa [decide_eq_true (h.resolve_left h2)] at this
theorem isSquare_no (a p : Nat) (ha : a < 4294967296) (hp : Pr p) (hlt : p < 4294967296) (h : ¬ Sq a p) (w : World) :
    Calls Tryd.prog 58 #[.int .u32 (a : Int), .int .u32 (p : Int)] w fun r w' => r = .returned (.bool false) ∧ w' = w := by
  have h2 : p ≠ 2 := fun h2 => h (Or.inl h2)
  have := isSquare_any a p ((p - 1) / 2) ha hlt (by have := hp.1; omega) rfl w
  rwa [decide_eq_false (fun e => h (Or.inr e))] at this

set_option maxHeartbeats 400000 in
theorem leg_no (a p : Nat) (hp : ¬ Pr p) (hlt : p < 4294967296) (w : World) (hw : Bases w) :
    Calls Tryd.prog 34 #[.int .u32 (a : Int), .int .u32 (p : Int)] w fun r w' => r = .returned (.tuple #[.int .i64 0, .int .i64 40]) ∧ w' = w := by
  have Hw := Lib.hid hw
  have Hi := Lib.hid (fun W hW => is_no p hp hlt W hW)
  clear hw hp
  go_enter Tryd.func34, Tryd.ntmps34
  go_wp2_with fail
  refine (Hi.out _ Hw.out).mono ?_
  rintro _ _ ⟨rfl, rfl⟩
  go_wp2
  go_ret2
  exact ⟨rfl, rfl⟩
set_option maxHeartbeats 400000 in
theorem leg_zero (a p : Nat) (hp : Pr p) (hlt : p < 4294967296) (h0 : a % p = 0) (w : World) (hw : Bases w) :
    Calls Tryd.prog 34 #[.int .u32 (a : Int), .int .u32 (p : Int)] w fun r w' => r = .returned (.tuple #[.int .i64 0, .int .i64 0]) ∧ w' = w := by
  have Hw := Lib.hid hw
  have Hi := Lib.hid (fun W hW => is_yes p hp hlt W hW)
  have hp2 := hp.1
  have t0 : (a : Int) % (p : Int) = 0 := by rw [cast_mod, h0]; rfl
  have t1 : ((p : Int) == 0) = false := by simp; omega
  clear hw hp h0
  go_enter Tryd.func34, Tryd.ntmps34
  go_wp2_with fail
  refine (Hi.out _ Hw.out).mono ?_
  rintro _ _ ⟨rfl, rfl⟩
  go_wp2
  go_ret2
  exact ⟨rfl, rfl⟩
set_option maxHeartbeats 400000 in
theorem leg_one (a p : Nat) (ha : a < 4294967296) (hp : Pr p) (hlt : p < 4294967296) (h0 : a % p ≠ 0) (h : Sq a p) (w : World) (hw : Bases w) :
    Calls Tryd.prog 34 #[.int .u32 (a : Int), .int .u32 (p : Int)] w fun r w' => r = .returned (.tuple #[.int .i64 1, .int .i64 0]) ∧ w' = w := by
  have Hw := Lib.hid hw
  have Hi := Lib.hid (fun W hW => is_yes p hp hlt W hW)
  have Hs := Lib.hid (fun W => isSquare_yes a p ha hp hlt h W)
  have hp2 := hp.1
  have t0 : (a : Int) % (p : Int) = ((a % p : Nat) : Int) := cast_mod a p
  obtain ⟨c, hc⟩ : ∃ c, c = a % p := ⟨_, rfl⟩
  rw [← hc] at t0 h0
  have t1 : ((p : Int) == 0) = false := by simp; omega
  have t2 : ((c : Int) == 0) = false := by simp; omega
  clear hw hp h0 h hc
  go_enter Tryd.func34, Tryd.ntmps34
  go_wp2_with fail
  refine (Hi.out _ Hw.out).mono ?_
  rintro _ _ ⟨rfl, rfl⟩
  go_wp2_with fail
  refine (Hs.out _).mono ?_
  rintro _ _ ⟨rfl, rfl⟩
  go_wp2
  go_ret2
  exact ⟨rfl, rfl⟩
set_option maxHeartbeats 400000 in
theorem leg_minus (a p : Nat) (ha : a < 4294967296) (hp : Pr p) (hlt : p < 4294967296) (h0 : a % p ≠ 0) (h : ¬ Sq a p) (w : World) (hw : Bases w) :
    Calls Tryd.prog 34 #[.int .u32 (a : Int), .int .u32 (p : Int)] w fun r w' => r = .returned (.tuple #[.int .i64 (-1), .int .i64 0]) ∧ w' = w := by
  have Hw := Lib.hid hw
  have Hi := Lib.hid (fun W hW => is_yes p hp hlt W hW)
  have Hs := Lib.hid (fun W => isSquare_no a p ha hp hlt h W)
  have hp2 := hp.1
  have t0 : (a : Int) % (p : Int) = ((a % p : Nat) : Int) := cast_mod a p
  obtain ⟨c, hc⟩ : ∃ c, c = a % p := ⟨_, rfl⟩
  rw [← hc] at t0 h0
  have t1 : ((p : Int) == 0) = false := by simp; omega
  have t2 : ((c : Int) == 0) = false := by simp; omega
  clear hw hp h0 h hc
  go_enter Tryd.func34, Tryd.ntmps34
  go_wp2_with fail
  refine (Hi.out _ Hw.out).mono ?_
  rintro _ _ ⟨rfl, rfl⟩
  go_wp2_with fail
  refine (Hs.out _).mono ?_
  rintro _ _ ⟨rfl, rfl⟩
  go_wp2
  go_ret2
  exact ⟨rfl, rfl⟩

theorem zero_pow_mod {a p e : Nat} (h0 : a % p = 0) (he : 0 < e) : a ^ e % p = 0 := by rw [Nat.pow_mod, h0, Nat.zero_pow he, Nat.zero_mod]
theorem half_says {a p : Nat} (hp : Pr p) (h2 : 2 < p) (h0 : a % p ≠ 0) : a ^ ((p - 1) / 2) % p = 1 ∨ a ^ ((p - 1) / 2) % p = p - 1 := by
  refine hp.roots ?_ (Nat.mod_lt _ hp.pos)
  have ho := hp.odd h2
  rw [pow_square, show (p - 1) / 2 * 2 = p - 1 from by omega]
  exact hp.fermat fun hd => h0 (Nat.mod_eq_zero_of_dvd hd)

set_option maxHeartbeats 1600000 in
theorem fermat_two_zero (a : Nat) (ha : a < 4294967296) (h0 : a % 2 = 0) (w : World) (hw : Bases w) :
    Calls Tryd.prog 11 #[.int .u32 (a : Int), .int .u32 2] w fun r w' => r = .returned (.bool true) ∧ w' = w := by
  have Hw := Lib.hid hw
  have Hi := Lib.hid (fun W => ris_yes 2 pr_two (by decide) W)
  have a1 := fun W hW => ppow_yes a 2 2 ha (by decide) pr_two (by decide) W hW
  have a2 := fun W hW => ppow_yes a 1 2 ha (by decide) pr_two (by decide) W hW
  have a4 := fun W hW => ppow_yes a 0 2 ha (by decide) pr_two (by decide) W hW
  have e2 : a ^ 1 % 2 = 0 := by rw [Nat.pow_one]; omega
  have e1 : a ^ 2 % 2 = 0 := by rw [Nat.pow_mod, show a % 2 = 0 from by omega]
  have e4 : a ^ 0 % 2 = 1 := rfl
  have t1 : (a : Int) % 2 = 0 := by omega
  simp only [e1] at a1
  simp only [e2] at a2
  simp only [e4] at a4
  have A3 := Lib.hid (fun W hW => leg_zero a 2 pr_two (by decide) h0 W hW)
  have A1 := Lib.hid a1
  have A2 := Lib.hid a2
  have A4 := Lib.hid a4
  clear a1 a2 a4 e1 e2 e4 hw h0
  go_enter Tryd.func11, Tryd.ntmps11
  go_wp2_with fail
  refine (Hi.out _).mono ?_
  rintro _ _ ⟨rfl, rfl⟩
  go_wp2_with fail
  refine (A1.out _ Hw.out).mono ?_
  rintro _ _ ⟨rfl, rfl⟩
  go_wp2_with fail
  refine (A2.out _ Hw.out).mono ?_
  rintro _ _ ⟨rfl, rfl⟩
  go_wp2_with fail
  refine (A3.out _ Hw.out).mono ?_
  rintro _ _ ⟨rfl, rfl⟩
  go_wp2_with fail
  refine (A4.out _ Hw.out).mono ?_
  rintro _ _ ⟨rfl, rfl⟩
  go_wp2_with fail
  refine (num_any _ _).mono ?_
  rintro _ _ ⟨rfl, rfl⟩
  go_wp2_with fail
  refine (num_any _ _).mono ?_
  rintro _ _ ⟨rfl, rfl⟩
  go_wp2_with fail
  refine (num_any _ _).mono ?_
  rintro _ _ ⟨rfl, rfl⟩
  go_wp2_with fail
  refine (num_any _ _).mono ?_
  rintro _ _ ⟨rfl, rfl⟩
  go_wp2_with fail
  refine (awake_any _ Hw.out).mono ?_
  rintro _ _ ⟨rfl, rfl⟩
  go_wp2
  go_ret
  exact ⟨rfl, rfl⟩

set_option maxHeartbeats 1600000 in
theorem fermat_two_one (a : Nat) (ha : a < 4294967296) (h0 : a % 2 ≠ 0) (w : World) (hw : Bases w) :
    Calls Tryd.prog 11 #[.int .u32 (a : Int), .int .u32 2] w fun r w' => r = .returned (.bool true) ∧ w' = w := by
  have Hw := Lib.hid hw
  have Hi := Lib.hid (fun W => ris_yes 2 pr_two (by decide) W)
  have a1 := fun W hW => ppow_yes a 2 2 ha (by decide) pr_two (by decide) W hW
  have a2 := fun W hW => ppow_yes a 1 2 ha (by decide) pr_two (by decide) W hW
  have a4 := fun W hW => ppow_yes a 0 2 ha (by decide) pr_two (by decide) W hW
  have e2 : a ^ 1 % 2 = 1 := by rw [Nat.pow_one]; omega
  have e1 : a ^ 2 % 2 = 1 := by rw [Nat.pow_mod, show a % 2 = 1 from by omega]
  have e4 : a ^ 0 % 2 = 1 := rfl
  have t1 : (a : Int) % 2 = 1 := by omega
  simp only [e1] at a1
  simp only [e2] at a2
  simp only [e4] at a4
  have A3 := Lib.hid (fun W hW => leg_one a 2 ha pr_two (by decide) h0 (Or.inl rfl) W hW)
  have A1 := Lib.hid a1
  have A2 := Lib.hid a2
  have A4 := Lib.hid a4
  clear a1 a2 a4 e1 e2 e4 hw h0
  go_enter Tryd.func11, Tryd.ntmps11
  go_wp2_with fail
  refine (Hi.out _).mono ?_
  rintro _ _ ⟨rfl, rfl⟩
  go_wp2_with fail
  refine (A1.out _ Hw.out).mono ?_
  rintro _ _ ⟨rfl, rfl⟩
  go_wp2_with fail
  refine (A2.out _ Hw.out).mono ?_
  rintro _ _ ⟨rfl, rfl⟩
  go_wp2_with fail
  refine (A3.out _ Hw.out).mono ?_
  rintro _ _ ⟨rfl, rfl⟩
  go_wp2_with fail
  refine (A4.out _ Hw.out).mono ?_
  rintro _ _ ⟨rfl, rfl⟩
  go_wp2_with fail
  refine (num_any _ _).mono ?_
  rintro _ _ ⟨rfl, rfl⟩
  go_wp2_with fail
  refine (num_any _ _).mono ?_
  rintro _ _ ⟨rfl, rfl⟩
  go_wp2_with fail
  refine (num_any _ _).mono ?_
  rintro _ _ ⟨rfl, rfl⟩
  go_wp2_with fail
  refine (num_any _ _).mono ?_
  rintro _ _ ⟨rfl, rfl⟩
  go_wp2_with fail
  refine (awake_any _ Hw.out).mono ?_
  rintro _ _ ⟨rfl, rfl⟩
  go_wp2
  go_ret
  exact ⟨rfl, rfl⟩

set_option maxHeartbeats 1600000 in
theorem fermat_zero (a : Nat) (ha : a < 4294967296) (p : Nat) (hp : Pr p) (hlt : p < 4294967296) (h2 : 2 < p) (h0 : a % p = 0) (w : World) (hw : Bases w) :
    Calls Tryd.prog 11 #[.int .u32 (a : Int), .int .u32 (p : Int)] w fun r w' => r = .returned (.bool true) ∧ w' = w := by
  have Hw := Lib.hid hw
  have Hi := Lib.hid (fun W => ris_yes p hp hlt W)
  have a1 := fun W hW => ppow_yes a p p ha (by omega) hp hlt W hW
  have a2 := fun W hW => ppow_yes a (p - 1) p ha (by omega) hp hlt W hW
  have a4 := fun W hW => ppow_yes a ((p - 1) / 2) p ha (by omega) hp hlt W hW
  simp only [hp.fermat' a] at a1
  simp only [h0] at a1
  simp only [zero_pow_mod h0 (show 0 < p - 1 by omega)] at a2
  simp only [zero_pow_mod h0 (show 0 < (p - 1) / 2 by omega)] at a4
  have A3 := Lib.hid (fun W hW => leg_zero a p hp hlt h0 W hW)
  have t3 : (a : Int) % (p : Int) = 0 := by rw [cast_mod, h0]; rfl
  obtain ⟨m, hm⟩ : ∃ m, m = p - 1 := ⟨_, rfl⟩
  have tm : (p : Int) - 1 = (m : Int) := by omega
  obtain ⟨e, he⟩ : ∃ e, e = m / 2 := ⟨_, rfl⟩
  have te : (m : Int) / 2 = (e : Int) := by omega
  simp only [← hm] at a2 a4
  simp only [← he] at a4
  have hm2 : 2 ≤ m := by omega
  have hmp : m < p := by omega
  have u0 : ((0 : Int) == (m : Int)) = false := by simp; omega
  have u1 : ((1 : Int) == (m : Int)) = false := by simp; omega
  have u2 : ((m : Int) == 0) = false := by simp; omega
  have u3 : ((m : Int) == 1) = false := by simp; omega
  have u4 : ((p : Int) == 2) = false := by simp; omega
  have u5 : ((p : Int) == 0) = false := by simp; omega
  have A1 := Lib.hid a1
  have A2 := Lib.hid a2
  have A4 := Lib.hid a4
  clear a1 a2 a4 hw h0 hm he hp
  go_enter Tryd.func11, Tryd.ntmps11
  go_wp2_with fail
  refine (Hi.out _).mono ?_
  rintro _ _ ⟨rfl, rfl⟩
  go_wp2_with fail
  refine (A1.out _ Hw.out).mono ?_
  rintro _ _ ⟨rfl, rfl⟩
  go_wp2_with fail
  refine (A2.out _ Hw.out).mono ?_
  rintro _ _ ⟨rfl, rfl⟩
  go_wp2_with fail
  refine (A3.out _ Hw.out).mono ?_
  rintro _ _ ⟨rfl, rfl⟩
  go_wp2_with fail
  refine (A4.out _ Hw.out).mono ?_
  rintro _ _ ⟨rfl, rfl⟩
  go_wp2_with fail
  refine (num_any _ _).mono ?_
  rintro _ _ ⟨rfl, rfl⟩
  go_wp2_with fail
  refine (num_any _ _).mono ?_
  rintro _ _ ⟨rfl, rfl⟩
  go_wp2_with fail
  refine (num_any _ _).mono ?_
  rintro _ _ ⟨rfl, rfl⟩
  go_wp2_with fail
  refine (num_any _ _).mono ?_
  rintro _ _ ⟨rfl, rfl⟩
  go_wp2_with fail
  refine (awake_any _ Hw.out).mono ?_
  rintro _ _ ⟨rfl, rfl⟩
  go_wp2
  go_ret
  exact ⟨rfl, rfl⟩

set_option maxHeartbeats 1600000 in
theorem fermat_one (a : Nat) (ha : a < 4294967296) (p : Nat) (hp : Pr p) (hlt : p < 4294967296) (h2 : 2 < p) (h0 : a % p ≠ 0) (hs : a ^ ((p - 1) / 2) % p = 1) (w : World) (hw : Bases w) :
    Calls Tryd.prog 11 #[.int .u32 (a : Int), .int .u32 (p : Int)] w fun r w' => r = .returned (.bool true) ∧ w' = w := by
  have Hw := Lib.hid hw
  have Hi := Lib.hid (fun W => ris_yes p hp hlt W)
  have a1 := fun W hW => ppow_yes a p p ha (by omega) hp hlt W hW
  have a2 := fun W hW => ppow_yes a (p - 1) p ha (by omega) hp hlt W hW
  have a4 := fun W hW => ppow_yes a ((p - 1) / 2) p ha (by omega) hp hlt W hW
  simp only [hp.fermat' a] at a1
  simp only [hp.fermat fun hd => h0 (Nat.mod_eq_zero_of_dvd hd)] at a2
  have t3 : (a : Int) % (p : Int) = ((a % p : Nat) : Int) := cast_mod a p
  simp only [hs] at a4
  have A3 := Lib.hid (fun W hW => leg_one a p ha hp hlt h0 (Or.inr hs) W hW)
  obtain ⟨r, hr⟩ : ∃ r, r = a % p := ⟨_, rfl⟩
  simp only [← hr] at a1 t3 h0
  have t4 : ((r : Int) == 0) = false := by simp; omega
  have t5 : ((r : Int) != 0) = true := by simp; omega
  obtain ⟨m, hm⟩ : ∃ m, m = p - 1 := ⟨_, rfl⟩
  have tm : (p : Int) - 1 = (m : Int) := by omega
  obtain ⟨e, he⟩ : ∃ e, e = m / 2 := ⟨_, rfl⟩
  have te : (m : Int) / 2 = (e : Int) := by omega
  simp only [← hm] at a2 a4
  simp only [← he] at a4
  have hm2 : 2 ≤ m := by omega
  have hmp : m < p := by omega
  have u0 : ((0 : Int) == (m : Int)) = false := by simp; omega
  have u1 : ((1 : Int) == (m : Int)) = false := by simp; omega
  have u2 : ((m : Int) == 0) = false := by simp; omega
  have u3 : ((m : Int) == 1) = false := by simp; omega
  have u4 : ((p : Int) == 2) = false := by simp; omega
  have u5 : ((p : Int) == 0) = false := by simp; omega
  have A1 := Lib.hid a1
  have A2 := Lib.hid a2
  have A4 := Lib.hid a4
  clear a1 a2 a4 hw h0 hm he hp hs hr
  go_enter Tryd.func11, Tryd.ntmps11
  go_wp2_with fail
  refine (Hi.out _).mono ?_
  rintro _ _ ⟨rfl, rfl⟩
  go_wp2_with fail
  refine (A1.out _ Hw.out).mono ?_
  rintro _ _ ⟨rfl, rfl⟩
  go_wp2_with fail
  refine (A2.out _ Hw.out).mono ?_
  rintro _ _ ⟨rfl, rfl⟩
  go_wp2_with fail
  refine (A3.out _ Hw.out).mono ?_
  rintro _ _ ⟨rfl, rfl⟩
  go_wp2_with fail
  refine (A4.out _ Hw.out).mono ?_
  rintro _ _ ⟨rfl, rfl⟩
  go_wp2_with fail
  refine (num_any _ _).mono ?_
  rintro _ _ ⟨rfl, rfl⟩
  go_wp2_with fail
  refine (num_any _ _).mono ?_
  rintro _ _ ⟨rfl, rfl⟩
  go_wp2_with fail
  refine (num_any _ _).mono ?_
  rintro _ _ ⟨rfl, rfl⟩
  go_wp2_with fail
  refine (num_any _ _).mono ?_
  rintro _ _ ⟨rfl, rfl⟩
  go_wp2_with fail
  refine (awake_any _ Hw.out).mono ?_
  rintro _ _ ⟨rfl, rfl⟩
  go_wp2
  go_ret
  exact ⟨rfl, rfl⟩

set_option maxHeartbeats 1600000 in
theorem fermat_minus (a : Nat) (ha : a < 4294967296) (p : Nat) (hp : Pr p) (hlt : p < 4294967296) (h2 : 2 < p) (h0 : a % p ≠ 0) (hs : ¬ a ^ ((p - 1) / 2) % p = 1) (w : World) (hw : Bases w) :
    Calls Tryd.prog 11 #[.int .u32 (a : Int), .int .u32 (p : Int)] w fun r w' => r = .returned (.bool true) ∧ w' = w := by
  have Hw := Lib.hid hw
  have Hi := Lib.hid (fun W => ris_yes p hp hlt W)
  have a1 := fun W hW => ppow_yes a p p ha (by omega) hp hlt W hW
  have a2 := fun W hW => ppow_yes a (p - 1) p ha (by omega) hp hlt W hW
  have a4 := fun W hW => ppow_yes a ((p - 1) / 2) p ha (by omega) hp hlt W hW
  simp only [hp.fermat' a] at a1
  simp only [hp.fermat fun hd => h0 (Nat.mod_eq_zero_of_dvd hd)] at a2
  have t3 : (a : Int) % (p : Int) = ((a % p : Nat) : Int) := cast_mod a p
  have hs2 := (half_says hp h2 h0).resolve_left hs
  simp only [hs2] at a4
  have A3 := Lib.hid (fun W hW => leg_minus a p ha hp hlt h0 (fun h => h.elim (fun e => by omega) hs) W hW)
  obtain ⟨r, hr⟩ : ∃ r, r = a % p := ⟨_, rfl⟩
  simp only [← hr] at a1 t3 h0
  have t4 : ((r : Int) == 0) = false := by simp; omega
  have t5 : ((r : Int) != 0) = true := by simp; omega
  obtain ⟨m, hm⟩ : ∃ m, m = p - 1 := ⟨_, rfl⟩
  have tm : (p : Int) - 1 = (m : Int) := by omega
  obtain ⟨e, he⟩ : ∃ e, e = m / 2 := ⟨_, rfl⟩
  have te : (m : Int) / 2 = (e : Int) := by omega
  simp only [← hm] at a2 a4
  simp only [← he] at a4
  have hm2 : 2 ≤ m := by omega
  have hmp : m < p := by omega
  have u0 : ((0 : Int) == (m : Int)) = false := by simp; omega
  have u1 : ((1 : Int) == (m : Int)) = false := by simp; omega
  have u2 : ((m : Int) == 0) = false := by simp; omega
  have u3 : ((m : Int) == 1) = false := by simp; omega
  have u4 : ((p : Int) == 2) = false := by simp; omega
  have u5 : ((p : Int) == 0) = false := by simp; omega
  have A1 := Lib.hid a1
  have A2 := Lib.hid a2
  have A4 := Lib.hid a4
  clear a1 a2 a4 hw h0 hm he hp hs hr hs2
  go_enter Tryd.func11, Tryd.ntmps11
  go_wp2_with fail
  refine (Hi.out _).mono ?_
  rintro _ _ ⟨rfl, rfl⟩
  go_wp2_with fail
  refine (A1.out _ Hw.out).mono ?_
  rintro _ _ ⟨rfl, rfl⟩
  go_wp2_with fail
  refine (A2.out _ Hw.out).mono ?_
  rintro _ _ ⟨rfl, rfl⟩
  go_wp2_with fail
  refine (A3.out _ Hw.out).mono ?_
  rintro _ _ ⟨rfl, rfl⟩
  go_wp2_with fail
  refine (A4.out _ Hw.out).mono ?_
  rintro _ _ ⟨rfl, rfl⟩
  go_wp2_with fail
  refine (num_any _ _).mono ?_
  rintro _ _ ⟨rfl, rfl⟩
  go_wp2_with fail
  refine (num_any _ _).mono ?_
  rintro _ _ ⟨rfl, rfl⟩
  go_wp2_with fail
  refine (num_any _ _).mono ?_
  rintro _ _ ⟨rfl, rfl⟩
  go_wp2_with fail
  refine (num_any _ _).mono ?_
  rintro _ _ ⟨rfl, rfl⟩
  go_wp2_with fail
  refine (awake_any _ Hw.out).mono ?_
  rintro _ _ ⟨rfl, rfl⟩
  go_wp2
  go_ret
  exact ⟨rfl, rfl⟩

set_option maxHeartbeats 400000 in
theorem fermat_none (a p : Nat) (hp : ¬ Pr p) (hlt : p < 4294967296) (w : World) (hw : Bases w) :
    Calls Tryd.prog 11 #[.int .u32 (a : Int), .int .u32 (p : Int)] w fun r w' => r = .returned (.bool true) ∧ w' = w := by
  have Hw := Lib.hid hw
  have Hi := Lib.hid (fun W => ris_no p hp hlt W)
  clear hw hp
  go_enter Tryd.func11, Tryd.ntmps11
  go_wp2_with fail
  refine (Hi.out _).mono ?_
  rintro _ _ ⟨rfl, rfl⟩
  go_wp2_with fail
  refine (awake_any _ Hw.out).mono ?_
  rintro _ _ ⟨rfl, rfl⟩
  go_wp2
  go_ret
  exact ⟨rfl, rfl⟩
theorem primeFermat_walk (a : Nat) (ha : a < 4294967296) (p : Nat) (hlt : p < 4294967296) (w : World) (hw : Bases w) :
    Calls Tryd.prog 11 #[.int .u32 (a : Int), .int .u32 (p : Int)] w fun r w' => r = .returned (.bool true) ∧ Below w.heap.size w w' := by
  have key : Calls Tryd.prog 11 #[.int .u32 (a : Int), .int .u32 (p : Int)] w fun r w' => r = .returned (.bool true) ∧ w' = w := by
    by_cases hp : Pr p
    · by_cases h2 : p = 2
      · subst h2
        by_cases h0 : a % 2 = 0
        · exact fermat_two_zero a ha h0 w hw
        · exact fermat_two_one a ha h0 w hw
      · have h3 : 2 < p := by have := hp.1; omega
        by_cases h0 : a % p = 0
        · exact fermat_zero a ha p hp hlt h3 h0 w hw
        · by_cases hs : a ^ ((p - 1) / 2) % p = 1
          · exact fermat_one a ha p hp hlt h3 h0 hs w hw
          · exact fermat_minus a ha p hp hlt h3 h0 hs w hw
    · exact fermat_none a p hp hlt w hw
  refine key.mono ?_
  rintro _ _ ⟨rfl, rfl⟩
  exact ⟨rfl, Below.refl _ _⟩
end Go.Proofs.YtnjhppdcpjgfmaaDoor
