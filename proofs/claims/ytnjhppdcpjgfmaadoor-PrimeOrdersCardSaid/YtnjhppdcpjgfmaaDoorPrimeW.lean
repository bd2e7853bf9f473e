/- The walk of PrimePeriods: true. Conditions: bases reads 2, 7, 61. -/
import Derived.Test.YtnjhppdcpjgfmaaDoorPrimeV
namespace Go.Proofs.YtnjhppdcpjgfmaaDoor
open Go.RowKit

set_option maxHeartbeats 800000 in
theorem periods_none (a e p : Nat) (hp : ¬ Pr p) (hlt : p < 4294967296) (w : World) (hw : Bases w) :
    Calls Tryd.prog 12 #[.int .u32 (a : Int), .int .u64 (e : Int), .int .u32 (p : Int)] w fun r w' => r = .returned (.bool true) ∧ Below w.heap.size w w' := by
  have Hw := Lib.hid hw
  have Hi := Lib.hid (fun W => ris_no p hp hlt W)
  clear hw hp
  go_enter Tryd.func12, Tryd.ntmps12
  go_wp2_with fail
  refine (Hi.out _).mono ?_
  rintro _ _ ⟨rfl, rfl⟩
  go_wp2_with fail
  refine (awake_any _ Hw.out).mono ?_
  rintro _ _ ⟨rfl, rfl⟩
  go_wp2
  go_ret
  exact ⟨rfl, Below.refl _ _⟩
set_option maxHeartbeats 800000 in
theorem periods_zero (a e p : Nat) (hp : Pr p) (hlt : p < 4294967296) (h0 : a % p = 0) (w : World) (hw : Bases w) :
    Calls Tryd.prog 12 #[.int .u32 (a : Int), .int .u64 (e : Int), .int .u32 (p : Int)] w fun r w' => r = .returned (.bool true) ∧ Below w.heap.size w w' := by
  have Hw := Lib.hid hw
  have hp1 := hp.1
  have Hi := Lib.hid (fun W => ris_yes p hp hlt W)
  have t0 : (a : Int) % (p : Int) = 0 := by rw [cast_mod, h0]; rfl
  have t2 : ((p : Int) == 0) = false := by simp; omega
  clear hw hp h0
  go_enter Tryd.func12, Tryd.ntmps12
  go_wp2_with fail
  refine (Hi.out _).mono ?_
  rintro _ _ ⟨rfl, rfl⟩
  go_wp2_with fail
  refine (awake_any _ Hw.out).mono ?_
  rintro _ _ ⟨rfl, rfl⟩
  go_wp2
  go_ret
  exact ⟨rfl, Below.refl _ _⟩
set_option maxHeartbeats 1600000 in
theorem periods_yes (a e p o : Nat) (ha : a < 4294967296) (he : e < 18446744073709551616) (hp : Pr p) (hlt : p < 4294967296) (h0 : a % p ≠ 0) (ho : IsOrd a p o) (hod : o ∣ p - 1) (hoe : o ∣ e) (w : World) (hw : Bases w) :
    Calls Tryd.prog 12 #[.int .u32 (a : Int), .int .u64 (e : Int), .int .u32 (p : Int)] w fun r w' => r = .returned (.bool true) ∧ Below w.heap.size w w' := by
  have Hw := Lib.hid hw
  have hp1 := hp.1
  have Hi := Lib.hid (fun W => ris_yes p hp hlt W)
  have Ho := Lib.hid (show ∀ W, Bases W → Calls Tryd.prog 39 #[.int .u32 (a : Int), .int .u32 (p : Int)] W (fun r w' => r = .returned (.tuple #[.int .u32 (o : Int), .int .i64 0]) ∧ Below W.heap.size W w') from fun W hW => (pord_yes a p ha hp hlt h0 W hW).mono fun _ _ ⟨o', e1, e2, _, e4⟩ => ⟨by rw [e1, e2.unique ho], e4⟩)
  have hpow := fun W hW => ppow_yes a e p ha he hp hlt W hW
  have t0 : (a : Int) % (p : Int) = ((a % p : Nat) : Int) := cast_mod a p
  have ho0 := ho.1
  have hople : o ≤ p - 1 := Nat.le_of_dvd (by omega) hod
  have tod : (p - 1) % o = 0 := Nat.mod_eq_zero_of_dvd hod
  obtain ⟨m, hm⟩ : ∃ m, m = p - 1 := ⟨_, rfl⟩
  have tm : (p : Int) - 1 = (m : Int) := by omega
  rw [← hm] at tod hople
  have t3 : (m : Int) % (o : Int) = 0 := by rw [cast_mod, tod]; rfl
  have hx : a ^ e % p = 1 := pow_of_dvd hp1 ho.2.1 hoe
  simp only [hx] at hpow
  have t4 : (e : Int) % (o : Int) = 0 := by rw [cast_mod, Nat.mod_eq_zero_of_dvd hoe]; rfl
  clear hx
  have Hpow := Lib.hid hpow
  obtain ⟨x, hxe⟩ : ∃ x, x = a % p := ⟨_, rfl⟩
  rw [← hxe] at t0 h0
  have t1 : ((x : Int) == 0) = false := by simp; omega
  have t2 : ((p : Int) == 0) = false := by simp; omega
  have t7 : ((o : Int) == 0) = false := by simp; omega
  clear hw hp h0 hxe hpow ho hod hoe tod hm
  go_enter Tryd.func12, Tryd.ntmps12
  go_wp2_with fail
  refine (Hi.out _).mono ?_
  rintro _ _ ⟨rfl, rfl⟩
  go_wp2_with fail
  refine (Ho.out _ Hw.out).mono ?_
  rintro _ w1 ⟨rfl, hb⟩
  have Hw1 := Lib.hid (Hw.out.keep hb Hw.out.lt)
  go_wp2_with fail
  refine (num_any _ _).mono ?_
  rintro _ _ ⟨rfl, rfl⟩
  go_wp2_with fail
  refine (Hpow.out _ Hw1.out).mono ?_
  rintro _ _ ⟨rfl, rfl⟩
  go_wp2_with fail
  refine (num_any _ _).mono ?_
  rintro _ _ ⟨rfl, rfl⟩
  go_wp2_with fail
  refine (awake_any _ Hw1.out).mono ?_
  rintro _ _ ⟨rfl, rfl⟩
  go_wp2
  go_ret
  exact ⟨rfl, hb⟩
set_option maxHeartbeats 1600000 in
theorem periods_no (a e p o : Nat) (ha : a < 4294967296) (he : e < 18446744073709551616) (hp : Pr p) (hlt : p < 4294967296) (h0 : a % p ≠ 0) (ho : IsOrd a p o) (hod : o ∣ p - 1) (hoe : ¬ o ∣ e) (w : World) (hw : Bases w) :
    Calls Tryd.prog 12 #[.int .u32 (a : Int), .int .u64 (e : Int), .int .u32 (p : Int)] w fun r w' => r = .returned (.bool true) ∧ Below w.heap.size w w' := by
  have Hw := Lib.hid hw
  have hp1 := hp.1
  have Hi := Lib.hid (fun W => ris_yes p hp hlt W)
  have Ho := Lib.hid (show ∀ W, Bases W → Calls Tryd.prog 39 #[.int .u32 (a : Int), .int .u32 (p : Int)] W (fun r w' => r = .returned (.tuple #[.int .u32 (o : Int), .int .i64 0]) ∧ Below W.heap.size W w') from fun W hW => (pord_yes a p ha hp hlt h0 W hW).mono fun _ _ ⟨o', e1, e2, _, e4⟩ => ⟨by rw [e1, e2.unique ho], e4⟩)
  have hpow := fun W hW => ppow_yes a e p ha he hp hlt W hW
  have t0 : (a : Int) % (p : Int) = ((a % p : Nat) : Int) := cast_mod a p
  have ho0 := ho.1
  have hople : o ≤ p - 1 := Nat.le_of_dvd (by omega) hod
  have tod : (p - 1) % o = 0 := Nat.mod_eq_zero_of_dvd hod
  obtain ⟨m, hm⟩ : ∃ m, m = p - 1 := ⟨_, rfl⟩
  have tm : (p : Int) - 1 = (m : Int) := by omega
  rw [← hm] at tod hople
  have t3 : (m : Int) % (o : Int) = 0 := by rw [cast_mod, tod]; rfl
  have hx : a ^ e % p ≠ 1 := fun h => hoe (ho.2.2 e h)
  obtain ⟨y, hy⟩ : ∃ y, y = a ^ e % p := ⟨_, rfl⟩
  simp only [← hy] at hpow hx
  have t5 : ((y : Int) == 1) = false := by simp; omega
  have hz : e % o ≠ 0 := fun h => hoe (Nat.dvd_of_mod_eq_zero h)
  have t4 : (e : Int) % (o : Int) = ((e % o : Nat) : Int) := cast_mod e o
  obtain ⟨z, hze⟩ : ∃ z, z = e % o := ⟨_, rfl⟩
  rw [← hze] at t4 hz
  have t6 : ((z : Int) == 0) = false := by simp; omega
  clear hx hz hze hy
  have Hpow := Lib.hid hpow
  obtain ⟨x, hxe⟩ : ∃ x, x = a % p := ⟨_, rfl⟩
  rw [← hxe] at t0 h0
  have t1 : ((x : Int) == 0) = false := by simp; omega
  have t2 : ((p : Int) == 0) = false := by simp; omega
  have t7 : ((o : Int) == 0) = false := by simp; omega
  clear hw hp h0 hxe hpow ho hod hoe tod hm
  go_enter Tryd.func12, Tryd.ntmps12
  go_wp2_with fail
  refine (Hi.out _).mono ?_
  rintro _ _ ⟨rfl, rfl⟩
  go_wp2_with fail
  refine (Ho.out _ Hw.out).mono ?_
  rintro _ w1 ⟨rfl, hb⟩
  have Hw1 := Lib.hid (Hw.out.keep hb Hw.out.lt)
  go_wp2_with fail
  refine (num_any _ _).mono ?_
  rintro _ _ ⟨rfl, rfl⟩
  go_wp2_with fail
  refine (Hpow.out _ Hw1.out).mono ?_
  rintro _ _ ⟨rfl, rfl⟩
  go_wp2_with fail
  refine (num_any _ _).mono ?_
  rintro _ _ ⟨rfl, rfl⟩
  go_wp2_with fail
  refine (awake_any _ Hw1.out).mono ?_
  rintro _ _ ⟨rfl, rfl⟩
  go_wp2
  go_ret
  exact ⟨rfl, hb⟩

theorem exists_ord {a p : Nat} (hp : Pr p) (h0 : a % p ≠ 0) : ∃ o, IsOrd a p o ∧ o ∣ p - 1 := by
  have key : ∀ n d, d ≤ n → 0 < d → d ∣ p - 1 → a ^ d % p = 1 → ∃ o, IsOrd a p o ∧ o ∣ p - 1 := by
    intro n
    induction n with
    | zero => intro d h1 h2; omega
    | succ n ih =>
      intro d h1 h2 h3 h4
      by_cases hm : ∀ f, Pr f → Min1 a p f d
      · exact ⟨d, isOrd_of_min hp.1 h2 h4 hm, h3⟩
      · obtain ⟨f, hf⟩ := Classical.not_forall.1 hm
        obtain ⟨hf, hn⟩ := Classical.not_imp.1 hf
        obtain ⟨hd, hb⟩ := Classical.not_imp.1 hn
        have hb := Classical.not_not.1 hb
        have hlt : d / f < d := Nat.div_lt_self h2 hf.1
        exact ih (d / f) (by omega) (Nat.div_pos (Nat.le_of_dvd h2 hd) hf.pos) (Nat.dvd_trans (Nat.div_dvd_of_dvd hd) h3) hb
  exact key (p - 1) (p - 1) (Nat.le_refl _) (by have := hp.1; omega) (Nat.dvd_refl _) (hp.fermat fun hd => h0 (Nat.mod_eq_zero_of_dvd hd))
theorem primePeriods_walk (a : Nat) (ha : a < 4294967296) (e : Nat) (he : e < 18446744073709551616) (p : Nat) (hlt : p < 4294967296) (w : World) (hw : Bases w) :
    Calls Tryd.prog 12 #[.int .u32 (a : Int), .int .u64 (e : Int), .int .u32 (p : Int)] w fun r w' => r = .returned (.bool true) ∧ Below w.heap.size w w' := by
  by_cases hp : Pr p
  · by_cases h0 : a % p = 0
    · exact periods_zero a e p hp hlt h0 w hw
    · obtain ⟨o, ho, hod⟩ := exists_ord hp h0
      by_cases hoe : o ∣ e
      · exact periods_yes a e p o ha he hp hlt h0 ho hod hoe w hw
      · exact periods_no a e p o ha he hp hlt h0 ho hod hoe w hw
  · exact periods_none a e p hp hlt w hw
end Go.Proofs.YtnjhppdcpjgfmaaDoor
