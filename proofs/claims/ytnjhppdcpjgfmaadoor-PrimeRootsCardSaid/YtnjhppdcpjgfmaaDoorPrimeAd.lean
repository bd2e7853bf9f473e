/- The reference's Legendre, and the walk of PrimeRoots: true. Conditions: bases reads 2, 7, 61. -/
import Derived.Test.YtnjhppdcpjgfmaaDoorPrimeAc
namespace Go.Proofs.YtnjhppdcpjgfmaaDoor
open Go.RowKit

theorem rleg_zero (a p : Nat) (hp1 : 1 < p) (h0 : a % p = 0) (w : World) :
    Calls Tryd.prog 36 #[.int .u32 (a : Int), .int .u32 (p : Int)] w fun r w' => r = .returned (.int .i64 0) ∧ w' = w := by
  have t0 : (a : Int) % (p : Int) = 0 := by rw [cast_mod, h0]; rfl
  have t2 : ((p : Int) == 0) = false := by simp; omega
  clear h0
  go_enter Tryd.func36, Tryd.ntmps36
  go_wp2
  go_ret
  exact ⟨rfl, rfl⟩
theorem rleg_two (a : Nat) (h0 : a % 2 ≠ 0) (w : World) :
    Calls Tryd.prog 36 #[.int .u32 (a : Int), .int .u32 2] w fun r w' => r = .returned (.int .i64 1) ∧ w' = w := by
  have t0 : (a : Int) % 2 = 1 := by omega
  clear h0
  go_enter Tryd.func36, Tryd.ntmps36
  go_wp2
  go_ret
  exact ⟨rfl, rfl⟩
set_option maxHeartbeats 400000 in
theorem rleg_one (a p : Nat) (ha : a < 4294967296) (hlt : p < 4294967296) (h2 : 2 < p) (h0 : a % p ≠ 0) (hs : a ^ ((p - 1) / 2) % p = 1) (w : World) :
    Calls Tryd.prog 36 #[.int .u32 (a : Int), .int .u32 (p : Int)] w fun r w' => r = .returned (.int .i64 1) ∧ w' = w := by
  have hpow := fun W => rpow_any a ((p - 1) / 2) p ha (by omega) hlt (by omega) W
  have t0 : (a : Int) % (p : Int) = ((a % p : Nat) : Int) := cast_mod a p
  obtain ⟨c, hc⟩ : ∃ c, c = a % p := ⟨_, rfl⟩
  rw [← hc] at t0 h0
  have t1 : ((c : Int) == 0) = false := by simp; omega
  have t2 : ((p : Int) == 0) = false := by simp; omega
  have t3 : ((p : Int) == 2) = false := by simp; omega
  obtain ⟨m, hm⟩ : ∃ m, m = p - 1 := ⟨_, rfl⟩
  have tm : (p : Int) - 1 = (m : Int) := by omega
  obtain ⟨e, he⟩ : ∃ e, e = m / 2 := ⟨_, rfl⟩
  have te : (m : Int) / 2 = (e : Int) := by omega
  simp only [← hm, ← he] at hpow hs
  obtain ⟨y, hy⟩ : ∃ y, y = a ^ e % p := ⟨_, rfl⟩
  simp only [← hy] at hpow hs
  subst hs
  have Hpow := Lib.hid hpow
  clear hpow h0 hc hm he hy
  go_enter Tryd.func36, Tryd.ntmps36
  go_wp2_with fail
  refine (Hpow.out _).mono ?_
  rintro _ _ ⟨rfl, rfl⟩
  go_wp2
  go_ret
  exact ⟨rfl, rfl⟩
set_option maxHeartbeats 400000 in
theorem rleg_minus (a p : Nat) (ha : a < 4294967296) (hlt : p < 4294967296) (h2 : 2 < p) (h0 : a % p ≠ 0) (hs : ¬ a ^ ((p - 1) / 2) % p = 1) (w : World) :
    Calls Tryd.prog 36 #[.int .u32 (a : Int), .int .u32 (p : Int)] w fun r w' => r = .returned (.int .i64 (-1)) ∧ w' = w := by
  have hpow := fun W => rpow_any a ((p - 1) / 2) p ha (by omega) hlt (by omega) W
  have t0 : (a : Int) % (p : Int) = ((a % p : Nat) : Int) := cast_mod a p
  obtain ⟨c, hc⟩ : ∃ c, c = a % p := ⟨_, rfl⟩
  rw [← hc] at t0 h0
  have t1 : ((c : Int) == 0) = false := by simp; omega
  have t2 : ((p : Int) == 0) = false := by simp; omega
  have t3 : ((p : Int) == 2) = false := by simp; omega
  obtain ⟨m, hm⟩ : ∃ m, m = p - 1 := ⟨_, rfl⟩
  have tm : (p : Int) - 1 = (m : Int) := by omega
  obtain ⟨e, he⟩ : ∃ e, e = m / 2 := ⟨_, rfl⟩
  have te : (m : Int) / 2 = (e : Int) := by omega
  simp only [← hm, ← he] at hpow hs
  obtain ⟨y, hy⟩ : ∃ y, y = a ^ e % p := ⟨_, rfl⟩
  simp only [← hy] at hpow hs
  have t4 : ((y : Int) == 1) = false := by simp; omega
  have Hpow := Lib.hid hpow
  clear hpow h0 hc hm he hy hs
  go_enter Tryd.func36, Tryd.ntmps36
  go_wp2_with fail
  refine (Hpow.out _).mono ?_
  rintro _ _ ⟨rfl, rfl⟩
  go_wp2
  go_ret
  exact ⟨rfl, rfl⟩

set_option maxHeartbeats 800000 in
theorem roots_none (a p : Nat) (hp : ¬ Pr p) (hlt : p < 4294967296) (w : World) (hw : Bases w) :
    Calls Tryd.prog 8 #[.int .u32 (a : Int), .int .u32 (p : Int)] w fun r w' => r = .returned (.bool true) ∧ Dr w w' := by
  have Hw := Lib.hid hw
  have A1 := Lib.hid (fun W hW => leg_no a p hp hlt W hW)
  have A2 := Lib.hid (fun W hW => psqrt_no a p hp hlt W hW)
  have Hi := Lib.hid (fun W => ris_no p hp hlt W)
  clear hw hp
  go_enter Tryd.func8, Tryd.ntmps8
  go_wp2_with fail
  refine (A1.out _ Hw.out).mono ?_
  rintro _ _ ⟨rfl, rfl⟩
  go_wp2_with fail
  refine (A2.out _ Hw.out).mono ?_
  rintro _ _ ⟨rfl, rfl⟩
  go_wp2_with fail
  refine (Hi.out _).mono ?_
  rintro _ _ ⟨rfl, rfl⟩
  go_wp2_with fail
  refine (num_any _ _).mono ?_
  rintro _ _ ⟨rfl, rfl⟩
  go_wp2_with fail
  refine (told_error 0 40 _ rfl).mono ?_
  rintro _ _ ⟨rfl, rfl⟩
  go_wp2_with fail
  refine (awake_any _ Hw.out).mono ?_
  rintro _ _ ⟨rfl, rfl⟩
  go_wp2
  go_ret
  exact ⟨rfl, Dr.refl _⟩
set_option maxHeartbeats 800000 in
theorem roots_minus (a p : Nat) (ha : a < 4294967296) (hp : Pr p) (hlt : p < 4294967296) (h2 : 2 < p) (h0 : a % p ≠ 0) (hs : ¬ a ^ ((p - 1) / 2) % p = 1) (w : World) (hw : Bases w) :
    Calls Tryd.prog 8 #[.int .u32 (a : Int), .int .u32 (p : Int)] w fun r w' => r = .returned (.bool true) ∧ Dr w w' := by
  have Hw := Lib.hid hw
  have hsq : ¬ Sq a p := fun h => h.elim (fun e => by omega) hs
  have A1 := Lib.hid (fun W hW => leg_minus a p ha hp hlt h0 hsq W hW)
  have A2 := Lib.hid (fun W hW => psqrt_none a p ha hp hlt h0 hsq W hW)
  have A3 := Lib.hid (fun W => rleg_minus a p ha hlt h2 h0 hs W)
  have Hi := Lib.hid (fun W => ris_yes p hp hlt W)
  clear hw hp h0 hs hsq
  go_enter Tryd.func8, Tryd.ntmps8
  go_wp2_with fail
  refine (A1.out _ Hw.out).mono ?_
  rintro _ _ ⟨rfl, rfl⟩
  go_wp2_with fail
  refine (A2.out _ Hw.out).mono ?_
  rintro _ _ ⟨rfl, rfl⟩
  go_wp2_with fail
  refine (Hi.out _).mono ?_
  rintro _ _ ⟨rfl, rfl⟩
  go_wp2_with fail
  refine (A3.out _).mono ?_
  rintro _ _ ⟨rfl, rfl⟩
  go_wp2_with fail
  refine (num_any _ _).mono ?_
  rintro _ _ ⟨rfl, rfl⟩
  go_wp2_with fail
  refine (told_error 0 41 _ rfl).mono ?_
  rintro _ _ ⟨rfl, rfl⟩
  go_wp2_with fail
  refine (awake_any _ Hw.out).mono ?_
  rintro _ _ ⟨rfl, rfl⟩
  go_wp2
  go_ret
  exact ⟨rfl, Dr.refl _⟩
set_option maxHeartbeats 1600000 in
theorem roots_end (a p l : Nat) (ha : a < 4294967296) (hp : Pr p) (hlt : p < 4294967296) (w : World) (hw : Bases w)
    (A1 : ∀ W, Bases W → Calls Tryd.prog 34 #[.int .u32 (a : Int), .int .u32 (p : Int)] W fun r w' => r = .returned (.tuple #[.int .i64 (l : Int), .int .i64 0]) ∧ w' = W)
    (A2 : ∀ W, Bases W → Calls Tryd.prog 35 #[.int .u32 (a : Int), .int .u32 (p : Int)] W fun r w' => (∃ s : Nat, r = .returned (.tuple #[.int .u32 (s : Int), .int .i64 0]) ∧ s < p ∧ s * s % p = a % p ∧ s ≤ (0 + (p - s % p)) % p) ∧ w' = W)
    (A3 : ∀ W, Calls Tryd.prog 36 #[.int .u32 (a : Int), .int .u32 (p : Int)] W fun r w' => r = .returned (.int .i64 (l : Int)) ∧ w' = W) :
    Calls Tryd.prog 8 #[.int .u32 (a : Int), .int .u32 (p : Int)] w fun r w' => r = .returned (.bool true) ∧ Dr w w' := by
  have Hw := Lib.hid hw
  have hp1 := hp.1
  have Hi := Lib.hid (fun W => ris_yes p hp hlt W)
  have Hm := Lib.hid (fun s (hs : s < p) W => rmul_any s s p (by omega) (by omega) hlt (by omega) W)
  have Hs := Lib.hid (fun s (hs : s < p) W => rsub_any 0 s p (by omega) (by omega) hlt (by omega) W)
  have t0 : (a : Int) % (p : Int) = ((a % p : Nat) : Int) := cast_mod a p
  obtain ⟨c, hc⟩ : ∃ c, c = a % p := ⟨_, rfl⟩
  simp only [← hc] at t0 A2
  have t1 : ((c : Int) == (c : Int)) = true := by simp
  have t2 : ((p : Int) == 0) = false := by simp; omega
  have t5 : ((l : Int) != (l : Int)) = false := by simp
  have t6 : decide ((l : Int) < 0) = false := by simp
  have B1 := Lib.hid A1
  have B2 := Lib.hid A2
  have B3 := Lib.hid A3
  clear hw hp hc A1 A2 A3
  go_enter Tryd.func8, Tryd.ntmps8
  go_wp2_with fail
  refine (B1.out _ Hw.out).mono ?_
  rintro _ _ ⟨rfl, rfl⟩
  go_wp2_with fail
  refine (B2.out _ Hw.out).mono ?_
  rintro _ _ ⟨⟨s, rfl, hsp, hss, hle⟩, rfl⟩
  have r3 := fun W => Hm.out s hsp W
  have r4 := fun W => Hs.out s hsp W
  simp only [hss] at r3
  obtain ⟨x, hx⟩ : ∃ x, x = (0 + (p - s % p)) % p := ⟨_, rfl⟩
  simp only [← hx] at r4 hle
  have t3 : decide ((s : Int) < (p : Int)) = true := by simp; omega
  have t4 : decide ((s : Int) ≤ (x : Int)) = true := by simp; omega
  have t3n : decide (s < p) = true := by simp; omega
  have t4n : decide (s ≤ x) = true := by simp; omega
  have R3 := Lib.hid r3
  have R4 := Lib.hid r4
  clear hss hx r3 r4
  go_wp2_with fail
  refine (Hi.out _).mono ?_
  rintro _ _ ⟨rfl, rfl⟩
  go_wp2_with fail
  refine (B3.out _).mono ?_
  rintro _ _ ⟨rfl, rfl⟩
  go_wp2_with fail
  refine (num_any _ _).mono ?_
  rintro _ _ ⟨rfl, rfl⟩
  go_wp2
  go_quiet ((first
    | (go_at_call 22; first | exact quietS (num_any _ _) | exact quietAddS (num_any _ _))
    | (go_at_call 37; first | exact quietS (R3.out _) | exact quietAddS (R3.out _))
    | (go_at_call 38; first | exact quietD (R4.out _) | exact quietAddD (R4.out _))
    | (go_at_call 20; first | exact quietS (awake_any _ (Hw.out.drewN _)) | exact quietAddS (awake_any _ (Hw.out.drewN _)))))
  go_wp2
  go_ret
  exact ⟨rfl, (Dr.refl _).step _⟩

theorem primeRoots_walk (a : Nat) (ha : a < 4294967296) (p : Nat) (hlt : p < 4294967296) (w : World) (hw : Bases w) :
    Calls Tryd.prog 8 #[.int .u32 (a : Int), .int .u32 (p : Int)] w fun r w' => r = .returned (.bool true) ∧ Below w.heap.size w w' := by
  have key : Calls Tryd.prog 8 #[.int .u32 (a : Int), .int .u32 (p : Int)] w fun r w' => r = .returned (.bool true) ∧ Dr w w' := by
    by_cases hp : Pr p
    · have hp1 := hp.1
      by_cases h0 : a % p = 0
      · exact roots_end a p 0 ha hp hlt w hw (fun W hW => leg_zero a p hp hlt h0 W hW)
          (fun W hW => (psqrt_zero a p hp hlt h0 W hW).mono fun _ _ ⟨e1, e2⟩ => ⟨⟨0, e1, by omega, by rw [h0, Nat.zero_mul, Nat.zero_mod], Nat.zero_le _⟩, e2⟩) (fun W => rleg_zero a p hp1 h0 W)
      · by_cases h2 : p = 2
        · subst h2
          exact roots_end a 2 1 ha hp hlt w hw (fun W hW => leg_one a 2 ha hp hlt h0 (Or.inl rfl) W hW)
            (fun W hW => (psqrt_two a ha h0 W hW).mono fun _ _ ⟨e1, e2⟩ => ⟨⟨1, e1, by omega, by omega, by decide⟩, e2⟩) (fun W => rleg_two a h0 W)
        · by_cases hs : a ^ ((p - 1) / 2) % p = 1
          · exact roots_end a p 1 ha hp hlt w hw (fun W hW => leg_one a p ha hp hlt h0 (Or.inr hs) W hW)
              (fun W hW => (psqrt_some a p ha hp hlt (by omega) h0 hs W hW).mono fun _ _ ⟨⟨s, e1, s0, sp, ss, sl⟩, e2⟩ => ⟨⟨s, e1, sp, ss, by
                rw [Nat.zero_add, Nat.mod_eq_of_lt sp, Nat.mod_eq_of_lt (by omega)]; exact sl⟩, e2⟩) (fun W => rleg_one a p ha hlt (by omega) h0 hs W)
          · exact roots_minus a p ha hp hlt (by omega) h0 hs w hw
    · exact roots_none a p hp hlt w hw
  exact key.mono fun _ _ ⟨h1, h2⟩ => ⟨h1, h2.below _⟩
end Go.Proofs.YtnjhppdcpjgfmaaDoor
