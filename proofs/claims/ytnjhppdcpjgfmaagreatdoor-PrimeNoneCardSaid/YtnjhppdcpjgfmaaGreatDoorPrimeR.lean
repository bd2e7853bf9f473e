/- The walk of field: true. Conditions: bases reads 2, 7, 61. -/
import Derived.Test.YtnjhppdcpjgfmaaGreatDoorPrimeP
namespace Go.Proofs.YtnjhppdcpjgfmaaGreatDoor
open Go.RowKit

set_option maxHeartbeats 1600000 in
theorem field_none (a b q : Nat) (ha : a < 4294967296) (hb : b < 4294967296) (hq : ¬ Pr q) (hlt : q < 4294967296) (w : World) (hw : Bases w) :
    Calls Tryz.prog 6 #[.int .u32 (a : Int), .int .u32 (b : Int), .int .u32 (q : Int), .int .u32 7, .int .i64 40] w fun r w' => r = .returned (.bool true) ∧ Dr w w' := by
    have Hw := Lib.hid hw
    have A1 := Lib.hid (fun W hW => padd_no a b q hq hlt W hW)
    have A2 := Lib.hid (fun W hW => psub_no a b q hq hlt W hW)
    have A3 := Lib.hid (fun W hW => pmul_no a b q hq hlt W hW)
    have A4 := Lib.hid (fun W hW => pneg_no a q hq hlt W hW)
    have A5 := Lib.hid (fun W hW => pinv_no a q hq hlt W hW)
    have A6 := Lib.hid (fun W hW => pquo_no a b q hq hlt W hW)
    have r1 := fun W => radd_any a b 7 ha hb (by decide) (by decide) W
    have r2 := fun W => rsub_any a b 7 ha hb (by decide) (by decide) W
    have r3 := fun W => rmul_any a b 7 ha hb (by decide) (by decide) W
    have r4 := fun W => rsub_any 0 a 7 (by decide) ha (by decide) (by decide) W
    have r5 := fun W => rinv_any a 7 ha (by decide) (by decide) W
    have r6 := fun W => rinv_any b 7 hb (by decide) (by decide) W
    have hx6 : b ^ (7 - 2) % 7 < 7 := Nat.mod_lt _ (by decide)
    obtain ⟨x1, e1⟩ : ∃ x, x = (a + b) % 7 := ⟨_, rfl⟩
    obtain ⟨x2, e2⟩ : ∃ x, x = (a + (7 - b % 7)) % 7 := ⟨_, rfl⟩
    obtain ⟨x3, e3⟩ : ∃ x, x = a * b % 7 := ⟨_, rfl⟩
    obtain ⟨x4, e4⟩ : ∃ x, x = (0 + (7 - a % 7)) % 7 := ⟨_, rfl⟩
    obtain ⟨x5, e5⟩ : ∃ x, x = a ^ (7 - 2) % 7 := ⟨_, rfl⟩
    obtain ⟨x6, e6⟩ : ∃ x, x = b ^ (7 - 2) % 7 := ⟨_, rfl⟩
    have r7 := fun W => rmul_any a x6 7 ha (by omega) (by decide) (by decide) W
    obtain ⟨x7, e7⟩ : ∃ x, x = a * x6 % 7 := ⟨_, rfl⟩
    simp only [← e1] at r1
    simp only [← e2] at r2
    simp only [← e3] at r3
    simp only [← e4] at r4
    simp only [← e5] at r5
    simp only [← e6] at r6
    simp only [← e7] at r7
    have R1 := Lib.hid r1
    have R2 := Lib.hid r2
    have R3 := Lib.hid r3
    have R4 := Lib.hid r4
    have R5 := Lib.hid r5
    have R6 := Lib.hid r6
    have R7 := Lib.hid r7
    clear r1 r2 r3 r4 r5 r6 r7 e1 e2 e3 e4 e5 e6 e7 hx6 hw hq
    go_enter Tryz.func6, Tryz.ntmps6
    go_wp2_with fail
    refine (A1.out _ Hw.out).mono ?_
    rintro _ _ ⟨rfl, rfl⟩
    go_wp2_with fail
    refine (A2.out _ Hw.out).mono ?_
    rintro _ _ ⟨rfl, rfl⟩
    go_wp2_with fail
    refine (A3.out _ Hw.out).mono ?_
    rintro _ _ ⟨rfl, rfl⟩
    go_wp2_with fail
    refine (A4.out _ Hw.out).mono ?_
    rintro _ _ ⟨rfl, rfl⟩
    go_wp2_with fail
    refine (R1.out _).mono ?_
    rintro _ _ ⟨rfl, rfl⟩
    go_wp2_with fail
    refine (told_error _ 40 _ rfl).mono ?_
    rintro _ _ ⟨rfl, rfl⟩
    go_wp2_with fail
    refine (R2.out _).mono ?_
    rintro _ _ ⟨rfl, _, rfl⟩
    go_wp2_with fail
    refine (told_error _ 40 _ rfl).mono ?_
    rintro _ _ ⟨rfl, rfl⟩
    go_wp2_with fail
    refine (R3.out _).mono ?_
    rintro _ _ ⟨rfl, rfl⟩
    go_wp2_with fail
    refine (told_error _ 40 _ rfl).mono ?_
    rintro _ _ ⟨rfl, rfl⟩
    go_wp2_with fail
    refine (R4.out _).mono ?_
    rintro _ _ ⟨rfl, _, rfl⟩
    go_wp2_with fail
    refine (told_error _ 40 _ rfl).mono ?_
    rintro _ _ ⟨rfl, rfl⟩
    go_wp2_with fail
    refine (A5.out _ (Hw.out.drewN _)).mono ?_
    rintro _ _ ⟨rfl, rfl⟩
    go_wp2_with fail
    refine (A6.out _ (Hw.out.drewN _)).mono ?_
    rintro _ _ ⟨rfl, rfl⟩
    go_wp2_with fail
    refine (R5.out _).mono ?_
    rintro _ _ ⟨rfl, rfl⟩
    go_wp2_with fail
    refine (told_error _ 40 _ rfl).mono ?_
    rintro _ _ ⟨rfl, rfl⟩
    go_wp2_with fail
    refine (R6.out _).mono ?_
    rintro _ _ ⟨rfl, rfl⟩
    go_wp2_with fail
    refine (R7.out _).mono ?_
    rintro _ _ ⟨rfl, rfl⟩
    go_wp2_with fail
    refine (told_error _ 40 _ rfl).mono ?_
    rintro _ _ ⟨rfl, rfl⟩
    go_wp2_with fail
    refine (awake_any _ (Hw.out.drewN _)).mono ?_
    rintro _ _ ⟨rfl, rfl⟩
    go_wp2
    go_ret
    exact ⟨rfl, _, rfl⟩

set_option maxHeartbeats 1600000 in
theorem field_00 (a b p : Nat) (ha : a < 4294967296) (hb : b < 4294967296) (hp : Pr p) (hlt : p < 4294967296) (ha0 : a % p = 0) (hb0 : b % p = 0) (w : World) (hw : Bases w) :
    Calls Tryz.prog 6 #[.int .u32 (a : Int), .int .u32 (b : Int), .int .u32 (p : Int), .int .u32 (p : Int), .int .i64 0] w fun r w' => r = .returned (.bool true) ∧ Dr w w' := by
    have Hw := Lib.hid hw
    have hp1 := hp.1
    have a1 := fun W hW => padd_yes a b p ha hb hp hlt W hW
    have a2 := fun W hW => psub_yes a b p ha hb hp hlt W hW
    have a3 := fun W hW => pmul_yes a b p ha hb hp hlt W hW
    have a4 := fun W hW => pneg_yes a p ha hp hlt W hW
    have a5 := fun W hW => pinv_zero a p hp hlt ha0 W hW
    have a6 := fun W hW => pquo_zero a b p hp hlt hb0 W hW
    have r1 := fun W => radd_any a b p ha hb hlt (by omega) W
    have r2 := fun W => rsub_any a b p ha hb hlt (by omega) W
    have r3 := fun W => rmul_any a b p ha hb hlt (by omega) W
    have r4 := fun W => rsub_any 0 a p (by decide) ha hlt (by omega) W
    have r5 := fun W => rinv_any a p ha hlt (by omega) W
    have r6 := fun W => rinv_any b p hb hlt (by omega) W
    have hx6 : b ^ (p - 2) % p < p := Nat.mod_lt _ (by omega)
    have ta : (a : Int) % (p : Int) = ((a % p : Nat) : Int) := cast_mod a p
    have tb : (b : Int) % (p : Int) = ((b % p : Nat) : Int) := cast_mod b p
    have tp : ((p : Int) == 0) = false := by simp; omega
    rw [ha0] at ta
    rw [hb0] at tb
    obtain ⟨x1, e1⟩ : ∃ x, x = (a + b) % p := ⟨_, rfl⟩
    obtain ⟨x2, e2⟩ : ∃ x, x = (a + (p - b % p)) % p := ⟨_, rfl⟩
    obtain ⟨x3, e3⟩ : ∃ x, x = a * b % p := ⟨_, rfl⟩
    obtain ⟨x4, e4⟩ : ∃ x, x = (0 + (p - a % p)) % p := ⟨_, rfl⟩
    obtain ⟨x5, e5⟩ : ∃ x, x = a ^ (p - 2) % p := ⟨_, rfl⟩
    obtain ⟨x6, e6⟩ : ∃ x, x = b ^ (p - 2) % p := ⟨_, rfl⟩
    have r7 := fun W => rmul_any a x6 p ha (by omega) hlt (by omega) W
    obtain ⟨x7, e7⟩ : ∃ x, x = a * x6 % p := ⟨_, rfl⟩
    simp only [← e1] at a1 r1
    simp only [← e2] at a2 r2
    simp only [← e3] at a3 r3
    simp only [← e4] at a4 r4
    simp only [← e5] at r5
    simp only [← e6] at r6
    simp only [← e7] at r7
    have A1 := Lib.hid a1
    have A2 := Lib.hid a2
    have A3 := Lib.hid a3
    have A4 := Lib.hid a4
    have A5 := Lib.hid a5
    have A6 := Lib.hid a6
    have R1 := Lib.hid r1
    have R2 := Lib.hid r2
    have R3 := Lib.hid r3
    have R4 := Lib.hid r4
    have R5 := Lib.hid r5
    have R6 := Lib.hid r6
    have R7 := Lib.hid r7
    clear a1 a2 a3 a4 a5 a6 r1 r2 r3 r4 r5 r6 r7 e1 e2 e3 e4 e5 e6 e7 hx6 hw hp ha0 hb0
    go_enter Tryz.func6, Tryz.ntmps6
    go_wp2_with fail
    refine (A1.out _ Hw.out).mono ?_
    rintro _ _ ⟨rfl, rfl⟩
    go_wp2_with fail
    refine (A2.out _ Hw.out).mono ?_
    rintro _ _ ⟨rfl, rfl⟩
    go_wp2_with fail
    refine (A3.out _ Hw.out).mono ?_
    rintro _ _ ⟨rfl, rfl⟩
    go_wp2_with fail
    refine (A4.out _ Hw.out).mono ?_
    rintro _ _ ⟨rfl, rfl⟩
    go_wp2_with fail
    refine (R1.out _).mono ?_
    rintro _ _ ⟨rfl, rfl⟩
    go_wp2_with fail
    refine (told_right _ 0 _ rfl).mono ?_
    rintro _ _ ⟨rfl, rfl⟩
    go_wp2_with fail
    refine (R2.out _).mono ?_
    rintro _ _ ⟨rfl, _, rfl⟩
    go_wp2_with fail
    refine (told_right _ 0 _ rfl).mono ?_
    rintro _ _ ⟨rfl, rfl⟩
    go_wp2_with fail
    refine (R3.out _).mono ?_
    rintro _ _ ⟨rfl, rfl⟩
    go_wp2_with fail
    refine (told_right _ 0 _ rfl).mono ?_
    rintro _ _ ⟨rfl, rfl⟩
    go_wp2_with fail
    refine (R4.out _).mono ?_
    rintro _ _ ⟨rfl, _, rfl⟩
    go_wp2_with fail
    refine (told_right _ 0 _ rfl).mono ?_
    rintro _ _ ⟨rfl, rfl⟩
    go_wp2_with fail
    refine (A5.out _ (Hw.out.drewN _)).mono ?_
    rintro _ _ ⟨rfl, rfl⟩
    go_wp2_with fail
    refine (A6.out _ (Hw.out.drewN _)).mono ?_
    rintro _ _ ⟨rfl, rfl⟩
    go_wp2_with fail
    refine (R5.out _).mono ?_
    rintro _ _ ⟨rfl, rfl⟩
    go_wp2_with fail
    refine (told_error _ 5 _ rfl).mono ?_
    rintro _ _ ⟨rfl, rfl⟩
    go_wp2_with fail
    refine (R6.out _).mono ?_
    rintro _ _ ⟨rfl, rfl⟩
    go_wp2_with fail
    refine (R7.out _).mono ?_
    rintro _ _ ⟨rfl, rfl⟩
    go_wp2_with fail
    refine (told_error _ 5 _ rfl).mono ?_
    rintro _ _ ⟨rfl, rfl⟩
    go_wp2_with fail
    refine (awake_any _ (Hw.out.drewN _)).mono ?_
    rintro _ _ ⟨rfl, rfl⟩
    go_wp2
    go_ret
    exact ⟨rfl, _, rfl⟩

set_option maxHeartbeats 1600000 in
theorem field_01 (a b p : Nat) (ha : a < 4294967296) (hb : b < 4294967296) (hp : Pr p) (hlt : p < 4294967296) (ha0 : a % p = 0) (hb0 : b % p ≠ 0) (w : World) (hw : Bases w) :
    Calls Tryz.prog 6 #[.int .u32 (a : Int), .int .u32 (b : Int), .int .u32 (p : Int), .int .u32 (p : Int), .int .i64 0] w fun r w' => r = .returned (.bool true) ∧ Dr w w' := by
    have Hw := Lib.hid hw
    have hp1 := hp.1
    have a1 := fun W hW => padd_yes a b p ha hb hp hlt W hW
    have a2 := fun W hW => psub_yes a b p ha hb hp hlt W hW
    have a3 := fun W hW => pmul_yes a b p ha hb hp hlt W hW
    have a4 := fun W hW => pneg_yes a p ha hp hlt W hW
    have a5 := fun W hW => pinv_zero a p hp hlt ha0 W hW
    have a6 := fun W hW => pquo_yes a b p ha hp hlt hb0 W hW
    have r1 := fun W => radd_any a b p ha hb hlt (by omega) W
    have r2 := fun W => rsub_any a b p ha hb hlt (by omega) W
    have r3 := fun W => rmul_any a b p ha hb hlt (by omega) W
    have r4 := fun W => rsub_any 0 a p (by decide) ha hlt (by omega) W
    have r5 := fun W => rinv_any a p ha hlt (by omega) W
    have r6 := fun W => rinv_any b p hb hlt (by omega) W
    have hx6 : b ^ (p - 2) % p < p := Nat.mod_lt _ (by omega)
    have ta : (a : Int) % (p : Int) = ((a % p : Nat) : Int) := cast_mod a p
    have tb : (b : Int) % (p : Int) = ((b % p : Nat) : Int) := cast_mod b p
    have tp : ((p : Int) == 0) = false := by simp; omega
    rw [ha0] at ta
    obtain ⟨rb, erb⟩ : ∃ x, x = b % p := ⟨_, rfl⟩
    rw [← erb] at tb hb0
    have tb2 : ((rb : Int) == 0) = false := by simp; omega
    obtain ⟨x1, e1⟩ : ∃ x, x = (a + b) % p := ⟨_, rfl⟩
    obtain ⟨x2, e2⟩ : ∃ x, x = (a + (p - b % p)) % p := ⟨_, rfl⟩
    obtain ⟨x3, e3⟩ : ∃ x, x = a * b % p := ⟨_, rfl⟩
    obtain ⟨x4, e4⟩ : ∃ x, x = (0 + (p - a % p)) % p := ⟨_, rfl⟩
    obtain ⟨x5, e5⟩ : ∃ x, x = a ^ (p - 2) % p := ⟨_, rfl⟩
    obtain ⟨x6, e6⟩ : ∃ x, x = b ^ (p - 2) % p := ⟨_, rfl⟩
    have r7 := fun W => rmul_any a x6 p ha (by omega) hlt (by omega) W
    obtain ⟨x7, e7⟩ : ∃ x, x = a * x6 % p := ⟨_, rfl⟩
    simp only [← e1] at a1 r1
    simp only [← e2] at a2 r2
    simp only [← e3] at a3 r3
    simp only [← e4] at a4 r4
    simp only [← e5] at r5
    simp only [← e6] at a6 r6
    simp only [← e7] at a6 r7
    have A1 := Lib.hid a1
    have A2 := Lib.hid a2
    have A3 := Lib.hid a3
    have A4 := Lib.hid a4
    have A5 := Lib.hid a5
    have A6 := Lib.hid a6
    have R1 := Lib.hid r1
    have R2 := Lib.hid r2
    have R3 := Lib.hid r3
    have R4 := Lib.hid r4
    have R5 := Lib.hid r5
    have R6 := Lib.hid r6
    have R7 := Lib.hid r7
    clear a1 a2 a3 a4 a5 a6 r1 r2 r3 r4 r5 r6 r7 e1 e2 e3 e4 e5 e6 e7 hx6 hw hp ha0 hb0 erb
    go_enter Tryz.func6, Tryz.ntmps6
    go_wp2_with fail
    refine (A1.out _ Hw.out).mono ?_
    rintro _ _ ⟨rfl, rfl⟩
    go_wp2_with fail
    refine (A2.out _ Hw.out).mono ?_
    rintro _ _ ⟨rfl, rfl⟩
    go_wp2_with fail
    refine (A3.out _ Hw.out).mono ?_
    rintro _ _ ⟨rfl, rfl⟩
    go_wp2_with fail
    refine (A4.out _ Hw.out).mono ?_
    rintro _ _ ⟨rfl, rfl⟩
    go_wp2_with fail
    refine (R1.out _).mono ?_
    rintro _ _ ⟨rfl, rfl⟩
    go_wp2_with fail
    refine (told_right _ 0 _ rfl).mono ?_
    rintro _ _ ⟨rfl, rfl⟩
    go_wp2_with fail
    refine (R2.out _).mono ?_
    rintro _ _ ⟨rfl, _, rfl⟩
    go_wp2_with fail
    refine (told_right _ 0 _ rfl).mono ?_
    rintro _ _ ⟨rfl, rfl⟩
    go_wp2_with fail
    refine (R3.out _).mono ?_
    rintro _ _ ⟨rfl, rfl⟩
    go_wp2_with fail
    refine (told_right _ 0 _ rfl).mono ?_
    rintro _ _ ⟨rfl, rfl⟩
    go_wp2_with fail
    refine (R4.out _).mono ?_
    rintro _ _ ⟨rfl, _, rfl⟩
    go_wp2_with fail
    refine (told_right _ 0 _ rfl).mono ?_
    rintro _ _ ⟨rfl, rfl⟩
    go_wp2_with fail
    refine (A5.out _ (Hw.out.drewN _)).mono ?_
    rintro _ _ ⟨rfl, rfl⟩
    go_wp2_with fail
    refine (A6.out _ (Hw.out.drewN _)).mono ?_
    rintro _ _ ⟨rfl, rfl⟩
    go_wp2_with fail
    refine (R5.out _).mono ?_
    rintro _ _ ⟨rfl, rfl⟩
    go_wp2_with fail
    refine (told_error _ 5 _ rfl).mono ?_
    rintro _ _ ⟨rfl, rfl⟩
    go_wp2_with fail
    refine (R6.out _).mono ?_
    rintro _ _ ⟨rfl, rfl⟩
    go_wp2_with fail
    refine (R7.out _).mono ?_
    rintro _ _ ⟨rfl, rfl⟩
    go_wp2_with fail
    refine (told_right _ 0 _ rfl).mono ?_
    rintro _ _ ⟨rfl, rfl⟩
    go_wp2_with fail
    refine (awake_any _ (Hw.out.drewN _)).mono ?_
    rintro _ _ ⟨rfl, rfl⟩
    go_wp2
    go_ret
    exact ⟨rfl, _, rfl⟩

set_option maxHeartbeats 1600000 in
theorem field_10 (a b p : Nat) (ha : a < 4294967296) (hb : b < 4294967296) (hp : Pr p) (hlt : p < 4294967296) (ha0 : a % p ≠ 0) (hb0 : b % p = 0) (w : World) (hw : Bases w) :
    Calls Tryz.prog 6 #[.int .u32 (a : Int), .int .u32 (b : Int), .int .u32 (p : Int), .int .u32 (p : Int), .int .i64 0] w fun r w' => r = .returned (.bool true) ∧ Dr w w' := by
    have Hw := Lib.hid hw
    have hp1 := hp.1
    have a1 := fun W hW => padd_yes a b p ha hb hp hlt W hW
    have a2 := fun W hW => psub_yes a b p ha hb hp hlt W hW
    have a3 := fun W hW => pmul_yes a b p ha hb hp hlt W hW
    have a4 := fun W hW => pneg_yes a p ha hp hlt W hW
    have a5 := fun W hW => pinv_yes a p hp hlt ha0 W hW
    have a6 := fun W hW => pquo_zero a b p hp hlt hb0 W hW
    have r1 := fun W => radd_any a b p ha hb hlt (by omega) W
    have r2 := fun W => rsub_any a b p ha hb hlt (by omega) W
    have r3 := fun W => rmul_any a b p ha hb hlt (by omega) W
    have r4 := fun W => rsub_any 0 a p (by decide) ha hlt (by omega) W
    have r5 := fun W => rinv_any a p ha hlt (by omega) W
    have r6 := fun W => rinv_any b p hb hlt (by omega) W
    have hx6 : b ^ (p - 2) % p < p := Nat.mod_lt _ (by omega)
    have ta : (a : Int) % (p : Int) = ((a % p : Nat) : Int) := cast_mod a p
    have tb : (b : Int) % (p : Int) = ((b % p : Nat) : Int) := cast_mod b p
    have tp : ((p : Int) == 0) = false := by simp; omega
    obtain ⟨ra, era⟩ : ∃ x, x = a % p := ⟨_, rfl⟩
    rw [← era] at ta ha0
    have ta2 : ((ra : Int) == 0) = false := by simp; omega
    clear era
    rw [hb0] at tb
    obtain ⟨x1, e1⟩ : ∃ x, x = (a + b) % p := ⟨_, rfl⟩
    obtain ⟨x2, e2⟩ : ∃ x, x = (a + (p - b % p)) % p := ⟨_, rfl⟩
    obtain ⟨x3, e3⟩ : ∃ x, x = a * b % p := ⟨_, rfl⟩
    obtain ⟨x4, e4⟩ : ∃ x, x = (0 + (p - a % p)) % p := ⟨_, rfl⟩
    obtain ⟨x5, e5⟩ : ∃ x, x = a ^ (p - 2) % p := ⟨_, rfl⟩
    obtain ⟨x6, e6⟩ : ∃ x, x = b ^ (p - 2) % p := ⟨_, rfl⟩
    have r7 := fun W => rmul_any a x6 p ha (by omega) hlt (by omega) W
    obtain ⟨x7, e7⟩ : ∃ x, x = a * x6 % p := ⟨_, rfl⟩
    simp only [← e1] at a1 r1
    simp only [← e2] at a2 r2
    simp only [← e3] at a3 r3
    simp only [← e4] at a4 r4
    simp only [← e5] at a5 r5
    simp only [← e6] at r6
    simp only [← e7] at r7
    have A1 := Lib.hid a1
    have A2 := Lib.hid a2
    have A3 := Lib.hid a3
    have A4 := Lib.hid a4
    have A5 := Lib.hid a5
    have A6 := Lib.hid a6
    have R1 := Lib.hid r1
    have R2 := Lib.hid r2
    have R3 := Lib.hid r3
    have R4 := Lib.hid r4
    have R5 := Lib.hid r5
    have R6 := Lib.hid r6
    have R7 := Lib.hid r7
    clear a1 a2 a3 a4 a5 a6 r1 r2 r3 r4 r5 r6 r7 e1 e2 e3 e4 e5 e6 e7 hx6 hw hp ha0 hb0
    go_enter Tryz.func6, Tryz.ntmps6
    go_wp2_with fail
    refine (A1.out _ Hw.out).mono ?_
    rintro _ _ ⟨rfl, rfl⟩
    go_wp2_with fail
    refine (A2.out _ Hw.out).mono ?_
    rintro _ _ ⟨rfl, rfl⟩
    go_wp2_with fail
    refine (A3.out _ Hw.out).mono ?_
    rintro _ _ ⟨rfl, rfl⟩
    go_wp2_with fail
    refine (A4.out _ Hw.out).mono ?_
    rintro _ _ ⟨rfl, rfl⟩
    go_wp2_with fail
    refine (R1.out _).mono ?_
    rintro _ _ ⟨rfl, rfl⟩
    go_wp2_with fail
    refine (told_right _ 0 _ rfl).mono ?_
    rintro _ _ ⟨rfl, rfl⟩
    go_wp2_with fail
    refine (R2.out _).mono ?_
    rintro _ _ ⟨rfl, _, rfl⟩
    go_wp2_with fail
    refine (told_right _ 0 _ rfl).mono ?_
    rintro _ _ ⟨rfl, rfl⟩
    go_wp2_with fail
    refine (R3.out _).mono ?_
    rintro _ _ ⟨rfl, rfl⟩
    go_wp2_with fail
    refine (told_right _ 0 _ rfl).mono ?_
    rintro _ _ ⟨rfl, rfl⟩
    go_wp2_with fail
    refine (R4.out _).mono ?_
    rintro _ _ ⟨rfl, _, rfl⟩
    go_wp2_with fail
    refine (told_right _ 0 _ rfl).mono ?_
    rintro _ _ ⟨rfl, rfl⟩
    go_wp2_with fail
    refine (A5.out _ (Hw.out.drewN _)).mono ?_
    rintro _ _ ⟨rfl, rfl⟩
    go_wp2_with fail
    refine (A6.out _ (Hw.out.drewN _)).mono ?_
    rintro _ _ ⟨rfl, rfl⟩
    go_wp2_with fail
    refine (R5.out _).mono ?_
    rintro _ _ ⟨rfl, rfl⟩
    go_wp2_with fail
    refine (told_right _ 0 _ rfl).mono ?_
    rintro _ _ ⟨rfl, rfl⟩
    go_wp2_with fail
    refine (R6.out _).mono ?_
    rintro _ _ ⟨rfl, rfl⟩
    go_wp2_with fail
    refine (R7.out _).mono ?_
    rintro _ _ ⟨rfl, rfl⟩
    go_wp2_with fail
    refine (told_error _ 5 _ rfl).mono ?_
    rintro _ _ ⟨rfl, rfl⟩
    go_wp2_with fail
    refine (awake_any _ (Hw.out.drewN _)).mono ?_
    rintro _ _ ⟨rfl, rfl⟩
    go_wp2
    go_ret
    exact ⟨rfl, _, rfl⟩

set_option maxHeartbeats 1600000 in
theorem field_11 (a b p : Nat) (ha : a < 4294967296) (hb : b < 4294967296) (hp : Pr p) (hlt : p < 4294967296) (ha0 : a % p ≠ 0) (hb0 : b % p ≠ 0) (w : World) (hw : Bases w) :
    Calls Tryz.prog 6 #[.int .u32 (a : Int), .int .u32 (b : Int), .int .u32 (p : Int), .int .u32 (p : Int), .int .i64 0] w fun r w' => r = .returned (.bool true) ∧ Dr w w' := by
    have Hw := Lib.hid hw
    have hp1 := hp.1
    have a1 := fun W hW => padd_yes a b p ha hb hp hlt W hW
    have a2 := fun W hW => psub_yes a b p ha hb hp hlt W hW
    have a3 := fun W hW => pmul_yes a b p ha hb hp hlt W hW
    have a4 := fun W hW => pneg_yes a p ha hp hlt W hW
    have a5 := fun W hW => pinv_yes a p hp hlt ha0 W hW
    have a6 := fun W hW => pquo_yes a b p ha hp hlt hb0 W hW
    have r1 := fun W => radd_any a b p ha hb hlt (by omega) W
    have r2 := fun W => rsub_any a b p ha hb hlt (by omega) W
    have r3 := fun W => rmul_any a b p ha hb hlt (by omega) W
    have r4 := fun W => rsub_any 0 a p (by decide) ha hlt (by omega) W
    have r5 := fun W => rinv_any a p ha hlt (by omega) W
    have r6 := fun W => rinv_any b p hb hlt (by omega) W
    have hx6 : b ^ (p - 2) % p < p := Nat.mod_lt _ (by omega)
    have ta : (a : Int) % (p : Int) = ((a % p : Nat) : Int) := cast_mod a p
    have tb : (b : Int) % (p : Int) = ((b % p : Nat) : Int) := cast_mod b p
    have tp : ((p : Int) == 0) = false := by simp; omega
    obtain ⟨ra, era⟩ : ∃ x, x = a % p := ⟨_, rfl⟩
    rw [← era] at ta ha0
    have ta2 : ((ra : Int) == 0) = false := by simp; omega
    clear era
    obtain ⟨rb, erb⟩ : ∃ x, x = b % p := ⟨_, rfl⟩
    rw [← erb] at tb hb0
    have tb2 : ((rb : Int) == 0) = false := by simp; omega
    obtain ⟨x1, e1⟩ : ∃ x, x = (a + b) % p := ⟨_, rfl⟩
    obtain ⟨x2, e2⟩ : ∃ x, x = (a + (p - b % p)) % p := ⟨_, rfl⟩
    obtain ⟨x3, e3⟩ : ∃ x, x = a * b % p := ⟨_, rfl⟩
    obtain ⟨x4, e4⟩ : ∃ x, x = (0 + (p - a % p)) % p := ⟨_, rfl⟩
    obtain ⟨x5, e5⟩ : ∃ x, x = a ^ (p - 2) % p := ⟨_, rfl⟩
    obtain ⟨x6, e6⟩ : ∃ x, x = b ^ (p - 2) % p := ⟨_, rfl⟩
    have r7 := fun W => rmul_any a x6 p ha (by omega) hlt (by omega) W
    obtain ⟨x7, e7⟩ : ∃ x, x = a * x6 % p := ⟨_, rfl⟩
    simp only [← e1] at a1 r1
    simp only [← e2] at a2 r2
    simp only [← e3] at a3 r3
    simp only [← e4] at a4 r4
    simp only [← e5] at a5 r5
    simp only [← e6] at a6 r6
    simp only [← e7] at a6 r7
    have A1 := Lib.hid a1
    have A2 := Lib.hid a2
    have A3 := Lib.hid a3
    have A4 := Lib.hid a4
    have A5 := Lib.hid a5
    have A6 := Lib.hid a6
    have R1 := Lib.hid r1
    have R2 := Lib.hid r2
    have R3 := Lib.hid r3
    have R4 := Lib.hid r4
    have R5 := Lib.hid r5
    have R6 := Lib.hid r6
    have R7 := Lib.hid r7
    clear a1 a2 a3 a4 a5 a6 r1 r2 r3 r4 r5 r6 r7 e1 e2 e3 e4 e5 e6 e7 hx6 hw hp ha0 hb0 erb
    go_enter Tryz.func6, Tryz.ntmps6
    go_wp2_with fail
    refine (A1.out _ Hw.out).mono ?_
    rintro _ _ ⟨rfl, rfl⟩
    go_wp2_with fail
    refine (A2.out _ Hw.out).mono ?_
    rintro _ _ ⟨rfl, rfl⟩
    go_wp2_with fail
    refine (A3.out _ Hw.out).mono ?_
    rintro _ _ ⟨rfl, rfl⟩
    go_wp2_with fail
    refine (A4.out _ Hw.out).mono ?_
    rintro _ _ ⟨rfl, rfl⟩
    go_wp2_with fail
    refine (R1.out _).mono ?_
    rintro _ _ ⟨rfl, rfl⟩
    go_wp2_with fail
    refine (told_right _ 0 _ rfl).mono ?_
    rintro _ _ ⟨rfl, rfl⟩
    go_wp2_with fail
    refine (R2.out _).mono ?_
    rintro _ _ ⟨rfl, _, rfl⟩
    go_wp2_with fail
    refine (told_right _ 0 _ rfl).mono ?_
    rintro _ _ ⟨rfl, rfl⟩
    go_wp2_with fail
    refine (R3.out _).mono ?_
    rintro _ _ ⟨rfl, rfl⟩
    go_wp2_with fail
    refine (told_right _ 0 _ rfl).mono ?_
    rintro _ _ ⟨rfl, rfl⟩
    go_wp2_with fail
    refine (R4.out _).mono ?_
    rintro _ _ ⟨rfl, _, rfl⟩
    go_wp2_with fail
    refine (told_right _ 0 _ rfl).mono ?_
    rintro _ _ ⟨rfl, rfl⟩
    go_wp2_with fail
    refine (A5.out _ (Hw.out.drewN _)).mono ?_
    rintro _ _ ⟨rfl, rfl⟩
    go_wp2_with fail
    refine (A6.out _ (Hw.out.drewN _)).mono ?_
    rintro _ _ ⟨rfl, rfl⟩
    go_wp2_with fail
    refine (R5.out _).mono ?_
    rintro _ _ ⟨rfl, rfl⟩
    go_wp2_with fail
    refine (told_right _ 0 _ rfl).mono ?_
    rintro _ _ ⟨rfl, rfl⟩
    go_wp2_with fail
    refine (R6.out _).mono ?_
    rintro _ _ ⟨rfl, rfl⟩
    go_wp2_with fail
    refine (R7.out _).mono ?_
    rintro _ _ ⟨rfl, rfl⟩
    go_wp2_with fail
    refine (told_right _ 0 _ rfl).mono ?_
    rintro _ _ ⟨rfl, rfl⟩
    go_wp2_with fail
    refine (awake_any _ (Hw.out.drewN _)).mono ?_
    rintro _ _ ⟨rfl, rfl⟩
    go_wp2
    go_ret
    exact ⟨rfl, _, rfl⟩

theorem field_yes (a b p : Nat) (ha : a < 4294967296) (hb : b < 4294967296) (hp : Pr p) (hlt : p < 4294967296) (w : World) (hw : Bases w) :
    Calls Tryz.prog 6 #[.int .u32 (a : Int), .int .u32 (b : Int), .int .u32 (p : Int), .int .u32 (p : Int), .int .i64 0] w fun r w' => r = .returned (.bool true) ∧ Dr w w' := by
  by_cases h1 : a % p = 0
  · by_cases h2 : b % p = 0
    · exact field_00 a b p ha hb hp hlt h1 h2 w hw
    · exact field_01 a b p ha hb hp hlt h1 h2 w hw
  · by_cases h2 : b % p = 0
    · exact field_10 a b p ha hb hp hlt h1 h2 w hw
    · exact field_11 a b p ha hb hp hlt h1 h2 w hw
end Go.Proofs.YtnjhppdcpjgfmaaGreatDoor
