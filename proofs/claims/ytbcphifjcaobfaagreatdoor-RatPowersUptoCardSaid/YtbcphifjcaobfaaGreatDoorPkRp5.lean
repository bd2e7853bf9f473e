/- The contract of math/bits.Div64: by Knuth's way, half a word. The contracts of Of and Len. The contract of shortQuotient. The contract of Div, over any contract of quotient. -/
import Derived.Test.YtbcphifjcaobfaaGreatDoorPkRp1
import Derived.Test.YtbcphifjcaobfaaGreatDoorPkRp4
import Derived.Deep.CutBlock
import Derived.Deep.DeepCutAuto
namespace Go.Proofs.YtbcphifjcaobfaaGreatDoor
section
open Go.RowKit
theorem int_u64 {a b : Int} (h : a = b) : Value.int .u64 a = Value.int .u64 b := by rw [h]
set_option maxHeartbeats 1600000 in
theorem div64_big (hi lo y s Y Y1 Y0 : Nat) (hy : y < 18446744073709551616) (hh : hi < y) (h0 : 0 < hi) (hlo : lo < 18446744073709551616) (w : World) (hs : Lib.bitLen y = 64 - s) (hs2 : s < 64)
  (hY : Y = y * 2 ^ s) (hYlt : Y < 18446744073709551616) (hY1 : 2147483648 ≤ Y1) (hY1lt : Y1 < 4294967296) (hY0 : Y0 < 4294967296) (hYY : Y = Y1 * 4294967296 + Y0)
  (U L L1 L0 q0 r0 : Nat) (hU : U = hi * 2 ^ s + lo / 2 ^ (64 - s)) (hL : L = lo * 2 ^ s % 18446744073709551616) (hL1 : L1 = L / 4294967296) (hL0 : L0 = L % 4294967296) (hUY : U < Y) (hq0 : q0 = U / Y1) (hr0 : r0 = U % Y1) :
  Calls Tryz.prog 199 #[.int .u64 (hi : Int), .int .u64 (lo : Int), .int .u64 (y : Int)] w fun e w' => e = .returned (.tuple #[.int .u64 (((hi * 18446744073709551616 + lo) / y : Nat) : Int), .int .u64 (((hi * 18446744073709551616 + lo) % y : Nat) : Int)]) ∧ Dr w w' := by
 have t0 : ((y : Int) == 0) = false := by simp; omega
 have t1 : decide (y ≤ hi) = false := by simp; omega
 have t2 : ((hi : Int) == 0) = false := by simp; omega
 have hs3 : (64 : Int) - (Lib.bitLen y : Int) = (s : Int) := by rw [hs]; omega
 have Hs3 := hi9 hs3
 have Hs := hi9 hs
 have t3 : IntKind.u64.wrap ((y : Int) * 2 ^ s) = (Y : Int) := by
  rw [IntKind.wrap_u64, hY]
  have : ((y : Int) * 2 ^ s) = ((y * 2 ^ s : Nat) : Int) := by simp
  rw [this]; omega
 have t4 : (Y : Int) / 4294967296 = (Y1 : Int) := by omega
 have t5 : bits .and .u64 (Y : Int) 4294967295 = (Y0 : Int) := by
  have := u64_and_nat Y 4294967295 hYlt (by omega)
  rw [show ((4294967295 : Nat) : Int) = 4294967295 from rfl] at this
  rw [this, show (4294967295 : Nat) = 2 ^ 32 - 1 from rfl, Nat.and_two_pow_sub_one_eq_mod]
  omega
 have t6 : ¬ (Y1 = 0) := by omega
 have t7 : bits .or .u64 (IntKind.u64.wrap ((hi : Int) * 2 ^ s)) ((lo : Int) / 2 ^ (64 - s)) = (U : Int) := by
  have e64 : 2 ^ s * 2 ^ (64 - s) = 18446744073709551616 := by rw [← Nat.pow_add, show s + (64 - s) = 64 from by omega]
  have hp : 0 < 2 ^ s := Nat.two_pow_pos s
  have hp2 : 0 < 2 ^ (64 - s) := Nat.two_pow_pos _
  have hlo2 : lo / 2 ^ (64 - s) < 2 ^ s := by rw [Nat.div_lt_iff_lt_mul hp2, e64]; exact hlo
  have hhi : hi * 2 ^ s < 18446744073709551616 := by
   have : hi * 2 ^ s ≤ y * 2 ^ s := Nat.mul_le_mul_right _ (by omega)
   omega
  have e1 : IntKind.u64.wrap ((hi : Int) * 2 ^ s) = ((hi * 2 ^ s : Nat) : Int) := by
   rw [IntKind.wrap_u64, show ((hi : Int) * 2 ^ s) = ((hi * 2 ^ s : Nat) : Int) from by simp]; omega
  have e2 : ((lo : Int) / 2 ^ (64 - s)) = ((lo / 2 ^ (64 - s) : Nat) : Int) := by simp
  have hl3 : lo / 2 ^ (64 - s) < 18446744073709551616 := Nat.lt_of_le_of_lt (Nat.div_le_self _ _) hlo
  rw [e1, e2, u64_or_nat _ _ hhi hl3, or_shift _ _ _ hlo2, hU, Nat.mul_comm (2 ^ s), Nat.add_comm]
 have t8 : IntKind.u64.wrap ((lo : Int) * 2 ^ s) = (L : Int) := by
  rw [IntKind.wrap_u64, hL]; simp
 have t9 : (L : Int) / 4294967296 = (L1 : Int) := by omega
 have t10 : bits .and .u64 (L : Int) 4294967295 = (L0 : Int) := by
  have hLl : L < 18446744073709551616 := by omega
  have := u64_and_nat L 4294967295 hLl (by omega)
  rw [show ((4294967295 : Nat) : Int) = 4294967295 from rfl] at this
  rw [this, show (4294967295 : Nat) = 2 ^ 32 - 1 from rfl, Nat.and_two_pow_sub_one_eq_mod]
  omega
 have t11 : (U : Int) / (Y1 : Int) = (q0 : Int) := by rw [hq0]; simp
 have t12 : IntKind.u64.wrap ((q0 : Int) * (Y1 : Int)) = ((U - r0 : Nat) : Int) := by
  have hd := Nat.div_add_mod U Y1
  rw [← hq0, ← hr0, Nat.mul_comm] at hd
  rw [IntKind.wrap_u64, ← Int.natCast_mul, show q0 * Y1 = U - r0 from by omega]
  omega
 have t13 : (U : Int) - ((U - r0 : Nat) : Int) = (r0 : Int) := by
  have : r0 ≤ U := by rw [hr0]; exact Nat.mod_le _ _
  omega
 have b1 : q0 ≤ 4294967297 := by rw [hq0]; exact (half_start (L := 0) hYY hY1 hY1lt hY0 (by omega) hUY).le
 have b2 : r0 < 4294967296 := by rw [hr0]; have := Nat.mod_lt U (y := Y1) (by omega); omega
 have b3 : L1 < 4294967296 := by omega
 have b4 : L0 < 4294967296 := by omega
 have HY := hi9 hY
 have HYY := hi9 hYY
 have HU := hi9 hU
 have HL := hi9 hL
 have HL1 := hi9 hL1
 have HL0 := hi9 hL0
 have Hq0 := hi9 hq0
 have Hr0 := hi9 hr0
 clear hs hs3 hY hYY hU hL hL1 hL0 hq0 hr0
 go_enter Tryz.func199, Tryz.ntmps199
 go_upto_block 0 with (go_at_call 173; (with_reducible refine (lz64_any _ _ hy).mono ?_); rintro e w' ⟨rfl, rfl⟩; rw [Hs3.out])
 go_cut [15, 16] (fun q _ wc => q = .int .u64 (((U * 4294967296 + L1) / Y : Nat) : Int) ∧ wc = w)
 case first =>
  go_wp2_with fail
  go_loop [15, 16] (fun q r => ∃ a b : Nat, q = .int .u64 a ∧ r = .int .u64 b ∧ Half Y Y1 Y0 U L1 a b) (fun q _ => (intOf q).toNat)
  case atStart => exact ⟨q0, r0, rfl, rfl, by rw [Hq0.out, Hr0.out]; exact half_start HYY.out hY1 hY1lt hY0 b3 hUY⟩
  case round =>
   obtain ⟨a, b, rfl, rfl, hh⟩ := hrel
   have ha := hh.le
   have hb := hh.rest
   have hY1p : 0 < Y1 := by omega
   have hQ := half_Q HYY.out hY1 b3 hUY
   rcases Nat.lt_or_ge a 4294967296 with hlt | hge
   ·have hm : a * Y0 < 18446744073709551616 := by
     have : a * Y0 ≤ 4294967295 * 4294967295 := Nat.mul_le_mul (by omega) (by omega)
     omega
    have e1 : IntKind.u64.wrap ((a : Int) * (Y0 : Int)) = ((a * Y0 : Nat) : Int) := by rw [IntKind.wrap_u64, ← Int.natCast_mul]; omega
    rcases Nat.lt_or_ge (4294967296 * b + L1) (a * Y0) with hov | hfit
    ·have hlt2 := half_over HYY.out hY1 hh hov
     have t20 : decide (4294967296 ≤ (a : Int)) = false := by simp; omega
     have ha1 : 0 < a := Nat.zero_lt_of_lt hlt2
     rcases Nat.lt_or_ge (b + Y1) 4294967296 with hr | hr
     ·have Hd := hi9 (half_down hh hlt2 hr)
      have t21 : decide (4294967296 ≤ (b : Int) + (Y1 : Int)) = false := by simp; omega
      clear hh hlt2
      go_wp2
      go_round
      case rel => exact ⟨a - 1, b + Y1, int_u64 (by omega), int_u64 (by omega), Hd.out⟩
      case measure => simp [intOf]; omega
     ·have Hq := hi9 (half_break HYY.out hY1 hY0 hh hlt2 hr)
      have t21 : decide (4294967296 ≤ (b : Int) + (Y1 : Int)) = true := by simp; omega
      clear hh hlt2
      go_wp2
      go_meet
      exact ⟨int_u64 (by rw [← Hq.out]; omega), rfl⟩
    ·have hq := half_out HYY.out hY1 hh hfit
     have Hq := hi9 hq
     clear hq
     have t20 : decide (4294967296 ≤ (a : Int)) = false := by simp; omega
     go_wp2
     go_meet
     exact ⟨by rw [Hq.out], rfl⟩
   ·have hlt2 : (U * 4294967296 + L1) / Y < a := Nat.lt_of_lt_of_le hQ hge
    have t20 : decide (4294967296 ≤ (a : Int)) = true := by simp; omega
    have ha1 : 0 < a := Nat.zero_lt_of_lt hlt2
    rcases Nat.lt_or_ge (b + Y1) 4294967296 with hr | hr
    ·have Hd := hi9 (half_down hh hlt2 hr)
     have t21 : decide (4294967296 ≤ (b : Int) + (Y1 : Int)) = false := by simp; omega
     clear hh hlt2
     go_wp2
     go_round
     case rel => exact ⟨a - 1, b + Y1, int_u64 (by omega), int_u64 (by omega), Hd.out⟩
     case measure => simp [intOf]; omega
    ·have Hq := hi9 (half_break HYY.out hY1 hY0 hh hlt2 hr)
     have t21 : decide (4294967296 ≤ (b : Int) + (Y1 : Int)) = true := by simp; omega
     clear hh hlt2
     go_wp2
     go_meet
     exact ⟨int_u64 (by rw [← Hq.out]; omega), rfl⟩
 case rest =>
  obtain ⟨rfl, rfl⟩ := hcut
  obtain ⟨Q1, hQ1⟩ : ∃ Q1, Q1 = (U * 4294967296 + L1) / Y := ⟨_, rfl⟩
  rw [← hQ1]
  have HQ1 := hi9 hQ1
  clear hQ1
  obtain ⟨V2, hV2⟩ : ∃ V2, V2 = (U * 4294967296 + L1) % Y := ⟨_, rfl⟩
  have hVY : V2 < Y := by rw [hV2]; exact Nat.mod_lt _ (by omega)
  have t30 : IntKind.u64.wrap (IntKind.u64.wrap (IntKind.u64.wrap ((U : Int) * 4294967296) + (L1 : Int)) - IntKind.u64.wrap ((Q1 : Int) * (Y : Int))) = (V2 : Int) := by
   have h1 := Nat.div_add_mod (U * 4294967296 + L1) Y
   rw [← HQ1.out, ← hV2, Nat.mul_comm] at h1
   simp only [IntKind.wrap_u64]
   rw [← Int.natCast_mul]
   generalize Q1 * Y = z at *
   omega
  obtain ⟨q2, hq2⟩ : ∃ q2, q2 = V2 / Y1 := ⟨_, rfl⟩
  obtain ⟨r2, hr2⟩ : ∃ r2, r2 = V2 % Y1 := ⟨_, rfl⟩
  have t31 : (V2 : Int) / (Y1 : Int) = (q2 : Int) := by rw [hq2]; simp
  have t32 : IntKind.u64.wrap ((q2 : Int) * (Y1 : Int)) = ((V2 - r2 : Nat) : Int) := by
   have hd := Nat.div_add_mod V2 Y1
   rw [← hq2, ← hr2, Nat.mul_comm] at hd
   rw [IntKind.wrap_u64, ← Int.natCast_mul, show q2 * Y1 = V2 - r2 from by omega]
   omega
  have t33 : (V2 : Int) - ((V2 - r2 : Nat) : Int) = (r2 : Int) := by
   have : r2 ≤ V2 := by rw [hr2]; exact Nat.mod_le _ _
   omega
  have b5 : q2 ≤ 4294967297 := by rw [hq2]; exact (half_start (L := 0) HYY.out hY1 hY1lt hY0 (by omega) hVY).le
  have b6 : r2 < 4294967296 := by rw [hr2]; have := Nat.mod_lt V2 (y := Y1) (by omega); omega
  have HV2 := hi9 hV2
  have Hq2 := hi9 hq2
  have Hr2 := hi9 hr2
  clear hV2 hq2 hr2
  go_upto_block 2 with (fail)
  go_cut [18, 16] (fun q _ wc2 => q = .int .u64 (((V2 * 4294967296 + L0) / Y : Nat) : Int) ∧ wc2 = wc)
  case first =>
   go_wp2_with fail
   go_loop [18, 16] (fun q r => ∃ a b : Nat, q = .int .u64 a ∧ r = .int .u64 b ∧ Half Y Y1 Y0 V2 L0 a b) (fun q _ => (intOf q).toNat)
   case atStart => exact ⟨q2, r2, rfl, rfl, by rw [Hq2.out, Hr2.out]; exact half_start HYY.out hY1 hY1lt hY0 b4 hVY⟩
   case round =>
    obtain ⟨a, b, rfl, rfl, hh⟩ := hrel
    have ha := hh.le
    have hb := hh.rest
    have hY1p : 0 < Y1 := by omega
    have hQ := half_Q HYY.out hY1 b4 hVY
    rcases Nat.lt_or_ge a 4294967296 with hlt | hge
    ·have hm : a * Y0 < 18446744073709551616 := by
      have : a * Y0 ≤ 4294967295 * 4294967295 := Nat.mul_le_mul (by omega) (by omega)
      omega
     have e1 : IntKind.u64.wrap ((a : Int) * (Y0 : Int)) = ((a * Y0 : Nat) : Int) := by rw [IntKind.wrap_u64, ← Int.natCast_mul]; omega
     rcases Nat.lt_or_ge (4294967296 * b + L0) (a * Y0) with hov | hfit
     ·have hlt2 := half_over HYY.out hY1 hh hov
      have t20 : decide (4294967296 ≤ (a : Int)) = false := by simp; omega
      have ha1 : 0 < a := Nat.zero_lt_of_lt hlt2
      rcases Nat.lt_or_ge (b + Y1) 4294967296 with hr | hr
      ·have Hd := hi9 (half_down hh hlt2 hr)
       have t21 : decide (4294967296 ≤ (b : Int) + (Y1 : Int)) = false := by simp; omega
       clear hh hlt2
       go_wp2
       go_round
       case rel => exact ⟨a - 1, b + Y1, int_u64 (by omega), int_u64 (by omega), Hd.out⟩
       case measure => simp [intOf]; omega
      ·have Hq := hi9 (half_break HYY.out hY1 hY0 hh hlt2 hr)
       have t21 : decide (4294967296 ≤ (b : Int) + (Y1 : Int)) = true := by simp; omega
       clear hh hlt2
       go_wp2
       go_meet
       exact ⟨int_u64 (by rw [← Hq.out]; omega), rfl⟩
     ·have hq := half_out HYY.out hY1 hh hfit
      have Hq := hi9 hq
      clear hq
      have t20 : decide (4294967296 ≤ (a : Int)) = false := by simp; omega
      go_wp2
      go_meet
      exact ⟨by rw [Hq.out], rfl⟩
    ·have hlt2 : (V2 * 4294967296 + L0) / Y < a := Nat.lt_of_lt_of_le hQ hge
     have t20 : decide (4294967296 ≤ (a : Int)) = true := by simp; omega
     have ha1 : 0 < a := Nat.zero_lt_of_lt hlt2
     rcases Nat.lt_or_ge (b + Y1) 4294967296 with hr | hr
     ·have Hd := hi9 (half_down hh hlt2 hr)
      have t21 : decide (4294967296 ≤ (b : Int) + (Y1 : Int)) = false := by simp; omega
      clear hh hlt2
      go_wp2
      go_round
      case rel => exact ⟨a - 1, b + Y1, int_u64 (by omega), int_u64 (by omega), Hd.out⟩
      case measure => simp [intOf]; omega
     ·have Hq := hi9 (half_break HYY.out hY1 hY0 hh hlt2 hr)
      have t21 : decide (4294967296 ≤ (b : Int) + (Y1 : Int)) = true := by simp; omega
      clear hh hlt2
      go_wp2
      go_meet
      exact ⟨int_u64 (by rw [← Hq.out]; omega), rfl⟩
  case rest =>
   obtain ⟨rfl, rfl⟩ := hcut
   obtain ⟨Q0, hQ0⟩ : ∃ Q0, Q0 = (V2 * 4294967296 + L0) / Y := ⟨_, rfl⟩
   rw [← hQ0]
   obtain ⟨R, hR⟩ : ∃ R, R = (V2 * 4294967296 + L0) % Y := ⟨_, rfl⟩
   have t40 : IntKind.u64.wrap (IntKind.u64.wrap (IntKind.u64.wrap ((V2 : Int) * 4294967296) + (L0 : Int)) - IntKind.u64.wrap ((Q0 : Int) * (Y : Int))) = (R : Int) := by
    have h1 := Nat.div_add_mod (V2 * 4294967296 + L0) Y
    have h2 : R < Y := by rw [hR]; exact Nat.mod_lt _ (by omega)
    rw [← hQ0, ← hR, Nat.mul_comm] at h1
    simp only [IntKind.wrap_u64]
    rw [← Int.natCast_mul]
    generalize Q0 * Y = z at *
    omega
   have q1b : Q1 < 4294967296 := by rw [HQ1.out]; exact half_Q HYY.out hY1 b3 hUY
   have q0b : Q0 < 4294967296 := by rw [hQ0]; exact half_Q HYY.out hY1 b4 hVY
   have HQ0 := hi9 hQ0
   have HR := hi9 hR
   clear hQ0 hR
   go_wp2
   go_ret2
   have hyp : 0 < y := by omega
   obtain ⟨f1, f2⟩ := div64_fin hs2 hyp HY.out HU.out HL.out hlo HL1.out HL0.out
   rw [← HQ1.out, ← HV2.out, ← HQ0.out] at f1
   rw [← HV2.out, ← HR.out] at f2
   refine ⟨?_, Dr.refl _⟩
   rw [← f1, ← f2]
   simp
set_option maxHeartbeats 400000 in
theorem div64_zero (lo y : Nat) (hy : y < 18446744073709551616) (h0 : 0 < y) (hlo : lo < 18446744073709551616) (w : World) :
  Calls Tryz.prog 199 #[.int .u64 0, .int .u64 (lo : Int), .int .u64 (y : Int)] w fun e w' => e = .returned (.tuple #[.int .u64 ((lo / y : Nat) : Int), .int .u64 ((lo % y : Nat) : Int)]) ∧ Dr w w' := by
 have t0 : ((y : Int) == 0) = false := by simp; omega
 have t1 : decide (y ≤ 0) = false := by simp; omega
 have t3 : ¬ (y = 0) := by omega
 go_enter Tryz.func199, Tryz.ntmps199
 go_wp2
 go_quiet (fail)
 go_wp2
 go_ret2
 refine ⟨?_, (Dr.refl _).step _⟩
 have hq : lo / y ≤ lo := Nat.div_le_self _ _
 have e1 : IntKind.u64.wrap ((lo : Int) / (y : Int)) = ((lo / y : Nat) : Int) := by
  rw [IntKind.wrap_u64, ← Int.natCast_ediv]
  generalize lo / y = q at *
  omega
 show Ending.returned (.tuple #[.int .u64 (IntKind.u64.wrap ((lo : Int) / (y : Int))), .int .u64 ((lo : Int) % (y : Int))]) = _
 rw [e1]
 simp
theorem div64_any (hi lo y : Nat) (hy : y < 18446744073709551616) (hh : hi < y) (hlo : lo < 18446744073709551616) (w : World) :
  Calls Tryz.prog 199 #[.int .u64 (hi : Int), .int .u64 (lo : Int), .int .u64 (y : Int)] w fun e w' => e = .returned (.tuple #[.int .u64 (((hi * 18446744073709551616 + lo) / y : Nat) : Int), .int .u64 (((hi * 18446744073709551616 + lo) % y : Nat) : Int)]) ∧ Dr w w' := by
 rcases Nat.eq_zero_or_pos hi with h0 | h0
 ·subst h0
  refine (div64_zero lo y hy hh hlo w).mono ?_
  rintro e w' ⟨rfl, hw⟩
  exact ⟨by simp, hw⟩
 ·obtain ⟨hb1, hb2, hb3⟩ := bitLen_bounds y hy (by omega)
  have hb4 := bitLen_le64 y hy
  obtain ⟨s, hs⟩ : ∃ s, s = 64 - Lib.bitLen y := ⟨_, rfl⟩
  have e1 : 2 ^ Lib.bitLen y * 2 ^ s = 18446744073709551616 := by rw [← Nat.pow_add, show Lib.bitLen y + s = 64 from by omega]
  have e2 : 2 ^ (Lib.bitLen y - 1) * 2 ^ s = 9223372036854775808 := by rw [← Nat.pow_add, show Lib.bitLen y - 1 + s = 63 from by omega]
  have hp : 0 < 2 ^ s := Nat.two_pow_pos s
  have u1 : y * 2 ^ s < 18446744073709551616 := by rw [← e1]; exact Nat.mul_lt_mul_of_pos_right hb3 hp
  have u2 : 9223372036854775808 ≤ y * 2 ^ s := by rw [← e2]; exact Nat.mul_le_mul_right _ hb2
  have u3 : hi * 2 ^ s + lo / 2 ^ (64 - s) < y * 2 ^ s := by
   have e64 : 2 ^ s * 2 ^ (64 - s) = 18446744073709551616 := by rw [← Nat.pow_add, show s + (64 - s) = 64 from by omega]
   have : lo / 2 ^ (64 - s) < 2 ^ s := by rw [Nat.div_lt_iff_lt_mul (Nat.two_pow_pos _), e64]; exact hlo
   have h2 : (hi + 1) * 2 ^ s ≤ y * 2 ^ s := Nat.mul_le_mul_right _ hh
   rw [Nat.succ_mul] at h2
   omega
  exact div64_big hi lo y s (y * 2 ^ s) (y * 2 ^ s / 4294967296) (y * 2 ^ s % 4294967296) hy hh h0 hlo w (by omega) (by omega) rfl u1 (by omega) (by omega) (by omega) (by omega)
   _ _ _ _ _ _ rfl rfl rfl rfl u3 rfl rfl
end
section
open Go.RowKit
def bitsOf (n : Nat) : Nat := if n = 0 then 0 else Nat.log2 n + 1
set_option maxHeartbeats 400000 in
theorem of_any (n : Nat) (h : n < 18446744073709551616) (w : World) :
  Calls Tryz.prog 111 #[.int .u64 (n : Int)] w fun e w' => ∃ zs A' c', e = .returned (.slice A' zs.length c') ∧ Num 4294967296 zs n ∧ Res w' w.heap.size 50 A' c' (u32s zs) ∧ Below w.heap.size w w' := by
 go_enter Tryz.func111, Tryz.ntmps111
 go_wp2_with fail
 have hblk : Blk (w.alloc (.cells #[.int .u64 (n : Int)] 116)) w.heap.size 116 (u64s [n]) := Blk.new_ rfl
 refine (narrow_any (some ⟨w.heap.size, 0, none⟩) 1 [n] _ (w.heap.size + 1) ?_ ?_ ?_ ?_ ?_).mono ?_
 ·exact Rd.of_blk hblk (by omega) 0 (fun k v hv => by rw [Nat.zero_add]; exact hv)
 ·simp
 ·exact Dig.cons_ h (Dig.nil_ _)
 ·simp
 ·simp
 rintro e w' ⟨zs, A', c', rfl, hn, hres, hb⟩
 go_wp2
 go_ret
 have hz : (w.alloc (.cells #[.int .u64 (n : Int)] 116)).heap.size = w.heap.size + 1 := by simp
 rw [hz] at hres hb
 exact ⟨zs, A', c', rfl, by simpa [val] using hn, hres.mono (by omega), (br9.alloc nl9 _).trans (hb.mono (by omega))⟩
theorem bitLen_val (x : Nat) (h : x < 18446744073709551616) : Lib.bitLen x = bitsOf x := by
 unfold bitsOf
 by_cases h0 : x = 0
 ·subst h0; rfl
 ·rw [if_neg h0]
  obtain ⟨a, b, c⟩ := bitLen_bounds x h h0
  have h1 := (Nat.le_log2 h0).2 b
  have h2 := (Nat.log2_lt h0).2 c
  omega
theorem bitsOf_val {zs : List Nat} {n : Nat} (h : Num 4294967296 zs n) (hn : zs ≠ []) (hl : zs.length - 1 < zs.length) : bitsOf n = 32 * (zs.length - 1) + bitsOf (zs[zs.length - 1]) := by
 have ht := trimL_last h.2.1 hn
 obtain ⟨t, hte⟩ : ∃ t, t = zs[zs.length - 1] := ⟨_, rfl⟩
 have e : zs = zs.take (zs.length - 1) ++ [zs[zs.length - 1]] := by
  rw [← List.take_succ_eq_append_getElem (by omega), show zs.length - 1 + 1 = zs.length from by omega, List.take_length]
 have hv : n = val 4294967296 (zs.take (zs.length - 1)) + 4294967296 ^ (zs.length - 1) * t := by
  have h1 := val_snoc 4294967296 (zs.take (zs.length - 1)) t
  rw [List.length_take, Nat.min_eq_left (by omega)] at h1
  rw [← h1, hte, ← e, h.2.2]
 have hlt := val_lt 4294967296 _ (h.1.take_ (zs.length - 1))
 rw [List.length_take, Nat.min_eq_left (by omega)] at hlt
 rw [← hte] at ht ⊢
 have e2 : (4294967296 : Nat) ^ (zs.length - 1) = 2 ^ (32 * (zs.length - 1)) := by rw [show (4294967296 : Nat) = 2 ^ 32 from rfl, ← Nat.pow_mul]
 rw [e2] at hv hlt
 have hn0 : n ≠ 0 := by
  have := Nat.mul_pos (Nat.two_pow_pos (32 * (zs.length - 1))) (Nat.pos_of_ne_zero ht)
  omega
 unfold bitsOf
 rw [if_neg ht, if_neg hn0]
 have a1 : 2 ^ Nat.log2 t ≤ t := (Nat.le_log2 ht).1 nl9
 have a2 : t < 2 ^ (Nat.log2 t + 1) := (Nat.log2_lt ht).1 (by omega)
 have b1 : 32 * (zs.length - 1) + Nat.log2 t ≤ Nat.log2 n := by
  refine (Nat.le_log2 hn0).2 ?_
  rw [Nat.pow_add]
  have := Nat.mul_le_mul_left (2 ^ (32 * (zs.length - 1))) a1
  omega
 have b2 : Nat.log2 n < 32 * (zs.length - 1) + Nat.log2 t + 1 := by
  refine (Nat.log2_lt hn0).2 ?_
  rw [Nat.add_assoc, Nat.pow_add]
  have h3 : 2 ^ (32 * (zs.length - 1)) * (t + 1) ≤ 2 ^ (32 * (zs.length - 1)) * 2 ^ (Nat.log2 t + 1) := Nat.mul_le_mul_left _ a2
  rw [Nat.mul_add] at h3
  omega
 omega
set_option maxHeartbeats 400000 in
theorem len_any (A : Option Addr) (c : Nat) (xs : List Nat) (w : World) (B : Nat) (hr : Rd w B A (u32s xs)) (hd : Dig 4294967296 xs) (hc : xs.length ≤ c) (hm : xs.length ≤ 70368744177664) :
  Calls Tryz.prog 97 #[.slice A xs.length c] w fun e w' => e = .returned (.int .i64 (bitsOf (val 4294967296 xs) : Nat)) ∧ w = w' := by
 have hn := Num.of_trim hd
 have hl := trimL_length_le xs
 have hrt : Rd w B A (u32s (trimL xs)) := by rw [u32s_trim]; exact hr.take _
 by_cases h0 : trimL xs = []
 ·have hl0 : ((trimL xs).length : Int) = 0 := by rw [h0]; rfl
  have hv : bitsOf (val 4294967296 xs) = 0 := by rw [← val_trim, h0]; rfl
  have Hv := hi9 hv
  clear hv h0 hn
  go_enter Tryz.func97, Tryz.ntmps97
  go_wp2_with (go_at_call 128; (with_reducible refine (trim_any A c xs _ B hr hc (by omega)).mono ?_); rintro e w' ⟨rfl, rfl⟩)
  go_ret
  exact ⟨by rw [Hv.out]; rfl, rfl⟩
 ·have hne : (trimL xs).length ≠ 0 := by intro e; exact h0 (List.eq_nil_of_length_eq_zero e)
  have hv := bitsOf_val hn h0 (by omega)
  obtain ⟨b, off, rfl, hbB, hcell⟩ := hrt (by intro e; have := u32s_length (trimL xs); rw [e] at this; simp at this; omega)
  obtain ⟨k, hk⟩ : ∃ k, (trimL xs).length = k + 1 := ⟨(trimL xs).length - 1, by omega⟩
  have hcl := hcell k _ (u32s_at (by omega))
  have hx := hn.1.at_ k (by omega)
  have hv2 : bitsOf (val 4294967296 xs) = 32 * k + bitsOf ((trimL xs)[k]) := by
   rw [hv]; simp [hk]
  have hb32 : bitsOf ((trimL xs)[k]) ≤ 32 := by
   rw [← bitLen_val _ (by omega)]; exact Lib.bitLen_le _ 32 (by omega) hx
  obtain ⟨x, hxe⟩ : ∃ x, x = (trimL xs)[k] := ⟨_, rfl⟩
  rw [← hxe] at hcl hx hv2 hb32
  have hT : Hid ((trimL xs).length = k + 1) := hk
  have Hv2 := hi9 hv2
  have hbl := bitLen_val x (by omega)
  have Hbl := hi9 hbl
  have hkb : k < 70368744177664 := by omega
  clear hv hv2 hn hcell hxe hbl h0 hne hk
  go_enter Tryz.func97, Tryz.ntmps97
  go_wp2_with (first
   | (go_at_call 128; (with_reducible refine (trim_any _ c xs _ B hr hc (by omega)).mono ?_); rintro e w' ⟨rfl, rfl⟩; rw [hT.out])
   | (go_at_call 129; (with_reducible refine (len32_any _ _ hx).mono ?_); rintro e w' ⟨rfl, rfl⟩; rw [Hbl.out]))
  go_ret
  refine ⟨?_, rfl⟩
  rw [Hv2.out]
  simp
end
section
open Go.RowKit
def Shorted (ws : List Nat) (b k : Nat) (qs : List Nat) (r : Nat) : Prop :=
 qs.length = ws.length ∧ Dig 18446744073709551616 qs ∧ r < b ∧ val 18446744073709551616 (ws.drop k) = val 18446744073709551616 (qs.drop k) * b + r
theorem Shorted.start (ws : List Nat) (b : Nat) (hb : 0 < b) : Shorted ws b ws.length (List.replicate ws.length 0) 0 :=
 ⟨by simp, Dig.zeros_ (by omega) _, hb, by simp [val]⟩
theorem Shorted.step {ws qs : List Nat} {b k r : Nat} (h : Shorted ws b (k + 1) qs r) (hk : k < ws.length) (hw : ws[k] < 18446744073709551616) (hb : b < 18446744073709551616) :
  Shorted ws b k (qs.set k ((r * 18446744073709551616 + ws[k]) / b)) ((r * 18446744073709551616 + ws[k]) % b) := by
 obtain ⟨h1, h2, h3, h4⟩ := h
 have hq : (r * 18446744073709551616 + ws[k]) / b < 18446744073709551616 := by
  rw [Nat.div_lt_iff_lt_mul (by omega)]
  have : (r + 1) * 18446744073709551616 ≤ b * 18446744073709551616 := Nat.mul_le_mul_right _ h3
  omega
 refine ⟨by simpa using h1, h2.set_ _ _ hq, Nat.mod_lt _ (by omega), ?_⟩
 have e1 : ws.drop k = ws[k] :: ws.drop (k + 1) := List.drop_eq_getElem_cons hk
 have e2 : (qs.set k ((r * 18446744073709551616 + ws[k]) / b)).drop k = ((r * 18446744073709551616 + ws[k]) / b) :: qs.drop (k + 1) := by
  rw [List.drop_eq_getElem_cons (by simpa using (by omega : k < qs.length))]
  simp [List.drop_set]
 rw [e1, e2]
 simp only [val]
 rw [h4]
 have hd := Nat.div_add_mod (r * 18446744073709551616 + ws[k]) b
 generalize (r * 18446744073709551616 + ws[k]) / b = q at *
 generalize (r * 18446744073709551616 + ws[k]) % b = m at *
 rw [Nat.add_mul, Nat.mul_add, Nat.mul_assoc, Nat.mul_comm q b]
 generalize val 18446744073709551616 (qs.drop (k + 1)) * b = z at *
 omega
set_option maxHeartbeats 800000 in
theorem shortQuotient_any (A : Option Addr) (c : Nat) (ws : List Nat) (b : Nat) (w : World) (B : Nat) (hr : Rd w B A (u64s ws)) (hB : B ≤ w.heap.size) (hd : Dig 18446744073709551616 ws) (hb0 : 0 < b) (hb : b < 18446744073709551616) (hm : ws.length ≤ 35184372088832) :
  Calls Tryz.prog 172 #[.slice A ws.length c, .int .u64 (b : Int)] w fun e w' => ∃ qs r A1 c1 A2 c2, e = .returned (.tuple #[.slice A1 qs.length c1, .slice A2 1 c2]) ∧ Dig 18446744073709551616 qs ∧ qs.length = ws.length ∧ r < b ∧ val 18446744073709551616 ws = val 18446744073709551616 qs * b + r ∧
   Res w' w.heap.size 116 A1 c1 (u64s qs) ∧ Res w' w.heap.size 116 A2 c2 (u64s [r]) ∧ Below w.heap.size w w' := by
 have hmk := fun W => mk64 ws.length hm W
 go_enter Tryz.func172, Tryz.ntmps172
 go_wp2
 go_loopw [7, 8] (fun rv i wr => ∃ (k r : Nat) (qs : List Nat), k ≤ ws.length ∧ i = .int .i64 ((k : Int) - 1) ∧ rv = .int .u64 r ∧ Blk wr w.heap.size 116 (u64s qs) ∧ Shorted ws b k qs r ∧ Below w.heap.size w wr) (fun _ i _ => (intOf i + 1).toNat)
 case atStart => exact ⟨ws.length, 0, List.replicate ws.length 0, Nat.le_refl _, by go_num, rfl, Blk.new_ (by simp [u64s]), Shorted.start ws b hb0, br9.alloc nl9 _⟩
 case round =>
  obtain ⟨k, r, qs, hk, rfl, rfl, hblk, hs, hbel⟩ := hrel
  rcases k with _ | k
  ·go_wp2
   go_ret2
   have hlt := hblk.lt
   have hr1 : Blk (wr.alloc (.cells #[.int .u64 (r : Int)] 116)) wr.heap.size 116 (u64s [r]) := Blk.new_ rfl
   have hq1 := hblk.heapAlloc (.cells #[.int .u64 (r : Int)] 116)
   have hl := u64s_length qs
   have hres := Res.of_blk0 hq1 nl9 (by rw [hl, hs.1]; omega)
   rw [hl] at hres
   refine ⟨qs, r, _, _, _, 1, by rw [hs.1]; rfl, hs.2.1, hs.1, hs.2.2.1, by simpa using hs.2.2.2, by rw [← hs.1]; exact hres, Res.of_blk0 hr1 (by omega) (by simp [u64s]), hbel.alloc (by omega) _⟩
  ·rw [show ((k + 1 : Nat) : Int) - 1 = (k : Int) from by omega]
   obtain ⟨bk, off, rfl, hbB, hcell⟩ := hr (by intro e; have := u64s_length ws; rw [e] at this; simp at this; omega)
   have hx := (hbel.cell (p := ⟨bk, off + k, none⟩) (show bk < _ by omega)).trans (hcell k _ (u64s_at (by omega)))
   have hkq : k < qs.length := by have := hs.1; omega
   have hqc := (hblk.cell k).trans (u64s_at hkq)
   have hqf := hblk.frozen k
   have hwk := hd.at_ k (by omega)
   have hrb := hs.2.2.1
   clear hcell
   go_wp2_with (go_at_call 199; (with_reducible refine (div64_any _ _ _ hb hrb hwk _).mono ?_); rintro e w2 ⟨rfl, nd, rfl⟩)
   go_roundw
   case rel =>
    refine ⟨k, _, qs.set k ((r * 18446744073709551616 + ws[k]) / b), by omega, by go_num, rfl, ?_, hs.step (by omega) hwk hb, (hbel.trans ((Dr.refl wr).step nd |>.below _)).setCell (p := ⟨w.heap.size, k, none⟩) nl9 _⟩
    have hb2 := (hblk.drewN nd).set_ k (Value.int IntKind.u64 (((r * 18446744073709551616 + ws[k]) / b : Nat) : Int))
    rw [u64s_set] at hb2
    exact hb2
   case measure => simp [intOf]
end
section
open Go.RowKit
theorem trimL_of_ge {b : Nat} {xs : List Nat} (hb : 1 < b) (hd : Dig b xs) (h : b ^ (xs.length - 1) ≤ val b xs) : trimL xs = xs := by
 by_cases h0 : xs = []
 ·subst h0; rfl
 have hl : 0 < xs.length := by cases xs with | nil => exact absurd rfl h0 | cons _ _ => simp
 have e := trimL_take xs
 have hle := trimL_length_le xs
 by_cases hlt : (trimL xs).length = xs.length
 ·rw [← e, hlt, List.take_length]
 ·exfalso
  have h1 := val_lt b (trimL xs) hd.trim_
  rw [val_trim] at h1
  have : b ^ (trimL xs).length ≤ b ^ (xs.length - 1) := Nat.pow_le_pow_right (by omega) (by omega)
  omega
def QuotientOk (P : Nat → Prop) : Prop :=
 ∀ (A : Option Addr) (c : Nat) (A2 : Option Addr) (c2 : Nat) (us vs : List Nat) (w : World) (B : Nat), Rd w B A (u64s us) → Rd w B A2 (u64s vs) → B ≤ w.heap.size → Dig 18446744073709551616 us → Dig 18446744073709551616 vs → trimL us = us → trimL vs = vs → vs ≠ [] →
  val 18446744073709551616 vs ≤ val 18446744073709551616 us → P vs.length → us.length ≤ c → vs.length ≤ c2 → us.length ≤ 35183400000000 →
  Calls Tryz.prog 154 #[.slice A us.length c, .slice A2 vs.length c2] w fun e w' => ∃ qs rs A1 c1 A3 c3, e = .returned (.tuple #[.slice A1 qs.length c1, .slice A3 rs.length c3]) ∧ Dig 18446744073709551616 qs ∧ Dig 18446744073709551616 rs ∧ qs.length ≤ us.length + 402653185 ∧ rs.length ≤ us.length + 1 ∧ qs.length ≤ c1 ∧ rs.length ≤ c3 ∧
   val 18446744073709551616 us = val 18446744073709551616 qs * val 18446744073709551616 vs + val 18446744073709551616 rs ∧ val 18446744073709551616 rs < val 18446744073709551616 vs ∧ Rd w' w'.heap.size A1 (u64s qs) ∧ Res w' w.heap.size 116 A3 c3 (u64s rs) ∧ Below w.heap.size w w'
set_option maxHeartbeats 400000 in
theorem quotient_one : QuotientOk (· = 1) := by
 intro A c A2 c2 us vs w B hr hr2 hB hd hd2 ht ht2 hv0 hge hP hc hc2 hm
 obtain ⟨v, rfl⟩ := len_one (xs := vs) hP
 obtain ⟨b, off, rfl, hb, hcell⟩ := hr2 (by simp [u64s])
 have hcv := hcell 0 _ rfl
 simp only [Nat.add_zero] at hcv
 have hv : v < 18446744073709551616 := hd2.head_
 have hvp : 0 < v := by
  rcases Nat.eq_zero_or_pos v with h | h
  ·subst h; simp [trimL] at ht2
  ·exact h
 have hl1 : [v].length = 1 := rfl
 clear hcell hr2 ht2
 rw [hl1]
 go_enter Tryz.func154, Tryz.ntmps154
 go_wp2_with (go_at_call 172; (with_reducible refine (shortQuotient_any _ _ us v _ B hr hB hd hvp hv (by omega)).mono ?_); rintro e w2 ⟨qs, r, A1, c1, A3, c3, rfl, h1, h2, h3, h4, h5, h6, h7⟩)
 go_ret2
 refine ⟨qs, [r], A1, c1, A3, c3, by rw [h2]; rfl, h1, Dig.cons_ (by omega) (Dig.nil_ _), by omega, by simp, by simpa [u64s_length] using h5.1, by simpa [u64s_length] using h6.1, ?_, ?_, h5.rd, h6, h7⟩
 ·simpa [val] using h4
 ·simpa [val] using h3
def DivOut (w w' : World) (m n : Nat) (e : Ending) : Prop :=
 ∃ qs rs A1 c1 A3 c3, e = .returned (.tuple #[.slice A1 qs.length c1, .slice A3 rs.length c3, .int .i64 (if n = 0 then 5 else 0)]) ∧ Num 4294967296 qs (m / n) ∧ Num 4294967296 rs (if n = 0 then 0 else m % n) ∧
  Res w' w.heap.size 50 A1 c1 (u32s qs) ∧ Res w' w.heap.size 50 A3 c3 (u32s rs) ∧ Below w.heap.size w w'
theorem wide_norm {ps ws : List Nat} {m : Nat} (h : Num 4294967296 ps m) (hn : ps ≠ []) (hl : ws.length = (ps.length + 1) / 2) (hd : Dig 18446744073709551616 ws) (hv : val 18446744073709551616 ws = val 4294967296 ps) : trimL ws = ws := by
 refine trimL_of_ge (by omega) hd ?_
 have h1 := h.ge hn
 rw [hv, h.2.2]
 refine Nat.le_trans ?_ h1
 rw [show (18446744073709551616 : Nat) = 4294967296 ^ 2 from rfl, ← Nat.pow_mul]
 have : 0 < ps.length := by cases ps with | nil => exact absurd rfl hn | cons _ _ => simp
 exact Nat.pow_le_pow_right (by omega) (by omega)
set_option maxHeartbeats 1000000 in
theorem div_any {P : Nat → Prop} (hQ : QuotientOk P) (A A2 : Option Addr) (c c2 : Nat) (xs ys : List Nat) (w : World) (B : Nat) (hr : Rd w B A (u32s xs)) (hr2 : Rd w B A2 (u32s ys)) (hB : B ≤ w.heap.size) (hd : Dig 4294967296 xs) (hd2 : Dig 4294967296 ys) (hc : xs.length ≤ c) (hc2 : ys.length ≤ c2) (hm : xs.length ≤ 70366800000000) (hm2 : ys.length ≤ 70366800000000)
  (hP : P (((trimL ys).length + 1) / 2)) :
  Calls Tryz.prog 125 #[.slice A xs.length c, .slice A2 ys.length c2] w fun e w' => DivOut w w' (val 4294967296 xs) (val 4294967296 ys) e := by
 obtain ⟨m, hmv⟩ : ∃ m, m = val 4294967296 xs := ⟨_, rfl⟩
 obtain ⟨n, hnv⟩ : ∃ n, n = val 4294967296 ys := ⟨_, rfl⟩
 have hn1 : Num 4294967296 (trimL xs) m := by rw [hmv]; exact Num.of_trim hd
 have hn2 : Num 4294967296 (trimL ys) n := by rw [hnv]; exact Num.of_trim hd2
 have hl1 := trimL_length_le xs
 have hl2 := trimL_length_le ys
 rw [← hmv, ← hnv]
 have hrt : Rd w B A (u32s (trimL xs)) := by rw [u32s_trim]; exact hr.take _
 have hrt2 : Rd w B A2 (u32s (trimL ys)) := by rw [u32s_trim]; exact hr2.take _
 obtain ⟨ps, hps⟩ : ∃ ps, ps = trimL xs := ⟨_, rfl⟩
 obtain ⟨qs, hqs⟩ : ∃ qs, qs = trimL ys := ⟨_, rfl⟩
 rw [← hps] at hn1 hrt hl1
 rw [← hqs] at hn2 hrt2 hl2 hP
 have Hps := hi9 hps
 have Hqs := hi9 hqs
 have hmm : xs.length ≤ 281474976710656 := by omega
 have hmm2 : ys.length ≤ 281474976710656 := by omega
 have hdp : Dig 4294967296 ps := hn1.1
 have hdq : Dig 4294967296 qs := hn2.1
 have Hvp : Hid (val 4294967296 ps = m) := hn1.2.2
 have Hvq : Hid (val 4294967296 qs = n) := hn2.2.2
 clear hps hqs hmv hnv
 rcases Nat.eq_zero_or_pos n with h0 | hnp
 ·have hq0 : qs = [] := (hn2.nil_iff (by omega)).2 h0
  have hz : (qs.length : Int) = 0 := by rw [hq0]; rfl
  have H0 := hi9 h0
  clear hq0 h0
  go_enter Tryz.func125, Tryz.ntmps125
  go_wp2_with (first
   | (go_at_call 128; (with_reducible refine (trim_any A c xs _ B hr hc hmm).mono ?_); rintro e w' ⟨rfl, rfl⟩; rw [← Hps.out])
   | (go_at_call 128; (with_reducible refine (trim_any A2 c2 ys _ B hr2 hc2 hmm2).mono ?_); rintro e w' ⟨rfl, rfl⟩; rw [← Hqs.out]))
  go_ret3
  refine ⟨[], [], none, 0, none, 0, ?_, ?_, ?_, Res.none_, Res.none_, br9⟩
  ·rw [H0.out]; rfl
  ·rw [H0.out, Nat.div_zero]; exact Num.zero_ _
  ·rw [if_pos H0.out]; exact Num.zero_ _
 ·have hqne : qs ≠ [] := fun e => by have := (hn2.nil_iff (by omega)).1 e; omega
  have hqp : qs.length ≠ 0 := fun e => hqne (List.eq_nil_of_length_eq_zero e)
  have tq : ((qs.length : Int) == 0) = false := by simpa using hqp
  rcases Nat.lt_or_ge m n with hlt | hge
  ·have e1 : cmpN m n = -1 := by simp [cmpN, hlt]
   have He1 := hi9 e1
   clear e1 hqne hqp
   have hrtd : ∀ k, Rd (w.drewN k) B A (u32s ps) := fun k => hrt.dr ((Dr.refl w).step k)
   have hBd : ∀ k, B ≤ (w.drewN k).heap.size := fun _ => hB
   have hlc : ps.length ≤ c := by omega
   have hlc2 : qs.length ≤ c2 := by omega
   have hm1 : ps.length ≤ 70368744177664 := by omega
   have hm3 : ps.length ≤ 281474976710656 := by omega
   have hm4 : qs.length ≤ 281474976710656 := by omega
   go_enter Tryz.func125, Tryz.ntmps125
   go_wp2_with (first
    | (go_at_call 128; (with_reducible refine (trim_any A c xs _ B hr hc hmm).mono ?_); rintro e w' ⟨rfl, rfl⟩; rw [← Hps.out])
    | (go_at_call 128; (with_reducible refine (trim_any A2 c2 ys _ B hr2 hc2 hmm2).mono ?_); rintro e w' ⟨rfl, rfl⟩; rw [← Hqs.out])
    | (go_at_call 104; (with_reducible refine (cmp_any A A2 c c2 ps qs _ B hrt hrt2 hdp hdq hlc hlc2 hm3 hm4).mono ?_); rintro e w' ⟨rfl, nd, rfl⟩; rw [Hvp.out, Hvq.out, He1.out])
    | (go_at_call 117; (with_reducible refine (norm_any A c ps _ B (hrtd _) (hBd _) hlc hm1).mono ?_); rintro e w' ⟨A', c', rfl, hres, hb⟩))
   go_ret3
   have hz : (w.drewN nd).heap.size = w.heap.size := rfl
   rw [hz] at hres hb
   have htp : trimL ps = ps := hn1.2.1
   rw [htp] at hres
   refine ⟨[], ps, none, 0, A', c', ?_, ?_, ?_, Res.none_, hres, ((Dr.refl w).step nd |>.below _).trans hb⟩
   ·rw [if_neg (by omega), htp]; rfl
   ·rw [Nat.div_eq_of_lt hlt]; exact Num.zero_ _
   ·rw [if_neg (by omega), Nat.mod_eq_of_lt hlt]; exact hn1
  ·have e1 : 0 ≤ cmpN m n := by unfold cmpN; split <;> (try split) <;> omega
   obtain ⟨cm, hcm⟩ : ∃ cm : Int, cm = cmpN m n := ⟨_, rfl⟩
   rw [← hcm] at e1
   have Hcm := hi9 hcm
   have hlc : ps.length ≤ c := by omega
   have hlc2 : qs.length ≤ c2 := by omega
   have hm3 : ps.length ≤ 281474976710656 := by omega
   have hm4 : qs.length ≤ 281474976710656 := by omega
   have hdiv : ¬ (n = 0) := by omega
   have Hdiv := hi9 hdiv
   clear hcm
   rcases Nat.lt_or_ge 2 ps.length with hbig | hsmall
   ·go_enter Tryz.func125, Tryz.ntmps125
    go_wp2_with (first
     | (go_at_call 128; (with_reducible refine (trim_any A c xs _ B hr hc hmm).mono ?_); rintro e w' ⟨rfl, rfl⟩; rw [← Hps.out])
     | (go_at_call 128; (with_reducible refine (trim_any A2 c2 ys _ B hr2 hc2 hmm2).mono ?_); rintro e w' ⟨rfl, rfl⟩; rw [← Hqs.out])
     | (go_at_call 104; (with_reducible refine (cmp_any A A2 c c2 ps qs _ B hrt hrt2 hdp hdq hlc hlc2 hm3 hm4).mono ?_); rintro e w' ⟨rfl, nd, rfl⟩; rw [Hvp.out, Hvq.out, ← Hcm.out]))
    have hpne : ps ≠ [] := by rintro rfl; simp at hbig
    refine (wide_any A c ps _ B (hrt.dr ((Dr.refl w).step _)) hB hdp hlc (by omega)).mono ?_
    rintro e w1 ⟨us, A1, c1, rfl, hul, hud, huv, hures, hub⟩
    have hub' : Below w.heap.size w w1 := ((Dr.refl w).step _ |>.below _).trans hub
    have hures' : Res w1 w.heap.size 116 A1 c1 (u64s us) := hures
    have hut := hi9 (wide_norm hn1 hpne hul hud huv)
    have Hul := hi9 hul
    have Huv := hi9 huv
    clear hub hures hul huv
    go_wp2_with fail
    refine (wide_any A2 c2 qs _ B (hrt2.below (hub'.mono hB)) (Nat.le_trans hB hub'.size) hdq hlc2 (by omega)).mono ?_
    rintro e w2 ⟨vs, A3, c3, rfl, hvl, hvd, hvv, hvres, hvb⟩
    have hvt := hi9 (wide_norm hn2 hqne hvl hvd hvv)
    have Hvl := hi9 hvl
    have Hvv := hi9 hvv
    have huc : us.length ≤ c1 := by have := hures'.1; rwa [u64s_length] at this
    have hvc : vs.length ≤ c3 := by have := hvres.1; rwa [u64s_length] at this
    have hvne : vs ≠ [] := by rintro rfl; simp at hvl; omega
    clear hvl hvv
    have hb12 := hub'.trans (hvb.mono hub'.size)
    have hru : Rd w2 w2.heap.size A1 (u64s us) := (hures'.below hvb nl9).rd
    go_wp2_with fail
    have hge2 : val 18446744073709551616 vs ≤ val 18446744073709551616 us := by rw [Huv.out, Hvv.out, Hvp.out, Hvq.out]; exact hge
    have hP2 : P vs.length := by rw [Hvl.out]; exact hP
    have hub2 : us.length ≤ 35183400000000 := by have := Hul.out; omega
    refine (hQ A1 c1 A3 c3 us vs _ _ hru hvres.rd nl9 hud hvd hut.out hvt.out hvne hge2 hP2 huc hvc hub2).mono ?_
    rintro e w3 ⟨gs, rs, A4, c4, A5, c5, rfl, hgd, hrd, hgl, hrl, hgc, hrc, hsum0, hrest, hrg, hrr0, hb3⟩
    have hrr := hrr0.rd
    have hsum1 := hi9 hsum0
    clear hsum0
    go_wp2_with fail
    refine (narrow_any A4 c4 gs _ _ hrg nl9 hgd hgc (by omega)).mono ?_
    rintro e w4 ⟨z1, A6, c6, rfl, hz1, hres1, hb4⟩
    go_wp2_with fail
    refine (narrow_any A5 c5 rs _ _ (hrr.below hb4) hb4.size hrd hrc (by omega)).mono ?_
    rintro e w5 ⟨z2, A7, c7, rfl, hz2, hres2, hb5⟩
    go_wp2
    go_ret3
    have s1 := hb12.size
    have s2 := hb3.size
    have s3 := hb4.size
    have hsum := hsum1.out
    rw [Huv.out, Hvv.out, Hvp.out, Hvq.out, Nat.mul_comm] at hsum
    rw [Hvv.out, Hvq.out] at hrest
    have hq1 : m / n = val 18446744073709551616 gs := by
     rw [hsum, Nat.mul_add_div hnp, Nat.div_eq_of_lt hrest, Nat.add_zero]
    have hr1 : m % n = val 18446744073709551616 rs := by
     rw [hsum, Nat.mul_add_mod, Nat.mod_eq_of_lt hrest]
    refine ⟨z1, z2, A6, c6, A7, c7, ?_, ?_, ?_, (hres1.below hb5 nl9).mono (by omega), hres2.mono (by omega), ?_⟩
    ·rw [if_neg Hdiv.out]; rfl
    ·rw [hq1]; exact hz1
    ·rw [if_neg Hdiv.out, hr1]; exact hz2
    ·exact ((hb12.trans (hb3.mono s1)).trans (hb4.mono (by omega))).trans (hb5.mono (by omega))
   ·have hs2 : qs.length ≤ 2 := by
     rcases Nat.lt_or_ge 2 qs.length with h | h
     ·have := val_lt_len (by omega) hn1 hn2 (by omega); omega
     ·exact h
    have hmw : m < 18446744073709551616 := by
     have h1 := hn1.lt
     have h2 : 4294967296 ^ ps.length ≤ 4294967296 ^ 2 := Nat.pow_le_pow_right (by omega) hsmall
     omega
    obtain ⟨dq, hdqe⟩ : ∃ dq, dq = m / n := ⟨_, rfl⟩
    obtain ⟨dr, hdre⟩ : ∃ dr, dr = m % n := ⟨_, rfl⟩
    have hdqb : dq < 18446744073709551616 := by rw [hdqe]; exact Nat.lt_of_le_of_lt (Nat.div_le_self _ _) hmw
    have hdrb : dr < 18446744073709551616 := by rw [hdre]; exact Nat.lt_of_le_of_lt (Nat.mod_le _ _) hmw
    have r1 : (m : Int) / (n : Int) = (dq : Int) := by rw [hdqe]; simp
    have r2 : (m : Int) % (n : Int) = (dr : Int) := by rw [hdre]; simp
    have hrtd : ∀ k, Rd (w.drewN k) B A (u32s ps) := fun k => hrt.dr ((Dr.refl w).step k)
    have hrtd2 : ∀ k, Rd (w.drewN k) B A2 (u32s qs) := fun k => hrt2.dr ((Dr.refl w).step k)
    have Hdq := hi9 hdqe
    have Hdr := hi9 hdre
    clear hdqe hdre
    go_enter Tryz.func125, Tryz.ntmps125
    go_wp2_with (first
     | (go_at_call 128; (with_reducible refine (trim_any A c xs _ B hr hc hmm).mono ?_); rintro e w' ⟨rfl, rfl⟩; rw [← Hps.out])
     | (go_at_call 128; (with_reducible refine (trim_any A2 c2 ys _ B hr2 hc2 hmm2).mono ?_); rintro e w' ⟨rfl, rfl⟩; rw [← Hqs.out])
     | (go_at_call 104; (with_reducible refine (cmp_any A A2 c c2 ps qs _ B hrt hrt2 hdp hdq hlc hlc2 hm3 hm4).mono ?_); rintro e w' ⟨rfl, nd, rfl⟩; rw [Hvp.out, Hvq.out, ← Hcm.out]))
    refine (word_any A c ps _ B (hrtd _) hdp hsmall).mono ?_
    rintro e w' ⟨rfl, nd, rfl⟩
    rw [Hvp.out]
    go_wp2_with fail
    refine (word_any A2 c2 qs _ B (hrtd2 _) hdq hs2).mono ?_
    rintro e w' ⟨rfl, nd, rfl⟩
    rw [Hvq.out]
    go_wp2_with fail
    refine (of_any dq hdqb _).mono ?_
    rintro e w2 ⟨z1, A1, c1, rfl, hz1, hres1, hb1⟩
    have hb1' : Below w.heap.size w w2 := ((Dr.refl w).step _ |>.below _).trans hb1
    have hres1' : Res w2 w.heap.size 50 A1 c1 (u32s z1) := hres1
    have hra : ∀ k, Rd (w2.drewN k) B A (u32s ps) := fun k => (hrt.below (hb1'.mono hB)).dr ((Dr.refl w2).step k)
    have hra2 : ∀ k, Rd (w2.drewN k) B A2 (u32s qs) := fun k => (hrt2.below (hb1'.mono hB)).dr ((Dr.refl w2).step k)
    clear hb1 hres1
    go_wp2_with fail
    refine (word_any A c ps _ B (hra 0) hdp hsmall).mono ?_
    rintro e w' ⟨rfl, nd, rfl⟩
    rw [Hvp.out]
    go_wp2_with fail
    refine (word_any A2 c2 qs _ B (hra2 _) hdq hs2).mono ?_
    rintro e w' ⟨rfl, nd, rfl⟩
    rw [Hvq.out]
    go_wp2_with fail
    refine (of_any dr hdrb _).mono ?_
    rintro e w3 ⟨z2, A2', c2', rfl, hz2, hres2, hb2⟩
    have hb2' : Below w2.heap.size w2 w3 := ((Dr.refl w2).step _ |>.below _).trans hb2
    have hres2' : Res w3 w2.heap.size 50 A2' c2' (u32s z2) := hres2
    clear hb2 hres2
    go_wp2
    go_ret3
    refine ⟨z1, z2, A1, c1, A2', c2', ?_, ?_, ?_, hres1'.below hb2' nl9, hres2'.mono hb1'.size, hb1'.trans (hb2'.mono hb1'.size)⟩
    ·rw [if_neg Hdiv.out]; rfl
    ·rw [← Hdq.out]; exact hz1
    ·rw [if_neg Hdiv.out, ← Hdr.out]; exact hz2
end
end Go.Proofs.YtbcphifjcaobfaaGreatDoor
