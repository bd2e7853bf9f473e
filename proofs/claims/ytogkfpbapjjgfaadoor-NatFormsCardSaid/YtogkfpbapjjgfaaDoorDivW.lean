/- The contract of math/bits.Div64: by Knuth's way, half a word at a time. Conditions: hi below y. -/
import Derived.Test.YtogkfpbapjjgfaaDoorBits
import Derived.Test.YtogkfpbapjjgfaaDoorHalf
import Derived.Deep.CutBlock
import Derived.Deep.DeepCutAuto
namespace Go.Proofs.YtogkfpbapjjgfaaDoor
open Go.RowKit

theorem int_u64 {a b : Int} (h : a = b) : Value.int .u64 a = Value.int .u64 b := by rw [h]

set_option maxHeartbeats 1600000 in
theorem div64_big (hi lo y s Y Y1 Y0 : Nat) (hy : y < 18446744073709551616) (hh : hi < y) (h0 : 0 < hi) (hlo : lo < 18446744073709551616) (w : World) (hs : Lib.bitLen y = 64 - s) (hs2 : s < 64)
    (hY : Y = y * 2 ^ s) (hYlt : Y < 18446744073709551616) (hY1 : 2147483648 ≤ Y1) (hY1lt : Y1 < 4294967296) (hY0 : Y0 < 4294967296) (hYY : Y = Y1 * 4294967296 + Y0)
    (U L L1 L0 q0 r0 : Nat) (hU : U = hi * 2 ^ s + lo / 2 ^ (64 - s)) (hL : L = lo * 2 ^ s % 18446744073709551616) (hL1 : L1 = L / 4294967296) (hL0 : L0 = L % 4294967296) (hUY : U < Y) (hq0 : q0 = U / Y1) (hr0 : r0 = U % Y1) :
    Calls Tryd.prog 87 #[.int .u64 (hi : Int), .int .u64 (lo : Int), .int .u64 (y : Int)] w fun e w' => e = .returned (.tuple #[.int .u64 (((hi * 18446744073709551616 + lo) / y : Nat) : Int), .int .u64 (((hi * 18446744073709551616 + lo) % y : Nat) : Int)]) ∧ Dr w w' := by
  have t0 : ((y : Int) == 0) = false := by simp; omega
  have t1 : decide (y ≤ hi) = false := by simp; omega
  have t2 : ((hi : Int) == 0) = false := by simp; omega
  have hs3 : (64 : Int) - (Lib.bitLen y : Int) = (s : Int) := by rw [hs]; omega
  have Hs3 := Lib.hid hs3
  have Hs := Lib.hid hs
  have t3 : IntKind.u64.wrap ((y : Int) * 2 ^ s) = (Y : Int) := by
    rw [IntKind.wrap_u64, hY]
    have : ((y : Int) * 2 ^ s) = ((y * 2 ^ s : Nat) : Int) := by simp
    rw [this]; omega
  have t4 : (Y : Int) / 4294967296 = (Y1 : Int) := by omega
  have t5 : bits .and .u64 (Y : Int) 4294967295 = (Y0 : Int) := by
    have := u64_and_nat Y 4294967295 hYlt (by omega)
    rw [show ((4294967295 : Nat) : Int) = 4294967295 from rfl] at this
    rw [this, show (4294967295 : Nat) = 2 ^ 32 - 1 from rfl, Nat.and_two_pow_sub_one_eq_mod]
    omega
  have t6 : ¬ (Y1 = 0) := by omega
  have t7 : bits .or .u64 (IntKind.u64.wrap ((hi : Int) * 2 ^ s)) ((lo : Int) / 2 ^ (64 - s)) = (U : Int) := by
    have e64 : 2 ^ s * 2 ^ (64 - s) = 18446744073709551616 := by rw [← Nat.pow_add, show s + (64 - s) = 64 from by omega]
    have hp : 0 < 2 ^ s := Nat.two_pow_pos s
    have hp2 : 0 < 2 ^ (64 - s) := Nat.two_pow_pos _
    have hlo2 : lo / 2 ^ (64 - s) < 2 ^ s := by rw [Nat.div_lt_iff_lt_mul hp2, e64]; exact hlo
    have hhi : hi * 2 ^ s < 18446744073709551616 := by
      have : hi * 2 ^ s ≤ y * 2 ^ s := Nat.mul_le_mul_right _ (by omega)
      omega
    have e1 : IntKind.u64.wrap ((hi : Int) * 2 ^ s) = ((hi * 2 ^ s : Nat) : Int) := by
      rw [IntKind.wrap_u64, show ((hi : Int) * 2 ^ s) = ((hi * 2 ^ s : Nat) : Int) from by simp]; omega
    have e2 : ((lo : Int) / 2 ^ (64 - s)) = ((lo / 2 ^ (64 - s) : Nat) : Int) := by simp
    have hl3 : lo / 2 ^ (64 - s) < 18446744073709551616 := Nat.lt_of_le_of_lt (Nat.div_le_self _ _) hlo
    rw [e1, e2, u64_or_nat _ _ hhi hl3, or_shift _ _ _ hlo2, hU, Nat.mul_comm (2 ^ s), Nat.add_comm]
  have t8 : IntKind.u64.wrap ((lo : Int) * 2 ^ s) = (L : Int) := by
    rw [IntKind.wrap_u64, hL]; simp
  have t9 : (L : Int) / 4294967296 = (L1 : Int) := by omega
  have t10 : bits .and .u64 (L : Int) 4294967295 = (L0 : Int) := by
    have hLl : L < 18446744073709551616 := by omega
    have := u64_and_nat L 4294967295 hLl (by omega)
    rw [show ((4294967295 : Nat) : Int) = 4294967295 from rfl] at this
    rw [this, show (4294967295 : Nat) = 2 ^ 32 - 1 from rfl, Nat.and_two_pow_sub_one_eq_mod]
    omega
  have t11 : (U : Int) / (Y1 : Int) = (q0 : Int) := by rw [hq0]; simp
  have t12 : IntKind.u64.wrap ((q0 : Int) * (Y1 : Int)) = ((U - r0 : Nat) : Int) := by
    have hd := Nat.div_add_mod U Y1
    rw [← hq0, ← hr0, Nat.mul_comm] at hd
    rw [IntKind.wrap_u64, ← Int.natCast_mul, show q0 * Y1 = U - r0 from by omega]
    omega
  have t13 : (U : Int) - ((U - r0 : Nat) : Int) = (r0 : Int) := by
    have : r0 ≤ U := by rw [hr0]; exact Nat.mod_le _ _
    omega
  have b1 : q0 ≤ 4294967297 := by rw [hq0]; exact (half_start (L := 0) hYY hY1 hY1lt hY0 (by omega) hUY).le
  have b2 : r0 < 4294967296 := by rw [hr0]; have := Nat.mod_lt U (y := Y1) (by omega); omega
  have b3 : L1 < 4294967296 := by omega
  have b4 : L0 < 4294967296 := by omega
  have HY := Lib.hid hY
  have HYY := Lib.hid hYY
  have HU := Lib.hid hU
  have HL := Lib.hid hL
  have HL1 := Lib.hid hL1
  have HL0 := Lib.hid hL0
  have Hq0 := Lib.hid hq0
  have Hr0 := Lib.hid hr0
  clear hs hs3 hY hYY hU hL hL1 hL0 hq0 hr0
  go_enter Tryd.func87, Tryd.ntmps87
  go_upto_block 0 with (go_at_call 68; (with_reducible refine (lz64_any _ _ hy).mono ?_); rintro e w' ⟨rfl, rfl⟩; rw [Hs3.out])
  go_cut [15, 16] (fun q _ wc => q = .int .u64 (((U * 4294967296 + L1) / Y : Nat) : Int) ∧ wc = w)
  case first =>
    go_wp2_with fail
    go_loop [15, 16] (fun q r => ∃ a b : Nat, q = .int .u64 a ∧ r = .int .u64 b ∧ Half Y Y1 Y0 U L1 a b) (fun q _ => (intOf q).toNat)
    case atStart => exact ⟨q0, r0, rfl, rfl, by rw [Hq0.out, Hr0.out]; exact half_start HYY.out hY1 hY1lt hY0 b3 hUY⟩
    case round =>
      obtain ⟨a, b, rfl, rfl, hh⟩ := hrel
      have ha := hh.le
      have hb := hh.rest
      have hY1p : 0 < Y1 := by omega
      have hQ := half_Q HYY.out hY1 b3 hUY
      rcases Nat.lt_or_ge a 4294967296 with hlt | hge
      · have hm : a * Y0 < 18446744073709551616 := by
          have : a * Y0 ≤ 4294967295 * 4294967295 := Nat.mul_le_mul (by omega) (by omega)
          omega
        have e1 : IntKind.u64.wrap ((a : Int) * (Y0 : Int)) = ((a * Y0 : Nat) : Int) := by rw [IntKind.wrap_u64, ← Int.natCast_mul]; omega
        rcases Nat.lt_or_ge (4294967296 * b + L1) (a * Y0) with hov | hfit
        · have hlt2 := half_over HYY.out hY1 hh hov
          have t20 : decide (4294967296 ≤ (a : Int)) = false := by simp; omega
          have ha1 : 0 < a := Nat.zero_lt_of_lt hlt2
          rcases Nat.lt_or_ge (b + Y1) 4294967296 with hr | hr
          · have Hd := Lib.hid (half_down hh hlt2 hr)
            have t21 : decide (4294967296 ≤ (b : Int) + (Y1 : Int)) = false := by simp; omega
            clear hh hlt2
            go_wp2
            go_round
            case rel => exact ⟨a - 1, b + Y1, int_u64 (by omega), int_u64 (by omega), Hd.out⟩
            case measure => simp [intOf]; omega
          · have Hq := Lib.hid (half_break HYY.out hY1 hY0 hh hlt2 hr)
            have t21 : decide (4294967296 ≤ (b : Int) + (Y1 : Int)) = true := by simp; omega
            clear hh hlt2
            go_wp2
            go_meet
            exact ⟨int_u64 (by rw [← Hq.out]; omega), rfl⟩
        · have hq := half_out HYY.out hY1 hh hfit
          have Hq := Lib.hid hq
          clear hq
          have t20 : decide (4294967296 ≤ (a : Int)) = false := by simp; omega
          go_wp2
          go_meet
          exact ⟨by rw [Hq.out], rfl⟩
      · have hlt2 : (U * 4294967296 + L1) / Y < a := Nat.lt_of_lt_of_le hQ hge
        have t20 : decide (4294967296 ≤ (a : Int)) = true := by simp; omega
        have ha1 : 0 < a := Nat.zero_lt_of_lt hlt2
        rcases Nat.lt_or_ge (b + Y1) 4294967296 with hr | hr
        · have Hd := Lib.hid (half_down hh hlt2 hr)
          have t21 : decide (4294967296 ≤ (b : Int) + (Y1 : Int)) = false := by simp; omega
          clear hh hlt2
          go_wp2
          go_round
          case rel => exact ⟨a - 1, b + Y1, int_u64 (by omega), int_u64 (by omega), Hd.out⟩
          case measure => simp [intOf]; omega
        · have Hq := Lib.hid (half_break HYY.out hY1 hY0 hh hlt2 hr)
          have t21 : decide (4294967296 ≤ (b : Int) + (Y1 : Int)) = true := by simp; omega
          clear hh hlt2
          go_wp2
          go_meet
          exact ⟨int_u64 (by rw [← Hq.out]; omega), rfl⟩
  case rest =>
    obtain ⟨rfl, rfl⟩ := hcut
    obtain ⟨Q1, hQ1⟩ : ∃ Q1, Q1 = (U * 4294967296 + L1) / Y := ⟨_, rfl⟩
    rw [← hQ1]
    have HQ1 := Lib.hid hQ1
    clear hQ1
    obtain ⟨V2, hV2⟩ : ∃ V2, V2 = (U * 4294967296 + L1) % Y := ⟨_, rfl⟩
    have hVY : V2 < Y := by rw [hV2]; exact Nat.mod_lt _ (by omega)
    have t30 : IntKind.u64.wrap (IntKind.u64.wrap (IntKind.u64.wrap ((U : Int) * 4294967296) + (L1 : Int)) - IntKind.u64.wrap ((Q1 : Int) * (Y : Int))) = (V2 : Int) := by
      have h1 := Nat.div_add_mod (U * 4294967296 + L1) Y
      rw [← HQ1.out, ← hV2, Nat.mul_comm] at h1
      simp only [IntKind.wrap_u64]
      rw [← Int.natCast_mul]
      generalize Q1 * Y = z at *
      omega
    obtain ⟨q2, hq2⟩ : ∃ q2, q2 = V2 / Y1 := ⟨_, rfl⟩
    obtain ⟨r2, hr2⟩ : ∃ r2, r2 = V2 % Y1 := ⟨_, rfl⟩
    have t31 : (V2 : Int) / (Y1 : Int) = (q2 : Int) := by rw [hq2]; simp
    have t32 : IntKind.u64.wrap ((q2 : Int) * (Y1 : Int)) = ((V2 - r2 : Nat) : Int) := by
      have hd := Nat.div_add_mod V2 Y1
      rw [← hq2, ← hr2, Nat.mul_comm] at hd
      rw [IntKind.wrap_u64, ← Int.natCast_mul, show q2 * Y1 = V2 - r2 from by omega]
      omega
    have t33 : (V2 : Int) - ((V2 - r2 : Nat) : Int) = (r2 : Int) := by
      have : r2 ≤ V2 := by rw [hr2]; exact Nat.mod_le _ _
      omega
    have b5 : q2 ≤ 4294967297 := by rw [hq2]; exact (half_start (L := 0) HYY.out hY1 hY1lt hY0 (by omega) hVY).le
    have b6 : r2 < 4294967296 := by rw [hr2]; have := Nat.mod_lt V2 (y := Y1) (by omega); omega
    have HV2 := Lib.hid hV2
    have Hq2 := Lib.hid hq2
    have Hr2 := Lib.hid hr2
    clear hV2 hq2 hr2
    go_upto_block 2 with (fail)
    go_cut [18, 16] (fun q _ wc2 => q = .int .u64 (((V2 * 4294967296 + L0) / Y : Nat) : Int) ∧ wc2 = wc)
    case first =>
      go_wp2_with fail
      go_loop [18, 16] (fun q r => ∃ a b : Nat, q = .int .u64 a ∧ r = .int .u64 b ∧ Half Y Y1 Y0 V2 L0 a b) (fun q _ => (intOf q).toNat)
      case atStart => exact ⟨q2, r2, rfl, rfl, by rw [Hq2.out, Hr2.out]; exact half_start HYY.out hY1 hY1lt hY0 b4 hVY⟩
      case round =>
        obtain ⟨a, b, rfl, rfl, hh⟩ := hrel
        have ha := hh.le
        have hb := hh.rest
        have hY1p : 0 < Y1 := by omega
        have hQ := half_Q HYY.out hY1 b4 hVY
        rcases Nat.lt_or_ge a 4294967296 with hlt | hge
        · have hm : a * Y0 < 18446744073709551616 := by
            have : a * Y0 ≤ 4294967295 * 4294967295 := Nat.mul_le_mul (by omega) (by omega)
            omega
          have e1 : IntKind.u64.wrap ((a : Int) * (Y0 : Int)) = ((a * Y0 : Nat) : Int) := by rw [IntKind.wrap_u64, ← Int.natCast_mul]; omega
          rcases Nat.lt_or_ge (4294967296 * b + L0) (a * Y0) with hov | hfit
          · have hlt2 := half_over HYY.out hY1 hh hov
            have t20 : decide (4294967296 ≤ (a : Int)) = false := by simp; omega
            have ha1 : 0 < a := Nat.zero_lt_of_lt hlt2
            rcases Nat.lt_or_ge (b + Y1) 4294967296 with hr | hr
            · have Hd := Lib.hid (half_down hh hlt2 hr)
              have t21 : decide (4294967296 ≤ (b : Int) + (Y1 : Int)) = false := by simp; omega
              clear hh hlt2
              go_wp2
              go_round
              case rel => exact ⟨a - 1, b + Y1, int_u64 (by omega), int_u64 (by omega), Hd.out⟩
              case measure => simp [intOf]; omega
            · have Hq := Lib.hid (half_break HYY.out hY1 hY0 hh hlt2 hr)
              have t21 : decide (4294967296 ≤ (b : Int) + (Y1 : Int)) = true := by simp; omega
              clear hh hlt2
              go_wp2
              go_meet
              exact ⟨int_u64 (by rw [← Hq.out]; omega), rfl⟩
          · have hq := half_out HYY.out hY1 hh hfit
            have Hq := Lib.hid hq
            clear hq
            have t20 : decide (4294967296 ≤ (a : Int)) = false := by simp; omega
            go_wp2
            go_meet
            exact ⟨by rw [Hq.out], rfl⟩
        · have hlt2 : (V2 * 4294967296 + L0) / Y < a := Nat.lt_of_lt_of_le hQ hge
          have t20 : decide (4294967296 ≤ (a : Int)) = true := by simp; omega
          have ha1 : 0 < a := Nat.zero_lt_of_lt hlt2
          rcases Nat.lt_or_ge (b + Y1) 4294967296 with hr | hr
          · have Hd := Lib.hid (half_down hh hlt2 hr)
            have t21 : decide (4294967296 ≤ (b : Int) + (Y1 : Int)) = false := by simp; omega
            clear hh hlt2
            go_wp2
            go_round
            case rel => exact ⟨a - 1, b + Y1, int_u64 (by omega), int_u64 (by omega), Hd.out⟩
            case measure => simp [intOf]; omega
          · have Hq := Lib.hid (half_break HYY.out hY1 hY0 hh hlt2 hr)
            have t21 : decide (4294967296 ≤ (b : Int) + (Y1 : Int)) = true := by simp; omega
            clear hh hlt2
            go_wp2
            go_meet
            exact ⟨int_u64 (by rw [← Hq.out]; omega), rfl⟩
    case rest =>
      obtain ⟨rfl, rfl⟩ := hcut
      obtain ⟨Q0, hQ0⟩ : ∃ Q0, Q0 = (V2 * 4294967296 + L0) / Y := ⟨_, rfl⟩
      rw [← hQ0]
      obtain ⟨R, hR⟩ : ∃ R, R = (V2 * 4294967296 + L0) % Y := ⟨_, rfl⟩
      have t40 : IntKind.u64.wrap (IntKind.u64.wrap (IntKind.u64.wrap ((V2 : Int) * 4294967296) + (L0 : Int)) - IntKind.u64.wrap ((Q0 : Int) * (Y : Int))) = (R : Int) := by
        have h1 := Nat.div_add_mod (V2 * 4294967296 + L0) Y
        have h2 : R < Y := by rw [hR]; exact Nat.mod_lt _ (by omega)
        rw [← hQ0, ← hR, Nat.mul_comm] at h1
        simp only [IntKind.wrap_u64]
        rw [← Int.natCast_mul]
        generalize Q0 * Y = z at *
        omega
      have q1b : Q1 < 4294967296 := by rw [HQ1.out]; exact half_Q HYY.out hY1 b3 hUY
      have q0b : Q0 < 4294967296 := by rw [hQ0]; exact half_Q HYY.out hY1 b4 hVY
      have HQ0 := Lib.hid hQ0
      have HR := Lib.hid hR
      clear hQ0 hR
      go_wp2
      go_ret2
      have hyp : 0 < y := by omega
      obtain ⟨f1, f2⟩ := div64_fin hs2 hyp HY.out HU.out HL.out hlo HL1.out HL0.out
      rw [← HQ1.out, ← HV2.out, ← HQ0.out] at f1
      rw [← HV2.out, ← HR.out] at f2
      refine ⟨?_, Dr.refl _⟩
      rw [← f1, ← f2]
      simp

set_option maxHeartbeats 400000 in
theorem div64_zero (lo y : Nat) (hy : y < 18446744073709551616) (h0 : 0 < y) (hlo : lo < 18446744073709551616) (w : World) :
    Calls Tryd.prog 87 #[.int .u64 0, .int .u64 (lo : Int), .int .u64 (y : Int)] w fun e w' => e = .returned (.tuple #[.int .u64 ((lo / y : Nat) : Int), .int .u64 ((lo % y : Nat) : Int)]) ∧ Dr w w' := by
  have t0 : ((y : Int) == 0) = false := by simp; omega
  have t1 : decide (y ≤ 0) = false := by simp; omega
  have t3 : ¬ (y = 0) := by omega
  go_enter Tryd.func87, Tryd.ntmps87
  go_wp2
  go_quiet (fail)
  go_wp2
  go_ret2
  refine ⟨?_, (Dr.refl _).step _⟩
  have hq : lo / y ≤ lo := Nat.div_le_self _ _
  have e1 : IntKind.u64.wrap ((lo : Int) / (y : Int)) = ((lo / y : Nat) : Int) := by
    rw [IntKind.wrap_u64, ← Int.natCast_ediv]
    generalize lo / y = q at *
    omega
  show Ending.returned (.tuple #[.int .u64 (IntKind.u64.wrap ((lo : Int) / (y : Int))), .int .u64 ((lo : Int) % (y : Int))]) = _
  rw [e1]
  simp

theorem div64_any (hi lo y : Nat) (hy : y < 18446744073709551616) (hh : hi < y) (hlo : lo < 18446744073709551616) (w : World) :
    Calls Tryd.prog 87 #[.int .u64 (hi : Int), .int .u64 (lo : Int), .int .u64 (y : Int)] w fun e w' => e = .returned (.tuple #[.int .u64 (((hi * 18446744073709551616 + lo) / y : Nat) : Int), .int .u64 (((hi * 18446744073709551616 + lo) % y : Nat) : Int)]) ∧ Dr w w' := by
  rcases Nat.eq_zero_or_pos hi with h0 | h0
  · subst h0
    refine (div64_zero lo y hy hh hlo w).mono ?_
    rintro e w' ⟨rfl, hw⟩
    exact ⟨by simp, hw⟩
  · obtain ⟨hb1, hb2, hb3⟩ := bitLen_bounds y hy (by omega)
    have hb4 := bitLen_le64 y hy
    obtain ⟨s, hs⟩ : ∃ s, s = 64 - Lib.bitLen y := ⟨_, rfl⟩
    have e1 : 2 ^ Lib.bitLen y * 2 ^ s = 18446744073709551616 := by rw [← Nat.pow_add, show Lib.bitLen y + s = 64 from by omega]
    have e2 : 2 ^ (Lib.bitLen y - 1) * 2 ^ s = 9223372036854775808 := by rw [← Nat.pow_add, show Lib.bitLen y - 1 + s = 63 from by omega]
    have hp : 0 < 2 ^ s := Nat.two_pow_pos s
    have u1 : y * 2 ^ s < 18446744073709551616 := by rw [← e1]; exact Nat.mul_lt_mul_of_pos_right hb3 hp
    have u2 : 9223372036854775808 ≤ y * 2 ^ s := by rw [← e2]; exact Nat.mul_le_mul_right _ hb2
    have u3 : hi * 2 ^ s + lo / 2 ^ (64 - s) < y * 2 ^ s := by
      have e64 : 2 ^ s * 2 ^ (64 - s) = 18446744073709551616 := by rw [← Nat.pow_add, show s + (64 - s) = 64 from by omega]
      have : lo / 2 ^ (64 - s) < 2 ^ s := by rw [Nat.div_lt_iff_lt_mul (Nat.two_pow_pos _), e64]; exact hlo
      have h2 : (hi + 1) * 2 ^ s ≤ y * 2 ^ s := Nat.mul_le_mul_right _ hh
      rw [Nat.succ_mul] at h2
      omega
    exact div64_big hi lo y s (y * 2 ^ s) (y * 2 ^ s / 4294967296) (y * 2 ^ s % 4294967296) hy hh h0 hlo w (by omega) (by omega) rfl u1 (by omega) (by omega) (by omega) (by omega)
      _ _ _ _ _ _ rfl rfl rfl rfl u3 rfl rfl
end Go.Proofs.YtogkfpbapjjgfaaDoor
