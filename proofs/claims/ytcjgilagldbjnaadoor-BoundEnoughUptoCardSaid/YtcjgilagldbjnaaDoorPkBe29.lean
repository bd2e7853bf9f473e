/- The contracts of prime's passesWith, passes and Is: what they answer, as functions of numbers. Conditions: passesWith, passes: n odd, above 1, n - 1 split as d 2^s; passes, Is: bases reads 2, 7, 61. The contracts of prime's Is and isSquare, and of inverse, root, Quo, Inv, Sqrt at the document's examples. Conditions: as each states; bases reads 2, 7, 61. prime's root, Quo, Inv and Sqrt at the document's examples; Is at the two numbers; awake. Conditions: bases reads 2, 7, 61. Least divisors, and the contract of the reference's least. Conditions: n at least 2. -/
import Derived.Test.YtcjgilagldbjnaaDoorPkBe28
import Derived.Deep.CutBlock
import Derived.RegionTactic
import Derived.Deep.QuietTactic
import Derived.BigQuiet
import Derived.WalkMore
import Derived.Deep.DeepCutAuto
namespace Go.Proofs.YtcjgilagldbjnaaDoor
section
open Go.RowKit

set_option maxHeartbeats 400000 in
theorem passesWith_any (b n d s : Nat) (hb : b < 4294967296) (hn : n < 4294967296) (hn1 : 1 < n) (hd : d % 2 = 1) (hs : s ≤ 32) (hsplit : n - 1 = d * 2 ^ s) (w : World) :
    Calls Tryd.prog 45 #[.int .u32 (b : Int), .int .u32 (n : Int)] w fun e w' => e = .returned (.bool (mr b n d s)) ∧ w' = w := by
  obtain ⟨m, hm⟩ : ∃ m, n = m + 1 := ⟨n - 1, by omega⟩
  subst hm
  have hm : m = d * 2 ^ s := by omega
  clear hsplit
  have hpow := fun W => power_any b (m + 1) hb hn hn1 64 d (by
    have : d ≤ d * 2 ^ s := Nat.le_mul_of_pos_right _ (Nat.two_pow_pos s)
    have : d < 18446744073709551616 := by omega
    simpa using this) (by
    have : d ≤ d * 2 ^ s := Nat.le_mul_of_pos_right _ (Nat.two_pow_pos s)
    omega) W
  have hdm : d < 4294967296 := by
    have : d ≤ d * 2 ^ s := Nat.le_mul_of_pos_right _ (Nat.two_pow_pos s)
    omega
  have hx : b ^ d % (m + 1) < m + 1 := Nat.mod_lt _ (by omega)
  have hmr : mr b (m + 1) d s = if b ^ d % (m + 1) = 1 then true else mrLoop (m + 1) s (b ^ d % (m + 1)) := rfl
  obtain ⟨x, hxe⟩ : ∃ x, x = b ^ d % (m + 1) := ⟨_, rfl⟩
  rw [← hxe] at hx hmr
  simp only [← hxe] at hpow
  clear hxe
  have Hm := Lib.hid hm
  have Hmr := Lib.hid hmr
  have hm2 : m < 4294967295 := by omega
  have hm0 : 0 < m := by omega
  clear hm hmr
  go_enter Tryd.func45, Tryd.ntmps45
  go_wp2
  go_loop [5, 6] (fun ov tv => ∃ (j i y : Nat), i + j = s ∧ y = d * 2 ^ j ∧ 0 < y ∧ y ≤ m ∧ ov = .int .u32 (y : Int) ∧ tv = .int .i64 (i : Int)) (fun ov _ => (intOf ov).toNat)
  case atStart => exact ⟨s, 0, m, by omega, Hm.out, hm0, by omega, rfl, rfl⟩
  case round =>
    obtain ⟨j, i, y, hij, hy, hy0, hym, rfl, rfl⟩ := hrel
    cases j with
    | succ j =>
      have hy2 : y = 2 * (d * 2 ^ j) := by rw [hy, Nat.pow_succ, ← Nat.mul_assoc, Nat.mul_comm]
      obtain ⟨z, hz⟩ : ∃ z, z = d * 2 ^ j := ⟨_, rfl⟩
      rw [← hz] at hy2
      have Hz := Lib.hid hz
      clear hy hz
      have t0 : ((y : Int) % 2 == 0) = true := by simp; omega
      have t1 : (y : Int) / 2 = (z : Int) := by omega
      have Hy2 := Lib.hid hy2
      have hi : i < 32 := by omega
      clear hy2
      go_wp2
      go_round
      case rel => exact ⟨j, i + 1, z, by omega, Hz.out, by have := Hy2.out; omega, by have := Hy2.out; omega, by go_num, by go_num⟩
      case measure => have := Hy2.out; simp [intOf]; omega
    | zero =>
      obtain rfl : y = d := by simpa using hy
      obtain rfl : i = s := by omega
      clear hy hij
      have t0 : ((y : Int) % 2 == 0) = false := by simp; omega
      go_wp2_with fail
      refine (hpow _).mono ?_
      rintro _ _ ⟨rfl, rfl⟩
      by_cases h1 : x = 1
      · have e1 := Hmr.out
        rw [if_pos h1] at e1
        have E1 := Lib.hid e1
        subst h1
        clear e1 Hmr hpow
        go_wp2
        go_ret
        exact ⟨by rw [E1.out]; rfl, rfl⟩
      · have e1 := Hmr.out
        rw [if_neg h1] at e1
        have E1 := Lib.hid e1
        have t1 : ((x : Int) == 1) = false := by simp; omega
        clear e1 Hmr hpow
        go_wp2
        go_loop [25, 7] (fun cv xv => ∃ (j c z : Nat), c + j = i ∧ z < m + 1 ∧ mrLoop (m + 1) i x = mrLoop (m + 1) j z ∧ cv = .int .i64 (c : Int) ∧ xv = .int .u32 (z : Int)) (fun cv _ => i - (intOf cv).toNat)
        case atStart => exact ⟨i, 0, x, by omega, hx, rfl, rfl, rfl⟩
        case round =>
          obtain ⟨j, c, z, hcj, hz, hmz, rfl, rfl⟩ := hrel
          cases j with
          | zero =>
            obtain rfl : c = i := by omega
            have Hmz := Lib.hid hmz
            clear hmz
            go_wp2
            go_ret
            exact ⟨by rw [E1.out, Hmz.out]; rfl, rfl⟩
          | succ j =>
            have hci : c < i := by omega
            by_cases hzm : z = m
            · subst hzm
              rw [mrLoop, if_pos (by omega)] at hmz
              have Hmz := Lib.hid hmz
              clear hmz
              have t2 : ((z : Int) == (z : Int)) = true := by simp
              go_wp2
              go_ret
              exact ⟨by rw [E1.out, Hmz.out]; rfl, rfl⟩
            · rw [mrLoop, if_neg (by omega)] at hmz
              have Hmz := Lib.hid hmz
              have t2 : ((z : Int) == (m : Int)) = false := by simp; omega
              clear hmz
              go_wp2_with fail
              refine (times_any z z (m + 1) _ (by omega) (by omega) hn (by omega)).mono ?_
              rintro _ _ ⟨rfl, rfl⟩
              have hq : z * z % (m + 1) < m + 1 := Nat.mod_lt _ (by omega)
              obtain ⟨q, hqe⟩ : ∃ q, q = z * z % (m + 1) := ⟨_, rfl⟩
              have Hqe := Lib.hid hqe
              rw [← hqe] at hq ⊢
              clear hqe
              go_wp2
              go_round
              case rel => exact ⟨j, c + 1, q, by omega, hq, by rw [Hmz.out, Hqe.out], by go_num, rfl⟩
              case measure => simp [intOf]; omega

/-- The package's list of bases, as it was laid. -/
def Bases (w : World) : Prop := w.cell? ⟨0, 0, none⟩ = some (.int .u32 2) ∧ w.cell? ⟨0, 1, none⟩ = some (.int .u32 7) ∧ w.cell? ⟨0, 2, none⟩ = some (.int .u32 61)

/-- One base in passes. -/
def base1 (n d s b : Nat) : Bool := if b % n = 0 then true else mr b n d s
/-- What passes answers. -/
def passAll (n d s : Nat) : Bool := if base1 n d s 2 = true then if base1 n d s 7 = true then base1 n d s 61 else false else false

set_option maxHeartbeats 1600000 in
theorem passes_any (n d s : Nat) (hn : n < 4294967296) (hn1 : 1 < n) (hd : d % 2 = 1) (hs : s ≤ 32) (hsplit : n - 1 = d * 2 ^ s) (w : World) (hw : Bases w) :
    Calls Tryd.prog 29 #[.int .u32 (n : Int)] w fun e w' => e = .returned (.bool (passAll n d s)) ∧ w' = w := by
  obtain ⟨h0, h1, h2⟩ := hw
  have hp := fun b hb W => passesWith_any b n d s hb hn hn1 hd hs hsplit W
  have e1 : ∀ b, base1 n d s b = if b % n = 0 then true else mr b n d s := fun _ => rfl
  have e2 : passAll n d s = if base1 n d s 2 = true then if base1 n d s 7 = true then base1 n d s 61 else false else false := rfl
  obtain ⟨F, hF⟩ : ∃ F, F = base1 n d s := ⟨_, rfl⟩
  obtain ⟨M, hM⟩ : ∃ M : Nat → Bool, M = fun b => mr b n d s := ⟨_, rfl⟩
  obtain ⟨R, hR⟩ : ∃ R, R = passAll n d s := ⟨_, rfl⟩
  have e3 : ∀ b, mr b n d s = M b := fun b => by rw [hM]
  simp only [e3, ← hF, ← hR] at e1 e2 hp ⊢
  have E1 := Lib.hid e1
  have E2 := Lib.hid e2
  have Hp := Lib.hid hp
  have t0 : ((n : Int) == 0) = false := by simp; omega
  clear hF hM hR e1 e2 e3 hp hd hs hsplit
  go_enter Tryd.func29, Tryd.ntmps29
  go_wp2
  go_loop [6] (fun iv => (iv = .int .i64 0) ∨ (iv = .int .i64 1 ∧ F 2 = true) ∨ (iv = .int .i64 2 ∧ F 2 = true ∧ F 7 = true) ∨ (iv = .int .i64 3 ∧ F 2 = true ∧ F 7 = true ∧ F 61 = true)) (fun iv => 3 - (intOf iv).toNat)
  case atStart => exact Or.inl rfl
  case round =>
    rcases hrel with rfl | ⟨rfl, f2⟩ | ⟨rfl, f2, f7⟩ | ⟨rfl, f2, f7, f61⟩
    · have eB := E1.out 2
      have xB : ∀ w : World, (Instr.index 79 (.agg #[.int .u32 2, .int .u32 7, .int .u32 61]) (.int .i64 0)).run Tryd.prog w = .ok (.int .u32 2) w := fun _ => by kernel_rfl
      have hpB := fun W => Hp.out 2 (by decide) W
      by_cases hz : 2 % n = 0
      · rw [if_pos hz] at eB
        have t1 : ((2 : Int) % (n : Int) != 0) = false := by rw [show (2 : Int) % (n : Int) = ((2 % n : Nat) : Int) from by norm_cast, hz]; rfl
        have EB := Lib.hid eB
        clear eB hz hpB
        go_wp2
        go_round
        case rel => exact Or.inr (Or.inl ⟨by go_num, EB.out⟩)
        case measure => simp [intOf]
      · rw [if_neg hz] at eB
        have t1 : ((2 : Int) % (n : Int) != 0) = true := by rw [show (2 : Int) % (n : Int) = ((2 % n : Nat) : Int) from by norm_cast, bne_iff_ne]; exact fun h => hz (Int.ofNat.inj h)
        obtain ⟨v, hv⟩ : ∃ v, v = M 2 := ⟨_, rfl⟩
        rw [← hv] at eB
        simp only [← hv] at hpB
        have EB := Lib.hid eB
        clear eB hz hv
        go_wp2_with fail
        refine (hpB _).mono ?_
        rintro _ _ ⟨rfl, rfl⟩
        clear hpB
        cases v with
        | false =>
          go_wp2
          go_ret
          exact ⟨by rw [E2.out, EB.out]; rfl, rfl⟩
        | true =>
          go_wp2
          go_round
          case rel => exact Or.inr (Or.inl ⟨by go_num, EB.out⟩)
          case measure => simp [intOf]
    · have eB := E1.out 7
      have xB : ∀ w : World, (Instr.index 79 (.agg #[.int .u32 2, .int .u32 7, .int .u32 61]) (.int .i64 1)).run Tryd.prog w = .ok (.int .u32 7) w := fun _ => by kernel_rfl
      replace f2 := Lib.hid f2
      have hpB := fun W => Hp.out 7 (by decide) W
      by_cases hz : 7 % n = 0
      · rw [if_pos hz] at eB
        have t1 : ((7 : Int) % (n : Int) != 0) = false := by rw [show (7 : Int) % (n : Int) = ((7 % n : Nat) : Int) from by norm_cast, hz]; rfl
        have EB := Lib.hid eB
        clear eB hz hpB
        go_wp2
        go_round
        case rel => exact Or.inr (Or.inr (Or.inl ⟨by go_num, f2.out, EB.out⟩))
        case measure => simp [intOf]
      · rw [if_neg hz] at eB
        have t1 : ((7 : Int) % (n : Int) != 0) = true := by rw [show (7 : Int) % (n : Int) = ((7 % n : Nat) : Int) from by norm_cast, bne_iff_ne]; exact fun h => hz (Int.ofNat.inj h)
        obtain ⟨v, hv⟩ : ∃ v, v = M 7 := ⟨_, rfl⟩
        rw [← hv] at eB
        simp only [← hv] at hpB
        have EB := Lib.hid eB
        clear eB hz hv
        go_wp2_with fail
        refine (hpB _).mono ?_
        rintro _ _ ⟨rfl, rfl⟩
        clear hpB
        cases v with
        | false =>
          go_wp2
          go_ret
          exact ⟨by rw [E2.out, f2.out, EB.out]; rfl, rfl⟩
        | true =>
          go_wp2
          go_round
          case rel => exact Or.inr (Or.inr (Or.inl ⟨by go_num, f2.out, EB.out⟩))
          case measure => simp [intOf]
    · have eB := E1.out 61
      have xB : ∀ w : World, (Instr.index 79 (.agg #[.int .u32 2, .int .u32 7, .int .u32 61]) (.int .i64 2)).run Tryd.prog w = .ok (.int .u32 61) w := fun _ => by kernel_rfl
      replace f2 := Lib.hid f2
      replace f7 := Lib.hid f7
      have hpB := fun W => Hp.out 61 (by decide) W
      by_cases hz : 61 % n = 0
      · rw [if_pos hz] at eB
        have t1 : ((61 : Int) % (n : Int) != 0) = false := by rw [show (61 : Int) % (n : Int) = ((61 % n : Nat) : Int) from by norm_cast, hz]; rfl
        have EB := Lib.hid eB
        clear eB hz hpB
        go_wp2
        go_round
        case rel => exact Or.inr (Or.inr (Or.inr ⟨by go_num, f2.out, f7.out, EB.out⟩))
        case measure => simp [intOf]
      · rw [if_neg hz] at eB
        have t1 : ((61 : Int) % (n : Int) != 0) = true := by rw [show (61 : Int) % (n : Int) = ((61 % n : Nat) : Int) from by norm_cast, bne_iff_ne]; exact fun h => hz (Int.ofNat.inj h)
        obtain ⟨v, hv⟩ : ∃ v, v = M 61 := ⟨_, rfl⟩
        rw [← hv] at eB
        simp only [← hv] at hpB
        have EB := Lib.hid eB
        clear eB hz hv
        go_wp2_with fail
        refine (hpB _).mono ?_
        rintro _ _ ⟨rfl, rfl⟩
        clear hpB
        cases v with
        | false =>
          go_wp2
          go_ret
          exact ⟨by rw [E2.out, f2.out, f7.out, EB.out]; rfl, rfl⟩
        | true =>
          go_wp2
          go_round
          case rel => exact Or.inr (Or.inr (Or.inr ⟨by go_num, f2.out, f7.out, EB.out⟩))
          case measure => simp [intOf]
    · have f2 := Lib.hid f2
      have f7 := Lib.hid f7
      have f61 := Lib.hid f61
      go_wp2
      go_ret
      exact ⟨by rw [E2.out, f2.out, f7.out, f61.out]; rfl, rfl⟩
end
section
open Go.RowKit

/-- What Is answers; n - 1 is d 2^s where n is odd and above 3. -/
def isN (n d s : Nat) : Bool := if n < 4 then decide (1 < n) else if n % 2 = 1 then passAll n d s else false

set_option maxHeartbeats 800000 in
theorem is_any (n d s : Nat) (hn : n < 4294967296) (h : 4 ≤ n → n % 2 = 1 → n - 1 = d * 2 ^ s ∧ d % 2 = 1 ∧ s ≤ 32) (w : World) (hw : Bases w) :
    Calls Tryd.prog 11 #[.int .u32 (n : Int)] w fun e w' => e = .returned (.bool (isN n d s)) ∧ w' = w := by
  have e1 : isN n d s = if n < 4 then decide (1 < n) else if n % 2 = 1 then passAll n d s else false := rfl
  by_cases h4 : n < 4
  · rw [if_pos h4] at e1
    have E1 := Lib.hid e1
    clear e1 h
    go_enter Tryd.func11, Tryd.ntmps11
    go_wp2
    go_ret
    refine ⟨?_, rfl⟩
    rw [E1.out]
    exact congrArg (fun b => Ending.returned (Value.bool b)) (decide_eq_decide.2 (by show (1 : Int) < (n : Int) ↔ 1 < n; omega))
  · rw [if_neg h4] at e1
    by_cases h2 : n % 2 = 1
    · obtain ⟨h5, h6, h7⟩ := h (by omega) h2
      rw [if_pos h2] at e1
      have hp := fun W hW => passes_any n d s hn (by omega) h6 h7 h5 W hW
      obtain ⟨r, hr⟩ : ∃ r, r = passAll n d s := ⟨_, rfl⟩
      rw [← hr] at e1
      simp only [← hr] at hp
      have t1 : ((n : Int) % 2 == 1) = true := by simp; omega
      have E1 := Lib.hid e1
      have Hw := Lib.hid hw
      clear e1 h h2 h5 h6 h7 hr hw
      go_enter Tryd.func11, Tryd.ntmps11
      go_wp2_with fail
      refine (hp _ Hw.out).mono ?_
      rintro _ _ ⟨rfl, rfl⟩
      go_wp2
      go_ret
      exact ⟨by rw [E1.out]; rfl, rfl⟩
    · rw [if_neg h2] at e1
      have t1 : ((n : Int) % 2 == 1) = false := by simp; omega
      have E1 := Lib.hid e1
      clear e1 h h2
      go_enter Tryd.func11, Tryd.ntmps11
      go_wp2
      go_ret
      exact ⟨by rw [E1.out]; rfl, rfl⟩
end
section
open Go.RowKit
end
section
open Go.RowKit

/-- No number from 2 on below d divides n. -/
def NoDiv (n d : Nat) : Prop := ∀ e, 2 ≤ e → e < d → n % e ≠ 0
theorem NoDiv.two (n : Nat) : NoDiv n 2 := fun e h1 h2 => absurd h1 (by omega)
theorem NoDiv.succ {n d : Nat} (h : NoDiv n d) (hd : n % d ≠ 0) : NoDiv n (d + 1) := fun e h1 h2 => by
  rcases Nat.lt_or_ge e d with h3 | h3
  · exact h e h1 h3
  · obtain rfl : e = d := by omega
    exact hd
theorem NoDiv.mult {n d : Nat} (h : NoDiv n d) (c : Nat) (hc : 2 ≤ c) (hcd : c < d) (hdc : d % c = 0) : NoDiv n (d + 1) := h.succ fun h0 =>
  h c hc hcd (Nat.mod_eq_zero_of_dvd (Nat.dvd_trans (Nat.dvd_of_mod_eq_zero hdc) (Nat.dvd_of_mod_eq_zero h0)))
/-- m is the least number from 2 on that divides n. -/
def Least (n m : Nat) : Prop := 2 ≤ m ∧ n % m = 0 ∧ NoDiv n m
theorem Least.unique {n a b : Nat} (h : Least n a) (k : Least n b) : a = b := by
  rcases Nat.lt_trichotomy a b with h1 | h1 | h1
  · exact absurd h.2.1 (k.2.2 a h.1 h1)
  · exact h1
  · exact absurd k.2.1 (h.2.2 b k.1 h1)
theorem NoDiv.ends {n d : Nat} (h : NoDiv n d) (hn : n < d * d) (h2 : 2 ≤ n) : Least n n := by
  refine ⟨h2, Nat.mod_self n, fun e h1 he h0 => ?_⟩
  have hm := Nat.div_add_mod n e
  rw [h0, Nat.add_zero] at hm
  have hk : 2 ≤ n / e := by
    rcases Nat.lt_or_ge (n / e) 2 with h3 | h3
    · have : e * (n / e) ≤ e * 1 := Nat.mul_le_mul_left _ (by omega)
      omega
    · exact h3
  have h4 : d ≤ e := Nat.le_of_not_lt fun h5 => h e h1 h5 h0
  have h6 : n % (n / e) = 0 := by
    have := Nat.mul_mod_left e (n / e)
    rwa [hm] at this
  have h5 : d ≤ n / e := Nat.le_of_not_lt fun h7 => h _ hk h7 h6
  have : d * d ≤ e * (n / e) := Nat.mul_le_mul h4 h5
  omega
theorem NoDiv.le {n d m : Nat} (h : NoDiv n d) (hm : m ≤ d) : NoDiv n m := fun e h1 h2 => h e h1 (by omega)
theorem NoDiv.six {n d : Nat} (h : NoDiv n d) (hd : d % 6 = 5) (h0 : n % d ≠ 0) (h2 : n % (d + 2) ≠ 0) : NoDiv n (d + 6) := by
  have a1 := h.succ h0
  have a2 := a1.mult 2 (by omega) (by omega) (by omega)
  have a3 := a2.succ h2
  have a4 := a3.mult 2 (by omega) (by omega) (by omega)
  have a5 := a4.mult 3 (by omega) (by omega) (by omega)
  exact a5.mult 2 (by omega) (by omega) (by omega)

theorem least_exists (n : Nat) (h : 2 ≤ n) : ∃ m, Least n m := by
  have : ∀ k d, d + k = n → 2 ≤ d → NoDiv n d → ∃ m, Least n m := by
    intro k
    induction k with
    | zero =>
      intro d hd h2 hn
      obtain rfl : d = n := by omega
      exact ⟨d, h2, Nat.mod_self _, hn⟩
    | succ k ih =>
      intro d hd h2 hn
      by_cases h0 : n % d = 0
      · exact ⟨d, h2, h0, hn⟩
      · exact ih (d + 1) (by omega) (by omega) (hn.succ h0)
  exact this (n - 2) 2 (by omega) (by omega) (NoDiv.two n)

set_option maxHeartbeats 1600000 in
theorem least_any (n m : Nat) (hn : n < 4294967296) (h2 : 2 ≤ n) (hm : Least n m) (w : World) :
    Calls Tryd.prog 33 #[.int .u32 (n : Int)] w fun r w' => r = .returned (.int .u32 (m : Int)) ∧ w' = w := by
  have Hm := Lib.hid hm
  have x0 : ∀ w : World, (Instr.index 87 (.agg #[.int .u64 2, .int .u64 3]) (.int .i64 0)).run Tryd.prog w = .ok (.int .u64 2) w := fun _ => by kernel_rfl
  have x1 : ∀ w : World, (Instr.index 87 (.agg #[.int .u64 2, .int .u64 3]) (.int .i64 1)).run Tryd.prog w = .ok (.int .u64 3) w := fun _ => by kernel_rfl
  clear hm
  go_enter Tryd.func33, Tryd.ntmps33
  go_wp2
  go_loop [7] (fun i => i = .int .i64 0 ∨ (i = .int .i64 1 ∧ NoDiv n 3) ∨ (i = .int .i64 2 ∧ NoDiv n 5)) (fun i => 2 - (intOf i).toNat)
  case atStart => exact Or.inl rfl
  case round =>
    rcases hrel with rfl | ⟨rfl, hd⟩ | ⟨rfl, hd⟩
    · by_cases h0 : n % 2 = 0
      · have Hr := Lib.hid (Hm.out.unique (b := 2) ⟨by omega, h0, NoDiv.two n⟩)
        have t0 : ((n : Int) % 2 == 0) = true := by simp; omega
        clear h0
        go_wp2
        go_ret
        exact ⟨by rw [Hr.out]; rfl, rfl⟩
      · have Hd := Lib.hid ((NoDiv.two n).succ h0)
        have t0 : ((n : Int) % 2 == 0) = false := by simp; omega
        clear h0
        go_wp2
        go_round
        case rel => exact Or.inr (Or.inl ⟨by go_num, Hd.out⟩)
        case measure => simp [intOf]
    · by_cases h0 : n % 3 = 0
      · have Hr := Lib.hid (Hm.out.unique (b := 3) ⟨by omega, h0, hd⟩)
        have t0 : ((n : Int) % 3 == 0) = true := by simp; omega
        clear h0 hd
        go_wp2
        go_ret
        exact ⟨by rw [Hr.out]; rfl, rfl⟩
      · have Hd := Lib.hid ((hd.succ h0).mult 2 (by omega) (by omega) (by omega))
        have t0 : ((n : Int) % 3 == 0) = false := by simp; omega
        clear h0 hd
        go_wp2
        go_round
        case rel => exact Or.inr (Or.inr ⟨by go_num, Hd.out⟩)
        case measure => simp [intOf]
    · have Hd := Lib.hid hd
      clear hd
      go_wp2
      go_loop [5] (fun v => ∃ d : Nat, v = .int .u64 (d : Int) ∧ NoDiv n d ∧ d % 6 = 5 ∧ d ≤ 65547) (fun v => 65548 - (intOf v).toNat)
      case atStart => exact ⟨5, rfl, Hd.out, by omega, by omega⟩
      case round =>
        obtain ⟨d, rfl, hd, hd6, hdm⟩ := hrel
        have hdd : d * d ≤ 65547 * 65547 := Nat.mul_le_mul hdm hdm
        obtain ⟨q, hq⟩ : ∃ q, q = d * d := ⟨_, rfl⟩
        have t0 : IntKind.u64.wrap ((d : Int) * (d : Int)) = (q : Int) := by
          rw [IntKind.wrap_u64, ← Int.natCast_mul, ← hq]; omega
        have Hd6 := Lib.hid hd6
        by_cases hle : q ≤ n
        · have hd5 : d ≤ 65535 := by
            rcases Nat.lt_or_ge d 65536 with h | h
            · omega
            · have : 65536 * 65536 ≤ d * d := Nat.mul_le_mul h h
              omega
          have tz : ¬ (d = 0) := by omega
          by_cases h0 : n % d = 0
          · have Hr := Lib.hid (Hm.out.unique (b := d) ⟨by omega, h0, hd⟩)
            have t1 : ((n : Int) % (d : Int) == 0) = true := by
              rw [show (n : Int) % (d : Int) = ((n % d : Nat) : Int) from by norm_cast, h0]; rfl
            clear h0 hd hq hd6 hdd
            go_wp2
            go_ret
            exact ⟨by rw [Hr.out]; rfl, rfl⟩
          · have t1 : ((n : Int) % (d : Int) == 0) = false := by
              rw [show (n : Int) % (d : Int) = ((n % d : Nat) : Int) from by norm_cast, beq_eq_false_iff_ne]; exact fun h => h0 (Int.ofNat.inj h)
            have tz2 : ((d : Int) + 2 == 0) = false := by simp; omega
            by_cases h3 : n % (d + 2) = 0
            · have Hr := Lib.hid (Hm.out.unique (b := d + 2) ⟨by omega, h3, (hd.succ h0).mult 2 (by omega) (by omega) (by omega)⟩)
              have t2 : ((n : Int) % ((d : Int) + 2) == 0) = true := by
                rw [show (n : Int) % ((d : Int) + 2) = ((n % (d + 2) : Nat) : Int) from by norm_cast, h3]; rfl
              clear h0 h3 hd hq hd6 hdd
              go_wp2
              go_ret
              exact ⟨by rw [Hr.out]; rfl, rfl⟩
            · have t2 : ((n : Int) % ((d : Int) + 2) == 0) = false := by
                rw [show (n : Int) % ((d : Int) + 2) = ((n % (d + 2) : Nat) : Int) from by norm_cast, beq_eq_false_iff_ne]; exact fun h => h3 (Int.ofNat.inj h)
              have Hn := Lib.hid (hd.six hd6 h0 h3)
              clear h0 h3 hd hq hd6 hdd
              go_wp2
              go_round
              case rel => exact ⟨d + 6, by go_num, Hn.out, by have := Hd6.out; omega, by omega⟩
              case measure => simp [intOf]; omega
        · have Hr := Lib.hid (Hm.out.unique (hd.ends (by omega) h2))
          clear hd hq hd6 hdd
          go_wp2
          go_ret
          exact ⟨by rw [Hr.out]; rfl, rfl⟩
end
end Go.Proofs.YtcjgilagldbjnaaDoor
