/- The contracts of the field modulo 2^64 - 2^32 + 1: reduced, fieldAdd, fieldSub, fieldMul, fieldPow. Conditions: the arguments are words. -/
import Derived.Test.YtogkfpbapjjgfaaRowB
import Derived.Test.YtogkfpbapjjgfaaNttP
namespace Go.Proofs.Ytogkfpbapjjgfaa
open Go.RowKit

def redN (a : Nat) : Nat := if 18446744069414584321 ≤ a then a - 18446744069414584321 else a

set_option maxHeartbeats 400000 in
theorem reduced_any (a : Nat) (ha : a < 18446744073709551616) (w : World) : Calls Try.prog 89 #[.int .u64 (a : Int)] w fun e w' => e = .returned (.int .u64 (redN a : Int)) ∧ w = w' := by
  by_cases h : 18446744069414584321 ≤ a
  · have t1 : decide ((18446744069414584321 : Int) ≤ (a : Int)) = true := by simp; omega
    obtain ⟨s, hs⟩ : ∃ s, s = a - 18446744069414584321 := ⟨_, rfl⟩
    have e1 : (a : Int) - 18446744069414584321 = (s : Int) := by omega
    have hr : redN a = s := by unfold redN; rw [if_pos h, hs]
    rw [hr]
    have hb : s < 18446744073709551616 := by omega
    clear hs hr
    go_enter Try.func89, Try.ntmps89
    go_wp2
    go_ret
    exact ⟨rfl, rfl⟩
  · have t1 : decide ((18446744069414584321 : Int) ≤ (a : Int)) = false := by simp; omega
    have hr : redN a = a := by unfold redN; rw [if_neg h]
    rw [hr]
    clear hr
    go_enter Try.func89, Try.ntmps89
    go_wp2
    go_ret
    exact ⟨rfl, rfl⟩

set_option maxHeartbeats 400000 in
theorem fieldAdd_any (a b : Nat) (ha : a < 18446744069414584321) (hb : b < 18446744069414584321) (w : World) : Calls Try.prog 87 #[.int .u64 (a : Int), .int .u64 (b : Int)] w fun e w' => e = .returned (.int .u64 (((a + b) % 18446744069414584321 : Nat) : Int)) ∧ w = w' := by
  have a1 := fun W => add64_run0 a b W
  obtain ⟨l, hl⟩ : ∃ l, l = (a + b) % 18446744073709551616 := ⟨_, rfl⟩
  obtain ⟨o, ho⟩ : ∃ o, o = (a + b) / 18446744073709551616 := ⟨_, rfl⟩
  rw [← hl, ← ho] at a1
  obtain ⟨s, hs⟩ : ∃ s, s = l + o * 4294967295 := ⟨_, rfl⟩
  have e1 : (l : Int) + (o : Int) * 4294967295 = (s : Int) := by omega
  have ho1 : o ≤ 1 := by omega
  have hsb : s < 18446744073709551616 := by omega
  have hr : redN s = (a + b) % 18446744069414584321 := by unfold redN; split <;> omega
  rw [← hr]
  have hrd := fun W => reduced_any s hsb W
  obtain ⟨r, hr2⟩ : ∃ r, r = redN s := ⟨_, rfl⟩
  rw [← hr2] at hrd ⊢
  have Hrd := Lib.hid hrd
  clear hl ho hs hr hr2 hrd
  go_enter Try.func87, Try.ntmps87
  go_wp2_with (first
    | (simp only [])
    | (go_at_call 89; (with_reducible refine (Hrd.out _).mono ?_); rintro e w' ⟨rfl, rfl⟩))
  go_ret
  exact ⟨rfl, rfl⟩

set_option maxHeartbeats 400000 in
theorem fieldSub_any (a b : Nat) (ha : a < 18446744069414584321) (hb : b < 18446744069414584321) (w : World) : Calls Try.prog 88 #[.int .u64 (a : Int), .int .u64 (b : Int)] w fun e w' => e = .returned (.int .u64 (((a + 18446744069414584321 - b) % 18446744069414584321 : Nat) : Int)) ∧ w = w' := by
  have a1 := fun W => sub64_run0 a b W
  obtain ⟨l, hl⟩ := nameIt ((a + 18446744073709551616 - b) % 18446744073709551616)
  obtain ⟨o, ho⟩ : ∃ o, o = if a < b then 1 else 0 := ⟨_, rfl⟩
  rw [← hl, ← ho] at a1
  have ho1 : o ≤ 1 := by rw [ho]; split <;> omega
  obtain ⟨s, hs⟩ := nameIt ((a + 18446744069414584321 - b) % 18446744069414584321)
  have e1 : (l : Int) - (o : Int) * 4294967295 = (s : Int) := by
    rw [hl, ho, hs]; split <;> omega
  rw [← hs]
  have hsb : s < 18446744073709551616 := by omega
  clear hl ho hs
  go_enter Try.func88, Try.ntmps88
  go_wp2_with (simp only [a1])
  go_ret
  exact ⟨rfl, rfl⟩

theorem field_mul_eq (x hi lo l1 o1 r m q l2 o2 : Nat) (hx : x = hi * 18446744073709551616 + lo) (hh : hi ≤ 18446744073709551614) (hlo : lo < 18446744073709551616)
    (h1 : l1 = (lo + 18446744073709551616 - hi / 4294967296) % 18446744073709551616) (h2 : o1 = if lo < hi / 4294967296 then 1 else 0) (hr : r + o1 * 4294967295 = l1) (hm : m = hi % 4294967296) (hq : q = m * 4294967295) (h3 : l2 = (r + q) % 18446744073709551616) (h4 : o2 = (r + q) / 18446744073709551616) :
    redN (l2 + o2 * 4294967295) = x % 18446744069414584321 := by
  have e : l2 + o2 * 4294967295 + 18446744069414584321 * (o2 + hi / 4294967296 * 4294967297 + m - (if lo < hi / 4294967296 then 0 else 0)) + 18446744069414584321 * 0 = x + 18446744069414584321 * (if lo < hi / 4294967296 then 1 else 0) := by
    rw [hx]
    split at h2 <;> split <;> omega
  unfold redN
  split at e <;> split <;> omega

set_option maxHeartbeats 800000 in
theorem fieldMul_any (a b : Nat) (ha : a < 18446744073709551616) (hb : b < 18446744073709551616) (w : World) : Calls Try.prog 72 #[.int .u64 (a : Int), .int .u64 (b : Int)] w fun e w' => e = .returned (.int .u64 ((a * b % 18446744069414584321 : Nat) : Int)) ∧ w = w' := by
  have hpb : a * b ≤ 18446744073709551615 * 18446744073709551615 := Nat.mul_le_mul (by omega) (by omega)
  have hmul := fun W => mul64_any a b W ha hb
  obtain ⟨hi, hhi⟩ : ∃ hi, hi = a * b / 18446744073709551616 := ⟨_, rfl⟩
  obtain ⟨lo, hlo⟩ : ∃ lo, lo = a * b % 18446744073709551616 := ⟨_, rfl⟩
  have e0 : a * b = hi * 18446744073709551616 + lo := by rw [hhi, hlo]; omega
  have hib : hi ≤ 18446744073709551614 := by omega
  have hlb : lo < 18446744073709551616 := by rw [hlo]; omega
  rw [← hhi, ← hlo] at hmul
  obtain ⟨t, ht⟩ : ∃ t, t = hi / 4294967296 := ⟨_, rfl⟩
  have s1 := fun W => sub64_run0 lo t W
  obtain ⟨l1, hl1⟩ := nameIt ((lo + 18446744073709551616 - t) % 18446744073709551616)
  obtain ⟨o1, ho1⟩ : ∃ o1, o1 = if lo < t then 1 else 0 := ⟨_, rfl⟩
  rw [← hl1, ← ho1] at s1
  have ho1b : o1 ≤ 1 := by rw [ho1]; split <;> omega
  obtain ⟨r, hr⟩ : ∃ r, r = l1 - o1 * 4294967295 := ⟨_, rfl⟩
  have hr2 : r + o1 * 4294967295 = l1 := by
    rw [hr]
    have : o1 * 4294967295 ≤ l1 := by
      by_cases h : lo < t
      · rw [if_pos h] at ho1; omega
      · rw [if_neg h] at ho1; omega
    omega
  have e1 : (l1 : Int) - (o1 : Int) * 4294967295 = (r : Int) := by omega
  obtain ⟨m, hm⟩ : ∃ m, m = hi % 4294967296 := ⟨_, rfl⟩
  have hmb : m < 4294967296 := by omega
  obtain ⟨q, hq⟩ : ∃ q, q = m * 4294967295 := ⟨_, rfl⟩
  have e2 : (m : Int) * 4294967296 - (m : Int) = (q : Int) := by omega
  have hqb : q < 18446744073709551616 := by omega
  have hrb : r < 18446744073709551616 := by omega
  have a1 := fun W => add64_run0 r q W
  obtain ⟨l2, hl2⟩ : ∃ l2, l2 = (r + q) % 18446744073709551616 := ⟨_, rfl⟩
  obtain ⟨o2, ho2⟩ : ∃ o2, o2 = (r + q) / 18446744073709551616 := ⟨_, rfl⟩
  rw [← hl2, ← ho2] at a1
  have ho2b : o2 ≤ 1 := by omega
  obtain ⟨s, hs⟩ : ∃ s, s = l2 + o2 * 4294967295 := ⟨_, rfl⟩
  have e3 : (l2 : Int) + (o2 : Int) * 4294967295 = (s : Int) := by omega
  have hsb : s < 18446744073709551616 := by omega
  have hfin : redN s = a * b % 18446744069414584321 := by
    rw [hs]
    exact field_mul_eq (a * b) hi lo l1 o1 r m q l2 o2 e0 hib hlb (by rw [hl1, ht]) (by rw [ho1, ht]) hr2 hm hq hl2 ho2
  rw [← hfin]
  have hrd := fun W => reduced_any s hsb W
  obtain ⟨z, hz⟩ : ∃ z, z = redN s := ⟨_, rfl⟩
  rw [← hz] at hrd ⊢
  have Hrd := Lib.hid hrd
  have Hmul := Lib.hid hmul
  have e4 : (hi : Int) / 4294967296 = (t : Int) := by omega
  have e5 : bits BinOp.and IntKind.u64 (hi : Int) 4294967295 = (m : Int) := by
    have h := u64_and_nat hi 4294967295 (by omega) (by omega)
    have h2 : hi &&& 4294967295 = hi % 4294967296 := Nat.and_two_pow_sub_one_eq_mod hi 32
    rw [h2, ← hm] at h
    exact h
  have e6 : (hi : Int) % 4294967296 = (m : Int) := by omega
  clear hfin hz hrd hmul hs hl2 ho2 hq hm hr hr2 hl1 ho1 ht hhi hlo e0 hpb
  go_enter Try.func72, Try.ntmps72
  go_wp2_with (first
    | (go_at_call 30; (with_reducible refine (Hmul.out _).mono ?_); rintro e w' ⟨rfl, rfl⟩)
    | (simp only [])
    | (simp only [a1])
    | (go_at_call 89; (with_reducible refine (Hrd.out _).mono ?_); rintro e w' ⟨rfl, rfl⟩))
  go_ret
  exact ⟨rfl, rfl⟩
end Go.Proofs.Ytogkfpbapjjgfaa
