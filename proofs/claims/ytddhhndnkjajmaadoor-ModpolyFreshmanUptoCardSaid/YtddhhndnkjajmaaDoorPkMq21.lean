/- Is is right: what prime's Is and the reference's Is answer of every number below 2^32. Conditions: bases reads 2, 7, 61 (prime's). prime.Inv modulo a prime or none, and what the reference answers of sums, differences, products, powers, inverses. Conditions: p a prime, or none; bases reads 2, 7, 61. The examples of layer 8 come out as the document says: reckoned. Condition: bases is as the program lays it. Polynomials with integer coefficients by their values, and when they are one modulo p. No conditions. -/
import Derived.Test.YtddhhndnkjajmaaDoorPkMq12
import Derived.Test.YtddhhndnkjajmaaDoorPkMq20
import Derived.Deep.CutBlock
import Derived.RegionTactic
import Derived.Deep.QuietTactic
import Derived.BigQuiet
import Derived.WalkMore
import Derived.IntWalk
import Derived.Deep.DeepCutAuto
import Derived.Test.YtddhhndnkjajmaaDoorPkMq10
import Derived.Test.YtddhhndnkjajmaaDoorPkMq11
namespace Go.Proofs.YtddhhndnkjajmaaDoor
section
open Go.RowKit

theorem Bases.drewN {w : World} (h : Bases w) (n : Nat) : Bases (w.drewN n) := h

/-- Is n a prime? -/
noncomputable def isP (n : Nat) : Bool := @decide (Pr n) (Classical.propDecidable _)
theorem isP_true {n : Nat} (h : Pr n) : isP n = true := by unfold isP; exact @decide_eq_true _ (Classical.propDecidable _) h
theorem isP_false {n : Nat} (h : ¬ Pr n) : isP n = false := by unfold isP; exact @decide_eq_false _ (Classical.propDecidable _) h
theorem isP_cases (n : Nat) : (Pr n ∧ isP n = true) ∨ (¬ Pr n ∧ isP n = false) := by
  by_cases h : Pr n
  · exact Or.inl ⟨h, isP_true h⟩
  · exact Or.inr ⟨h, isP_false h⟩

theorem Pr.of_none {n : Nat} (h2 : 2 ≤ n) (h : ∀ e, 2 ≤ e → e < n → n % e ≠ 0) : Pr n := ⟨h2, fun e he => by
  have hle := Nat.le_of_dvd (by omega) he
  have h0 : e ≠ 0 := fun h0 => by subst h0; have := Nat.eq_zero_of_zero_dvd he; omega
  rcases Nat.lt_or_ge e 2 with h3 | h3
  · exact Or.inl (by omega)
  · rcases Nat.lt_or_ge e n with h4 | h4
    · exact absurd (Nat.mod_eq_zero_of_dvd he) (h e h3 h4)
    · exact Or.inr (by omega)⟩
theorem Pr.none {n : Nat} (h : Pr n) (e : Nat) (h2 : 2 ≤ e) (hlt : e < n) : n % e ≠ 0 := fun h0 => by
  rcases h.2 e (Nat.dvd_of_mod_eq_zero h0) with h1 | h1 <;> omega
theorem pr_iff_least {n : Nat} : Pr n ↔ Least n n := ⟨fun h => ⟨h.1, Nat.mod_self n, fun e h1 h2 => h.none e h1 h2⟩, fun h => Pr.of_none h.1 fun e h1 h2 => h.2.2 e h1 h2⟩
theorem pr_two : Pr 2 := Pr.of_none (by omega) fun e h1 h2 => by omega
theorem pr_three : Pr 3 := Pr.of_none (by omega) fun e h1 h2 => by
  obtain rfl : e = 2 := by omega
  decide
theorem pr_seven : Pr 7 := Pr.of_none (by omega) fun e h1 h2 => (show ∀ e < 7, 2 ≤ e → 7 % e ≠ 0 by decide) e h2 h1
theorem pr_61 : Pr 61 := Pr.of_none (by omega) fun e h1 h2 => (show ∀ e < 61, 2 ≤ e → 61 % e ≠ 0 by decide) e h2 h1
theorem Pr.odd {n : Nat} (h : Pr n) (h2 : 2 < n) : n % 2 = 1 := by
  have := h.none 2 (by omega) h2
  omega

/-- What passes answers is right. -/
theorem isN_isP (n d s : Nat) (hn : n < 4294967296) (h : 4 ≤ n → n % 2 = 1 → n - 1 = d * 2 ^ s ∧ d % 2 = 1) : isN n d s = isP n := by
  unfold isN
  by_cases h4 : n < 4
  · rw [if_pos h4]
    rcases isP_cases n with ⟨hp, e⟩ | ⟨hp, e⟩
    · rw [e]; exact decide_eq_true hp.1
    · rw [e]
      refine decide_eq_false fun h1 => hp ?_
      rcases (show n = 2 ∨ n = 3 by omega) with rfl | rfl
      · exact pr_two
      · exact pr_three
  · rw [if_neg h4]
    by_cases h2 : n % 2 = 1
    · rw [if_pos h2]
      obtain ⟨hd, ho⟩ := h (by omega) h2
      rcases isP_cases n with ⟨hp, e⟩ | ⟨hp, e⟩
      · rw [e]
        have key : ∀ b, base1 n d s b = true := fun b => by
          unfold base1
          by_cases hb : b % n = 0
          · rw [if_pos hb]
          · rw [if_neg hb]
            exact hp.mr_passes (fun hx => hb (Nat.mod_eq_zero_of_dvd hx)) hd
        unfold passAll
        rw [key 2, key 7, key 61]; rfl
      · rw [e]
        refine Bool.eq_false_iff.2 fun hx => hp ?_
        unfold passAll at hx
        have h7 : n ≠ 7 := fun h7 => hp (h7 ▸ pr_seven)
        have h61 : n ≠ 61 := fun h61 => hp (h61 ▸ pr_61)
        have key : ∀ b, Pr b → n ≠ b → base1 n d s b = true → mr b n d s = true := fun b hb hne hx => by
          unfold base1 at hx
          rwa [if_neg] at hx
          intro h0
          rcases hb.2 n (Nat.dvd_of_mod_eq_zero h0) with e | e
          · omega
          · exact hne e
        cases e2 : base1 n d s 2 with
        | false => rw [e2] at hx; simp at hx
        | true =>
          cases e7 : base1 n d s 7 with
          | false => rw [e2, e7] at hx; simp at hx
          | true =>
            rw [e2, e7] at hx
            have e61 : base1 n d s 61 = true := by simpa using hx
            refine Passes.prime (fun d' s' hd' ho' => ?_) (by omega) h2 hn
            obtain ⟨rfl, rfl⟩ := split_unique ho' ho (hd'.symm.trans hd)
            exact ⟨key 2 pr_two (by omega) e2, key 7 pr_seven h7 e7, key 61 pr_61 h61 e61⟩
    · rw [if_neg h2, isP_false]
      intro hp
      exact h2 (hp.odd (by omega))

theorem is_all (n : Nat) (hn : n < 4294967296) (w : World) (hw : Bases w) :
    Calls Tryd.prog 75 #[.int .u32 (n : Int)] w fun e w' => e = .returned (.bool (isP n)) ∧ w' = w := by
  by_cases h : 4 ≤ n ∧ n % 2 = 1
  · obtain ⟨d, s, hd, ho⟩ := split_exists (n - 1) (by omega)
    have hs : s ≤ 32 := by
      rcases Nat.lt_or_ge s 33 with h1 | h1
      · omega
      · exfalso
        have h2 : 2 ^ 33 ≤ 2 ^ s := Nat.pow_le_pow_right (by omega) h1
        have h3 : 2 ^ s ≤ d * 2 ^ s := Nat.le_mul_of_pos_left _ (by omega)
        have h4 : (2 : Nat) ^ 33 = 8589934592 := by decide
        omega
    have := is_any n d s hn (fun _ _ => ⟨hd, ho, hs⟩) w hw
    rwa [isN_isP n d s hn fun _ _ => ⟨hd, ho⟩] at this
  · have := is_any n 0 0 hn (fun h1 h2 => absurd ⟨h1, h2⟩ h) w hw
    rwa [isN_isP n 0 0 hn fun h1 h2 => absurd ⟨h1, h2⟩ h] at this
theorem is_yes (n : Nat) (hp : Pr n) (hn : n < 4294967296) (w : World) (hw : Bases w) :
    Calls Tryd.prog 75 #[.int .u32 (n : Int)] w fun e w' => e = .returned (.bool true) ∧ w' = w := by
  have := is_all n hn w hw
  rwa [isP_true hp] at this
theorem is_no (n : Nat) (hp : ¬ Pr n) (hn : n < 4294967296) (w : World) (hw : Bases w) :
    Calls Tryd.prog 75 #[.int .u32 (n : Int)] w fun e w' => e = .returned (.bool false) ∧ w' = w := by
  have := is_all n hn w hw
  rwa [isP_false hp] at this

set_option maxHeartbeats 400000 in
theorem ris_all (n : Nat) (hn : n < 4294967296) (w : World) :
    Calls Tryd.prog 41 #[.int .u32 (n : Int)] w fun e w' => e = .returned (.bool (isP n)) ∧ w' = w := by
  by_cases h2 : 2 ≤ n
  · obtain ⟨m, hm⟩ := least_exists n h2
    have hl := fun W => least_any n m hn h2 hm W
    by_cases hmn : m = n
    · subst hmn
      have E := Lib.hid (isP_true (pr_iff_least.2 hm))
      have Hl := Lib.hid hl
      clear hl hm
      go_enter Tryd.func41, Tryd.ntmps41
      go_wp2_with fail
      refine (Hl.out _).mono ?_
      rintro _ _ ⟨rfl, rfl⟩
      go_wp2
      go_ret
      exact ⟨by rw [E.out]; simp, rfl⟩
    · have E := Lib.hid (isP_false fun h => hmn (hm.unique (pr_iff_least.1 h)))
      have Hl := Lib.hid hl
      have t1 : ((m : Int) == (n : Int)) = false := by simp; omega
      clear hl hm
      go_enter Tryd.func41, Tryd.ntmps41
      go_wp2_with fail
      refine (Hl.out _).mono ?_
      rintro _ _ ⟨rfl, rfl⟩
      go_wp2
      go_ret
      exact ⟨by rw [E.out]; rfl, rfl⟩
  · have E := Lib.hid (isP_false fun h : Pr n => h2 h.1)
    go_enter Tryd.func41, Tryd.ntmps41
    go_wp2
    go_ret
    exact ⟨by rw [E.out]; simp, rfl⟩
theorem ris_yes (n : Nat) (hp : Pr n) (hn : n < 4294967296) (w : World) :
    Calls Tryd.prog 41 #[.int .u32 (n : Int)] w fun e w' => e = .returned (.bool true) ∧ w' = w := by
  have := ris_all n hn w
  rwa [isP_true hp] at this
theorem ris_no (n : Nat) (hp : ¬ Pr n) (hn : n < 4294967296) (w : World) :
    Calls Tryd.prog 41 #[.int .u32 (n : Int)] w fun e w' => e = .returned (.bool false) ∧ w' = w := by
  have := ris_all n hn w
  rwa [isP_false hp] at this
end
section
open Go.RowKit

theorem add_lt (a b p : Nat) (hp : 0 < p) : (a + b) % p < p := Nat.mod_lt _ hp
set_option maxHeartbeats 400000 in
theorem pquo_no (a b p : Nat) (hp : ¬ Pr p) (hlt : p < 4294967296) (w : World) (hw : Bases w) :
    Calls Tryd.prog 71 #[.int .u32 (a : Int), .int .u32 (b : Int), .int .u32 (p : Int)] w fun r w' => r = .returned (.tuple #[.int .u32 0, .int .i64 40]) ∧ w' = w := by
  have Hw := Lib.hid hw
  have Hi := Lib.hid (fun W hW => is_no p hp hlt W hW)
  clear hw hp
  go_enter Tryd.func71, Tryd.ntmps71
  go_wp2_with fail
  refine (Hi.out _ Hw.out).mono ?_
  rintro _ _ ⟨rfl, rfl⟩
  go_wp2
  go_ret2
  exact ⟨rfl, rfl⟩
set_option maxHeartbeats 400000 in
theorem pinv_no (a p : Nat) (hp : ¬ Pr p) (hlt : p < 4294967296) (w : World) (hw : Bases w) :
    Calls Tryd.prog 100 #[.int .u32 (a : Int), .int .u32 (p : Int)] w fun r w' => r = .returned (.tuple #[.int .u32 0, .int .i64 40]) ∧ w' = w := by
  have H := Lib.hid (fun W hW => pquo_no 1 a p hp hlt W hW)
  have Hw := Lib.hid hw
  clear hw hp
  go_enter Tryd.func100, Tryd.ntmps100
  go_wp2_with fail
  refine (H.out _ Hw.out).mono ?_
  rintro _ _ ⟨rfl, rfl⟩
  go_wp2
  go_ret2
  exact ⟨rfl, rfl⟩
theorem cast_mod (a p : Nat) : ((a : Int) % (p : Int)) = ((a % p : Nat) : Int) := (Int.natCast_emod a p).symm
theorem power_all (a p e : Nat) (ha : a < 4294967296) (hp : p < 4294967296) (hp1 : 1 < p) (he : e < 18446744073709551616) (w : World) :
    Calls Tryd.prog 133 #[.int .u32 (a : Int), .int .u64 (e : Int), .int .u32 (p : Int)] w fun r w' => r = .returned (.int .u32 ((a ^ e % p : Nat) : Int)) ∧ w' = w :=
  power_any a p ha hp hp1 64 e (by simpa using he) he w
set_option maxHeartbeats 400000 in
theorem radd_any (a b p : Nat) (ha : a < 4294967296) (hb : b < 4294967296) (hp : p < 4294967296) (hp0 : 0 < p) (w : World) :
    Calls Tryd.prog 47 #[.int .u32 (a : Int), .int .u32 (b : Int), .int .u32 (p : Int)] w fun r w' => r = .returned (.int .u32 (((a + b) % p : Nat) : Int)) ∧ w' = w := by
  have hx := add_lt a b p hp0
  have t1 : ((a : Int) + (b : Int)) % (p : Int) = (((a + b) % p : Nat) : Int) := by rw [← cast_mod]; rfl
  obtain ⟨x, hxe⟩ : ∃ x, x = (a + b) % p := ⟨_, rfl⟩
  rw [← hxe] at hx t1 ⊢
  clear hxe
  have t2 : ((p : Int) == 0) = false := by simp; omega
  go_enter Tryd.func47, Tryd.ntmps47
  go_wp2
  go_ret
  exact ⟨rfl, rfl⟩
theorem sub_alike (a b p : Nat) (hp0 : 0 < p) : (a % p + p - b % p) % p = (a + (p - b % p)) % p := by
  have hb : b % p < p := Nat.mod_lt _ hp0
  rw [show a % p + p - b % p = a % p + (p - b % p) from by omega, Nat.mod_add_mod]
set_option maxHeartbeats 400000 in
theorem rsub_any (a b p : Nat) (ha : a < 4294967296) (hb : b < 4294967296) (hp : p < 4294967296) (hp0 : 0 < p) (w : World) :
    Calls Tryd.prog 74 #[.int .u32 (a : Int), .int .u32 (b : Int), .int .u32 (p : Int)] w fun r w' => r = .returned (.int .u32 (((a + (p - b % p)) % p : Nat) : Int)) ∧ Dr w w' := by
  have hx := add_lt a (p - b % p) p hp0
  rw [← sub_alike a b p hp0] at hx ⊢
  have hc : b % p < p := Nat.mod_lt _ hp0
  have hd : a % p < p := Nat.mod_lt _ hp0
  have t0 : (b : Int) % (p : Int) = ((b % p : Nat) : Int) := cast_mod b p
  have t3 : (a : Int) % (p : Int) = ((a % p : Nat) : Int) := cast_mod a p
  obtain ⟨c, hce⟩ : ∃ c, c = b % p := ⟨_, rfl⟩
  obtain ⟨d, hde⟩ : ∃ d, d = a % p := ⟨_, rfl⟩
  rw [← hce] at hc t0 ⊢
  rw [← hde] at hd t3 ⊢
  rw [← hce, ← hde] at hx
  clear hce hde
  have t1 : ((d : Int) + (p : Int) - (c : Int)) % (p : Int) = (((d + p - c) % p : Nat) : Int) := by
    rw [← cast_mod]; congr 1; omega
  obtain ⟨x, hxe⟩ : ∃ x, x = (d + p - c) % p := ⟨_, rfl⟩
  rw [← hxe] at hx t1 ⊢
  clear hxe
  have t2 : ((p : Int) == 0) = false := by simp; omega
  go_enter Tryd.func74, Tryd.ntmps74
  go_wp2
  go_quiet (fail)
  go_wp2
  go_ret
  exact ⟨rfl, (Dr.refl _).step _⟩
set_option maxHeartbeats 400000 in
theorem rmul_any (a b p : Nat) (ha : a < 4294967296) (hb : b < 4294967296) (hp : p < 4294967296) (hp0 : 0 < p) (w : World) :
    Calls Tryd.prog 56 #[.int .u32 (a : Int), .int .u32 (b : Int), .int .u32 (p : Int)] w fun r w' => r = .returned (.int .u32 ((a * b % p : Nat) : Int)) ∧ w' = w := by
  have hab : a * b ≤ 4294967295 * 4294967295 := Nat.mul_le_mul (by omega) (by omega)
  have hm : a * b % p < p := Nat.mod_lt _ hp0
  obtain ⟨m, hme⟩ : ∃ m, m = a * b := ⟨_, rfl⟩
  have t1 : IntKind.u64.wrap ((a : Int) * (b : Int)) = (m : Int) := by
    rw [IntKind.wrap_u64, ← Int.natCast_mul, ← hme]; omega
  have t2 : ((p : Int) == 0) = false := by simp; omega
  have t3 : (m : Int) % (p : Int) = ((m % p : Nat) : Int) := cast_mod m p
  rw [← hme] at hm ⊢
  obtain ⟨x, hxe⟩ : ∃ x, x = m % p := ⟨_, rfl⟩
  rw [← hxe] at hm t3 ⊢
  clear hme hxe
  go_enter Tryd.func56, Tryd.ntmps56
  go_wp2
  go_ret
  exact ⟨rfl, rfl⟩
/-- One round of the reference's Pow. -/
theorem pow_round (a e p : Nat) : (a * a % p) ^ (e / 2) % p = (a ^ 2) ^ (e / 2) % p := by rw [← Nat.pow_mod, Nat.pow_two]
theorem rpow_step (o a e p : Nat) : (if e % 2 = 1 then o * a % p else o) * (a * a % p) ^ (e / 2) % p = o * a ^ e % p := by
  have h1 : a ^ e = (a ^ 2) ^ (e / 2) * a ^ (e % 2) := by
    rw [← Nat.pow_mul, ← Nat.pow_add]; congr 1; omega
  rw [Nat.mul_mod, pow_round, ← Nat.mul_mod]
  by_cases hc : e % 2 = 1
  · rw [if_pos hc, h1, hc, Nat.pow_one, Nat.mod_mul_mod]; congr 1; ac_rfl
  · rw [if_neg hc, h1, show e % 2 = 0 from by omega, Nat.pow_zero, Nat.mul_one]
set_option maxHeartbeats 800000 in
theorem rpow_any (a e p : Nat) (ha : a < 4294967296) (he : e < 18446744073709551616) (hp : p < 4294967296) (hp0 : 0 < p) (w : World) :
    Calls Tryd.prog 79 #[.int .u32 (a : Int), .int .u64 (e : Int), .int .u32 (p : Int)] w fun r w' => r = .returned (.int .u32 ((a ^ e % p : Nat) : Int)) ∧ w' = w := by
  have t2 : ((p : Int) == 0) = false := by simp; omega
  have t3 : (1 : Int) % (p : Int) = ((1 % p : Nat) : Int) := cast_mod 1 p
  have h1 : 1 % p < p := Nat.mod_lt _ hp0
  obtain ⟨R, hR⟩ : ∃ R, R = a ^ e % p := ⟨_, rfl⟩
  have hs : 1 % p * a ^ e % p = R := by rw [Nat.mod_mul_mod, Nat.one_mul, hR]
  obtain ⟨o1, ho1⟩ : ∃ o1, o1 = 1 % p := ⟨_, rfl⟩
  rw [← ho1] at t3 h1 hs
  have T3 := Lib.hid t3
  clear t3
  rw [← hR]
  have Hs := Lib.hid hs
  clear hR hs ho1
  go_enter Tryd.func79, Tryd.ntmps79
  go_wp2
  go_loop [0, 1, 7] (fun av ev ov => ∃ (x k o : Nat), av = .int .u32 (x : Int) ∧ ev = .int .u64 (k : Int) ∧ ov = .int .u32 (o : Int) ∧ x < 4294967296 ∧ k < 18446744073709551616 ∧ o < p ∧ o * x ^ k % p = R) (fun _ ev _ => (intOf ev).toNat)
  case atStart => exact ⟨a, e, o1, rfl, rfl, by rw [T3.out], ha, he, h1, Hs.out⟩
  case round =>
    obtain ⟨x, k, o, rfl, rfl, rfl, hx, hk, ho, hrel⟩ := hrel
    by_cases hk0 : k = 0
    · subst hk0
      have : o = R := by rw [← hrel, Nat.pow_zero, Nat.mul_one, Nat.mod_eq_of_lt ho]
      subst this
      clear hrel
      go_wp2
      go_ret
      exact ⟨rfl, rfl⟩
    · have hst := rpow_step o x k p
      rw [hrel] at hst
      have hxx : x * x % p < p := Nat.mod_lt _ hp0
      have hox : o * x % p < p := Nat.mod_lt _ hp0
      obtain ⟨xx, hxe⟩ : ∃ xx, xx = x * x % p := ⟨_, rfl⟩
      obtain ⟨ox, hoe⟩ : ∃ ox, ox = o * x % p := ⟨_, rfl⟩
      have Hxx := Lib.hid (fun W => hxe ▸ rmul_any x x p hx hx hp hp0 W)
      have Hox := Lib.hid (fun W => hoe ▸ rmul_any o x p (by omega) hx hp hp0 W)
      rw [← hxe] at hst hxx
      rw [← hoe] at hst hox
      obtain ⟨d, hd⟩ : ∃ d, d = k / 2 := ⟨_, rfl⟩
      have t4 : (k : Int) / 2 = (d : Int) := by omega
      rw [← hd] at hst
      have hdk : d < k := by omega
      have hk1 : 0 < k := by omega
      clear hrel hxe hoe hd hk0
      by_cases hc : k % 2 = 1
      · rw [if_pos hc] at hst
        have Hst := Lib.hid hst
        have t5 : ((k : Int) % 2 == 1) = true := by simp; omega
        clear hst hc
        go_wp2_with fail
        refine (Hox.out _).mono ?_
        rintro _ _ ⟨rfl, rfl⟩
        go_wp2_with fail
        refine (Hxx.out _).mono ?_
        rintro _ _ ⟨rfl, rfl⟩
        go_wp2
        go_round
        case rel => exact ⟨xx, d, ox, rfl, rfl, rfl, by omega, by omega, hox, Hst.out⟩
        case measure => simp [intOf]; omega
      · rw [if_neg hc] at hst
        have Hst := Lib.hid hst
        have t5 : ((k : Int) % 2 == 1) = false := by simp; omega
        clear hst hc
        go_wp2_with fail
        refine (Hxx.out _).mono ?_
        rintro _ _ ⟨rfl, rfl⟩
        go_wp2
        go_round
        case rel => exact ⟨xx, d, o, rfl, rfl, rfl, by omega, by omega, ho, Hst.out⟩
        case measure => simp [intOf]; omega
set_option maxHeartbeats 400000 in
theorem rinv_any (a p : Nat) (ha : a < 4294967296) (hp : p < 4294967296) (hp1 : 1 < p) (w : World) :
    Calls Tryd.prog 57 #[.int .u32 (a : Int), .int .u32 (p : Int)] w fun r w' => r = .returned (.int .u32 ((a ^ (p - 2) % p : Nat) : Int)) ∧ w' = w := by
  obtain ⟨e, he⟩ : ∃ e, e = p - 2 := ⟨_, rfl⟩
  have H := Lib.hid (fun W => rpow_any a e p ha (by omega) hp (by omega) W)
  have t1 : (p : Int) - 2 = (e : Int) := by omega
  rw [← he]
  clear he
  go_enter Tryd.func57, Tryd.ntmps57
  go_wp2_with fail
  refine (H.out _).mono ?_
  rintro _ _ ⟨rfl, rfl⟩
  go_wp2
  go_ret
  exact ⟨rfl, rfl⟩

theorem Pr.inv_right {p a : Nat} (hp : Pr p) (ha : ¬ p ∣ a) : a * (a ^ (p - 2) % p) % p = 1 := by
  have h2 := hp.1
  rw [Nat.mul_mod_mod, ← hp.fermat ha]
  congr 1
  rw [Nat.mul_comm, ← Nat.pow_succ]
  congr 1; omega
theorem inv_unique {p a u v : Nat} (hu : a * u % p = 1) (hv : a * v % p = 1) (hlt : v < p) (hul : u < p) : v = u := by
  have h1 : v * (a * u) % p = v := by rw [Nat.mul_mod, hu, Nat.mul_one, Nat.mod_mod, Nat.mod_eq_of_lt hlt]
  have h2 : u * (a * v) % p = u := by rw [Nat.mul_mod, hv, Nat.mul_one, Nat.mod_mod, Nat.mod_eq_of_lt hul]
  exact h1.symm.trans ((congrArg (· % p) (show v * (a * u) = u * (a * v) from by ac_rfl)).trans h2)

/-- What Euclid's steps keep. -/
def Eu (a p r s X Y : Nat) (x y : Int) : Prop :=
  s < r ∧ 1 ≤ s ∧ Nat.gcd r s = 1 ∧ Y * r + X * s = p ∧ ((x = -(X : Int) ∧ y = (Y : Int)) ∨ (x = (X : Int) ∧ y = -(Y : Int))) ∧ (∃ k : Int, (a : Int) * x = r + k * p) ∧ (∃ k : Int, (a : Int) * y = s + k * p)
theorem Eu.start {a p : Nat} (hp : Pr p) (ha : 0 < a) (hap : a < p) : Eu a p p a 0 1 0 1 :=
  ⟨hap, ha, hp.gcd (hp.not_dvd_lt ha hap), by simp, Or.inl ⟨rfl, rfl⟩, ⟨-1, by omega⟩, ⟨0, by omega⟩⟩
theorem Eu.step {a p r s X Y : Nat} {x y : Int} (h : Eu a p r s X Y x y) (hs : s ≠ 1) : Eu a p s (r % s) Y (X + r / s * Y) y (x - ((r / s : Nat) : Int) * y) := by
  obtain ⟨h1, h2, h3, h4, h5, ⟨k, h6⟩, ⟨j, h7⟩⟩ := h
  have hdm := Nat.div_add_mod r s
  have hg : Nat.gcd s (r % s) = 1 := by rw [Nat.gcd_comm, ← Nat.gcd_rec, Nat.gcd_comm]; exact h3
  have hm0 : r % s ≠ 0 := fun h0 => by rw [h0, Nat.gcd_zero_right] at hg; exact hs hg
  have hrI : (r : Int) = s * ((r / s : Nat) : Int) + ((r % s : Nat) : Int) := by rw [← Int.natCast_mul, ← Int.natCast_add, hdm]
  refine ⟨Nat.mod_lt _ (by omega), by omega, hg, ?_, ?_, ⟨j, h7⟩, ⟨k - ((r / s : Nat) : Int) * j, ?_⟩⟩
  · generalize r / s = q at hdm
    generalize r % s = m at hdm
    rw [← h4, ← hdm, Nat.add_mul, Nat.mul_add]
    rw [show q * Y * s = Y * (s * q) from by ac_rfl]
    omega
  · rcases h5 with ⟨rfl, rfl⟩ | ⟨rfl, rfl⟩
    · refine Or.inr ⟨rfl, ?_⟩
      rw [Int.natCast_add, Int.natCast_mul]; omega
    · refine Or.inl ⟨rfl, ?_⟩
      rw [Int.natCast_add, Int.natCast_mul, Int.mul_neg]; omega
  · generalize ((r / s : Nat) : Int) = q at hrI
    generalize ((r % s : Nat) : Int) = m at hrI
    rw [Int.mul_sub, h6, show (a : Int) * (q * y) = q * (a * y) from by ac_rfl, h7, hrI, Int.sub_mul, Int.mul_add, show q * (s : Int) = s * q from Int.mul_comm _ _, Int.mul_assoc]
    omega
theorem Eu.bounds {a p r s X Y : Nat} {x y : Int} (h : Eu a p r s X Y x y) : -(p : Int) ≤ x ∧ x ≤ p ∧ -(p : Int) ≤ y ∧ y ≤ p ∧ r ≤ p + r := by
  obtain ⟨h1, h2, h3, h4, h5, _, _⟩ := h
  have a1 : Y ≤ Y * r := Nat.le_mul_of_pos_right _ (by omega)
  have a2 : X ≤ X * s := Nat.le_mul_of_pos_right _ (by omega)
  rcases h5 with ⟨rfl, rfl⟩ | ⟨rfl, rfl⟩ <;> omega
theorem Eu.last {a p r X Y : Nat} {x y : Int} (h : Eu a p r 1 X Y x y) (hp : Pr p) (ha : ¬ p ∣ a) :
    (0 ≤ y → y = ((a ^ (p - 2) % p : Nat) : Int)) ∧ (y < 0 → y + p = ((a ^ (p - 2) % p : Nat) : Int)) := by
  have h2 := hp.1
  obtain ⟨h1, _, h3, h4, h5, _, ⟨j, h7⟩⟩ := h
  have hY : Y * 2 ≤ Y * r := Nat.mul_le_mul_left _ (by omega)
  have hYp : Y < p := by omega
  have hl : a ^ (p - 2) % p < p := Nat.mod_lt _ hp.pos
  have key : ∀ (v : Nat) (c : Int), (v : Int) = y + c * p → v < p → v = a ^ (p - 2) % p := fun v c hv hvp => by
    refine inv_unique (hp.inv_right ha) ?_ hvp hl
    have : ((a * v : Nat) : Int) = 1 + (j + a * c) * p := by
      rw [Int.natCast_mul, hv, Int.mul_add, h7, Int.add_mul, Int.mul_assoc]; omega
    have h8 : ((a * v % p : Nat) : Int) = 1 := by
      rw [Int.natCast_emod, this, Int.add_mul_emod_self_right, Int.emod_eq_of_lt (by omega) (by omega)]
    omega
  refine ⟨fun hy => ?_, fun hy => ?_⟩
  · have : y.toNat = a ^ (p - 2) % p := key y.toNat 0 (by omega) (by omega)
    omega
  · have : (y + p).toNat = a ^ (p - 2) % p := key (y + p).toNat 1 (by omega) (by omega)
    omega

set_option maxHeartbeats 1600000 in
theorem inverse_any (a p : Nat) (hp : Pr p) (ha0 : 0 < a) (hap : a < p) (hlt : p < 4294967296) (w : World) :
    Calls Tryd.prog 87 #[.int .u32 (a : Int), .int .u32 (p : Int)] w fun r w' => r = .returned (.int .u32 ((a ^ (p - 2) % p : Nat) : Int)) ∧ w' = w := by
  have hl : a ^ (p - 2) % p < p := Nat.mod_lt _ hp.pos
  have Hst := Lib.hid (Eu.start hp ha0 hap)
  have Hend := Lib.hid (fun (r X Y : Nat) (x y : Int) (h : Eu a p r 1 X Y x y) => h.last hp (hp.not_dvd_lt ha0 hap))
  obtain ⟨V, hV⟩ : ∃ V, V = a ^ (p - 2) % p := ⟨_, rfl⟩
  rw [← hV] at hl Hend ⊢
  have hp2 := hp.1
  clear hV hp
  go_enter Tryd.func87, Tryd.ntmps87
  go_wp2
  go_step3
  go_wp2
  go_step3
  go_wp2
  go_loop [5, 6, 7, 8] (fun rv sv xv yv => ∃ (r s X Y : Nat) (x y : Int), rv = .int .i64 (r : Int) ∧ sv = .int .i64 (s : Int) ∧ xv = .int .i64 x ∧ yv = .int .i64 y ∧ r ≤ p ∧ Eu a p r s X Y x y) (fun _ sv _ _ => (intOf sv).toNat)
  case atStart => exact ⟨p, a, 0, 1, 0, 1, rfl, rfl, rfl, rfl, Nat.le_refl _, Hst.out⟩
  case round =>
    obtain ⟨r, s, X, Y, x, y, rfl, rfl, rfl, rfl, hr, hrel⟩ := hrel
    obtain ⟨b1, b2, b3, b4, _⟩ := hrel.bounds
    have hs1 := hrel.2.1
    have hsr := hrel.1
    by_cases hs : s = 1
    · subst hs
      obtain ⟨e1, e2⟩ := Hend.out _ _ _ _ _ hrel
      clear hrel
      by_cases hy : y < 0
      · have e := e2 hy
        have t1 : decide (y < 0) = true := by simpa using hy
        clear e1 e2
        go_wp2
        go_ret
        exact ⟨rfl, rfl⟩
      · obtain rfl := e1 (by omega)
        have t1 : decide ((V : Int) < 0) = false := by simp
        clear e2
        go_wp2
        go_ret
        exact ⟨rfl, rfl⟩
    · have hst := hrel.step hs
      obtain ⟨_, _, c3, c4, _⟩ := hst.bounds
      have Hst2 := Lib.hid hst
      obtain ⟨q, hq⟩ : ∃ q, q = r / s := ⟨_, rfl⟩
      obtain ⟨m, hm⟩ : ∃ m, m = r % s := ⟨_, rfl⟩
      have hdm := Nat.div_add_mod r s
      rw [← hq, ← hm] at hdm Hst2
      rw [← hq] at c3 c4
      have hms : m < s := by rw [hm]; exact Nat.mod_lt _ (by omega)
      obtain ⟨z, hz⟩ : ∃ z, z = (q : Int) * y := ⟨_, rfl⟩
      rw [← hz] at c3 c4 Hst2
      obtain ⟨u, hu⟩ : ∃ u, u = s * q := ⟨_, rfl⟩
      rw [← hu] at hdm
      have t0 : ((s : Int) == 1) = false := by simp; omega
      have t1 : ((s : Int) == 0) = false := by simp; omega
      have t2 : (r : Int) / (s : Int) = (q : Int) := by rw [hq]; rfl
      have hqr : q ≤ r := by rw [hq]; exact Nat.div_le_self r s
      have t3 : wrap64 ((q : Int) * (s : Int)) = (u : Int) := by
        rw [show (q : Int) * (s : Int) = (u : Int) from by rw [hu, Int.natCast_mul, Int.mul_comm]]
        exact IntWalk.wrap64_in _ (by omega)
      have t4 : wrap64 ((q : Int) * y) = z := by
        rw [← hz]; exact IntWalk.wrap64_in _ (by omega)
      have t5 : (r : Int) - (u : Int) = (m : Int) := by omega
      clear hrel hst hs hq hm hz hu Hend hdm
      go_wp2
      go_round
      case rel => exact ⟨s, m, Y, X + q * Y, y, x - z, rfl, rfl, rfl, rfl, by omega, Hst2.out⟩
      case measure => simp [intOf]; omega

theorem mod_dvd_not {b p : Nat} (hb : b % p ≠ 0) : ¬ p ∣ b := fun h => hb (Nat.mod_eq_zero_of_dvd h)
set_option maxHeartbeats 800000 in
theorem pquo_zero (a b p : Nat) (hp : Pr p) (hlt : p < 4294967296) (h0 : b % p = 0) (w : World) (hw : Bases w) :
    Calls Tryd.prog 71 #[.int .u32 (a : Int), .int .u32 (b : Int), .int .u32 (p : Int)] w fun r w' => r = .returned (.tuple #[.int .u32 0, .int .i64 5]) ∧ w' = w := by
  have Hw := Lib.hid hw
  have Hi := Lib.hid (fun W hW => is_yes p hp hlt W hW)
  have hp2 := hp.1
  have t0 : (b : Int) % (p : Int) = 0 := by rw [cast_mod, h0]; rfl
  have t1 : ((p : Int) == 0) = false := by simp; omega
  clear hw hp h0
  go_enter Tryd.func71, Tryd.ntmps71
  go_wp2_with fail
  refine (Hi.out _ Hw.out).mono ?_
  rintro _ _ ⟨rfl, rfl⟩
  go_wp2
  go_ret2
  exact ⟨rfl, rfl⟩
set_option maxHeartbeats 800000 in
theorem pquo_yes (a b p : Nat) (ha : a < 4294967296) (hp : Pr p) (hlt : p < 4294967296) (h0 : b % p ≠ 0) (w : World) (hw : Bases w) :
    Calls Tryd.prog 71 #[.int .u32 (a : Int), .int .u32 (b : Int), .int .u32 (p : Int)] w fun r w' => r = .returned (.tuple #[.int .u32 ((a * (b ^ (p - 2) % p) % p : Nat) : Int), .int .i64 0]) ∧ w' = w := by
  have Hw := Lib.hid hw
  have Hi := Lib.hid (fun W hW => is_yes p hp hlt W hW)
  have hp2 := hp.1
  have hbp : b % p < p := Nat.mod_lt _ hp.pos
  have hinv := fun W => inverse_any (b % p) p hp (by omega) hbp hlt W
  have hl : b ^ (p - 2) % p < p := Nat.mod_lt _ hp.pos
  rw [← Nat.pow_mod] at hinv
  have ht := fun W => times_any a (b ^ (p - 2) % p) p W ha (by omega) hlt hp.pos
  have t0 : (b : Int) % (p : Int) = ((b % p : Nat) : Int) := cast_mod b p
  obtain ⟨c, hc⟩ : ∃ c, c = b % p := ⟨_, rfl⟩
  obtain ⟨v, hv⟩ : ∃ v, v = b ^ (p - 2) % p := ⟨_, rfl⟩
  rw [← hc] at t0 h0 hbp
  simp only [← hc, ← hv] at hinv
  simp only [← hv] at ht
  rw [← hv] at hl ⊢
  have Hinv := Lib.hid hinv
  have Ht := Lib.hid ht
  have t1 : ((p : Int) == 0) = false := by simp; omega
  have t2 : ((c : Int) == 0) = false := by simp; omega
  clear hw hp hc hv hinv ht
  go_enter Tryd.func71, Tryd.ntmps71
  go_wp2_with fail
  refine (Hi.out _ Hw.out).mono ?_
  rintro _ _ ⟨rfl, rfl⟩
  go_wp2_with fail
  refine (Hinv.out _).mono ?_
  rintro _ _ ⟨rfl, rfl⟩
  go_wp2_with fail
  refine (Ht.out _).mono ?_
  rintro _ _ ⟨rfl, rfl⟩
  go_wp2
  go_ret2
  exact ⟨rfl, rfl⟩
set_option maxHeartbeats 400000 in
theorem pinv_zero (b p : Nat) (hp : Pr p) (hlt : p < 4294967296) (h0 : b % p = 0) (w : World) (hw : Bases w) :
    Calls Tryd.prog 100 #[.int .u32 (b : Int), .int .u32 (p : Int)] w fun r w' => r = .returned (.tuple #[.int .u32 0, .int .i64 5]) ∧ w' = w := by
  have H := Lib.hid (fun W hW => pquo_zero 1 b p hp hlt h0 W hW)
  have Hw := Lib.hid hw
  clear hw hp h0
  go_enter Tryd.func100, Tryd.ntmps100
  go_wp2_with fail
  refine (H.out _ Hw.out).mono ?_
  rintro _ _ ⟨rfl, rfl⟩
  go_wp2
  go_ret2
  exact ⟨rfl, rfl⟩
set_option maxHeartbeats 400000 in
theorem pinv_yes (b p : Nat) (hp : Pr p) (hlt : p < 4294967296) (h0 : b % p ≠ 0) (w : World) (hw : Bases w) :
    Calls Tryd.prog 100 #[.int .u32 (b : Int), .int .u32 (p : Int)] w fun r w' => r = .returned (.tuple #[.int .u32 ((b ^ (p - 2) % p : Nat) : Int), .int .i64 0]) ∧ w' = w := by
  have h := fun W hW => pquo_yes 1 b p (by omega) hp hlt h0 W hW
  simp only [Nat.one_mul, Nat.mod_mod] at h
  have H := Lib.hid h
  have Hw := Lib.hid hw
  clear hw hp h0 h
  go_enter Tryd.func100, Tryd.ntmps100
  go_wp2_with fail
  refine (H.out _ Hw.out).mono ?_
  rintro _ _ ⟨rfl, rfl⟩
  go_wp2
  go_ret2
  exact ⟨rfl, rfl⟩
end
section
open Go.RowKit

/-- The bases, the block whole. -/
def Bx (w : World) : Prop := ∃ e, w.heap[0]? = some (.cells ⟨[.int .u32 2, .int .u32 7, .int .u32 61]⟩ e (0, 0))
theorem Bx.lt {w : World} (h : Bx w) : 0 < w.heap.size := by
  obtain ⟨e, h⟩ := h
  exact (Array.getElem?_eq_some_iff.1 h).1
theorem Bx.below {w w' : World} {B : Nat} (h : Bx w) (hb : Below B w w') (hB : w.heap.size ≤ B) : Bx w' := by
  have h1 := h.lt
  obtain ⟨e, h⟩ := h
  exact ⟨e, (hb.block _ (by omega)).trans h⟩
theorem Bx.bases {w : World} (h : Bx w) : Bases w := by
  obtain ⟨e, h⟩ := h
  exact ⟨by simp [World.cell?, h], by simp [World.cell?, h], by simp [World.cell?, h]⟩

set_option maxRecDepth 100000 in
theorem awake_true (e0 : TypeId) : Ev.yesB ((Ev.mach Tryd.prog 1 Ev.okT 300).call 29 [] (Ev.tabH [(0, .cells false e0 [.int .u32 2, .int .u32 7, .int .u32 61])]) 1) = true := by kernel_rfl
theorem ev_mix : Tryd.prog.follows .mixedOrders = true := by kernel_rfl
theorem ev_names : (Tryd.prog.funcs.toList.all fun fn => !(fn.name == "runtime.NumGoroutine")) = true := by kernel_rfl
set_option maxRecDepth 100000 in
theorem lawake_any (w : World) (hw : Bx w) : Calls Tryd.prog 29 #[] w fun r w' => r = .returned (.bool true) ∧ Below w.heap.size w w' := by
  obtain ⟨e0, he0⟩ := hw
  refine (callsIn_wide (n := 0)).1 (Ev.reckoned (G := 1) ev_mix (Ev.names_of ev_names) (l := [(0, .cells false e0 [.int .u32 2, .int .u32 7, .int .u32 61])]) (show 1 ≤ _ from Ev.size_of he0) (fun p hp => ?_) (by kernel_rfl) 300 (awake_true e0) 0)
  obtain rfl := List.mem_singleton.1 hp
  exact ⟨(by decide : (0 : Nat) < 1), he0, rfl⟩
end
section
def ev : List Int → Int → Int
  | [], _ => 0
  | c :: a, x => c + x * ev a x
def addI : List Int → List Int → List Int
  | [], b => b
  | x :: a, [] => x :: a
  | x :: a, y :: b => (x + y) :: addI a b
def sclI (c : Int) (a : List Int) : List Int := a.map fun x => c * x
def mulI : List Int → List Int → List Int
  | [], _ => []
  | c :: a, b => addI (sclI c b) (0 :: mulI a b)
theorem ev_addI (a b : List Int) (x : Int) : ev (addI a b) x = ev a x + ev b x := by
  induction a generalizing b with
  | nil => simp [addI, ev]
  | cons c a ih =>
    cases b with
    | nil => simp [addI, ev]
    | cons d b => simp only [addI, ev, ih]; grind
theorem ev_sclI (c : Int) (a : List Int) (x : Int) : ev (sclI c a) x = c * ev a x := by
  unfold sclI
  induction a with
  | nil => simp [ev]
  | cons d a ih => simp only [List.map_cons, ev, ih]; grind
theorem ev_mulI (a b : List Int) (x : Int) : ev (mulI a b) x = ev a x * ev b x := by
  induction a with
  | nil => simp [mulI, ev]
  | cons c a ih => simp only [mulI, ev, ev_addI, ev_sclI, ih]; grind
theorem getD_addI (a b : List Int) (i : Nat) : (addI a b).getD i 0 = a.getD i 0 + b.getD i 0 := by
  induction a generalizing b i with
  | nil => simp [addI]
  | cons c a ih =>
    cases b with
    | nil => simp [addI]
    | cons d b =>
      cases i with
      | zero => simp [addI]
      | succ i => simpa [addI] using ih b i
theorem getD_sclI (c : Int) (a : List Int) (i : Nat) : (sclI c a).getD i 0 = c * a.getD i 0 := by
  unfold sclI
  simp only [List.getD_eq_getElem?_getD, List.getElem?_map]
  cases a[i]? <;> simp
theorem len_addI (a b : List Int) : (addI a b).length = max a.length b.length := by
  induction a generalizing b with
  | nil => simp [addI]
  | cons c a ih =>
    cases b with
    | nil => simp [addI]
    | cons d b => simp only [addI, List.length_cons, ih]; omega
theorem getD_none {a : List Int} {i : Nat} (h : a.length ≤ i) : a.getD i 0 = 0 := by
  simp [List.getD_eq_getElem?_getD, List.getElem?_eq_none h]
/-- The top of a product. -/
theorem top_mulI (a b : List Int) (m n : Nat) (ha : a.length ≤ m + 1) (hb : b.length ≤ n + 1) : (mulI a b).getD (m + n) 0 = a.getD m 0 * b.getD n 0 := by
  induction a generalizing m with
  | nil => simp [mulI]
  | cons c a ih =>
    rw [mulI, getD_addI, getD_sclI]
    cases m with
    | zero =>
      obtain rfl : a = [] := List.eq_nil_of_length_eq_zero (by rw [List.length_cons] at ha; omega)
      cases n <;> simp [mulI]
    | succ m =>
      rw [getD_none (a := b) (i := m + 1 + n) (by omega)]
      have := ih m (by simpa using ha)
      rw [show m + 1 + n = (m + n) + 1 by omega]
      simpa using this
theorem far_mulI (a b : List Int) (i : Nat) (h : a.length + b.length ≤ i + 1) : (mulI a b).getD i 0 = 0 := by
  induction a generalizing i with
  | nil => simp [mulI]
  | cons c a ih =>
    rw [mulI, getD_addI, getD_sclI, getD_none (a := b) (by simp at h; omega)]
    cases i with
    | zero => simp
    | succ i => simpa using ih i (by simp at h; omega)

/-- A polynomial that is 0 at every number from 1 on has no coefficient but 0. -/
theorem ev_none {c : List Int} (h : ∀ x : Int, 1 ≤ x → ev c x = 0) (i : Nat) : c.getD i 0 = 0 := by
  induction c generalizing i with
  | nil => simp
  | cons d a ih =>
    have hd : d = 0 := by
      have h1 := h (d.natAbs + 1) (by omega)
      simp only [ev] at h1
      generalize ev a _ = y at h1
      by_cases hy : y = 0
      · subst hy; simpa using h1
      · exfalso
        have h2 : d = -(((d.natAbs : Int) + 1) * y) := by omega
        have h3 : d.natAbs = (d.natAbs + 1) * y.natAbs := by
          have h4 := congrArg Int.natAbs h2
          rw [Int.natAbs_neg, Int.natAbs_mul] at h4
          have h5 : ((d.natAbs : Int) + 1).natAbs = d.natAbs + 1 := by omega
          rwa [h5] at h4
        have h6 : 1 ≤ y.natAbs := by omega
        have h7 := Nat.mul_le_mul_left (d.natAbs + 1) h6
        omega
    subst hd
    have ha : ∀ x : Int, 1 ≤ x → ev a x = 0 := fun x hx => by
      have h1 := h x hx
      simp only [ev, Int.zero_add] at h1
      rcases Int.mul_eq_zero.1 h1 with h2 | h2
      · omega
      · exact h2
    cases i with
    | zero => simp
    | succ i => simpa using ih ha i

/-! A polynomial. -/
structure Z where
  l : List Int
namespace Z
def v (a : Z) (x : Int) : Int := ev a.l x
instance : Add Z := ⟨fun a b => ⟨addI a.l b.l⟩⟩
instance : Mul Z := ⟨fun a b => ⟨mulI a.l b.l⟩⟩
instance : Neg Z := ⟨fun a => ⟨sclI (-1) a.l⟩⟩
instance : Sub Z := ⟨fun a b => a + -b⟩
def c (k : Int) : Z := ⟨[k]⟩
def X : Z := ⟨[0, 1]⟩
theorem v_add (a b : Z) (x : Int) : (a + b).v x = a.v x + b.v x := ev_addI a.l b.l x
theorem v_mul (a b : Z) (x : Int) : (a * b).v x = a.v x * b.v x := ev_mulI a.l b.l x
theorem v_neg (a : Z) (x : Int) : (-a).v x = -a.v x := by
  show ev (sclI (-1) a.l) x = - ev a.l x
  rw [ev_sclI]; omega
theorem v_sub (a b : Z) (x : Int) : (a - b).v x = a.v x - b.v x := by
  show (a + -b).v x = _
  rw [v_add, v_neg]; omega
theorem v_c (k x : Int) : (c k).v x = k := by simp [c, v, ev]
theorem v_X (x : Int) : X.v x = x := by simp [X, v, ev]
def pow (a : Z) : Nat → Z
  | 0 => c 1
  | n + 1 => pow a n * a
theorem v_pow (a : Z) (n : Nat) (x : Int) : (a.pow n).v x = a.v x ^ n := by
  induction n with
  | zero => simp [pow, v_c]
  | succ n ih => rw [pow, v_mul, ih, Int.pow_succ]
/-- The coefficient at i. -/
def co (a : Z) (i : Nat) : Int := a.l.getD i 0
theorem co_add (a b : Z) (i : Nat) : (a + b).co i = a.co i + b.co i := getD_addI a.l b.l i
theorem co_neg (a : Z) (i : Nat) : (-a).co i = - a.co i := by
  show (sclI (-1) a.l).getD i 0 = _
  rw [getD_sclI]; simp [co]
theorem co_sub (a b : Z) (i : Nat) : (a - b).co i = a.co i - b.co i := by
  show (a + -b).co i = _
  rw [co_add, co_neg]; omega
theorem co_of_v {a b : Z} (h : ∀ x, a.v x = b.v x) (i : Nat) : a.co i = b.co i := by
  have h1 := ev_none (c := (a - b).l) (fun x _ => by have := v_sub a b x; rw [h x] at this; show (a - b).v x = 0; omega) i
  have h2 : (a - b).co i = 0 := h1
  rw [co_sub] at h2; omega
theorem v_of_co {a b : List Int} (h : ∀ i, a.getD i 0 = b.getD i 0) (x : Int) : ev a x = ev b x := by
  induction a generalizing b with
  | nil =>
    induction b with
    | nil => rfl
    | cons d b ih =>
      have h0 := h 0
      simp at h0
      have := ih (fun i => by simpa using h (i + 1))
      simp only [ev] at this ⊢
      rw [← h0, ← this]; simp
  | cons c a ih =>
    cases b with
    | nil =>
      have h0 := h 0
      simp at h0
      have := ih (b := []) (fun i => by simpa using h (i + 1))
      simp only [ev] at this ⊢
      rw [h0, this]; simp
    | cons d b =>
      have h0 := h 0
      simp at h0
      have := ih (b := b) (fun i => by simpa using h (i + 1))
      simp only [ev]
      rw [h0, this]
end Z

/-- One and the same modulo p. -/
def Cg (p : Nat) (a b : Z) : Prop := ∃ c : Z, ∀ x, a.v x = b.v x + (p : Int) * c.v x
section
variable {p : Nat} {a b d e a' b' : Z}
theorem Cg.of_eq (h : ∀ x, a.v x = b.v x) : Cg p a b := ⟨.c 0, fun x => by rw [h, Z.v_c]; omega⟩
theorem Cg.refl (a : Z) : Cg p a a := .of_eq fun _ => rfl
theorem Cg.lin1 (h : Cg p a b) (k : Z) (hx : ∀ x, d.v x - e.v x = k.v x * (a.v x - b.v x)) : Cg p d e := by
  obtain ⟨c, hc⟩ := h
  exact ⟨k * c, fun x => by have h1 := hx x; rw [hc x] at h1; rw [Z.v_mul]; grind⟩
theorem Cg.lin2 {a2 b2 : Z} (h : Cg p a b) (h2 : Cg p a2 b2) (k k2 : Z) (hx : ∀ x, d.v x - e.v x = k.v x * (a.v x - b.v x) + k2.v x * (a2.v x - b2.v x)) : Cg p d e := by
  obtain ⟨c, hc⟩ := h
  obtain ⟨c2, hc2⟩ := h2
  exact ⟨k * c + k2 * c2, fun x => by have h1 := hx x; rw [hc x, hc2 x] at h1; rw [Z.v_add, Z.v_mul, Z.v_mul]; grind⟩
theorem Cg.lin3 {a2 b2 a3 b3 : Z} (h : Cg p a b) (h2 : Cg p a2 b2) (h3 : Cg p a3 b3) (k k2 k3 : Z) (hx : ∀ x, d.v x - e.v x = k.v x * (a.v x - b.v x) + k2.v x * (a2.v x - b2.v x) + k3.v x * (a3.v x - b3.v x)) : Cg p d e := by
  obtain ⟨c, hc⟩ := h
  obtain ⟨c2, hc2⟩ := h2
  obtain ⟨c3, hc3⟩ := h3
  exact ⟨k * c + k2 * c2 + k3 * c3, fun x => by have h1 := hx x; rw [hc x, hc2 x, hc3 x] at h1; rw [Z.v_add, Z.v_add, Z.v_mul, Z.v_mul, Z.v_mul]; grind⟩
theorem Cg.symm (h : Cg p a b) : Cg p b a := h.lin1 (.c (-1)) fun x => by rw [Z.v_c]; omega
theorem Cg.trans (h : Cg p a b) (h2 : Cg p b d) : Cg p a d := h.lin2 h2 (.c 1) (.c 1) fun x => by rw [Z.v_c]; omega
theorem Cg.add (h : Cg p a b) (h2 : Cg p a' b') : Cg p (a + a') (b + b') := h.lin2 h2 (.c 1) (.c 1) fun x => by rw [Z.v_c, Z.v_add, Z.v_add]; omega
theorem Cg.sub (h : Cg p a b) (h2 : Cg p a' b') : Cg p (a - a') (b - b') := h.lin2 h2 (.c 1) (.c (-1)) fun x => by rw [Z.v_c, Z.v_c, Z.v_sub, Z.v_sub]; omega
theorem Cg.mul (h : Cg p a b) (h2 : Cg p a' b') : Cg p (a * a') (b * b') := h.lin2 h2 a' b fun x => by rw [Z.v_mul, Z.v_mul]; grind
/-- The coefficients are one modulo p. -/
theorem Cg.co (h : Cg p a b) (i : Nat) : (p : Int) ∣ a.co i - b.co i := by
  obtain ⟨c, hc⟩ := h
  have := Z.co_of_v (a := a) (b := b + .c p * c) (fun x => by rw [Z.v_add, Z.v_mul, Z.v_c]; exact hc x) i
  rw [Z.co_add] at this
  have h2 : (Z.c p * c).co i = p * c.co i := by
    rw [Z.co_of_v (b := ⟨sclI p c.l⟩) (fun x => by rw [Z.v_mul, Z.v_c]; exact (ev_sclI _ _ _).symm)]
    exact getD_sclI _ _ _
  rw [h2] at this
  exact ⟨c.co i, by omega⟩
end

theorem ev_snoc (a : List Int) (c x : Int) : ev (a ++ [c]) x = ev a x + c * x ^ a.length := by
  induction a with
  | nil => simp [ev]
  | cons d a ih => simp only [List.cons_append, ev, ih, List.length_cons, Int.pow_succ]; grind
/-- By its coefficients. -/
theorem Cg.of_co {p : Nat} {a b : List Int} (h : ∀ i, (p : Int) ∣ a.getD i 0 - b.getD i 0) : Cg p ⟨a⟩ ⟨b⟩ := by
  have key : ∀ a : List Int, (∀ i, (p : Int) ∣ a.getD i 0) → ∃ c : List Int, ∀ x, ev a x = p * ev c x := by
    intro a
    induction a with
    | nil => exact fun _ => ⟨[], fun x => by simp [ev]⟩
    | cons d a ih =>
      intro h
      obtain ⟨c, hc⟩ := ih fun i => by simpa using h (i + 1)
      obtain ⟨k, hk⟩ := h 0
      simp at hk
      exact ⟨k :: c, fun x => by simp only [ev, hc x, hk]; grind⟩
  obtain ⟨c, hc⟩ := key (addI a (sclI (-1) b)) fun i => by
    rw [getD_addI, getD_sclI]
    have := h i
    rwa [show a.getD i 0 + -1 * b.getD i 0 = a.getD i 0 - b.getD i 0 by omega]
  refine ⟨⟨c⟩, fun x => ?_⟩
  have h1 := hc x
  rw [ev_addI, ev_sclI] at h1
  show ev a x = ev b x + p * ev c x
  omega

/-! Lists of numbers. -/
def zi (a : List Nat) : List Int := a.map fun n : Nat => (n : Int)
def zo (a : List Nat) : Z := ⟨zi a⟩
theorem zi_getD (a : List Nat) (i : Nat) : (zi a).getD i 0 = ((a.getD i 0 : Nat) : Int) := by
  simp only [zi, List.getD_eq_getElem?_getD, List.getElem?_map]
  cases a[i]? <;> simp
theorem zo_co (a : List Nat) (i : Nat) : (zo a).co i = ((a.getD i 0 : Nat) : Int) := zi_getD a i
theorem zo_nil (x : Int) : (zo []).v x = 0 := rfl
theorem zo_cons (n : Nat) (a : List Nat) (x : Int) : (zo (n :: a)).v x = n + x * (zo a).v x := rfl
theorem zi_length (a : List Nat) : (zi a).length = a.length := by simp [zi]

theorem trimL_getD (a : List Nat) (i : Nat) : (trimL a).getD i 0 = a.getD i 0 := by
  induction a generalizing i with
  | nil => simp [trimL]
  | cons c a ih =>
    simp only [trimL]
    split
    · rename_i e
      have h0 : ∀ i, a.getD i 0 = 0 := fun i => by rw [← ih i, e]; simp
      split
      · rename_i e2
        cases i with
        | zero => simp [e2]
        | succ i => simpa using (h0 i).symm
      · cases i with
        | zero => simp
        | succ i => simpa using (h0 i).symm
    · rename_i y ys e
      cases i with
      | zero => simp
      | succ i => simpa [e] using ih i
theorem trimL_trimL (a : List Nat) : trimL (trimL a) = trimL a := by
  induction a with
  | nil => rfl
  | cons c a ih =>
    simp only [trimL]
    split
    · split
      · rfl
      · rename_i e2; simp [trimL, e2]
    · rename_i y ys e
      rw [e] at ih
      simp only [trimL] at ih ⊢
      rw [ih]
theorem trimL_top {a : List Nat} (h : trimL a = a) (hn : a ≠ []) : a.getD (a.length - 1) 0 ≠ 0 := by
  rcases List.eq_nil_or_concat a with rfl | ⟨l, x, rfl⟩
  · exact absurd rfl hn
  · rw [List.concat_eq_append] at h ⊢
    intro h0
    have hx : x = 0 := by simpa using h0
    subst hx
    rw [trimL_snoc_zero] at h
    have := trimL_length_le l
    rw [h] at this
    simp at this
    omega
theorem trimL_eq {a b : List Nat} (ha : trimL a = a) (hb : trimL b = b) (h : ∀ i, a.getD i 0 = b.getD i 0) : a = b := by
  have len : ∀ {a b : List Nat}, trimL a = a → (∀ i, a.getD i 0 = b.getD i 0) → a.length ≤ b.length := fun {a b} ha h => by
    by_cases hn : a = []
    · subst hn; simp
    · have h1 := trimL_top ha hn
      rw [h] at h1
      have : 0 < a.length := List.length_pos_iff.2 hn
      rcases Nat.lt_or_ge (a.length - 1) b.length with h2 | h2
      · omega
      · rw [List.getD_eq_getElem?_getD, List.getElem?_eq_none h2] at h1; exact absurd rfl h1
  have hl : a.length = b.length := Nat.le_antisymm (len ha h) (len hb fun i => (h i).symm)
  apply List.ext_getElem hl
  intro i h1 h2
  have := h i
  simpa [List.getD_eq_getElem?_getD, List.getElem?_eq_getElem h1, List.getElem?_eq_getElem h2] using this

/-- Normal modulo p. -/
def Nf (p : Nat) (a : List Nat) : Prop := (∀ x ∈ a, x < p) ∧ trimL a = a
theorem trimL_mem {a : List Nat} {x : Nat} (h : x ∈ trimL a) : x ∈ a := by rw [← trimL_take] at h; exact List.mem_of_mem_take h
theorem Nf.nil_ (p : Nat) : Nf p [] := ⟨(fun _ h => by cases h), rfl⟩
theorem Nf.trim {p : Nat} {a : List Nat} (h : ∀ x ∈ a, x < p) : Nf p (trimL a) := ⟨fun x hx => h x (trimL_mem hx), trimL_trimL a⟩
theorem Nf.getD_lt {p : Nat} {a : List Nat} (h : Nf p a) (hp : 0 < p) (i : Nat) : a.getD i 0 < p := by
  rw [List.getD_eq_getElem?_getD]
  cases e : a[i]? with
  | none => simpa
  | some x => exact h.1 x (List.mem_of_getElem? e)
theorem Nf.unique {p : Nat} {a b : List Nat} (ha : Nf p a) (hb : Nf p b) (hp : 0 < p) (h : Cg p (zo a) (zo b)) : a = b := by
  refine trimL_eq ha.2 hb.2 fun i => ?_
  have h1 := h.co i
  rw [zo_co, zo_co] at h1
  have h2 := ha.getD_lt hp i
  have h3 := hb.getD_lt hp i
  obtain ⟨k, hk⟩ := h1
  have : k = 0 := by
    rcases Int.lt_trichotomy k 0 with h | h | h
    · have : (p : Int) * k ≤ (p : Int) * (-1) := Int.mul_le_mul_of_nonneg_left (by omega) (by omega)
      omega
    · exact h
    · have : (p : Int) * 1 ≤ (p : Int) * k := Int.mul_le_mul_of_nonneg_left (by omega) (by omega)
      omega
  subst this
  omega
theorem Cg.trim {p : Nat} (a : List Nat) : Cg p (zo (trimL a)) (zo a) := Cg.of_eq fun x => Z.v_of_co (fun i => by show (zi _).getD i 0 = (zi _).getD i 0; rw [zi_getD, zi_getD, trimL_getD]) x
theorem Cg.mods {p : Nat} (a : List Nat) : Cg p (zo (a.map (· % p))) (zo a) := Cg.of_co fun i => by
  rw [zi_getD, zi_getD]
  have : (a.map (· % p)).getD i 0 = a.getD i 0 % p := by
    simp only [List.getD_eq_getElem?_getD, List.getElem?_map]
    cases a[i]? <;> simp
  rw [this]
  have h := Nat.div_add_mod (a.getD i 0) p
  exact ⟨-((a.getD i 0 / p : Nat) : Int), by
    have h2 : ((p * (a.getD i 0 / p) + a.getD i 0 % p : Nat) : Int) = (a.getD i 0 : Nat) := by rw [h]
    push_cast at h2 ⊢
    rw [Int.mul_neg]; omega⟩
/-- The normal form. -/
def mnP (p : Nat) (a : List Nat) : List Nat := trimL (a.map (· % p))
theorem mnP_nf {p : Nat} (hp : 0 < p) (a : List Nat) : Nf p (mnP p a) := Nf.trim fun x hx => by
  obtain ⟨y, _, rfl⟩ := List.mem_map.1 hx
  exact Nat.mod_lt _ hp
theorem mnP_cg (p : Nat) (a : List Nat) : Cg p (zo (mnP p a)) (zo a) := (Cg.trim _).trans (Cg.mods a)
/-- Each polynomial has one. -/
theorem nf_of {p : Nat} (hp : 0 < p) (a : Z) : ∃ r, Nf p r ∧ Cg p (zo r) a := by
  refine ⟨trimL (a.l.map fun x : Int => (x % (p : Int)).toNat), Nf.trim fun x hx => ?_, (Cg.trim _).trans (Cg.of_co fun i => ?_)⟩
  · obtain ⟨y, _, rfl⟩ := List.mem_map.1 hx
    have := Int.emod_lt_of_pos y (show (0 : Int) < p by omega)
    omega
  · rw [zi_getD]
    have : (a.l.map fun x : Int => (x % (p : Int)).toNat).getD i 0 = (a.l.getD i 0 % p).toNat := by
      simp only [List.getD_eq_getElem?_getD, List.getElem?_map]
      cases a.l[i]? <;> simp
    rw [this]
    have h0 := Int.emod_nonneg (a.l.getD i 0) (show (p : Int) ≠ 0 by omega)
    have h := Int.mul_ediv_add_emod (a.l.getD i 0) p
    exact ⟨-(a.l.getD i 0 / p), by rw [Int.toNat_of_nonneg h0, Int.mul_neg]; omega⟩
end
end Go.Proofs.YtddhhndnkjajmaaDoor
