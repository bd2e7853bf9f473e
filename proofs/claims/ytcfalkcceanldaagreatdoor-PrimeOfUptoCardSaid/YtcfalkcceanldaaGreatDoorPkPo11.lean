/- Is is right: what prime's Is and the reference's Is answer of every number below 2^32. Conditions: bases reads 2, 7, 61 (prime's). prime's Add, Sub, Mul, Neg, Pow and what the reference answers. Conditions: p a prime, or none; bases reads 2, 7, 61. prime's inverse, Quo and Inv modulo a prime: by Fermat's power. Conditions: p a prime; bases reads 2, 7, 61. A fraction modulo a prime: what is common may be taken out first. No conditions beyond the sizes. -/
import Derived.Test.YtcfalkcceanldaaGreatDoorPkPo1
import Derived.Test.YtcfalkcceanldaaGreatDoorPkPo2
import Derived.Test.YtcfalkcceanldaaGreatDoorPkPo10
import Derived.Deep.QuietTactic
import Derived.BigQuiet
import Derived.Deep.CutBlock
import Derived.RegionTactic
import Derived.WalkMore
import Derived.IntWalk
import Derived.Deep.DeepCutAuto
namespace Go.Proofs.YtcfalkcceanldaaGreatDoor
section
open Go.RowKit

theorem Bases.drewN {w : World} (h : Bases w) (n : Nat) : Bases (w.drewN n) := h

/-- Is n a prime? -/
noncomputable def isP (n : Nat) : Bool := @decide (Pr n) (Classical.propDecidable _)
theorem isP_true {n : Nat} (h : Pr n) : isP n = true := by unfold isP; exact @decide_eq_true _ (Classical.propDecidable _) h
theorem isP_false {n : Nat} (h : ¬ Pr n) : isP n = false := by unfold isP; exact @decide_eq_false _ (Classical.propDecidable _) h
theorem isP_cases (n : Nat) : (Pr n ∧ isP n = true) ∨ (¬ Pr n ∧ isP n = false) := by
  by_cases h : Pr n
  · exact Or.inl ⟨h, isP_true h⟩
  · exact Or.inr ⟨h, isP_false h⟩

theorem Pr.of_none {n : Nat} (h2 : 2 ≤ n) (h : ∀ e, 2 ≤ e → e < n → n % e ≠ 0) : Pr n := ⟨h2, fun e he => by
  have hle := Nat.le_of_dvd (by omega) he
  have h0 : e ≠ 0 := fun h0 => by subst h0; have := Nat.eq_zero_of_zero_dvd he; omega
  rcases Nat.lt_or_ge e 2 with h3 | h3
  · exact Or.inl (by omega)
  · rcases Nat.lt_or_ge e n with h4 | h4
    · exact absurd (Nat.mod_eq_zero_of_dvd he) (h e h3 h4)
    · exact Or.inr (by omega)⟩
theorem Pr.none {n : Nat} (h : Pr n) (e : Nat) (h2 : 2 ≤ e) (hlt : e < n) : n % e ≠ 0 := fun h0 => by
  rcases h.2 e (Nat.dvd_of_mod_eq_zero h0) with h1 | h1 <;> omega
theorem pr_iff_least {n : Nat} : Pr n ↔ Least n n := ⟨fun h => ⟨h.1, Nat.mod_self n, fun e h1 h2 => h.none e h1 h2⟩, fun h => Pr.of_none h.1 fun e h1 h2 => h.2.2 e h1 h2⟩
theorem pr_two : Pr 2 := Pr.of_none (by omega) fun e h1 h2 => by omega
theorem pr_three : Pr 3 := Pr.of_none (by omega) fun e h1 h2 => by
  obtain rfl : e = 2 := by omega
  decide
theorem pr_seven : Pr 7 := Pr.of_none (by omega) fun e h1 h2 => (show ∀ e < 7, 2 ≤ e → 7 % e ≠ 0 by decide) e h2 h1
theorem pr_61 : Pr 61 := Pr.of_none (by omega) fun e h1 h2 => (show ∀ e < 61, 2 ≤ e → 61 % e ≠ 0 by decide) e h2 h1
theorem Pr.odd {n : Nat} (h : Pr n) (h2 : 2 < n) : n % 2 = 1 := by
  have := h.none 2 (by omega) h2
  omega

/-- What passes answers is right. -/
theorem isN_isP (n d s : Nat) (hn : n < 4294967296) (h : 4 ≤ n → n % 2 = 1 → n - 1 = d * 2 ^ s ∧ d % 2 = 1) : isN n d s = isP n := by
  unfold isN
  by_cases h4 : n < 4
  · rw [if_pos h4]
    rcases isP_cases n with ⟨hp, e⟩ | ⟨hp, e⟩
    · rw [e]; exact decide_eq_true hp.1
    · rw [e]
      refine decide_eq_false fun h1 => hp ?_
      rcases (show n = 2 ∨ n = 3 by omega) with rfl | rfl
      · exact pr_two
      · exact pr_three
  · rw [if_neg h4]
    by_cases h2 : n % 2 = 1
    · rw [if_pos h2]
      obtain ⟨hd, ho⟩ := h (by omega) h2
      rcases isP_cases n with ⟨hp, e⟩ | ⟨hp, e⟩
      · rw [e]
        have key : ∀ b, base1 n d s b = true := fun b => by
          unfold base1
          by_cases hb : b % n = 0
          · rw [if_pos hb]
          · rw [if_neg hb]
            exact hp.mr_passes (fun hx => hb (Nat.mod_eq_zero_of_dvd hx)) hd
        unfold passAll
        rw [key 2, key 7, key 61]; rfl
      · rw [e]
        refine Bool.eq_false_iff.2 fun hx => hp ?_
        unfold passAll at hx
        have h7 : n ≠ 7 := fun h7 => hp (h7 ▸ pr_seven)
        have h61 : n ≠ 61 := fun h61 => hp (h61 ▸ pr_61)
        have key : ∀ b, Pr b → n ≠ b → base1 n d s b = true → mr b n d s = true := fun b hb hne hx => by
          unfold base1 at hx
          rwa [if_neg] at hx
          intro h0
          rcases hb.2 n (Nat.dvd_of_mod_eq_zero h0) with e | e
          · omega
          · exact hne e
        cases e2 : base1 n d s 2 with
        | false => rw [e2] at hx; simp at hx
        | true =>
          cases e7 : base1 n d s 7 with
          | false => rw [e2, e7] at hx; simp at hx
          | true =>
            rw [e2, e7] at hx
            have e61 : base1 n d s 61 = true := by simpa using hx
            refine Passes.prime (fun d' s' hd' ho' => ?_) (by omega) h2 hn
            obtain ⟨rfl, rfl⟩ := split_unique ho' ho (hd'.symm.trans hd)
            exact ⟨key 2 pr_two (by omega) e2, key 7 pr_seven h7 e7, key 61 pr_61 h61 e61⟩
    · rw [if_neg h2, isP_false]
      intro hp
      exact h2 (hp.odd (by omega))

theorem is_all (n : Nat) (hn : n < 4294967296) (w : World) (hw : Bases w) :
    Calls Tryz.prog 12 #[.int .u32 (n : Int)] w fun e w' => e = .returned (.bool (isP n)) ∧ w' = w := by
  by_cases h : 4 ≤ n ∧ n % 2 = 1
  · obtain ⟨d, s, hd, ho⟩ := split_exists (n - 1) (by omega)
    have hs : s ≤ 32 := by
      rcases Nat.lt_or_ge s 33 with h1 | h1
      · omega
      · exfalso
        have h2 : 2 ^ 33 ≤ 2 ^ s := Nat.pow_le_pow_right (by omega) h1
        have h3 : 2 ^ s ≤ d * 2 ^ s := Nat.le_mul_of_pos_left _ (by omega)
        have h4 : (2 : Nat) ^ 33 = 8589934592 := by decide
        omega
    have := is_any n d s hn (fun _ _ => ⟨hd, ho, hs⟩) w hw
    rwa [isN_isP n d s hn fun _ _ => ⟨hd, ho⟩] at this
  · have := is_any n 0 0 hn (fun h1 h2 => absurd ⟨h1, h2⟩ h) w hw
    rwa [isN_isP n 0 0 hn fun h1 h2 => absurd ⟨h1, h2⟩ h] at this
theorem is_yes (n : Nat) (hp : Pr n) (hn : n < 4294967296) (w : World) (hw : Bases w) :
    Calls Tryz.prog 12 #[.int .u32 (n : Int)] w fun e w' => e = .returned (.bool true) ∧ w' = w := by
  have := is_all n hn w hw
  rwa [isP_true hp] at this
theorem is_no (n : Nat) (hp : ¬ Pr n) (hn : n < 4294967296) (w : World) (hw : Bases w) :
    Calls Tryz.prog 12 #[.int .u32 (n : Int)] w fun e w' => e = .returned (.bool false) ∧ w' = w := by
  have := is_all n hn w hw
  rwa [isP_false hp] at this

set_option maxHeartbeats 400000 in
theorem ris_all (n : Nat) (hn : n < 4294967296) (w : World) :
    Calls Tryz.prog 6 #[.int .u32 (n : Int)] w fun e w' => e = .returned (.bool (isP n)) ∧ w' = w := by
  by_cases h2 : 2 ≤ n
  · obtain ⟨m, hm⟩ := least_exists n h2
    have hl := fun W => least_any n m hn h2 hm W
    by_cases hmn : m = n
    · subst hmn
      have E := Lib.hid (isP_true (pr_iff_least.2 hm))
      have Hl := Lib.hid hl
      clear hl hm
      go_enter Tryz.func6, Tryz.ntmps6
      go_wp2_with fail
      refine (Hl.out _).mono ?_
      rintro _ _ ⟨rfl, rfl⟩
      go_wp2
      go_ret
      exact ⟨by rw [E.out]; simp, rfl⟩
    · have E := Lib.hid (isP_false fun h => hmn (hm.unique (pr_iff_least.1 h)))
      have Hl := Lib.hid hl
      have t1 : ((m : Int) == (n : Int)) = false := by simp; omega
      clear hl hm
      go_enter Tryz.func6, Tryz.ntmps6
      go_wp2_with fail
      refine (Hl.out _).mono ?_
      rintro _ _ ⟨rfl, rfl⟩
      go_wp2
      go_ret
      exact ⟨by rw [E.out]; rfl, rfl⟩
  · have E := Lib.hid (isP_false fun h : Pr n => h2 h.1)
    go_enter Tryz.func6, Tryz.ntmps6
    go_wp2
    go_ret
    exact ⟨by rw [E.out]; simp, rfl⟩
theorem ris_yes (n : Nat) (hp : Pr n) (hn : n < 4294967296) (w : World) :
    Calls Tryz.prog 6 #[.int .u32 (n : Int)] w fun e w' => e = .returned (.bool true) ∧ w' = w := by
  have := ris_all n hn w
  rwa [isP_true hp] at this
theorem ris_no (n : Nat) (hp : ¬ Pr n) (hn : n < 4294967296) (w : World) :
    Calls Tryz.prog 6 #[.int .u32 (n : Int)] w fun e w' => e = .returned (.bool false) ∧ w' = w := by
  have := ris_all n hn w
  rwa [isP_false hp] at this
end
section
open Go.RowKit

def pairA (x e : Int) : Ending := .returned (.tuple #[.int .u32 x, .int .i64 e])

theorem add_lt (a b p : Nat) (hp : 0 < p) : (a + b) % p < p := Nat.mod_lt _ hp





set_option maxHeartbeats 400000 in
theorem pquo_no (a b p : Nat) (hp : ¬ Pr p) (hlt : p < 4294967296) (w : World) (hw : Bases w) :
    Calls Tryz.prog 17 #[.int .u32 (a : Int), .int .u32 (b : Int), .int .u32 (p : Int)] w fun r w' => r = .returned (.tuple #[.int .u32 0, .int .i64 40]) ∧ w' = w := by
  have Hw := Lib.hid hw
  have Hi := Lib.hid (fun W hW => is_no p hp hlt W hW)
  clear hw hp
  go_enter Tryz.func17, Tryz.ntmps17
  go_wp2_with fail
  refine (Hi.out _ Hw.out).mono ?_
  rintro _ _ ⟨rfl, rfl⟩
  go_wp2
  go_ret2
  exact ⟨rfl, rfl⟩

set_option maxHeartbeats 400000 in
theorem pinv_no (a p : Nat) (hp : ¬ Pr p) (hlt : p < 4294967296) (w : World) (hw : Bases w) :
    Calls Tryz.prog 20 #[.int .u32 (a : Int), .int .u32 (p : Int)] w fun r w' => r = .returned (.tuple #[.int .u32 0, .int .i64 40]) ∧ w' = w := by
  have H := Lib.hid (fun W hW => pquo_no 1 a p hp hlt W hW)
  have Hw := Lib.hid hw
  clear hw hp
  go_enter Tryz.func20, Tryz.ntmps20
  go_wp2_with fail
  refine (H.out _ Hw.out).mono ?_
  rintro _ _ ⟨rfl, rfl⟩
  go_wp2
  go_ret2
  exact ⟨rfl, rfl⟩

/-! A prime. -/
theorem cast_mod (a p : Nat) : ((a : Int) % (p : Int)) = ((a % p : Nat) : Int) := (Int.natCast_emod a p).symm





theorem power_all (a p e : Nat) (ha : a < 4294967296) (hp : p < 4294967296) (hp1 : 1 < p) (he : e < 18446744073709551616) (w : World) :
    Calls Tryz.prog 54 #[.int .u32 (a : Int), .int .u64 (e : Int), .int .u32 (p : Int)] w fun r w' => r = .returned (.int .u32 ((a ^ e % p : Nat) : Int)) ∧ w' = w :=
  power_any a p ha hp hp1 64 e (by simpa using he) he w


theorem sub_alike (a b p : Nat) (hp0 : 0 < p) : (a % p + p - b % p) % p = (a + (p - b % p)) % p := by
  have hb : b % p < p := Nat.mod_lt _ hp0
  rw [show a % p + p - b % p = a % p + (p - b % p) from by omega, Nat.mod_add_mod]
set_option maxHeartbeats 400000 in
theorem prmul_any (a b p : Nat) (ha : a < 4294967296) (hb : b < 4294967296) (hp : p < 4294967296) (hp0 : 0 < p) (w : World) :
    Calls Tryz.prog 26 #[.int .u32 (a : Int), .int .u32 (b : Int), .int .u32 (p : Int)] w fun r w' => r = .returned (.int .u32 ((a * b % p : Nat) : Int)) ∧ w' = w := by
  have hab : a * b ≤ 4294967295 * 4294967295 := Nat.mul_le_mul (by omega) (by omega)
  have hm : a * b % p < p := Nat.mod_lt _ hp0
  obtain ⟨m, hme⟩ : ∃ m, m = a * b := ⟨_, rfl⟩
  have t1 : IntKind.u64.wrap ((a : Int) * (b : Int)) = (m : Int) := by
    rw [IntKind.wrap_u64, ← Int.natCast_mul, ← hme]; omega
  have t2 : ((p : Int) == 0) = false := by simp; omega
  have t3 : (m : Int) % (p : Int) = ((m % p : Nat) : Int) := cast_mod m p
  rw [← hme] at hm ⊢
  obtain ⟨x, hxe⟩ : ∃ x, x = m % p := ⟨_, rfl⟩
  rw [← hxe] at hm t3 ⊢
  clear hme hxe
  go_enter Tryz.func26, Tryz.ntmps26
  go_wp2
  go_ret
  exact ⟨rfl, rfl⟩

/-- One round of the reference's Pow. -/
theorem pow_round (a e p : Nat) : (a * a % p) ^ (e / 2) % p = (a ^ 2) ^ (e / 2) % p := by rw [← Nat.pow_mod, Nat.pow_two]
theorem rpow_step (o a e p : Nat) : (if e % 2 = 1 then o * a % p else o) * (a * a % p) ^ (e / 2) % p = o * a ^ e % p := by
  have h1 : a ^ e = (a ^ 2) ^ (e / 2) * a ^ (e % 2) := by
    rw [← Nat.pow_mul, ← Nat.pow_add]; congr 1; omega
  rw [Nat.mul_mod, pow_round, ← Nat.mul_mod]
  by_cases hc : e % 2 = 1
  · rw [if_pos hc, h1, hc, Nat.pow_one, Nat.mod_mul_mod]; congr 1; ac_rfl
  · rw [if_neg hc, h1, show e % 2 = 0 from by omega, Nat.pow_zero, Nat.mul_one]

set_option maxHeartbeats 800000 in
theorem rpow_any (a e p : Nat) (ha : a < 4294967296) (he : e < 18446744073709551616) (hp : p < 4294967296) (hp0 : 0 < p) (w : World) :
    Calls Tryz.prog 43 #[.int .u32 (a : Int), .int .u64 (e : Int), .int .u32 (p : Int)] w fun r w' => r = .returned (.int .u32 ((a ^ e % p : Nat) : Int)) ∧ w' = w := by
  have t2 : ((p : Int) == 0) = false := by simp; omega
  have t3 : (1 : Int) % (p : Int) = ((1 % p : Nat) : Int) := cast_mod 1 p
  have h1 : 1 % p < p := Nat.mod_lt _ hp0
  obtain ⟨R, hR⟩ : ∃ R, R = a ^ e % p := ⟨_, rfl⟩
  have hs : 1 % p * a ^ e % p = R := by rw [Nat.mod_mul_mod, Nat.one_mul, hR]
  obtain ⟨o1, ho1⟩ : ∃ o1, o1 = 1 % p := ⟨_, rfl⟩
  rw [← ho1] at t3 h1 hs
  have T3 := Lib.hid t3
  clear t3
  rw [← hR]
  have Hs := Lib.hid hs
  clear hR hs ho1
  go_enter Tryz.func43, Tryz.ntmps43
  go_wp2
  go_loop [0, 1, 7] (fun av ev ov => ∃ (x k o : Nat), av = .int .u32 (x : Int) ∧ ev = .int .u64 (k : Int) ∧ ov = .int .u32 (o : Int) ∧ x < 4294967296 ∧ k < 18446744073709551616 ∧ o < p ∧ o * x ^ k % p = R) (fun _ ev _ => (intOf ev).toNat)
  case atStart => exact ⟨a, e, o1, rfl, rfl, by rw [T3.out], ha, he, h1, Hs.out⟩
  case round =>
    obtain ⟨x, k, o, rfl, rfl, rfl, hx, hk, ho, hrel⟩ := hrel
    by_cases hk0 : k = 0
    · subst hk0
      have : o = R := by rw [← hrel, Nat.pow_zero, Nat.mul_one, Nat.mod_eq_of_lt ho]
      subst this
      clear hrel
      go_wp2
      go_ret
      exact ⟨rfl, rfl⟩
    · have hst := rpow_step o x k p
      rw [hrel] at hst
      have hxx : x * x % p < p := Nat.mod_lt _ hp0
      have hox : o * x % p < p := Nat.mod_lt _ hp0
      obtain ⟨xx, hxe⟩ : ∃ xx, xx = x * x % p := ⟨_, rfl⟩
      obtain ⟨ox, hoe⟩ : ∃ ox, ox = o * x % p := ⟨_, rfl⟩
      have Hxx := Lib.hid (fun W => hxe ▸ prmul_any x x p hx hx hp hp0 W)
      have Hox := Lib.hid (fun W => hoe ▸ prmul_any o x p (by omega) hx hp hp0 W)
      rw [← hxe] at hst hxx
      rw [← hoe] at hst hox
      obtain ⟨d, hd⟩ : ∃ d, d = k / 2 := ⟨_, rfl⟩
      have t4 : (k : Int) / 2 = (d : Int) := by omega
      rw [← hd] at hst
      have hdk : d < k := by omega
      have hk1 : 0 < k := by omega
      clear hrel hxe hoe hd hk0
      by_cases hc : k % 2 = 1
      · rw [if_pos hc] at hst
        have Hst := Lib.hid hst
        have t5 : ((k : Int) % 2 == 1) = true := by simp; omega
        clear hst hc
        go_wp2_with fail
        refine (Hox.out _).mono ?_
        rintro _ _ ⟨rfl, rfl⟩
        go_wp2_with fail
        refine (Hxx.out _).mono ?_
        rintro _ _ ⟨rfl, rfl⟩
        go_wp2
        go_round
        case rel => exact ⟨xx, d, ox, rfl, rfl, rfl, by omega, by omega, hox, Hst.out⟩
        case measure => simp [intOf]; omega
      · rw [if_neg hc] at hst
        have Hst := Lib.hid hst
        have t5 : ((k : Int) % 2 == 1) = false := by simp; omega
        clear hst hc
        go_wp2_with fail
        refine (Hxx.out _).mono ?_
        rintro _ _ ⟨rfl, rfl⟩
        go_wp2
        go_round
        case rel => exact ⟨xx, d, o, rfl, rfl, rfl, by omega, by omega, ho, Hst.out⟩
        case measure => simp [intOf]; omega

set_option maxHeartbeats 400000 in
theorem rinv_any (a p : Nat) (ha : a < 4294967296) (hp : p < 4294967296) (hp1 : 1 < p) (w : World) :
    Calls Tryz.prog 27 #[.int .u32 (a : Int), .int .u32 (p : Int)] w fun r w' => r = .returned (.int .u32 ((a ^ (p - 2) % p : Nat) : Int)) ∧ w' = w := by
  obtain ⟨e, he⟩ : ∃ e, e = p - 2 := ⟨_, rfl⟩
  have H := Lib.hid (fun W => rpow_any a e p ha (by omega) hp (by omega) W)
  have t1 : (p : Int) - 2 = (e : Int) := by omega
  rw [← he]
  clear he
  go_enter Tryz.func27, Tryz.ntmps27
  go_wp2_with fail
  refine (H.out _).mono ?_
  rintro _ _ ⟨rfl, rfl⟩
  go_wp2
  go_ret
  exact ⟨rfl, rfl⟩

/-- told, of an answer as it is wanted, and of an error. -/
theorem told_right (x : Nat) (e : Int) (w : World) (he : e = 0) :
    Calls Tryz.prog 7 #[.int .u32 (x : Int), .int .i64 e, .int .u32 (x : Int), .int .i64 e] w fun r w' => r = .returned (.bool true) ∧ w' = w := by
  subst he
  have t1 : ((x : Int) == (x : Int)) = true := by simp
  go_enter Tryz.func7, Tryz.ntmps7
  go_wp2_with fail
  refine (num_any _ _).mono ?_
  rintro _ _ ⟨rfl, rfl⟩
  go_wp2
  go_ret
  exact ⟨rfl, rfl⟩
theorem told_error (y e : Int) (w : World) (he : (e != 0) = true) :
    Calls Tryz.prog 7 #[.int .u32 0, .int .i64 e, .int .u32 y, .int .i64 e] w fun r w' => r = .returned (.bool true) ∧ w' = w := by
  have t1 : ((e : Int) == (e : Int)) = true := by simp
  go_enter Tryz.func7, Tryz.ntmps7
  go_wp2_with fail
  refine (num_any _ _).mono ?_
  rintro _ _ ⟨rfl, rfl⟩
  go_wp2
  go_ret
  exact ⟨rfl, rfl⟩
end
section
open Go.RowKit

theorem Pr.inv_right {p a : Nat} (hp : Pr p) (ha : ¬ p ∣ a) : a * (a ^ (p - 2) % p) % p = 1 := by
  have h2 := hp.1
  rw [Nat.mul_mod_mod, ← hp.fermat ha]
  congr 1
  rw [Nat.mul_comm, ← Nat.pow_succ]
  congr 1; omega
theorem inv_unique {p a u v : Nat} (hu : a * u % p = 1) (hv : a * v % p = 1) (hlt : v < p) (hul : u < p) : v = u := by
  have h1 : v * (a * u) % p = v := by rw [Nat.mul_mod, hu, Nat.mul_one, Nat.mod_mod, Nat.mod_eq_of_lt hlt]
  have h2 : u * (a * v) % p = u := by rw [Nat.mul_mod, hv, Nat.mul_one, Nat.mod_mod, Nat.mod_eq_of_lt hul]
  exact h1.symm.trans ((congrArg (· % p) (show v * (a * u) = u * (a * v) from by ac_rfl)).trans h2)

/-- What Euclid's steps keep. -/
def Eu (a p r s X Y : Nat) (x y : Int) : Prop :=
  s < r ∧ 1 ≤ s ∧ Nat.gcd r s = 1 ∧ Y * r + X * s = p ∧ ((x = -(X : Int) ∧ y = (Y : Int)) ∨ (x = (X : Int) ∧ y = -(Y : Int))) ∧ (∃ k : Int, (a : Int) * x = r + k * p) ∧ (∃ k : Int, (a : Int) * y = s + k * p)
theorem Eu.start {a p : Nat} (hp : Pr p) (ha : 0 < a) (hap : a < p) : Eu a p p a 0 1 0 1 :=
  ⟨hap, ha, hp.gcd (hp.not_dvd_lt ha hap), by simp, Or.inl ⟨rfl, rfl⟩, ⟨-1, by omega⟩, ⟨0, by omega⟩⟩
theorem Eu.step {a p r s X Y : Nat} {x y : Int} (h : Eu a p r s X Y x y) (hs : s ≠ 1) : Eu a p s (r % s) Y (X + r / s * Y) y (x - ((r / s : Nat) : Int) * y) := by
  obtain ⟨h1, h2, h3, h4, h5, ⟨k, h6⟩, ⟨j, h7⟩⟩ := h
  have hdm := Nat.div_add_mod r s
  have hg : Nat.gcd s (r % s) = 1 := by rw [Nat.gcd_comm, ← Nat.gcd_rec, Nat.gcd_comm]; exact h3
  have hm0 : r % s ≠ 0 := fun h0 => by rw [h0, Nat.gcd_zero_right] at hg; exact hs hg
  have hrI : (r : Int) = s * ((r / s : Nat) : Int) + ((r % s : Nat) : Int) := by rw [← Int.natCast_mul, ← Int.natCast_add, hdm]
  refine ⟨Nat.mod_lt _ (by omega), by omega, hg, ?_, ?_, ⟨j, h7⟩, ⟨k - ((r / s : Nat) : Int) * j, ?_⟩⟩
  · generalize r / s = q at hdm
    generalize r % s = m at hdm
    rw [← h4, ← hdm, Nat.add_mul, Nat.mul_add]
    rw [show q * Y * s = Y * (s * q) from by ac_rfl]
    omega
  · rcases h5 with ⟨rfl, rfl⟩ | ⟨rfl, rfl⟩
    · refine Or.inr ⟨rfl, ?_⟩
      rw [Int.natCast_add, Int.natCast_mul]; omega
    · refine Or.inl ⟨rfl, ?_⟩
      rw [Int.natCast_add, Int.natCast_mul, Int.mul_neg]; omega
  · generalize ((r / s : Nat) : Int) = q at hrI
    generalize ((r % s : Nat) : Int) = m at hrI
    rw [Int.mul_sub, h6, show (a : Int) * (q * y) = q * (a * y) from by ac_rfl, h7, hrI, Int.sub_mul, Int.mul_add, show q * (s : Int) = s * q from Int.mul_comm _ _, Int.mul_assoc]
    omega
theorem Eu.bounds {a p r s X Y : Nat} {x y : Int} (h : Eu a p r s X Y x y) : -(p : Int) ≤ x ∧ x ≤ p ∧ -(p : Int) ≤ y ∧ y ≤ p ∧ r ≤ p + r := by
  obtain ⟨h1, h2, h3, h4, h5, _, _⟩ := h
  have a1 : Y ≤ Y * r := Nat.le_mul_of_pos_right _ (by omega)
  have a2 : X ≤ X * s := Nat.le_mul_of_pos_right _ (by omega)
  rcases h5 with ⟨rfl, rfl⟩ | ⟨rfl, rfl⟩ <;> omega
theorem Eu.last {a p r X Y : Nat} {x y : Int} (h : Eu a p r 1 X Y x y) (hp : Pr p) (ha : ¬ p ∣ a) :
    (0 ≤ y → y = ((a ^ (p - 2) % p : Nat) : Int)) ∧ (y < 0 → y + p = ((a ^ (p - 2) % p : Nat) : Int)) := by
  have h2 := hp.1
  obtain ⟨h1, _, h3, h4, h5, _, ⟨j, h7⟩⟩ := h
  have hY : Y * 2 ≤ Y * r := Nat.mul_le_mul_left _ (by omega)
  have hYp : Y < p := by omega
  have hl : a ^ (p - 2) % p < p := Nat.mod_lt _ hp.pos
  have key : ∀ (v : Nat) (c : Int), (v : Int) = y + c * p → v < p → v = a ^ (p - 2) % p := fun v c hv hvp => by
    refine inv_unique (hp.inv_right ha) ?_ hvp hl
    have : ((a * v : Nat) : Int) = 1 + (j + a * c) * p := by
      rw [Int.natCast_mul, hv, Int.mul_add, h7, Int.add_mul, Int.mul_assoc]; omega
    have h8 : ((a * v % p : Nat) : Int) = 1 := by
      rw [Int.natCast_emod, this, Int.add_mul_emod_self_right, Int.emod_eq_of_lt (by omega) (by omega)]
    omega
  refine ⟨fun hy => ?_, fun hy => ?_⟩
  · have : y.toNat = a ^ (p - 2) % p := key y.toNat 0 (by omega) (by omega)
    omega
  · have : (y + p).toNat = a ^ (p - 2) % p := key (y + p).toNat 1 (by omega) (by omega)
    omega

set_option maxHeartbeats 1600000 in
theorem inverse_any (a p : Nat) (hp : Pr p) (ha0 : 0 < a) (hap : a < p) (hlt : p < 4294967296) (w : World) :
    Calls Tryz.prog 36 #[.int .u32 (a : Int), .int .u32 (p : Int)] w fun r w' => r = .returned (.int .u32 ((a ^ (p - 2) % p : Nat) : Int)) ∧ w' = w := by
  have hl : a ^ (p - 2) % p < p := Nat.mod_lt _ hp.pos
  have Hst := Lib.hid (Eu.start hp ha0 hap)
  have Hend := Lib.hid (fun (r X Y : Nat) (x y : Int) (h : Eu a p r 1 X Y x y) => h.last hp (hp.not_dvd_lt ha0 hap))
  obtain ⟨V, hV⟩ : ∃ V, V = a ^ (p - 2) % p := ⟨_, rfl⟩
  rw [← hV] at hl Hend ⊢
  have hp2 := hp.1
  clear hV hp
  go_enter Tryz.func36, Tryz.ntmps36
  go_wp2
  go_step3
  go_wp2
  go_step3
  go_wp2
  go_loop [5, 6, 7, 8] (fun rv sv xv yv => ∃ (r s X Y : Nat) (x y : Int), rv = .int .i64 (r : Int) ∧ sv = .int .i64 (s : Int) ∧ xv = .int .i64 x ∧ yv = .int .i64 y ∧ r ≤ p ∧ Eu a p r s X Y x y) (fun _ sv _ _ => (intOf sv).toNat)
  case atStart => exact ⟨p, a, 0, 1, 0, 1, rfl, rfl, rfl, rfl, Nat.le_refl _, Hst.out⟩
  case round =>
    obtain ⟨r, s, X, Y, x, y, rfl, rfl, rfl, rfl, hr, hrel⟩ := hrel
    obtain ⟨b1, b2, b3, b4, _⟩ := hrel.bounds
    have hs1 := hrel.2.1
    have hsr := hrel.1
    by_cases hs : s = 1
    · subst hs
      obtain ⟨e1, e2⟩ := Hend.out _ _ _ _ _ hrel
      clear hrel
      by_cases hy : y < 0
      · have e := e2 hy
        have t1 : decide (y < 0) = true := by simpa using hy
        clear e1 e2
        go_wp2
        go_ret
        exact ⟨rfl, rfl⟩
      · obtain rfl := e1 (by omega)
        have t1 : decide ((V : Int) < 0) = false := by simp
        clear e2
        go_wp2
        go_ret
        exact ⟨rfl, rfl⟩
    · have hst := hrel.step hs
      obtain ⟨_, _, c3, c4, _⟩ := hst.bounds
      have Hst2 := Lib.hid hst
      obtain ⟨q, hq⟩ : ∃ q, q = r / s := ⟨_, rfl⟩
      obtain ⟨m, hm⟩ : ∃ m, m = r % s := ⟨_, rfl⟩
      have hdm := Nat.div_add_mod r s
      rw [← hq, ← hm] at hdm Hst2
      rw [← hq] at c3 c4
      have hms : m < s := by rw [hm]; exact Nat.mod_lt _ (by omega)
      obtain ⟨z, hz⟩ : ∃ z, z = (q : Int) * y := ⟨_, rfl⟩
      rw [← hz] at c3 c4 Hst2
      obtain ⟨u, hu⟩ : ∃ u, u = s * q := ⟨_, rfl⟩
      rw [← hu] at hdm
      have t0 : ((s : Int) == 1) = false := by simp; omega
      have t1 : ((s : Int) == 0) = false := by simp; omega
      have t2 : (r : Int) / (s : Int) = (q : Int) := by rw [hq]; rfl
      have hqr : q ≤ r := by rw [hq]; exact Nat.div_le_self r s
      have t3 : wrap64 ((q : Int) * (s : Int)) = (u : Int) := by
        rw [show (q : Int) * (s : Int) = (u : Int) from by rw [hu, Int.natCast_mul, Int.mul_comm]]
        exact IntWalk.wrap64_in _ (by omega)
      have t4 : wrap64 ((q : Int) * y) = z := by
        rw [← hz]; exact IntWalk.wrap64_in _ (by omega)
      have t5 : (r : Int) - (u : Int) = (m : Int) := by omega
      clear hrel hst hs hq hm hz hu Hend hdm
      go_wp2
      go_round
      case rel => exact ⟨s, m, Y, X + q * Y, y, x - z, rfl, rfl, rfl, rfl, by omega, Hst2.out⟩
      case measure => simp [intOf]; omega

theorem mod_dvd_not {b p : Nat} (hb : b % p ≠ 0) : ¬ p ∣ b := fun h => hb (Nat.mod_eq_zero_of_dvd h)
set_option maxHeartbeats 800000 in
theorem pquo_zero (a b p : Nat) (hp : Pr p) (hlt : p < 4294967296) (h0 : b % p = 0) (w : World) (hw : Bases w) :
    Calls Tryz.prog 17 #[.int .u32 (a : Int), .int .u32 (b : Int), .int .u32 (p : Int)] w fun r w' => r = .returned (.tuple #[.int .u32 0, .int .i64 5]) ∧ w' = w := by
  have Hw := Lib.hid hw
  have Hi := Lib.hid (fun W hW => is_yes p hp hlt W hW)
  have hp2 := hp.1
  have t0 : (b : Int) % (p : Int) = 0 := by rw [cast_mod, h0]; rfl
  have t1 : ((p : Int) == 0) = false := by simp; omega
  clear hw hp h0
  go_enter Tryz.func17, Tryz.ntmps17
  go_wp2_with fail
  refine (Hi.out _ Hw.out).mono ?_
  rintro _ _ ⟨rfl, rfl⟩
  go_wp2
  go_ret2
  exact ⟨rfl, rfl⟩
set_option maxHeartbeats 800000 in
theorem pquo_yes (a b p : Nat) (ha : a < 4294967296) (hp : Pr p) (hlt : p < 4294967296) (h0 : b % p ≠ 0) (w : World) (hw : Bases w) :
    Calls Tryz.prog 17 #[.int .u32 (a : Int), .int .u32 (b : Int), .int .u32 (p : Int)] w fun r w' => r = .returned (.tuple #[.int .u32 ((a * (b ^ (p - 2) % p) % p : Nat) : Int), .int .i64 0]) ∧ w' = w := by
  have Hw := Lib.hid hw
  have Hi := Lib.hid (fun W hW => is_yes p hp hlt W hW)
  have hp2 := hp.1
  have hbp : b % p < p := Nat.mod_lt _ hp.pos
  have hinv := fun W => inverse_any (b % p) p hp (by omega) hbp hlt W
  have hl : b ^ (p - 2) % p < p := Nat.mod_lt _ hp.pos
  rw [← Nat.pow_mod] at hinv
  have ht := fun W => times_any a (b ^ (p - 2) % p) p W ha (by omega) hlt hp.pos
  have t0 : (b : Int) % (p : Int) = ((b % p : Nat) : Int) := cast_mod b p
  obtain ⟨c, hc⟩ : ∃ c, c = b % p := ⟨_, rfl⟩
  obtain ⟨v, hv⟩ : ∃ v, v = b ^ (p - 2) % p := ⟨_, rfl⟩
  rw [← hc] at t0 h0 hbp
  simp only [← hc, ← hv] at hinv
  simp only [← hv] at ht
  rw [← hv] at hl ⊢
  have Hinv := Lib.hid hinv
  have Ht := Lib.hid ht
  have t1 : ((p : Int) == 0) = false := by simp; omega
  have t2 : ((c : Int) == 0) = false := by simp; omega
  clear hw hp hc hv hinv ht
  go_enter Tryz.func17, Tryz.ntmps17
  go_wp2_with fail
  refine (Hi.out _ Hw.out).mono ?_
  rintro _ _ ⟨rfl, rfl⟩
  go_wp2_with fail
  refine (Hinv.out _).mono ?_
  rintro _ _ ⟨rfl, rfl⟩
  go_wp2_with fail
  refine (Ht.out _).mono ?_
  rintro _ _ ⟨rfl, rfl⟩
  go_wp2
  go_ret2
  exact ⟨rfl, rfl⟩
set_option maxHeartbeats 400000 in
theorem pinv_zero (b p : Nat) (hp : Pr p) (hlt : p < 4294967296) (h0 : b % p = 0) (w : World) (hw : Bases w) :
    Calls Tryz.prog 20 #[.int .u32 (b : Int), .int .u32 (p : Int)] w fun r w' => r = .returned (.tuple #[.int .u32 0, .int .i64 5]) ∧ w' = w := by
  have H := Lib.hid (fun W hW => pquo_zero 1 b p hp hlt h0 W hW)
  have Hw := Lib.hid hw
  clear hw hp h0
  go_enter Tryz.func20, Tryz.ntmps20
  go_wp2_with fail
  refine (H.out _ Hw.out).mono ?_
  rintro _ _ ⟨rfl, rfl⟩
  go_wp2
  go_ret2
  exact ⟨rfl, rfl⟩
set_option maxHeartbeats 400000 in
theorem pinv_yes (b p : Nat) (hp : Pr p) (hlt : p < 4294967296) (h0 : b % p ≠ 0) (w : World) (hw : Bases w) :
    Calls Tryz.prog 20 #[.int .u32 (b : Int), .int .u32 (p : Int)] w fun r w' => r = .returned (.tuple #[.int .u32 ((b ^ (p - 2) % p : Nat) : Int), .int .i64 0]) ∧ w' = w := by
  have h := fun W hW => pquo_yes 1 b p (by omega) hp hlt h0 W hW
  simp only [Nat.one_mul, Nat.mod_mod] at h
  have H := Lib.hid h
  have Hw := Lib.hid hw
  clear hw hp h0 h
  go_enter Tryz.func20, Tryz.ntmps20
  go_wp2_with fail
  refine (H.out _ Hw.out).mono ?_
  rintro _ _ ⟨rfl, rfl⟩
  go_wp2
  go_ret2
  exact ⟨rfl, rfl⟩
end
section
open Go.RowKit

/-- An integer modulo p. -/
def zmd (p : Nat) (z : Int) : Nat := (z % (p : Int)).toNat
theorem zmd_cast {p : Nat} (hp : 0 < p) (z : Int) : ((zmd p z : Nat) : Int) = z % (p : Int) := Int.toNat_of_nonneg (Int.emod_nonneg _ (by omega))
theorem zmd_lt {p : Nat} (hp : 0 < p) (z : Int) : zmd p z < p := by
  have h1 := zmd_cast hp z
  have h2 := Int.emod_lt_of_pos z (show (0 : Int) < (p : Int) by omega)
  omega
theorem zmd_mul {p : Nat} (hp : 0 < p) (c : Nat) (z : Int) : zmd p ((c : Int) * z) = c * zmd p z % p := by
  have h : ((zmd p ((c : Int) * z) : Nat) : Int) = ((c * zmd p z % p : Nat) : Int) := by
    rw [zmd_cast hp, Int.natCast_emod, Int.natCast_mul, zmd_cast hp, Int.mul_emod, Int.mul_emod (c : Int) (z % (p : Int)), Int.emod_emod]
  exact Int.ofNat.inj h
theorem quo_red {p A B a b c : Nat} (hp : Pr p) (hA : A = c * a % p) (hB : B = c * b % p) (h0 : B % p ≠ 0) : A * (B ^ (p - 2) % p) % p = a * (b ^ (p - 2) % p) % p ∧ b % p ≠ 0 := by
  have hp2 := hp.1
  have hb : b % p ≠ 0 := by
    intro e
    apply h0
    rw [hB, Nat.mod_mod, Nat.mul_mod, e, Nat.mul_zero, Nat.zero_mod]
  refine ⟨?_, hb⟩
  have h1 : B * (B ^ (p - 2) % p) % p = 1 := hp.inv_right (mod_dvd_not h0)
  have h2 : b * (b ^ (p - 2) % p) % p = 1 := hp.inv_right (mod_dvd_not hb)
  obtain ⟨I, hI⟩ : ∃ I, I = B ^ (p - 2) % p := ⟨_, rfl⟩
  obtain ⟨J, hJ⟩ : ∃ J, J = b ^ (p - 2) % p := ⟨_, rfl⟩
  rw [← hI] at h1 ⊢
  rw [← hJ] at h2 ⊢
  have hJl : J < p := by rw [hJ]; exact Nat.mod_lt _ (by omega)
  have h3 : b * (c * I % p) % p = 1 := by
    rw [hB, Nat.mod_mul_mod] at h1
    rw [Nat.mul_mod_mod, ← Nat.mul_assoc, Nat.mul_comm b c]
    exact h1
  have h4 : c * I % p = J := inv_unique h2 h3 (Nat.mod_lt _ (by omega)) hJl
  rw [hA, Nat.mod_mul_mod, ← h4, Nat.mul_mod_mod]
  congr 1
  rw [← Nat.mul_assoc, Nat.mul_comm a c]
end
end Go.Proofs.YtcfalkcceanldaaGreatDoor
