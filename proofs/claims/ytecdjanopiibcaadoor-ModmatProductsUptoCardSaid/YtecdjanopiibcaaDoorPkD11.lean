/- Is is right: what prime's Is and the reference's Is answer of every number below 2^32. Conditions: bases reads 2, 7, 61 (prime's). prime.Inv modulo a prime or none, and what the reference answers of sums, differences, products, powers, inverses. Conditions: p a prime, or none; bases reads 2, 7, 61. The contracts of a field's plus, inverse, dot and subtract, and of lift. Conditions: as each states. The contracts of a field's subtract and of lift. Conditions: as each states. -/
import Derived.Test.YtecdjanopiibcaaDoorPkD2
import Derived.Test.YtecdjanopiibcaaDoorPkD10
import Derived.Deep.CutBlock
import Derived.RegionTactic
import Derived.Deep.QuietTactic
import Derived.BigQuiet
import Derived.WalkMore
import Derived.IntWalk
import Derived.Deep.DeepCutAuto
import Derived.Test.YtecdjanopiibcaaDoorPkD0
import Derived.Shelf.Spec.BitsCarry
import Derived.Deep.RegionHeld3
namespace Go.Proofs.YtecdjanopiibcaaDoor
section
open Go.RowKit

theorem Bases.drewN {w : World} (h : Bases w) (n : Nat) : Bases (w.drewN n) := h

/-- Is n a prime? -/
noncomputable def isP (n : Nat) : Bool := @decide (Pr n) (Classical.propDecidable _)
theorem isP_true {n : Nat} (h : Pr n) : isP n = true := by unfold isP; exact @decide_eq_true _ (Classical.propDecidable _) h
theorem isP_false {n : Nat} (h : ¬ Pr n) : isP n = false := by unfold isP; exact @decide_eq_false _ (Classical.propDecidable _) h
theorem isP_cases (n : Nat) : (Pr n ∧ isP n = true) ∨ (¬ Pr n ∧ isP n = false) := by
  by_cases h : Pr n
  · exact Or.inl ⟨h, isP_true h⟩
  · exact Or.inr ⟨h, isP_false h⟩

theorem Pr.of_none {n : Nat} (h2 : 2 ≤ n) (h : ∀ e, 2 ≤ e → e < n → n % e ≠ 0) : Pr n := ⟨h2, fun e he => by
  have hle := Nat.le_of_dvd (by omega) he
  have h0 : e ≠ 0 := fun h0 => by subst h0; have := Nat.eq_zero_of_zero_dvd he; omega
  rcases Nat.lt_or_ge e 2 with h3 | h3
  · exact Or.inl (by omega)
  · rcases Nat.lt_or_ge e n with h4 | h4
    · exact absurd (Nat.mod_eq_zero_of_dvd he) (h e h3 h4)
    · exact Or.inr (by omega)⟩
theorem Pr.none {n : Nat} (h : Pr n) (e : Nat) (h2 : 2 ≤ e) (hlt : e < n) : n % e ≠ 0 := fun h0 => by
  rcases h.2 e (Nat.dvd_of_mod_eq_zero h0) with h1 | h1 <;> omega
theorem pr_iff_least {n : Nat} : Pr n ↔ Least n n := ⟨fun h => ⟨h.1, Nat.mod_self n, fun e h1 h2 => h.none e h1 h2⟩, fun h => Pr.of_none h.1 fun e h1 h2 => h.2.2 e h1 h2⟩
theorem pr_two : Pr 2 := Pr.of_none (by omega) fun e h1 h2 => by omega
theorem pr_three : Pr 3 := Pr.of_none (by omega) fun e h1 h2 => by
  obtain rfl : e = 2 := by omega
  decide
theorem pr_seven : Pr 7 := Pr.of_none (by omega) fun e h1 h2 => (show ∀ e < 7, 2 ≤ e → 7 % e ≠ 0 by decide) e h2 h1
theorem pr_61 : Pr 61 := Pr.of_none (by omega) fun e h1 h2 => (show ∀ e < 61, 2 ≤ e → 61 % e ≠ 0 by decide) e h2 h1
theorem Pr.odd {n : Nat} (h : Pr n) (h2 : 2 < n) : n % 2 = 1 := by
  have := h.none 2 (by omega) h2
  omega

/-- What passes answers is right. -/
theorem isN_isP (n d s : Nat) (hn : n < 4294967296) (h : 4 ≤ n → n % 2 = 1 → n - 1 = d * 2 ^ s ∧ d % 2 = 1) : isN n d s = isP n := by
  unfold isN
  by_cases h4 : n < 4
  · rw [if_pos h4]
    rcases isP_cases n with ⟨hp, e⟩ | ⟨hp, e⟩
    · rw [e]; exact decide_eq_true hp.1
    · rw [e]
      refine decide_eq_false fun h1 => hp ?_
      rcases (show n = 2 ∨ n = 3 by omega) with rfl | rfl
      · exact pr_two
      · exact pr_three
  · rw [if_neg h4]
    by_cases h2 : n % 2 = 1
    · rw [if_pos h2]
      obtain ⟨hd, ho⟩ := h (by omega) h2
      rcases isP_cases n with ⟨hp, e⟩ | ⟨hp, e⟩
      · rw [e]
        have key : ∀ b, base1 n d s b = true := fun b => by
          unfold base1
          by_cases hb : b % n = 0
          · rw [if_pos hb]
          · rw [if_neg hb]
            exact hp.mr_passes (fun hx => hb (Nat.mod_eq_zero_of_dvd hx)) hd
        unfold passAll
        rw [key 2, key 7, key 61]; rfl
      · rw [e]
        refine Bool.eq_false_iff.2 fun hx => hp ?_
        unfold passAll at hx
        have h7 : n ≠ 7 := fun h7 => hp (h7 ▸ pr_seven)
        have h61 : n ≠ 61 := fun h61 => hp (h61 ▸ pr_61)
        have key : ∀ b, Pr b → n ≠ b → base1 n d s b = true → mr b n d s = true := fun b hb hne hx => by
          unfold base1 at hx
          rwa [if_neg] at hx
          intro h0
          rcases hb.2 n (Nat.dvd_of_mod_eq_zero h0) with e | e
          · omega
          · exact hne e
        cases e2 : base1 n d s 2 with
        | false => rw [e2] at hx; simp at hx
        | true =>
          cases e7 : base1 n d s 7 with
          | false => rw [e2, e7] at hx; simp at hx
          | true =>
            rw [e2, e7] at hx
            have e61 : base1 n d s 61 = true := by simpa using hx
            refine Passes.prime (fun d' s' hd' ho' => ?_) (by omega) h2 hn
            obtain ⟨rfl, rfl⟩ := split_unique ho' ho (hd'.symm.trans hd)
            exact ⟨key 2 pr_two (by omega) e2, key 7 pr_seven h7 e7, key 61 pr_61 h61 e61⟩
    · rw [if_neg h2, isP_false]
      intro hp
      exact h2 (hp.odd (by omega))

theorem is_all (n : Nat) (hn : n < 4294967296) (w : World) (hw : Bases w) :
    Calls Tryd.prog 66 #[.int .u32 (n : Int)] w fun e w' => e = .returned (.bool (isP n)) ∧ w' = w := by
  by_cases h : 4 ≤ n ∧ n % 2 = 1
  · obtain ⟨d, s, hd, ho⟩ := split_exists (n - 1) (by omega)
    have hs : s ≤ 32 := by
      rcases Nat.lt_or_ge s 33 with h1 | h1
      · omega
      · exfalso
        have h2 : 2 ^ 33 ≤ 2 ^ s := Nat.pow_le_pow_right (by omega) h1
        have h3 : 2 ^ s ≤ d * 2 ^ s := Nat.le_mul_of_pos_left _ (by omega)
        have h4 : (2 : Nat) ^ 33 = 8589934592 := by decide
        omega
    have := is_any n d s hn (fun _ _ => ⟨hd, ho, hs⟩) w hw
    rwa [isN_isP n d s hn fun _ _ => ⟨hd, ho⟩] at this
  · have := is_any n 0 0 hn (fun h1 h2 => absurd ⟨h1, h2⟩ h) w hw
    rwa [isN_isP n 0 0 hn fun h1 h2 => absurd ⟨h1, h2⟩ h] at this
theorem is_yes (n : Nat) (hp : Pr n) (hn : n < 4294967296) (w : World) (hw : Bases w) :
    Calls Tryd.prog 66 #[.int .u32 (n : Int)] w fun e w' => e = .returned (.bool true) ∧ w' = w := by
  have := is_all n hn w hw
  rwa [isP_true hp] at this
theorem is_no (n : Nat) (hp : ¬ Pr n) (hn : n < 4294967296) (w : World) (hw : Bases w) :
    Calls Tryd.prog 66 #[.int .u32 (n : Int)] w fun e w' => e = .returned (.bool false) ∧ w' = w := by
  have := is_all n hn w hw
  rwa [isP_false hp] at this

set_option maxHeartbeats 400000 in
theorem ris_all (n : Nat) (hn : n < 4294967296) (w : World) :
    Calls Tryd.prog 52 #[.int .u32 (n : Int)] w fun e w' => e = .returned (.bool (isP n)) ∧ w' = w := by
  by_cases h2 : 2 ≤ n
  · obtain ⟨m, hm⟩ := least_exists n h2
    have hl := fun W => least_any n m hn h2 hm W
    by_cases hmn : m = n
    · subst hmn
      have E := Lib.hid (isP_true (pr_iff_least.2 hm))
      have Hl := Lib.hid hl
      clear hl hm
      go_enter Tryd.func52, Tryd.ntmps52
      go_wp2_with fail
      refine (Hl.out _).mono ?_
      rintro _ _ ⟨rfl, rfl⟩
      go_wp2
      go_ret
      exact ⟨by rw [E.out]; simp, rfl⟩
    · have E := Lib.hid (isP_false fun h => hmn (hm.unique (pr_iff_least.1 h)))
      have Hl := Lib.hid hl
      have t1 : ((m : Int) == (n : Int)) = false := by simp; omega
      clear hl hm
      go_enter Tryd.func52, Tryd.ntmps52
      go_wp2_with fail
      refine (Hl.out _).mono ?_
      rintro _ _ ⟨rfl, rfl⟩
      go_wp2
      go_ret
      exact ⟨by rw [E.out]; rfl, rfl⟩
  · have E := Lib.hid (isP_false fun h : Pr n => h2 h.1)
    go_enter Tryd.func52, Tryd.ntmps52
    go_wp2
    go_ret
    exact ⟨by rw [E.out]; simp, rfl⟩
theorem ris_yes (n : Nat) (hp : Pr n) (hn : n < 4294967296) (w : World) :
    Calls Tryd.prog 52 #[.int .u32 (n : Int)] w fun e w' => e = .returned (.bool true) ∧ w' = w := by
  have := ris_all n hn w
  rwa [isP_true hp] at this
theorem ris_no (n : Nat) (hp : ¬ Pr n) (hn : n < 4294967296) (w : World) :
    Calls Tryd.prog 52 #[.int .u32 (n : Int)] w fun e w' => e = .returned (.bool false) ∧ w' = w := by
  have := ris_all n hn w
  rwa [isP_false hp] at this
end
section
open Go.RowKit

theorem add_lt (a b p : Nat) (hp : 0 < p) : (a + b) % p < p := Nat.mod_lt _ hp
set_option maxHeartbeats 400000 in
theorem pquo_no (a b p : Nat) (hp : ¬ Pr p) (hlt : p < 4294967296) (w : World) (hw : Bases w) :
    Calls Tryd.prog 73 #[.int .u32 (a : Int), .int .u32 (b : Int), .int .u32 (p : Int)] w fun r w' => r = .returned (.tuple #[.int .u32 0, .int .i64 40]) ∧ w' = w := by
  have Hw := Lib.hid hw
  have Hi := Lib.hid (fun W hW => is_no p hp hlt W hW)
  clear hw hp
  go_enter Tryd.func73, Tryd.ntmps73
  go_wp2_with fail
  refine (Hi.out _ Hw.out).mono ?_
  rintro _ _ ⟨rfl, rfl⟩
  go_wp2
  go_ret2
  exact ⟨rfl, rfl⟩
set_option maxHeartbeats 400000 in
theorem pinv_no (a p : Nat) (hp : ¬ Pr p) (hlt : p < 4294967296) (w : World) (hw : Bases w) :
    Calls Tryd.prog 71 #[.int .u32 (a : Int), .int .u32 (p : Int)] w fun r w' => r = .returned (.tuple #[.int .u32 0, .int .i64 40]) ∧ w' = w := by
  have H := Lib.hid (fun W hW => pquo_no 1 a p hp hlt W hW)
  have Hw := Lib.hid hw
  clear hw hp
  go_enter Tryd.func71, Tryd.ntmps71
  go_wp2_with fail
  refine (H.out _ Hw.out).mono ?_
  rintro _ _ ⟨rfl, rfl⟩
  go_wp2
  go_ret2
  exact ⟨rfl, rfl⟩
theorem cast_mod (a p : Nat) : ((a : Int) % (p : Int)) = ((a % p : Nat) : Int) := (Int.natCast_emod a p).symm
theorem power_all (a p e : Nat) (ha : a < 4294967296) (hp : p < 4294967296) (hp1 : 1 < p) (he : e < 18446744073709551616) (w : World) :
    Calls Tryd.prog 77 #[.int .u32 (a : Int), .int .u64 (e : Int), .int .u32 (p : Int)] w fun r w' => r = .returned (.int .u32 ((a ^ e % p : Nat) : Int)) ∧ w' = w :=
  power_any a p ha hp hp1 64 e (by simpa using he) he w
set_option maxHeartbeats 400000 in
theorem radd_any (a b p : Nat) (ha : a < 4294967296) (hb : b < 4294967296) (hp : p < 4294967296) (hp0 : 0 < p) (w : World) :
    Calls Tryd.prog 19 #[.int .u32 (a : Int), .int .u32 (b : Int), .int .u32 (p : Int)] w fun r w' => r = .returned (.int .u32 (((a + b) % p : Nat) : Int)) ∧ w' = w := by
  have hx := add_lt a b p hp0
  have t1 : ((a : Int) + (b : Int)) % (p : Int) = (((a + b) % p : Nat) : Int) := by rw [← cast_mod]; rfl
  obtain ⟨x, hxe⟩ : ∃ x, x = (a + b) % p := ⟨_, rfl⟩
  rw [← hxe] at hx t1 ⊢
  clear hxe
  have t2 : ((p : Int) == 0) = false := by simp; omega
  go_enter Tryd.func19, Tryd.ntmps19
  go_wp2
  go_ret
  exact ⟨rfl, rfl⟩
theorem sub_alike (a b p : Nat) (hp0 : 0 < p) : (a % p + p - b % p) % p = (a + (p - b % p)) % p := by
  have hb : b % p < p := Nat.mod_lt _ hp0
  rw [show a % p + p - b % p = a % p + (p - b % p) from by omega, Nat.mod_add_mod]
set_option maxHeartbeats 400000 in
theorem rsub_any (a b p : Nat) (ha : a < 4294967296) (hb : b < 4294967296) (hp : p < 4294967296) (hp0 : 0 < p) (w : World) :
    Calls Tryd.prog 46 #[.int .u32 (a : Int), .int .u32 (b : Int), .int .u32 (p : Int)] w fun r w' => r = .returned (.int .u32 (((a + (p - b % p)) % p : Nat) : Int)) ∧ Dr w w' := by
  have hx := add_lt a (p - b % p) p hp0
  rw [← sub_alike a b p hp0] at hx ⊢
  have hc : b % p < p := Nat.mod_lt _ hp0
  have hd : a % p < p := Nat.mod_lt _ hp0
  have t0 : (b : Int) % (p : Int) = ((b % p : Nat) : Int) := cast_mod b p
  have t3 : (a : Int) % (p : Int) = ((a % p : Nat) : Int) := cast_mod a p
  obtain ⟨c, hce⟩ : ∃ c, c = b % p := ⟨_, rfl⟩
  obtain ⟨d, hde⟩ : ∃ d, d = a % p := ⟨_, rfl⟩
  rw [← hce] at hc t0 ⊢
  rw [← hde] at hd t3 ⊢
  rw [← hce, ← hde] at hx
  clear hce hde
  have t1 : ((d : Int) + (p : Int) - (c : Int)) % (p : Int) = (((d + p - c) % p : Nat) : Int) := by
    rw [← cast_mod]; congr 1; omega
  obtain ⟨x, hxe⟩ : ∃ x, x = (d + p - c) % p := ⟨_, rfl⟩
  rw [← hxe] at hx t1 ⊢
  clear hxe
  have t2 : ((p : Int) == 0) = false := by simp; omega
  go_enter Tryd.func46, Tryd.ntmps46
  go_wp2
  go_quiet (fail)
  go_wp2
  go_ret
  exact ⟨rfl, (Dr.refl _).step _⟩
set_option maxHeartbeats 400000 in
theorem rmul_any (a b p : Nat) (ha : a < 4294967296) (hb : b < 4294967296) (hp : p < 4294967296) (hp0 : 0 < p) (w : World) :
    Calls Tryd.prog 47 #[.int .u32 (a : Int), .int .u32 (b : Int), .int .u32 (p : Int)] w fun r w' => r = .returned (.int .u32 ((a * b % p : Nat) : Int)) ∧ w' = w := by
  have hab : a * b ≤ 4294967295 * 4294967295 := Nat.mul_le_mul (by omega) (by omega)
  have hm : a * b % p < p := Nat.mod_lt _ hp0
  obtain ⟨m, hme⟩ : ∃ m, m = a * b := ⟨_, rfl⟩
  have t1 : IntKind.u64.wrap ((a : Int) * (b : Int)) = (m : Int) := by
    rw [IntKind.wrap_u64, ← Int.natCast_mul, ← hme]; omega
  have t2 : ((p : Int) == 0) = false := by simp; omega
  have t3 : (m : Int) % (p : Int) = ((m % p : Nat) : Int) := cast_mod m p
  rw [← hme] at hm ⊢
  obtain ⟨x, hxe⟩ : ∃ x, x = m % p := ⟨_, rfl⟩
  rw [← hxe] at hm t3 ⊢
  clear hme hxe
  go_enter Tryd.func47, Tryd.ntmps47
  go_wp2
  go_ret
  exact ⟨rfl, rfl⟩
/-- One round of the reference's Pow. -/
theorem pow_round (a e p : Nat) : (a * a % p) ^ (e / 2) % p = (a ^ 2) ^ (e / 2) % p := by rw [← Nat.pow_mod, Nat.pow_two]
theorem rpow_step (o a e p : Nat) : (if e % 2 = 1 then o * a % p else o) * (a * a % p) ^ (e / 2) % p = o * a ^ e % p := by
  have h1 : a ^ e = (a ^ 2) ^ (e / 2) * a ^ (e % 2) := by
    rw [← Nat.pow_mul, ← Nat.pow_add]; congr 1; omega
  rw [Nat.mul_mod, pow_round, ← Nat.mul_mod]
  by_cases hc : e % 2 = 1
  · rw [if_pos hc, h1, hc, Nat.pow_one, Nat.mod_mul_mod]; congr 1; ac_rfl
  · rw [if_neg hc, h1, show e % 2 = 0 from by omega, Nat.pow_zero, Nat.mul_one]
set_option maxHeartbeats 800000 in
theorem rpow_any (a e p : Nat) (ha : a < 4294967296) (he : e < 18446744073709551616) (hp : p < 4294967296) (hp0 : 0 < p) (w : World) :
    Calls Tryd.prog 65 #[.int .u32 (a : Int), .int .u64 (e : Int), .int .u32 (p : Int)] w fun r w' => r = .returned (.int .u32 ((a ^ e % p : Nat) : Int)) ∧ w' = w := by
  have t2 : ((p : Int) == 0) = false := by simp; omega
  have t3 : (1 : Int) % (p : Int) = ((1 % p : Nat) : Int) := cast_mod 1 p
  have h1 : 1 % p < p := Nat.mod_lt _ hp0
  obtain ⟨R, hR⟩ : ∃ R, R = a ^ e % p := ⟨_, rfl⟩
  have hs : 1 % p * a ^ e % p = R := by rw [Nat.mod_mul_mod, Nat.one_mul, hR]
  obtain ⟨o1, ho1⟩ : ∃ o1, o1 = 1 % p := ⟨_, rfl⟩
  rw [← ho1] at t3 h1 hs
  have T3 := Lib.hid t3
  clear t3
  rw [← hR]
  have Hs := Lib.hid hs
  clear hR hs ho1
  go_enter Tryd.func65, Tryd.ntmps65
  go_wp2
  go_loop [0, 1, 7] (fun av ev ov => ∃ (x k o : Nat), av = .int .u32 (x : Int) ∧ ev = .int .u64 (k : Int) ∧ ov = .int .u32 (o : Int) ∧ x < 4294967296 ∧ k < 18446744073709551616 ∧ o < p ∧ o * x ^ k % p = R) (fun _ ev _ => (intOf ev).toNat)
  case atStart => exact ⟨a, e, o1, rfl, rfl, by rw [T3.out], ha, he, h1, Hs.out⟩
  case round =>
    obtain ⟨x, k, o, rfl, rfl, rfl, hx, hk, ho, hrel⟩ := hrel
    by_cases hk0 : k = 0
    · subst hk0
      have : o = R := by rw [← hrel, Nat.pow_zero, Nat.mul_one, Nat.mod_eq_of_lt ho]
      subst this
      clear hrel
      go_wp2
      go_ret
      exact ⟨rfl, rfl⟩
    · have hst := rpow_step o x k p
      rw [hrel] at hst
      have hxx : x * x % p < p := Nat.mod_lt _ hp0
      have hox : o * x % p < p := Nat.mod_lt _ hp0
      obtain ⟨xx, hxe⟩ : ∃ xx, xx = x * x % p := ⟨_, rfl⟩
      obtain ⟨ox, hoe⟩ : ∃ ox, ox = o * x % p := ⟨_, rfl⟩
      have Hxx := Lib.hid (fun W => hxe ▸ rmul_any x x p hx hx hp hp0 W)
      have Hox := Lib.hid (fun W => hoe ▸ rmul_any o x p (by omega) hx hp hp0 W)
      rw [← hxe] at hst hxx
      rw [← hoe] at hst hox
      obtain ⟨d, hd⟩ : ∃ d, d = k / 2 := ⟨_, rfl⟩
      have t4 : (k : Int) / 2 = (d : Int) := by omega
      rw [← hd] at hst
      have hdk : d < k := by omega
      have hk1 : 0 < k := by omega
      clear hrel hxe hoe hd hk0
      by_cases hc : k % 2 = 1
      · rw [if_pos hc] at hst
        have Hst := Lib.hid hst
        have t5 : ((k : Int) % 2 == 1) = true := by simp; omega
        clear hst hc
        go_wp2_with fail
        refine (Hox.out _).mono ?_
        rintro _ _ ⟨rfl, rfl⟩
        go_wp2_with fail
        refine (Hxx.out _).mono ?_
        rintro _ _ ⟨rfl, rfl⟩
        go_wp2
        go_round
        case rel => exact ⟨xx, d, ox, rfl, rfl, rfl, by omega, by omega, hox, Hst.out⟩
        case measure => simp [intOf]; omega
      · rw [if_neg hc] at hst
        have Hst := Lib.hid hst
        have t5 : ((k : Int) % 2 == 1) = false := by simp; omega
        clear hst hc
        go_wp2_with fail
        refine (Hxx.out _).mono ?_
        rintro _ _ ⟨rfl, rfl⟩
        go_wp2
        go_round
        case rel => exact ⟨xx, d, o, rfl, rfl, rfl, by omega, by omega, ho, Hst.out⟩
        case measure => simp [intOf]; omega
set_option maxHeartbeats 400000 in
theorem rinv_any (a p : Nat) (ha : a < 4294967296) (hp : p < 4294967296) (hp1 : 1 < p) (w : World) :
    Calls Tryd.prog 48 #[.int .u32 (a : Int), .int .u32 (p : Int)] w fun r w' => r = .returned (.int .u32 ((a ^ (p - 2) % p : Nat) : Int)) ∧ w' = w := by
  obtain ⟨e, he⟩ : ∃ e, e = p - 2 := ⟨_, rfl⟩
  have H := Lib.hid (fun W => rpow_any a e p ha (by omega) hp (by omega) W)
  have t1 : (p : Int) - 2 = (e : Int) := by omega
  rw [← he]
  clear he
  go_enter Tryd.func48, Tryd.ntmps48
  go_wp2_with fail
  refine (H.out _).mono ?_
  rintro _ _ ⟨rfl, rfl⟩
  go_wp2
  go_ret
  exact ⟨rfl, rfl⟩

theorem Pr.inv_right {p a : Nat} (hp : Pr p) (ha : ¬ p ∣ a) : a * (a ^ (p - 2) % p) % p = 1 := by
  have h2 := hp.1
  rw [Nat.mul_mod_mod, ← hp.fermat ha]
  congr 1
  rw [Nat.mul_comm, ← Nat.pow_succ]
  congr 1; omega
theorem inv_unique {p a u v : Nat} (hu : a * u % p = 1) (hv : a * v % p = 1) (hlt : v < p) (hul : u < p) : v = u := by
  have h1 : v * (a * u) % p = v := by rw [Nat.mul_mod, hu, Nat.mul_one, Nat.mod_mod, Nat.mod_eq_of_lt hlt]
  have h2 : u * (a * v) % p = u := by rw [Nat.mul_mod, hv, Nat.mul_one, Nat.mod_mod, Nat.mod_eq_of_lt hul]
  exact h1.symm.trans ((congrArg (· % p) (show v * (a * u) = u * (a * v) from by ac_rfl)).trans h2)

/-- What Euclid's steps keep. -/
def Eu (a p r s X Y : Nat) (x y : Int) : Prop :=
  s < r ∧ 1 ≤ s ∧ Nat.gcd r s = 1 ∧ Y * r + X * s = p ∧ ((x = -(X : Int) ∧ y = (Y : Int)) ∨ (x = (X : Int) ∧ y = -(Y : Int))) ∧ (∃ k : Int, (a : Int) * x = r + k * p) ∧ (∃ k : Int, (a : Int) * y = s + k * p)
theorem Eu.start {a p : Nat} (hp : Pr p) (ha : 0 < a) (hap : a < p) : Eu a p p a 0 1 0 1 :=
  ⟨hap, ha, hp.gcd (hp.not_dvd_lt ha hap), by simp, Or.inl ⟨rfl, rfl⟩, ⟨-1, by omega⟩, ⟨0, by omega⟩⟩
theorem Eu.step {a p r s X Y : Nat} {x y : Int} (h : Eu a p r s X Y x y) (hs : s ≠ 1) : Eu a p s (r % s) Y (X + r / s * Y) y (x - ((r / s : Nat) : Int) * y) := by
  obtain ⟨h1, h2, h3, h4, h5, ⟨k, h6⟩, ⟨j, h7⟩⟩ := h
  have hdm := Nat.div_add_mod r s
  have hg : Nat.gcd s (r % s) = 1 := by rw [Nat.gcd_comm, ← Nat.gcd_rec, Nat.gcd_comm]; exact h3
  have hm0 : r % s ≠ 0 := fun h0 => by rw [h0, Nat.gcd_zero_right] at hg; exact hs hg
  have hrI : (r : Int) = s * ((r / s : Nat) : Int) + ((r % s : Nat) : Int) := by rw [← Int.natCast_mul, ← Int.natCast_add, hdm]
  refine ⟨Nat.mod_lt _ (by omega), by omega, hg, ?_, ?_, ⟨j, h7⟩, ⟨k - ((r / s : Nat) : Int) * j, ?_⟩⟩
  · generalize r / s = q at hdm
    generalize r % s = m at hdm
    rw [← h4, ← hdm, Nat.add_mul, Nat.mul_add]
    rw [show q * Y * s = Y * (s * q) from by ac_rfl]
    omega
  · rcases h5 with ⟨rfl, rfl⟩ | ⟨rfl, rfl⟩
    · refine Or.inr ⟨rfl, ?_⟩
      rw [Int.natCast_add, Int.natCast_mul]; omega
    · refine Or.inl ⟨rfl, ?_⟩
      rw [Int.natCast_add, Int.natCast_mul, Int.mul_neg]; omega
  · generalize ((r / s : Nat) : Int) = q at hrI
    generalize ((r % s : Nat) : Int) = m at hrI
    rw [Int.mul_sub, h6, show (a : Int) * (q * y) = q * (a * y) from by ac_rfl, h7, hrI, Int.sub_mul, Int.mul_add, show q * (s : Int) = s * q from Int.mul_comm _ _, Int.mul_assoc]
    omega
theorem Eu.bounds {a p r s X Y : Nat} {x y : Int} (h : Eu a p r s X Y x y) : -(p : Int) ≤ x ∧ x ≤ p ∧ -(p : Int) ≤ y ∧ y ≤ p ∧ r ≤ p + r := by
  obtain ⟨h1, h2, h3, h4, h5, _, _⟩ := h
  have a1 : Y ≤ Y * r := Nat.le_mul_of_pos_right _ (by omega)
  have a2 : X ≤ X * s := Nat.le_mul_of_pos_right _ (by omega)
  rcases h5 with ⟨rfl, rfl⟩ | ⟨rfl, rfl⟩ <;> omega
theorem Eu.last {a p r X Y : Nat} {x y : Int} (h : Eu a p r 1 X Y x y) (hp : Pr p) (ha : ¬ p ∣ a) :
    (0 ≤ y → y = ((a ^ (p - 2) % p : Nat) : Int)) ∧ (y < 0 → y + p = ((a ^ (p - 2) % p : Nat) : Int)) := by
  have h2 := hp.1
  obtain ⟨h1, _, h3, h4, h5, _, ⟨j, h7⟩⟩ := h
  have hY : Y * 2 ≤ Y * r := Nat.mul_le_mul_left _ (by omega)
  have hYp : Y < p := by omega
  have hl : a ^ (p - 2) % p < p := Nat.mod_lt _ hp.pos
  have key : ∀ (v : Nat) (c : Int), (v : Int) = y + c * p → v < p → v = a ^ (p - 2) % p := fun v c hv hvp => by
    refine inv_unique (hp.inv_right ha) ?_ hvp hl
    have : ((a * v : Nat) : Int) = 1 + (j + a * c) * p := by
      rw [Int.natCast_mul, hv, Int.mul_add, h7, Int.add_mul, Int.mul_assoc]; omega
    have h8 : ((a * v % p : Nat) : Int) = 1 := by
      rw [Int.natCast_emod, this, Int.add_mul_emod_self_right, Int.emod_eq_of_lt (by omega) (by omega)]
    omega
  refine ⟨fun hy => ?_, fun hy => ?_⟩
  · have : y.toNat = a ^ (p - 2) % p := key y.toNat 0 (by omega) (by omega)
    omega
  · have : (y + p).toNat = a ^ (p - 2) % p := key (y + p).toNat 1 (by omega) (by omega)
    omega

set_option maxHeartbeats 1600000 in
theorem inverse_any (a p : Nat) (hp : Pr p) (ha0 : 0 < a) (hap : a < p) (hlt : p < 4294967296) (w : World) :
    Calls Tryd.prog 76 #[.int .u32 (a : Int), .int .u32 (p : Int)] w fun r w' => r = .returned (.int .u32 ((a ^ (p - 2) % p : Nat) : Int)) ∧ w' = w := by
  have hl : a ^ (p - 2) % p < p := Nat.mod_lt _ hp.pos
  have Hst := Lib.hid (Eu.start hp ha0 hap)
  have Hend := Lib.hid (fun (r X Y : Nat) (x y : Int) (h : Eu a p r 1 X Y x y) => h.last hp (hp.not_dvd_lt ha0 hap))
  obtain ⟨V, hV⟩ : ∃ V, V = a ^ (p - 2) % p := ⟨_, rfl⟩
  rw [← hV] at hl Hend ⊢
  have hp2 := hp.1
  clear hV hp
  go_enter Tryd.func76, Tryd.ntmps76
  go_wp2
  go_step3
  go_wp2
  go_step3
  go_wp2
  go_loop [5, 6, 7, 8] (fun rv sv xv yv => ∃ (r s X Y : Nat) (x y : Int), rv = .int .i64 (r : Int) ∧ sv = .int .i64 (s : Int) ∧ xv = .int .i64 x ∧ yv = .int .i64 y ∧ r ≤ p ∧ Eu a p r s X Y x y) (fun _ sv _ _ => (intOf sv).toNat)
  case atStart => exact ⟨p, a, 0, 1, 0, 1, rfl, rfl, rfl, rfl, Nat.le_refl _, Hst.out⟩
  case round =>
    obtain ⟨r, s, X, Y, x, y, rfl, rfl, rfl, rfl, hr, hrel⟩ := hrel
    obtain ⟨b1, b2, b3, b4, _⟩ := hrel.bounds
    have hs1 := hrel.2.1
    have hsr := hrel.1
    by_cases hs : s = 1
    · subst hs
      obtain ⟨e1, e2⟩ := Hend.out _ _ _ _ _ hrel
      clear hrel
      by_cases hy : y < 0
      · have e := e2 hy
        have t1 : decide (y < 0) = true := by simpa using hy
        clear e1 e2
        go_wp2
        go_ret
        exact ⟨rfl, rfl⟩
      · obtain rfl := e1 (by omega)
        have t1 : decide ((V : Int) < 0) = false := by simp
        clear e2
        go_wp2
        go_ret
        exact ⟨rfl, rfl⟩
    · have hst := hrel.step hs
      obtain ⟨_, _, c3, c4, _⟩ := hst.bounds
      have Hst2 := Lib.hid hst
      obtain ⟨q, hq⟩ : ∃ q, q = r / s := ⟨_, rfl⟩
      obtain ⟨m, hm⟩ : ∃ m, m = r % s := ⟨_, rfl⟩
      have hdm := Nat.div_add_mod r s
      rw [← hq, ← hm] at hdm Hst2
      rw [← hq] at c3 c4
      have hms : m < s := by rw [hm]; exact Nat.mod_lt _ (by omega)
      obtain ⟨z, hz⟩ : ∃ z, z = (q : Int) * y := ⟨_, rfl⟩
      rw [← hz] at c3 c4 Hst2
      obtain ⟨u, hu⟩ : ∃ u, u = s * q := ⟨_, rfl⟩
      rw [← hu] at hdm
      have t0 : ((s : Int) == 1) = false := by simp; omega
      have t1 : ((s : Int) == 0) = false := by simp; omega
      have t2 : (r : Int) / (s : Int) = (q : Int) := by rw [hq]; rfl
      have hqr : q ≤ r := by rw [hq]; exact Nat.div_le_self r s
      have t3 : wrap64 ((q : Int) * (s : Int)) = (u : Int) := by
        rw [show (q : Int) * (s : Int) = (u : Int) from by rw [hu, Int.natCast_mul, Int.mul_comm]]
        exact IntWalk.wrap64_in _ (by omega)
      have t4 : wrap64 ((q : Int) * y) = z := by
        rw [← hz]; exact IntWalk.wrap64_in _ (by omega)
      have t5 : (r : Int) - (u : Int) = (m : Int) := by omega
      clear hrel hst hs hq hm hz hu Hend hdm
      go_wp2
      go_round
      case rel => exact ⟨s, m, Y, X + q * Y, y, x - z, rfl, rfl, rfl, rfl, by omega, Hst2.out⟩
      case measure => simp [intOf]; omega

theorem mod_dvd_not {b p : Nat} (hb : b % p ≠ 0) : ¬ p ∣ b := fun h => hb (Nat.mod_eq_zero_of_dvd h)
set_option maxHeartbeats 800000 in
theorem pquo_zero (a b p : Nat) (hp : Pr p) (hlt : p < 4294967296) (h0 : b % p = 0) (w : World) (hw : Bases w) :
    Calls Tryd.prog 73 #[.int .u32 (a : Int), .int .u32 (b : Int), .int .u32 (p : Int)] w fun r w' => r = .returned (.tuple #[.int .u32 0, .int .i64 5]) ∧ w' = w := by
  have Hw := Lib.hid hw
  have Hi := Lib.hid (fun W hW => is_yes p hp hlt W hW)
  have hp2 := hp.1
  have t0 : (b : Int) % (p : Int) = 0 := by rw [cast_mod, h0]; rfl
  have t1 : ((p : Int) == 0) = false := by simp; omega
  clear hw hp h0
  go_enter Tryd.func73, Tryd.ntmps73
  go_wp2_with fail
  refine (Hi.out _ Hw.out).mono ?_
  rintro _ _ ⟨rfl, rfl⟩
  go_wp2
  go_ret2
  exact ⟨rfl, rfl⟩
set_option maxHeartbeats 800000 in
theorem pquo_yes (a b p : Nat) (ha : a < 4294967296) (hp : Pr p) (hlt : p < 4294967296) (h0 : b % p ≠ 0) (w : World) (hw : Bases w) :
    Calls Tryd.prog 73 #[.int .u32 (a : Int), .int .u32 (b : Int), .int .u32 (p : Int)] w fun r w' => r = .returned (.tuple #[.int .u32 ((a * (b ^ (p - 2) % p) % p : Nat) : Int), .int .i64 0]) ∧ w' = w := by
  have Hw := Lib.hid hw
  have Hi := Lib.hid (fun W hW => is_yes p hp hlt W hW)
  have hp2 := hp.1
  have hbp : b % p < p := Nat.mod_lt _ hp.pos
  have hinv := fun W => inverse_any (b % p) p hp (by omega) hbp hlt W
  have hl : b ^ (p - 2) % p < p := Nat.mod_lt _ hp.pos
  rw [← Nat.pow_mod] at hinv
  have ht := fun W => times_any a (b ^ (p - 2) % p) p W ha (by omega) hlt hp.pos
  have t0 : (b : Int) % (p : Int) = ((b % p : Nat) : Int) := cast_mod b p
  obtain ⟨c, hc⟩ : ∃ c, c = b % p := ⟨_, rfl⟩
  obtain ⟨v, hv⟩ : ∃ v, v = b ^ (p - 2) % p := ⟨_, rfl⟩
  rw [← hc] at t0 h0 hbp
  simp only [← hc, ← hv] at hinv
  simp only [← hv] at ht
  rw [← hv] at hl ⊢
  have Hinv := Lib.hid hinv
  have Ht := Lib.hid ht
  have t1 : ((p : Int) == 0) = false := by simp; omega
  have t2 : ((c : Int) == 0) = false := by simp; omega
  clear hw hp hc hv hinv ht
  go_enter Tryd.func73, Tryd.ntmps73
  go_wp2_with fail
  refine (Hi.out _ Hw.out).mono ?_
  rintro _ _ ⟨rfl, rfl⟩
  go_wp2_with fail
  refine (Hinv.out _).mono ?_
  rintro _ _ ⟨rfl, rfl⟩
  go_wp2_with fail
  refine (Ht.out _).mono ?_
  rintro _ _ ⟨rfl, rfl⟩
  go_wp2
  go_ret2
  exact ⟨rfl, rfl⟩
set_option maxHeartbeats 400000 in
theorem pinv_zero (b p : Nat) (hp : Pr p) (hlt : p < 4294967296) (h0 : b % p = 0) (w : World) (hw : Bases w) :
    Calls Tryd.prog 71 #[.int .u32 (b : Int), .int .u32 (p : Int)] w fun r w' => r = .returned (.tuple #[.int .u32 0, .int .i64 5]) ∧ w' = w := by
  have H := Lib.hid (fun W hW => pquo_zero 1 b p hp hlt h0 W hW)
  have Hw := Lib.hid hw
  clear hw hp h0
  go_enter Tryd.func71, Tryd.ntmps71
  go_wp2_with fail
  refine (H.out _ Hw.out).mono ?_
  rintro _ _ ⟨rfl, rfl⟩
  go_wp2
  go_ret2
  exact ⟨rfl, rfl⟩
set_option maxHeartbeats 400000 in
theorem pinv_yes (b p : Nat) (hp : Pr p) (hlt : p < 4294967296) (h0 : b % p ≠ 0) (w : World) (hw : Bases w) :
    Calls Tryd.prog 71 #[.int .u32 (b : Int), .int .u32 (p : Int)] w fun r w' => r = .returned (.tuple #[.int .u32 ((b ^ (p - 2) % p : Nat) : Int), .int .i64 0]) ∧ w' = w := by
  have h := fun W hW => pquo_yes 1 b p (by omega) hp hlt h0 W hW
  simp only [Nat.one_mul, Nat.mod_mod] at h
  have H := Lib.hid h
  have Hw := Lib.hid hw
  clear hw hp h0 h
  go_enter Tryd.func71, Tryd.ntmps71
  go_wp2_with fail
  refine (H.out _ Hw.out).mono ?_
  rintro _ _ ⟨rfl, rfl⟩
  go_wp2
  go_ret2
  exact ⟨rfl, rfl⟩
end
section
open Go.RowKit

/-- The field modulo p, by value. -/
abbrev fieldV (p sp : Nat) : Value := .agg #[.int .u64 (p : Int), .int .u64 (sp : Int)]
def plusN (p x y c : Nat) : Nat := (x + y * c) % p
theorem plusN_lt {p : Nat} (hp : 0 < p) (x y c : Nat) : plusN p x y c < p := Nat.mod_lt _ hp
def invN (p x : Nat) : Nat := x ^ (p - 2) % p
theorem invN_lt {p : Nat} (hp : 0 < p) (x : Nat) : invN p x < p := Nat.mod_lt _ hp

theorem Bases.lt {w : World} (h : Bases w) : 0 < w.heap.size := by
  have h1 := h.1
  rcases Nat.lt_or_ge 0 w.heap.size with hlt | hge
  · exact hlt
  · simp [World.cell?, Array.getElem?_eq_none hge] at h1
theorem Bases.below {w w' : World} (h : Bases w) {B : Nat} (hb : Below B w w') (hB : 0 < B) : Bases w' :=
  ⟨(hb.cell (p := ⟨_, 0, none⟩) hB).trans h.1, (hb.cell (p := ⟨_, 1, none⟩) hB).trans h.2.1, (hb.cell (p := ⟨_, 2, none⟩) hB).trans h.2.2⟩
theorem Bases.dr {w w' : World} (h : Bases w) (hd : Dr w w') : Bases w' := by
  obtain ⟨n, rfl⟩ := hd
  exact h

set_option maxHeartbeats 800000 in
theorem plus_any (p sp x y c : Nat) (w : World) (hp0 : 0 < p) (hp : p < 4294967296) (hx : x < 4294967296) (hy : y < 4294967296) (hc : c < 4294967296) :
    Calls Tryd.prog 41 #[fieldV p sp, .int .u32 (x : Int), .int .u32 (y : Int), .int .u32 (c : Int)] w fun e w' => e = .returned (.int .u32 (plusN p x y c : Int)) ∧ Below w.heap.size w w' := by
  have hyc : y * c ≤ 4294967295 * 4294967295 := Nat.mul_le_mul (by omega) (by omega)
  obtain ⟨m, hm⟩ : ∃ m, m = y * c := ⟨_, rfl⟩
  obtain ⟨s, hs⟩ : ∃ s, s = x + m := ⟨_, rfl⟩
  have hr : plusN p x y c = s % p := by unfold plusN; rw [← hm, ← hs]
  have hrl := plusN_lt hp0 x y c
  obtain ⟨r, hre⟩ : ∃ r, r = plusN p x y c := ⟨_, rfl⟩
  rw [← hre] at hr hrl ⊢
  rw [← hm] at hyc
  have t1 : (y : Int) * (c : Int) = (m : Int) := by rw [hm]; simp
  have t2 : (x : Int) + (m : Int) = (s : Int) := by omega
  have t3 : (s : Int) % (p : Int) = (r : Int) := by rw [hr]; simp
  have t4 : ((p : Int) == 0) = false := by simp; omega
  have hsb : s < 18446744073709551616 := by omega
  clear hm hs hr hre
  go_enter Tryd.func41, Tryd.ntmps41
  go_wp2
  go_ret
  exact ⟨rfl, (Below.refl _ _).alloc (Nat.le_refl _) _⟩

theorem plus0_any (p sp y c : Nat) (w : World) (hp0 : 0 < p) (hp : p < 4294967296) (hy : y < 4294967296) (hc : c < 4294967296) :
    Calls Tryd.prog 41 #[fieldV p sp, .int .u32 0, .int .u32 (y : Int), .int .u32 (c : Int)] w fun e w' => e = .returned (.int .u32 (plusN p 0 y c : Int)) ∧ Below w.heap.size w w' :=
  plus_any p sp 0 y c w hp0 hp (by omega) hy hc

set_option maxHeartbeats 800000 in
theorem finv_any (p sp x : Nat) (w : World) (hpr : Pr p) (hp : p < 4294967296) (hw : Bases w) (h0 : x % p ≠ 0) :
    Calls Tryd.prog 62 #[fieldV p sp, .int .u32 (x : Int)] w fun e w' => e = .returned (.int .u32 (invN p x : Int)) ∧ Below w.heap.size w w' := by
  have H := Lib.hid (fun W hW => pinv_yes x p hpr hp h0 W hW)
  have hwl := hw.lt
  have hw2 : ∀ o, Bases (w.alloc o) := fun o => hw.below ((Below.refl w.heap.size w).alloc (Nat.le_refl _) o) hwl
  have Hw : Hid (∀ o, Bases (w.alloc o)) := hw2
  clear hw hw2 hpr h0 hwl
  unfold invN
  obtain ⟨v, hv⟩ : ∃ v, v = x ^ (p - 2) % p := ⟨_, rfl⟩
  simp only [← hv] at H ⊢
  clear hv
  go_enter Tryd.func62, Tryd.ntmps62
  go_wp2_with fail
  refine (H.out _ (Hw.out _)).mono ?_
  rintro _ _ ⟨rfl, rfl⟩
  go_wp2
  go_ret
  exact ⟨rfl, (Below.refl _ _).alloc (Nat.le_refl _) _⟩

theorem add64_run (x y c : Nat) (hc : c ≤ 1) (w : World) :
    (callFunc 70 #[.int .u64 (x : Int), .int .u64 (y : Int), .int .u64 (c : Int)]).run Tryd.prog w =
      .ok (.value (.tuple #[.int .u64 (((x + y + c) % 18446744073709551616 : Nat) : Int), .int .u64 (((x + y + c) / 18446744073709551616 : Nat) : Int)])) w := by
  rw [run_callFunc_extern Tryd.func70 (by kernel_rfl) (by kernel_rfl) (by kernel_rfl) (e := add64Entry) (by kernel_rfl), run_add64 x y c (by omega) (by omega) (by omega) (by omega)]
  simp only [Result.andThen]
  congr 5 <;> omega
theorem add64_run0 (x y : Nat) (w : World) :
    (callFunc 70 #[.int .u64 (x : Int), .int .u64 (y : Int), .int .u64 0]).run Tryd.prog w =
      .ok (.value (.tuple #[.int .u64 (((x + y) % 18446744073709551616 : Nat) : Int), .int .u64 (((x + y) / 18446744073709551616 : Nat) : Int)])) w := add64_run x y 0 (by omega) w

/-- The sum of the products. -/
def dotS (a b : List Nat) : Nat := (List.zipWith (· * ·) a b).sum
theorem dotS_take {a b : List Nat} {k : Nat} (ha : k < a.length) (hb : k < b.length) : dotS (a.take (k + 1)) (b.take (k + 1)) = dotS (a.take k) (b.take k) + a[k] * b[k] := by
  unfold dotS
  rw [List.take_succ_eq_append_getElem ha, List.take_succ_eq_append_getElem hb, List.zipWith_append (by simp; omega)]
  simp
def dotN (p : Nat) (a b : List Nat) : Nat := dotS a b % p
/-- A step of the sum modulo p, with what goes over 2^64. -/
theorem dot_step {p S D m sp : Nat} (hp0 : 0 < p) (hp : p < 4294967296) (hsp : sp = 18446744073709551616 % p) (hS : S < 18446744073709551616) (hm : m ≤ 4294967295 * 4294967295) (h : S % p = D % p) :
    ((S + m) / 18446744073709551616 = 0 → (S + m) % 18446744073709551616 % p = (D + m) % p) ∧
    ((S + m) / 18446744073709551616 ≠ 0 → (S + m) % 18446744073709551616 + sp < 18446744073709551616 ∧ ((S + m) % 18446744073709551616 + sp) % p = (D + m) % p) := by
  have hspl : sp < p := by rw [hsp]; exact Nat.mod_lt _ hp0
  have key : (S + m) % p = (D + m) % p := by rw [Nat.add_mod, h, ← Nat.add_mod]
  refine ⟨fun h0 => ?_, fun h1 => ⟨?_, ?_⟩⟩
  · rw [Nat.mod_eq_of_lt (show S + m < 18446744073709551616 by omega)]; exact key
  · omega
  · have hq : (S + m) / 18446744073709551616 = 1 := by omega
    rw [hsp, Nat.add_mod_mod, ← key]
    congr 1
    omega

set_option maxHeartbeats 800000 in
theorem dot_any (p sp : Nat) (A A2 : Option Addr) (c c2 : Nat) (a b : List Nat) (w : World) (B : Nat) (hp0 : 0 < p) (hp : p < 4294967296) (hsp : sp = 18446744073709551616 % p) (hr : Rd w B A (u32s a)) (hr2 : Rd w B A2 (u32s b)) (hB : B ≤ w.heap.size) (hl : a.length ≤ b.length) (hm : a.length ≤ 281474976710656) (da : ∀ x ∈ a, x < 4294967296) (db : ∀ x ∈ b, x < 4294967296) :
    Calls Tryd.prog 60 #[fieldV p sp, .slice A a.length c, .slice A2 b.length c2] w fun e w' => e = .returned (.int .u32 (dotS a b % p : Nat)) ∧ Below w.heap.size w w' := by
  have h0 : Hid (∀ k (h : k < a.length), a[k] < 4294967296) := fun k h => da _ (List.getElem_mem h)
  have h1 : Hid (∀ k (h : k < b.length), b[k] < 4294967296) := fun k h => db _ (List.getElem_mem h)
  have Hsp := Lib.hid hsp
  have hspl : sp < p := by rw [hsp]; exact Nat.mod_lt _ hp0
  have t4 : ((p : Int) == 0) = false := by simp; omega
  have hb0 : Below w.heap.size w (w.alloc (.cells #[.int .u64 (p : Int), .int .u64 (sp : Int)] 63 (0, 0))) := (Below.refl _ _).alloc (Nat.le_refl _) _
  have hra := hr.below (hb0.mono hB)
  have hrb := hr2.below (hb0.mono hB)
  obtain ⟨r, hre⟩ : ∃ r, r = dotS a b % p := ⟨_, rfl⟩
  rw [← hre]
  have hrl : r < p := by rw [hre]; exact Nat.mod_lt _ hp0
  have Hre := Lib.hid hre
  clear da db hsp hr hr2 hre
  go_enter Tryd.func60, Tryd.ntmps60
  go_wp2
  go_loop [7, 13] (fun sv iv => ∃ (S k : Nat), k ≤ a.length ∧ sv = .int .u64 (S : Int) ∧ iv = .int .i64 (k : Int) ∧ S < 18446744073709551616 ∧ Hid (S % p = dotS (a.take k) (b.take k) % p)) (fun _ iv => a.length - (intOf iv).toNat)
  case atStart => exact ⟨0, 0, by omega, rfl, rfl, by omega, by show _ = _; simp [dotS]⟩
  case round =>
    obtain ⟨S, k, hk, rfl, rfl, hS, HS⟩ := hrel
    by_cases hlt : k < a.length
    · have hlt2 : k < b.length := by omega
      obtain ⟨b1, off, rfl, hb1, hx⟩ := hra.at32 hlt
      obtain ⟨b2, off2, rfl, hb2, hy⟩ := hrb.at32 hlt2
      have hxd := h0.out k hlt
      have hyd := h1.out k hlt2
      have hyc : a[k] * b[k] ≤ 4294967295 * 4294967295 := Nat.mul_le_mul (by omega) (by omega)
      obtain ⟨m, hme⟩ : ∃ m, m = a[k] * b[k] := ⟨_, rfl⟩
      rw [← hme] at hyc
      obtain ⟨s1, s2⟩ := dot_step hp0 hp Hsp.out hS hyc HS.out
      have t1 : (a[k] : Int) * (b[k] : Int) = (m : Int) := by rw [hme]; simp
      have t2 : IntKind.u64.wrap ((a[k] : Int) * (b[k] : Int)) = (m : Int) := by rw [t1, IntKind.wrap_u64]; omega
      have Hd := Lib.hid (dotS_take hlt hlt2)
      rw [← hme] at Hd
      have a1 := fun W => add64_run0 S m W
      obtain ⟨lo, hlo⟩ : ∃ lo, lo = (S + m) % 18446744073709551616 := ⟨_, rfl⟩
      obtain ⟨ov, hov⟩ : ∃ ov, ov = (S + m) / 18446744073709551616 := ⟨_, rfl⟩
      rw [← hlo, ← hov] at s1 s2 a1
      have hlob : lo < 18446744073709551616 := by omega
      clear hme hlo hov
      by_cases h : ov = 0
      · have S1 : Hid _ := Lib.hid (s1 h)
        subst h
        clear s1 s2
        go_wp2_with (first | (simp only [a1]))
        go_round
        case rel => exact ⟨lo, k + 1, by omega, rfl, by go_num, hlob, by rw [Hd.out]; exact S1.out⟩
        case measure => simp [intOf]; omega
      · obtain ⟨u1, u2⟩ := s2 h
        obtain ⟨l2, hl2⟩ : ∃ l2, l2 = lo + sp := ⟨_, rfl⟩
        rw [← hl2] at u1 u2
        have S1 := Lib.hid u2
        have t5 : (lo : Int) + (sp : Int) = (l2 : Int) := by omega
        have t6 : ((ov : Int) != 0) = true := by simp; omega
        clear s1 s2 hl2 u2
        go_wp2_with (first | (simp only [a1]))
        go_round
        case rel => exact ⟨l2, k + 1, by omega, rfl, by go_num, u1, by rw [Hd.out]; exact S1.out⟩
        case measure => simp [intOf]; omega
    · have hke : k = a.length := by omega
      have hge : a.length ≤ k := by omega
      have HS2 : Hid (S % p = dotS a b % p) := by
        have h9 := HS.out
        rw [hke, List.take_length] at h9
        have e1 : dotS a (b.take a.length) = dotS a b := by
          unfold dotS
          congr 1
          apply List.ext_getElem?
          intro i
          simp only [List.getElem?_zipWith, List.getElem?_take]
          by_cases hi : i < a.length
          · rw [if_pos hi]
          · rw [List.getElem?_eq_none (l := a) (by omega)]
        rw [e1] at h9; exact h9
      rw [← Hre.out] at HS2
      have t3 : (S : Int) % (p : Int) = (r : Int) := by rw [← HS2.out]; simp
      clear hke HS
      go_wp2
      go_ret
      exact ⟨rfl, hb0⟩
end
section
open Go.RowKit

/-- A list of which the first k are new. -/
def mix {α : Type} (new old : List α) (k : Nat) : List α := new.take k ++ old.drop k
theorem mix_zero {α : Type} (new old : List α) : mix new old 0 = old := by simp [mix]
theorem mix_all {α : Type} {new old : List α} (h : new.length = old.length) : mix new old old.length = new := by
  unfold mix; rw [← h, List.take_length, List.drop_of_length_le (by omega), List.append_nil]
theorem mix_length {α : Type} {new old : List α} (h : new.length = old.length) (k : Nat) : (mix new old k).length = old.length := by
  unfold mix; rw [List.length_append, List.length_take, List.length_drop]; omega
theorem mix_at {α : Type} {new old : List α} (h : new.length = old.length) {k : Nat} (hk : k < old.length) (hk2 : k < (mix new old k).length) : (mix new old k)[k] = old[k] := by
  have e : (mix new old k)[k]? = some old[k] := by
    unfold mix
    rw [List.getElem?_append_right (by rw [List.length_take]; omega), List.length_take, List.getElem?_drop, Nat.min_eq_left (by omega), Nat.sub_self, Nat.add_zero, List.getElem?_eq_getElem hk]
  obtain ⟨_, e2⟩ := List.getElem?_eq_some_iff.1 e
  exact e2
theorem mix_set {α : Type} {new old : List α} (h : new.length = old.length) {k : Nat} (hk : k < new.length) : (mix new old k).set k new[k] = mix new old (k + 1) := by
  unfold mix
  rw [List.set_append_right _ _ (by rw [List.length_take]; omega), List.length_take, Nat.min_eq_left (by omega), Nat.sub_self,
    List.take_succ_eq_append_getElem hk, List.append_assoc, List.drop_eq_getElem_cons (by omega : k < old.length), List.set_cons_zero]
  rfl

theorem mix_keep {α : Type} {new old : List α} (h : new.length = old.length) {k : Nat} (hk : k < old.length) (i : Nat) (e : new[k]'(h ▸ hk) = old[k]) (hk2 : k < (mix new old i).length) : (mix new old i)[k] = old[k] := by
  have e2 : (mix new old i)[k]? = some old[k] := by
    unfold mix
    by_cases hki : k < i
    · rw [List.getElem?_append_left (by rw [List.length_take]; omega), List.getElem?_take, if_pos hki, List.getElem?_eq_getElem (by omega), e]
    · rw [List.getElem?_append_right (by rw [List.length_take]; omega), List.length_take, List.getElem?_drop, show i + (k - min i new.length) = k from by omega, List.getElem?_eq_getElem hk]
  obtain ⟨_, e3⟩ := List.getElem?_eq_some_iff.1 e2
  exact e3

/-- A row less c times another one. -/
def subN (p c : Nat) (xs ys : List Nat) : List Nat := if c = 0 then xs else List.zipWith (fun x y => plusN p x y (p - c)) xs ys
theorem subN_length {p c : Nat} {xs ys : List Nat} (h : xs.length = ys.length) : (subN p c xs ys).length = xs.length := by
  unfold subN; split
  · rfl
  · simp [h]
theorem subN_at {p c : Nat} {xs ys : List Nat} (hc : c ≠ 0) {k : Nat} (hk : k < (subN p c xs ys).length) (h1 : k < xs.length) (h2 : k < ys.length) : (subN p c xs ys)[k] = plusN p xs[k] ys[k] (p - c) := by
  unfold subN at hk ⊢
  simp only [if_neg hc]
  simp

set_option maxHeartbeats 1600000 in
theorem subtract_any (p sp c : Nat) (A A2 : Option Addr) (ca cb : Nat) (xs ys : List Nat) (w : World) (hp0 : 0 < p) (hp : p < 4294967296) (hc : c < p) (hl : xs.length = ys.length) (hm : xs.length ≤ 281474976710656)
    (dx : ∀ x ∈ xs, x < 4294967296) (dy : ∀ x ∈ ys, x < 4294967296) (gi gk : Nat) (rest rest2 : List Value) (hgn : gi ≠ gk) (hA : xs ≠ [] → A = some ⟨gi, 0, none⟩) (hA2 : xs ≠ [] → A2 = some ⟨gk, 0, none⟩)
    (hb1 : Blk w gi 28 (u32s xs ++ rest)) (hb2 : Blk w gk 28 (u32s ys ++ rest2)) :
    Calls Tryd.prog 63 #[fieldV p sp, .slice A xs.length ca, .slice A2 ys.length cb, .int .u32 (c : Int)] w fun e w' => e = .returned (.tuple #[]) ∧ Blk w' gi 28 (u32s (subN p c xs ys) ++ rest) ∧ Tn gi w w' := by
  have htn0 : Tn gi w (w.alloc (.cells #[.int .u64 (p : Int), .int .u64 (sp : Int)] 63 (0, 0))) := Tn.of_below ((Below.refl _ _).alloc (Nat.le_refl _) _) (Nat.le_refl _)
  by_cases h0 : c = 0
  · have e0 : subN p c xs ys = xs := by simp [subN, h0]
    have t0 : ((c : Int) == 0) = true := by simp; omega
    rw [e0]
    have hb1' := hb1.tn htn0
    have hbk := hb1.heapAlloc (.cells #[.int .u64 (p : Int), .int .u64 (sp : Int)] 63 (0, 0))
    clear hb1' h0 e0
    go_enter Tryd.func63, Tryd.ntmps63
    go_wp2
    exact bodyPost_ret (v := .tuple #[]) (by simp [results, Tryd.results63, go_sem]) rfl ⟨rfl, hbk, htn0⟩
  · have hzl := subN_length (p := p) (c := c) hl
    have hat := fun k (h1 : k < xs.length) (h2 : k < ys.length) => subN_at (p := p) (xs := xs) (ys := ys) h0 (by rw [hzl]; exact h1) h1 h2
    obtain ⟨zs, hzs⟩ : ∃ zs, zs = subN p c xs ys := ⟨_, rfl⟩
    rw [← hzs] at hzl ⊢
    have Hat : Hid (∀ k (h1 : k < xs.length) (h2 : k < ys.length) (h3 : k < zs.length), zs[k] = plusN p xs[k] ys[k] (p - c)) := fun k h1 h2 h3 => by
      subst hzs; exact hat k h1 h2
    have Hdx : Hid (∀ k (h : k < xs.length), xs[k] < 4294967296) := fun k h => dx _ (List.getElem_mem h)
    have Hdy : Hid (∀ k (h : k < ys.length), ys[k] < 4294967296) := fun k h => dy _ (List.getElem_mem h)
    have Hzl := Lib.hid hzl
    have Hl := Lib.hid hl
    have hle : xs.length ≤ ys.length := by omega
    have hle2 : ys.length ≤ xs.length := by omega
    have HA : Hid (xs ≠ [] → A = some ⟨gi, 0, none⟩) := hA
    have HA2 : Hid (xs ≠ [] → A2 = some ⟨gk, 0, none⟩) := hA2
    have t0 : ((c : Int) == 0) = false := by simp; omega
    obtain ⟨d, hd⟩ : ∃ d, d = p - c := ⟨_, rfl⟩
    have t1 : (p : Int) - (c : Int) = (d : Int) := by omega
    have hdl : d < 4294967296 := by omega
    have t2 : IntKind.u32.wrap (IntKind.u32.wrap (p : Int) - (c : Int)) = (d : Int) := by rw [IntKind.wrap_u32, IntKind.wrap_u32]; omega
    have hdl2 : d ≤ p := by omega
    have hbx : Blk (w.alloc (.cells #[.int .u64 (p : Int), .int .u64 (sp : Int)] 63 (0, 0))) w.heap.size 63 [.int .u64 (p : Int), .int .u64 (sp : Int)] := Blk.new_ rfl
    have hbk1 := hb1.heapAlloc (.cells #[.int .u64 (p : Int), .int .u64 (sp : Int)] 63 (0, 0))
    have hbk2 := hb2.heapAlloc (.cells #[.int .u64 (p : Int), .int .u64 (sp : Int)] 63 (0, 0))
    have hg1 := hb1.lt
    have hg2 := hb2.lt
    have Hd := Lib.hid hd
    clear hat hzs dx dy hzl hl hA hA2 hb1 hb2 hd
    go_enter Tryd.func63, Tryd.ntmps63
    go_wp2
    go_loopw [14] (fun iv wr => ∃ (k : Nat), k ≤ ys.length ∧ iv = .int .i64 (k : Int) ∧ Blk wr gi 28 (u32s (mix zs xs k) ++ rest) ∧ Blk wr gk 28 (u32s ys ++ rest2) ∧ Blk wr w.heap.size 63 [.int .u64 (p : Int), .int .u64 (sp : Int)] ∧ Tn gi w wr) (fun iv _ => ys.length - (intOf iv).toNat)
    case atStart => exact ⟨0, by omega, rfl, by rw [mix_zero]; exact hbk1, hbk2, hbx, htn0⟩
    case round =>
      clear hbk1 hbk2 hbx htn0
      obtain ⟨k, hk, rfl, hb1, hb2, hbx, htn⟩ := hrel
      by_cases hlt : k < ys.length
      · have hlx : k < xs.length := by omega
        have hne : xs ≠ [] := fun e => by rw [e] at hlx; simp at hlx
        have eA := HA.out hne
        have eA2 := HA2.out hne
        subst eA eA2
        have hmx : k < (mix zs xs k).length := by rw [mix_length Hzl.out]; exact hlx
        have c1 : wr.cell? ⟨gi, k, none⟩ = some (.int .u32 (xs[k] : Nat)) := by
          rw [hb1.cell, List.getElem?_append_left (by rw [u32s_length]; exact hmx), u32s_at hmx, mix_at Hzl.out hlx]
        have c2 : wr.cell? ⟨gk, k, none⟩ = some (.int .u32 (ys[k] : Nat)) := by
          rw [hb2.cell, List.getElem?_append_left (by rw [u32s_length]; exact hlt), u32s_at hlt]
        have c3 := hbx.cell 0
        have c4 := hbx.cell 1
        have f1 := hb1.frozen k
        have hxd := Hdx.out k hlx
        have hyd := Hdy.out k hlt
        have Hp := Lib.hid (fun W => plus_any p sp xs[k] ys[k] d W hp0 hp hxd hyd hdl)
        have hz : Hid (plusN p xs[k] ys[k] d = zs[k]'(by rw [Hzl.out]; exact hlx)) := by show _ = _; rw [Hat.out k hlx hlt, Hd.out]
        obtain ⟨v, hv⟩ : ∃ v, v = plusN p xs[k] ys[k] d := ⟨_, rfl⟩
        rw [← hv] at hz
        simp only [← hv] at Hp
        have hl1 := hb1.lt
        have hg2' := hb2.lt
        have hgx := hbx.lt
        clear hv hne
        go_upto_region 5 with (fail)
        go_region_with (go_at_call 41; (with_reducible refine (Hp.out _).mono ?_); rintro e w1 ⟨rfl, hq⟩; have hq1 : Below wr.heap.size wr w1 := (by first | exact hq | exact (Below.refl _ _).drew.trans hq); clear hq; have hc1 := (hq1.cell (p := ⟨gi, k, none⟩) hl1).trans c1; have hf1 := (hq1.frozen (p := ⟨gi, k, none⟩) hl1).trans f1)
        all_goals
          go_wp2_with fail
          go_roundw
          case rel =>
            refine ⟨k + 1, by omega, by go_num, ?_, (hb2.below hq1 hg2').far (p := ⟨gi, k, none⟩) hgn.symm _, (hbx.below hq1 hgx).far (p := ⟨gi, k, none⟩) (by simp; omega) _, (htn.trans (Tn.of_below hq1 (Nat.le_refl _))).setCell k _⟩
            have h7 := (hb1.below hq1 hl1).set_ k (.int .u32 (v : Int))
            rw [List.set_append_left _ _ (by rw [u32s_length]; exact hmx), u32s_set, hz.out, mix_set Hzl.out] at h7
            rw [hz.out]; exact h7
          case measure => simp [intOf]; omega
      · have hke : k = xs.length := by omega
        have t9 : ys.length ≤ k := by omega
        rw [hke, mix_all Hzl.out] at hb1
        clear hke
        go_wp2_with fail
        go_end0
        exact ⟨rfl, hb1, htn⟩
end
end Go.Proofs.YtecdjanopiibcaaDoor
