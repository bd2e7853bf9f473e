/- Is is right: what prime's Is and the reference's Is answer of every number below 2^32. Conditions: bases reads 2, 7, 61 (prime's). prime.Inv modulo a prime or none, and what the reference answers of sums, differences, products, powers, inverses. Conditions: p a prime, or none; bases reads 2, 7, 61. A drawn region whose head only reads and draws, in whatever order, and whose tail stands in one order: one walk serves. No conditions. The contracts of inverse, scaled, sum, difference. Conditions: p a prime below 2^32; bases reads 2, 7, 61. -/
import Derived.Test.YtddhhndnkjajmaaDoorPkMo3
import Derived.Test.YtddhhndnkjajmaaDoorPkMo11
import Derived.Deep.CutBlock
import Derived.RegionTactic
import Derived.Deep.QuietTactic
import Derived.BigQuiet
import Derived.WalkMore
import Derived.IntWalk
import Derived.Deep.DeepCutAuto
import Derived.StillTail
import Derived.StillTailTactics
import Derived.Deep.Quiet
import Derived.Test.YtddhhndnkjajmaaDoorPkMo1
namespace Go.Proofs.YtddhhndnkjajmaaDoor
section
open Go.RowKit

theorem Bases.drewN {w : World} (h : Bases w) (n : Nat) : Bases (w.drewN n) := h

/-- Is n a prime? -/
noncomputable def isP (n : Nat) : Bool := @decide (Pr n) (Classical.propDecidable _)
theorem isP_true {n : Nat} (h : Pr n) : isP n = true := by unfold isP; exact @decide_eq_true _ (Classical.propDecidable _) h
theorem isP_false {n : Nat} (h : ¬ Pr n) : isP n = false := by unfold isP; exact @decide_eq_false _ (Classical.propDecidable _) h
theorem isP_cases (n : Nat) : (Pr n ∧ isP n = true) ∨ (¬ Pr n ∧ isP n = false) := by
  by_cases h : Pr n
  · exact Or.inl ⟨h, isP_true h⟩
  · exact Or.inr ⟨h, isP_false h⟩

theorem Pr.of_none {n : Nat} (h2 : 2 ≤ n) (h : ∀ e, 2 ≤ e → e < n → n % e ≠ 0) : Pr n := ⟨h2, fun e he => by
  have hle := Nat.le_of_dvd (by omega) he
  have h0 : e ≠ 0 := fun h0 => by subst h0; have := Nat.eq_zero_of_zero_dvd he; omega
  rcases Nat.lt_or_ge e 2 with h3 | h3
  · exact Or.inl (by omega)
  · rcases Nat.lt_or_ge e n with h4 | h4
    · exact absurd (Nat.mod_eq_zero_of_dvd he) (h e h3 h4)
    · exact Or.inr (by omega)⟩
theorem Pr.none {n : Nat} (h : Pr n) (e : Nat) (h2 : 2 ≤ e) (hlt : e < n) : n % e ≠ 0 := fun h0 => by
  rcases h.2 e (Nat.dvd_of_mod_eq_zero h0) with h1 | h1 <;> omega
theorem pr_iff_least {n : Nat} : Pr n ↔ Least n n := ⟨fun h => ⟨h.1, Nat.mod_self n, fun e h1 h2 => h.none e h1 h2⟩, fun h => Pr.of_none h.1 fun e h1 h2 => h.2.2 e h1 h2⟩
theorem pr_two : Pr 2 := Pr.of_none (by omega) fun e h1 h2 => by omega
theorem pr_three : Pr 3 := Pr.of_none (by omega) fun e h1 h2 => by
  obtain rfl : e = 2 := by omega
  decide
theorem pr_seven : Pr 7 := Pr.of_none (by omega) fun e h1 h2 => (show ∀ e < 7, 2 ≤ e → 7 % e ≠ 0 by decide) e h2 h1
theorem pr_61 : Pr 61 := Pr.of_none (by omega) fun e h1 h2 => (show ∀ e < 61, 2 ≤ e → 61 % e ≠ 0 by decide) e h2 h1
theorem Pr.odd {n : Nat} (h : Pr n) (h2 : 2 < n) : n % 2 = 1 := by
  have := h.none 2 (by omega) h2
  omega

/-- What passes answers is right. -/
theorem isN_isP (n d s : Nat) (hn : n < 4294967296) (h : 4 ≤ n → n % 2 = 1 → n - 1 = d * 2 ^ s ∧ d % 2 = 1) : isN n d s = isP n := by
  unfold isN
  by_cases h4 : n < 4
  · rw [if_pos h4]
    rcases isP_cases n with ⟨hp, e⟩ | ⟨hp, e⟩
    · rw [e]; exact decide_eq_true hp.1
    · rw [e]
      refine decide_eq_false fun h1 => hp ?_
      rcases (show n = 2 ∨ n = 3 by omega) with rfl | rfl
      · exact pr_two
      · exact pr_three
  · rw [if_neg h4]
    by_cases h2 : n % 2 = 1
    · rw [if_pos h2]
      obtain ⟨hd, ho⟩ := h (by omega) h2
      rcases isP_cases n with ⟨hp, e⟩ | ⟨hp, e⟩
      · rw [e]
        have key : ∀ b, base1 n d s b = true := fun b => by
          unfold base1
          by_cases hb : b % n = 0
          · rw [if_pos hb]
          · rw [if_neg hb]
            exact hp.mr_passes (fun hx => hb (Nat.mod_eq_zero_of_dvd hx)) hd
        unfold passAll
        rw [key 2, key 7, key 61]; rfl
      · rw [e]
        refine Bool.eq_false_iff.2 fun hx => hp ?_
        unfold passAll at hx
        have h7 : n ≠ 7 := fun h7 => hp (h7 ▸ pr_seven)
        have h61 : n ≠ 61 := fun h61 => hp (h61 ▸ pr_61)
        have key : ∀ b, Pr b → n ≠ b → base1 n d s b = true → mr b n d s = true := fun b hb hne hx => by
          unfold base1 at hx
          rwa [if_neg] at hx
          intro h0
          rcases hb.2 n (Nat.dvd_of_mod_eq_zero h0) with e | e
          · omega
          · exact hne e
        cases e2 : base1 n d s 2 with
        | false => rw [e2] at hx; simp at hx
        | true =>
          cases e7 : base1 n d s 7 with
          | false => rw [e2, e7] at hx; simp at hx
          | true =>
            rw [e2, e7] at hx
            have e61 : base1 n d s 61 = true := by simpa using hx
            refine Passes.prime (fun d' s' hd' ho' => ?_) (by omega) h2 hn
            obtain ⟨rfl, rfl⟩ := split_unique ho' ho (hd'.symm.trans hd)
            exact ⟨key 2 pr_two (by omega) e2, key 7 pr_seven h7 e7, key 61 pr_61 h61 e61⟩
    · rw [if_neg h2, isP_false]
      intro hp
      exact h2 (hp.odd (by omega))

theorem is_all (n : Nat) (hn : n < 4294967296) (w : World) (hw : Bases w) :
    Calls Tryd.prog 75 #[.int .u32 (n : Int)] w fun e w' => e = .returned (.bool (isP n)) ∧ w' = w := by
  by_cases h : 4 ≤ n ∧ n % 2 = 1
  · obtain ⟨d, s, hd, ho⟩ := split_exists (n - 1) (by omega)
    have hs : s ≤ 32 := by
      rcases Nat.lt_or_ge s 33 with h1 | h1
      · omega
      · exfalso
        have h2 : 2 ^ 33 ≤ 2 ^ s := Nat.pow_le_pow_right (by omega) h1
        have h3 : 2 ^ s ≤ d * 2 ^ s := Nat.le_mul_of_pos_left _ (by omega)
        have h4 : (2 : Nat) ^ 33 = 8589934592 := by decide
        omega
    have := is_any n d s hn (fun _ _ => ⟨hd, ho, hs⟩) w hw
    rwa [isN_isP n d s hn fun _ _ => ⟨hd, ho⟩] at this
  · have := is_any n 0 0 hn (fun h1 h2 => absurd ⟨h1, h2⟩ h) w hw
    rwa [isN_isP n 0 0 hn fun h1 h2 => absurd ⟨h1, h2⟩ h] at this
theorem is_yes (n : Nat) (hp : Pr n) (hn : n < 4294967296) (w : World) (hw : Bases w) :
    Calls Tryd.prog 75 #[.int .u32 (n : Int)] w fun e w' => e = .returned (.bool true) ∧ w' = w := by
  have := is_all n hn w hw
  rwa [isP_true hp] at this
theorem is_no (n : Nat) (hp : ¬ Pr n) (hn : n < 4294967296) (w : World) (hw : Bases w) :
    Calls Tryd.prog 75 #[.int .u32 (n : Int)] w fun e w' => e = .returned (.bool false) ∧ w' = w := by
  have := is_all n hn w hw
  rwa [isP_false hp] at this

set_option maxHeartbeats 400000 in
theorem ris_all (n : Nat) (hn : n < 4294967296) (w : World) :
    Calls Tryd.prog 41 #[.int .u32 (n : Int)] w fun e w' => e = .returned (.bool (isP n)) ∧ w' = w := by
  by_cases h2 : 2 ≤ n
  · obtain ⟨m, hm⟩ := least_exists n h2
    have hl := fun W => least_any n m hn h2 hm W
    by_cases hmn : m = n
    · subst hmn
      have E := Lib.hid (isP_true (pr_iff_least.2 hm))
      have Hl := Lib.hid hl
      clear hl hm
      go_enter Tryd.func41, Tryd.ntmps41
      go_wp2_with fail
      refine (Hl.out _).mono ?_
      rintro _ _ ⟨rfl, rfl⟩
      go_wp2
      go_ret
      exact ⟨by rw [E.out]; simp, rfl⟩
    · have E := Lib.hid (isP_false fun h => hmn (hm.unique (pr_iff_least.1 h)))
      have Hl := Lib.hid hl
      have t1 : ((m : Int) == (n : Int)) = false := by simp; omega
      clear hl hm
      go_enter Tryd.func41, Tryd.ntmps41
      go_wp2_with fail
      refine (Hl.out _).mono ?_
      rintro _ _ ⟨rfl, rfl⟩
      go_wp2
      go_ret
      exact ⟨by rw [E.out]; rfl, rfl⟩
  · have E := Lib.hid (isP_false fun h : Pr n => h2 h.1)
    go_enter Tryd.func41, Tryd.ntmps41
    go_wp2
    go_ret
    exact ⟨by rw [E.out]; simp, rfl⟩
theorem ris_yes (n : Nat) (hp : Pr n) (hn : n < 4294967296) (w : World) :
    Calls Tryd.prog 41 #[.int .u32 (n : Int)] w fun e w' => e = .returned (.bool true) ∧ w' = w := by
  have := ris_all n hn w
  rwa [isP_true hp] at this
theorem ris_no (n : Nat) (hp : ¬ Pr n) (hn : n < 4294967296) (w : World) :
    Calls Tryd.prog 41 #[.int .u32 (n : Int)] w fun e w' => e = .returned (.bool false) ∧ w' = w := by
  have := ris_all n hn w
  rwa [isP_false hp] at this
end
section
open Go.RowKit

theorem add_lt (a b p : Nat) (hp : 0 < p) : (a + b) % p < p := Nat.mod_lt _ hp
theorem cast_mod (a p : Nat) : ((a : Int) % (p : Int)) = ((a % p : Nat) : Int) := (Int.natCast_emod a p).symm
set_option maxHeartbeats 400000 in
theorem radd_any (a b p : Nat) (ha : a < 4294967296) (hb : b < 4294967296) (hp : p < 4294967296) (hp0 : 0 < p) (w : World) :
    Calls Tryd.prog 47 #[.int .u32 (a : Int), .int .u32 (b : Int), .int .u32 (p : Int)] w fun r w' => r = .returned (.int .u32 (((a + b) % p : Nat) : Int)) ∧ w' = w := by
  have hx := add_lt a b p hp0
  have t1 : ((a : Int) + (b : Int)) % (p : Int) = (((a + b) % p : Nat) : Int) := by rw [← cast_mod]; rfl
  obtain ⟨x, hxe⟩ : ∃ x, x = (a + b) % p := ⟨_, rfl⟩
  rw [← hxe] at hx t1 ⊢
  clear hxe
  have t2 : ((p : Int) == 0) = false := by simp; omega
  go_enter Tryd.func47, Tryd.ntmps47
  go_wp2
  go_ret
  exact ⟨rfl, rfl⟩
theorem sub_alike (a b p : Nat) (hp0 : 0 < p) : (a % p + p - b % p) % p = (a + (p - b % p)) % p := by
  have hb : b % p < p := Nat.mod_lt _ hp0
  rw [show a % p + p - b % p = a % p + (p - b % p) from by omega, Nat.mod_add_mod]
set_option maxHeartbeats 400000 in
theorem rsub_any (a b p : Nat) (ha : a < 4294967296) (hb : b < 4294967296) (hp : p < 4294967296) (hp0 : 0 < p) (w : World) :
    Calls Tryd.prog 74 #[.int .u32 (a : Int), .int .u32 (b : Int), .int .u32 (p : Int)] w fun r w' => r = .returned (.int .u32 (((a + (p - b % p)) % p : Nat) : Int)) ∧ Dr w w' := by
  have hx := add_lt a (p - b % p) p hp0
  rw [← sub_alike a b p hp0] at hx ⊢
  have hc : b % p < p := Nat.mod_lt _ hp0
  have hd : a % p < p := Nat.mod_lt _ hp0
  have t0 : (b : Int) % (p : Int) = ((b % p : Nat) : Int) := cast_mod b p
  have t3 : (a : Int) % (p : Int) = ((a % p : Nat) : Int) := cast_mod a p
  obtain ⟨c, hce⟩ : ∃ c, c = b % p := ⟨_, rfl⟩
  obtain ⟨d, hde⟩ : ∃ d, d = a % p := ⟨_, rfl⟩
  rw [← hce] at hc t0 ⊢
  rw [← hde] at hd t3 ⊢
  rw [← hce, ← hde] at hx
  clear hce hde
  have t1 : ((d : Int) + (p : Int) - (c : Int)) % (p : Int) = (((d + p - c) % p : Nat) : Int) := by
    rw [← cast_mod]; congr 1; omega
  obtain ⟨x, hxe⟩ : ∃ x, x = (d + p - c) % p := ⟨_, rfl⟩
  rw [← hxe] at hx t1 ⊢
  clear hxe
  have t2 : ((p : Int) == 0) = false := by simp; omega
  go_enter Tryd.func74, Tryd.ntmps74
  go_wp2
  go_quiet (fail)
  go_wp2
  go_ret
  exact ⟨rfl, (Dr.refl _).step _⟩
set_option maxHeartbeats 400000 in
theorem rmul_any (a b p : Nat) (ha : a < 4294967296) (hb : b < 4294967296) (hp : p < 4294967296) (hp0 : 0 < p) (w : World) :
    Calls Tryd.prog 56 #[.int .u32 (a : Int), .int .u32 (b : Int), .int .u32 (p : Int)] w fun r w' => r = .returned (.int .u32 ((a * b % p : Nat) : Int)) ∧ w' = w := by
  have hab : a * b ≤ 4294967295 * 4294967295 := Nat.mul_le_mul (by omega) (by omega)
  have hm : a * b % p < p := Nat.mod_lt _ hp0
  obtain ⟨m, hme⟩ : ∃ m, m = a * b := ⟨_, rfl⟩
  have t1 : IntKind.u64.wrap ((a : Int) * (b : Int)) = (m : Int) := by
    rw [IntKind.wrap_u64, ← Int.natCast_mul, ← hme]; omega
  have t2 : ((p : Int) == 0) = false := by simp; omega
  have t3 : (m : Int) % (p : Int) = ((m % p : Nat) : Int) := cast_mod m p
  rw [← hme] at hm ⊢
  obtain ⟨x, hxe⟩ : ∃ x, x = m % p := ⟨_, rfl⟩
  rw [← hxe] at hm t3 ⊢
  clear hme hxe
  go_enter Tryd.func56, Tryd.ntmps56
  go_wp2
  go_ret
  exact ⟨rfl, rfl⟩
/-- One round of the reference's Pow. -/
theorem pow_round (a e p : Nat) : (a * a % p) ^ (e / 2) % p = (a ^ 2) ^ (e / 2) % p := by rw [← Nat.pow_mod, Nat.pow_two]
theorem rpow_step (o a e p : Nat) : (if e % 2 = 1 then o * a % p else o) * (a * a % p) ^ (e / 2) % p = o * a ^ e % p := by
  have h1 : a ^ e = (a ^ 2) ^ (e / 2) * a ^ (e % 2) := by
    rw [← Nat.pow_mul, ← Nat.pow_add]; congr 1; omega
  rw [Nat.mul_mod, pow_round, ← Nat.mul_mod]
  by_cases hc : e % 2 = 1
  · rw [if_pos hc, h1, hc, Nat.pow_one, Nat.mod_mul_mod]; congr 1; ac_rfl
  · rw [if_neg hc, h1, show e % 2 = 0 from by omega, Nat.pow_zero, Nat.mul_one]
set_option maxHeartbeats 800000 in
theorem rpow_any (a e p : Nat) (ha : a < 4294967296) (he : e < 18446744073709551616) (hp : p < 4294967296) (hp0 : 0 < p) (w : World) :
    Calls Tryd.prog 79 #[.int .u32 (a : Int), .int .u64 (e : Int), .int .u32 (p : Int)] w fun r w' => r = .returned (.int .u32 ((a ^ e % p : Nat) : Int)) ∧ w' = w := by
  have t2 : ((p : Int) == 0) = false := by simp; omega
  have t3 : (1 : Int) % (p : Int) = ((1 % p : Nat) : Int) := cast_mod 1 p
  have h1 : 1 % p < p := Nat.mod_lt _ hp0
  obtain ⟨R, hR⟩ : ∃ R, R = a ^ e % p := ⟨_, rfl⟩
  have hs : 1 % p * a ^ e % p = R := by rw [Nat.mod_mul_mod, Nat.one_mul, hR]
  obtain ⟨o1, ho1⟩ : ∃ o1, o1 = 1 % p := ⟨_, rfl⟩
  rw [← ho1] at t3 h1 hs
  have T3 := Lib.hid t3
  clear t3
  rw [← hR]
  have Hs := Lib.hid hs
  clear hR hs ho1
  go_enter Tryd.func79, Tryd.ntmps79
  go_wp2
  go_loop [0, 1, 7] (fun av ev ov => ∃ (x k o : Nat), av = .int .u32 (x : Int) ∧ ev = .int .u64 (k : Int) ∧ ov = .int .u32 (o : Int) ∧ x < 4294967296 ∧ k < 18446744073709551616 ∧ o < p ∧ o * x ^ k % p = R) (fun _ ev _ => (intOf ev).toNat)
  case atStart => exact ⟨a, e, o1, rfl, rfl, by rw [T3.out], ha, he, h1, Hs.out⟩
  case round =>
    obtain ⟨x, k, o, rfl, rfl, rfl, hx, hk, ho, hrel⟩ := hrel
    by_cases hk0 : k = 0
    · subst hk0
      have : o = R := by rw [← hrel, Nat.pow_zero, Nat.mul_one, Nat.mod_eq_of_lt ho]
      subst this
      clear hrel
      go_wp2
      go_ret
      exact ⟨rfl, rfl⟩
    · have hst := rpow_step o x k p
      rw [hrel] at hst
      have hxx : x * x % p < p := Nat.mod_lt _ hp0
      have hox : o * x % p < p := Nat.mod_lt _ hp0
      obtain ⟨xx, hxe⟩ : ∃ xx, xx = x * x % p := ⟨_, rfl⟩
      obtain ⟨ox, hoe⟩ : ∃ ox, ox = o * x % p := ⟨_, rfl⟩
      have Hxx := Lib.hid (fun W => hxe ▸ rmul_any x x p hx hx hp hp0 W)
      have Hox := Lib.hid (fun W => hoe ▸ rmul_any o x p (by omega) hx hp hp0 W)
      rw [← hxe] at hst hxx
      rw [← hoe] at hst hox
      obtain ⟨d, hd⟩ : ∃ d, d = k / 2 := ⟨_, rfl⟩
      have t4 : (k : Int) / 2 = (d : Int) := by omega
      rw [← hd] at hst
      have hdk : d < k := by omega
      have hk1 : 0 < k := by omega
      clear hrel hxe hoe hd hk0
      by_cases hc : k % 2 = 1
      · rw [if_pos hc] at hst
        have Hst := Lib.hid hst
        have t5 : ((k : Int) % 2 == 1) = true := by simp; omega
        clear hst hc
        go_wp2_with fail
        refine (Hox.out _).mono ?_
        rintro _ _ ⟨rfl, rfl⟩
        go_wp2_with fail
        refine (Hxx.out _).mono ?_
        rintro _ _ ⟨rfl, rfl⟩
        go_wp2
        go_round
        case rel => exact ⟨xx, d, ox, rfl, rfl, rfl, by omega, by omega, hox, Hst.out⟩
        case measure => simp [intOf]; omega
      · rw [if_neg hc] at hst
        have Hst := Lib.hid hst
        have t5 : ((k : Int) % 2 == 1) = false := by simp; omega
        clear hst hc
        go_wp2_with fail
        refine (Hxx.out _).mono ?_
        rintro _ _ ⟨rfl, rfl⟩
        go_wp2
        go_round
        case rel => exact ⟨xx, d, o, rfl, rfl, rfl, by omega, by omega, ho, Hst.out⟩
        case measure => simp [intOf]; omega
set_option maxHeartbeats 400000 in
theorem rinv_any (a p : Nat) (ha : a < 4294967296) (hp : p < 4294967296) (hp1 : 1 < p) (w : World) :
    Calls Tryd.prog 57 #[.int .u32 (a : Int), .int .u32 (p : Int)] w fun r w' => r = .returned (.int .u32 ((a ^ (p - 2) % p : Nat) : Int)) ∧ w' = w := by
  obtain ⟨e, he⟩ : ∃ e, e = p - 2 := ⟨_, rfl⟩
  have H := Lib.hid (fun W => rpow_any a e p ha (by omega) hp (by omega) W)
  have t1 : (p : Int) - 2 = (e : Int) := by omega
  rw [← he]
  clear he
  go_enter Tryd.func57, Tryd.ntmps57
  go_wp2_with fail
  refine (H.out _).mono ?_
  rintro _ _ ⟨rfl, rfl⟩
  go_wp2
  go_ret
  exact ⟨rfl, rfl⟩

theorem Pr.inv_right {p a : Nat} (hp : Pr p) (ha : ¬ p ∣ a) : a * (a ^ (p - 2) % p) % p = 1 := by
  have h2 := hp.1
  rw [Nat.mul_mod_mod, ← hp.fermat ha]
  congr 1
  rw [Nat.mul_comm, ← Nat.pow_succ]
  congr 1; omega
theorem inv_unique {p a u v : Nat} (hu : a * u % p = 1) (hv : a * v % p = 1) (hlt : v < p) (hul : u < p) : v = u := by
  have h1 : v * (a * u) % p = v := by rw [Nat.mul_mod, hu, Nat.mul_one, Nat.mod_mod, Nat.mod_eq_of_lt hlt]
  have h2 : u * (a * v) % p = u := by rw [Nat.mul_mod, hv, Nat.mul_one, Nat.mod_mod, Nat.mod_eq_of_lt hul]
  exact h1.symm.trans ((congrArg (· % p) (show v * (a * u) = u * (a * v) from by ac_rfl)).trans h2)

/-- What Euclid's steps keep. -/
def Eu (a p r s X Y : Nat) (x y : Int) : Prop :=
  s < r ∧ 1 ≤ s ∧ Nat.gcd r s = 1 ∧ Y * r + X * s = p ∧ ((x = -(X : Int) ∧ y = (Y : Int)) ∨ (x = (X : Int) ∧ y = -(Y : Int))) ∧ (∃ k : Int, (a : Int) * x = r + k * p) ∧ (∃ k : Int, (a : Int) * y = s + k * p)
theorem Eu.start {a p : Nat} (hp : Pr p) (ha : 0 < a) (hap : a < p) : Eu a p p a 0 1 0 1 :=
  ⟨hap, ha, hp.gcd (hp.not_dvd_lt ha hap), by simp, Or.inl ⟨rfl, rfl⟩, ⟨-1, by omega⟩, ⟨0, by omega⟩⟩
theorem Eu.step {a p r s X Y : Nat} {x y : Int} (h : Eu a p r s X Y x y) (hs : s ≠ 1) : Eu a p s (r % s) Y (X + r / s * Y) y (x - ((r / s : Nat) : Int) * y) := by
  obtain ⟨h1, h2, h3, h4, h5, ⟨k, h6⟩, ⟨j, h7⟩⟩ := h
  have hdm := Nat.div_add_mod r s
  have hg : Nat.gcd s (r % s) = 1 := by rw [Nat.gcd_comm, ← Nat.gcd_rec, Nat.gcd_comm]; exact h3
  have hm0 : r % s ≠ 0 := fun h0 => by rw [h0, Nat.gcd_zero_right] at hg; exact hs hg
  have hrI : (r : Int) = s * ((r / s : Nat) : Int) + ((r % s : Nat) : Int) := by rw [← Int.natCast_mul, ← Int.natCast_add, hdm]
  refine ⟨Nat.mod_lt _ (by omega), by omega, hg, ?_, ?_, ⟨j, h7⟩, ⟨k - ((r / s : Nat) : Int) * j, ?_⟩⟩
  · generalize r / s = q at hdm
    generalize r % s = m at hdm
    rw [← h4, ← hdm, Nat.add_mul, Nat.mul_add]
    rw [show q * Y * s = Y * (s * q) from by ac_rfl]
    omega
  · rcases h5 with ⟨rfl, rfl⟩ | ⟨rfl, rfl⟩
    · refine Or.inr ⟨rfl, ?_⟩
      rw [Int.natCast_add, Int.natCast_mul]; omega
    · refine Or.inl ⟨rfl, ?_⟩
      rw [Int.natCast_add, Int.natCast_mul, Int.mul_neg]; omega
  · generalize ((r / s : Nat) : Int) = q at hrI
    generalize ((r % s : Nat) : Int) = m at hrI
    rw [Int.mul_sub, h6, show (a : Int) * (q * y) = q * (a * y) from by ac_rfl, h7, hrI, Int.sub_mul, Int.mul_add, show q * (s : Int) = s * q from Int.mul_comm _ _, Int.mul_assoc]
    omega
theorem Eu.bounds {a p r s X Y : Nat} {x y : Int} (h : Eu a p r s X Y x y) : -(p : Int) ≤ x ∧ x ≤ p ∧ -(p : Int) ≤ y ∧ y ≤ p ∧ r ≤ p + r := by
  obtain ⟨h1, h2, h3, h4, h5, _, _⟩ := h
  have a1 : Y ≤ Y * r := Nat.le_mul_of_pos_right _ (by omega)
  have a2 : X ≤ X * s := Nat.le_mul_of_pos_right _ (by omega)
  rcases h5 with ⟨rfl, rfl⟩ | ⟨rfl, rfl⟩ <;> omega
theorem Eu.last {a p r X Y : Nat} {x y : Int} (h : Eu a p r 1 X Y x y) (hp : Pr p) (ha : ¬ p ∣ a) :
    (0 ≤ y → y = ((a ^ (p - 2) % p : Nat) : Int)) ∧ (y < 0 → y + p = ((a ^ (p - 2) % p : Nat) : Int)) := by
  have h2 := hp.1
  obtain ⟨h1, _, h3, h4, h5, _, ⟨j, h7⟩⟩ := h
  have hY : Y * 2 ≤ Y * r := Nat.mul_le_mul_left _ (by omega)
  have hYp : Y < p := by omega
  have hl : a ^ (p - 2) % p < p := Nat.mod_lt _ hp.pos
  have key : ∀ (v : Nat) (c : Int), (v : Int) = y + c * p → v < p → v = a ^ (p - 2) % p := fun v c hv hvp => by
    refine inv_unique (hp.inv_right ha) ?_ hvp hl
    have : ((a * v : Nat) : Int) = 1 + (j + a * c) * p := by
      rw [Int.natCast_mul, hv, Int.mul_add, h7, Int.add_mul, Int.mul_assoc]; omega
    have h8 : ((a * v % p : Nat) : Int) = 1 := by
      rw [Int.natCast_emod, this, Int.add_mul_emod_self_right, Int.emod_eq_of_lt (by omega) (by omega)]
    omega
  refine ⟨fun hy => ?_, fun hy => ?_⟩
  · have : y.toNat = a ^ (p - 2) % p := key y.toNat 0 (by omega) (by omega)
    omega
  · have : (y + p).toNat = a ^ (p - 2) % p := key (y + p).toNat 1 (by omega) (by omega)
    omega

set_option maxHeartbeats 1600000 in
theorem inverse_any (a p : Nat) (hp : Pr p) (ha0 : 0 < a) (hap : a < p) (hlt : p < 4294967296) (w : World) :
    Calls Tryd.prog 87 #[.int .u32 (a : Int), .int .u32 (p : Int)] w fun r w' => r = .returned (.int .u32 ((a ^ (p - 2) % p : Nat) : Int)) ∧ w' = w := by
  have hl : a ^ (p - 2) % p < p := Nat.mod_lt _ hp.pos
  have Hst := Lib.hid (Eu.start hp ha0 hap)
  have Hend := Lib.hid (fun (r X Y : Nat) (x y : Int) (h : Eu a p r 1 X Y x y) => h.last hp (hp.not_dvd_lt ha0 hap))
  obtain ⟨V, hV⟩ : ∃ V, V = a ^ (p - 2) % p := ⟨_, rfl⟩
  rw [← hV] at hl Hend ⊢
  have hp2 := hp.1
  clear hV hp
  go_enter Tryd.func87, Tryd.ntmps87
  go_wp2
  go_step3
  go_wp2
  go_step3
  go_wp2
  go_loop [5, 6, 7, 8] (fun rv sv xv yv => ∃ (r s X Y : Nat) (x y : Int), rv = .int .i64 (r : Int) ∧ sv = .int .i64 (s : Int) ∧ xv = .int .i64 x ∧ yv = .int .i64 y ∧ r ≤ p ∧ Eu a p r s X Y x y) (fun _ sv _ _ => (intOf sv).toNat)
  case atStart => exact ⟨p, a, 0, 1, 0, 1, rfl, rfl, rfl, rfl, Nat.le_refl _, Hst.out⟩
  case round =>
    obtain ⟨r, s, X, Y, x, y, rfl, rfl, rfl, rfl, hr, hrel⟩ := hrel
    obtain ⟨b1, b2, b3, b4, _⟩ := hrel.bounds
    have hs1 := hrel.2.1
    have hsr := hrel.1
    by_cases hs : s = 1
    · subst hs
      obtain ⟨e1, e2⟩ := Hend.out _ _ _ _ _ hrel
      clear hrel
      by_cases hy : y < 0
      · have e := e2 hy
        have t1 : decide (y < 0) = true := by simpa using hy
        clear e1 e2
        go_wp2
        go_ret
        exact ⟨rfl, rfl⟩
      · obtain rfl := e1 (by omega)
        have t1 : decide ((V : Int) < 0) = false := by simp
        clear e2
        go_wp2
        go_ret
        exact ⟨rfl, rfl⟩
    · have hst := hrel.step hs
      obtain ⟨_, _, c3, c4, _⟩ := hst.bounds
      have Hst2 := Lib.hid hst
      obtain ⟨q, hq⟩ : ∃ q, q = r / s := ⟨_, rfl⟩
      obtain ⟨m, hm⟩ : ∃ m, m = r % s := ⟨_, rfl⟩
      have hdm := Nat.div_add_mod r s
      rw [← hq, ← hm] at hdm Hst2
      rw [← hq] at c3 c4
      have hms : m < s := by rw [hm]; exact Nat.mod_lt _ (by omega)
      obtain ⟨z, hz⟩ : ∃ z, z = (q : Int) * y := ⟨_, rfl⟩
      rw [← hz] at c3 c4 Hst2
      obtain ⟨u, hu⟩ : ∃ u, u = s * q := ⟨_, rfl⟩
      rw [← hu] at hdm
      have t0 : ((s : Int) == 1) = false := by simp; omega
      have t1 : ((s : Int) == 0) = false := by simp; omega
      have t2 : (r : Int) / (s : Int) = (q : Int) := by rw [hq]; rfl
      have hqr : q ≤ r := by rw [hq]; exact Nat.div_le_self r s
      have t3 : wrap64 ((q : Int) * (s : Int)) = (u : Int) := by
        rw [show (q : Int) * (s : Int) = (u : Int) from by rw [hu, Int.natCast_mul, Int.mul_comm]]
        exact IntWalk.wrap64_in _ (by omega)
      have t4 : wrap64 ((q : Int) * y) = z := by
        rw [← hz]; exact IntWalk.wrap64_in _ (by omega)
      have t5 : (r : Int) - (u : Int) = (m : Int) := by omega
      clear hrel hst hs hq hm hz hu Hend hdm
      go_wp2
      go_round
      case rel => exact ⟨s, m, Y, X + q * Y, y, x - z, rfl, rfl, rfl, rfl, by omega, Hst2.out⟩
      case measure => simp [intOf]; omega

set_option maxHeartbeats 800000 in
theorem pquo_yes (a b p : Nat) (ha : a < 4294967296) (hp : Pr p) (hlt : p < 4294967296) (h0 : b % p ≠ 0) (w : World) (hw : Bases w) :
    Calls Tryd.prog 71 #[.int .u32 (a : Int), .int .u32 (b : Int), .int .u32 (p : Int)] w fun r w' => r = .returned (.tuple #[.int .u32 ((a * (b ^ (p - 2) % p) % p : Nat) : Int), .int .i64 0]) ∧ w' = w := by
  have Hw := Lib.hid hw
  have Hi := Lib.hid (fun W hW => is_yes p hp hlt W hW)
  have hp2 := hp.1
  have hbp : b % p < p := Nat.mod_lt _ hp.pos
  have hinv := fun W => inverse_any (b % p) p hp (by omega) hbp hlt W
  have hl : b ^ (p - 2) % p < p := Nat.mod_lt _ hp.pos
  rw [← Nat.pow_mod] at hinv
  have ht := fun W => times_any a (b ^ (p - 2) % p) p W ha (by omega) hlt hp.pos
  have t0 : (b : Int) % (p : Int) = ((b % p : Nat) : Int) := cast_mod b p
  obtain ⟨c, hc⟩ : ∃ c, c = b % p := ⟨_, rfl⟩
  obtain ⟨v, hv⟩ : ∃ v, v = b ^ (p - 2) % p := ⟨_, rfl⟩
  rw [← hc] at t0 h0 hbp
  simp only [← hc, ← hv] at hinv
  simp only [← hv] at ht
  rw [← hv] at hl ⊢
  have Hinv := Lib.hid hinv
  have Ht := Lib.hid ht
  have t1 : ((p : Int) == 0) = false := by simp; omega
  have t2 : ((c : Int) == 0) = false := by simp; omega
  clear hw hp hc hv hinv ht
  go_enter Tryd.func71, Tryd.ntmps71
  go_wp2_with fail
  refine (Hi.out _ Hw.out).mono ?_
  rintro _ _ ⟨rfl, rfl⟩
  go_wp2_with fail
  refine (Hinv.out _).mono ?_
  rintro _ _ ⟨rfl, rfl⟩
  go_wp2_with fail
  refine (Ht.out _).mono ?_
  rintro _ _ ⟨rfl, rfl⟩
  go_wp2
  go_ret2
  exact ⟨rfl, rfl⟩
set_option maxHeartbeats 400000 in
theorem pinv_yes (b p : Nat) (hp : Pr p) (hlt : p < 4294967296) (h0 : b % p ≠ 0) (w : World) (hw : Bases w) :
    Calls Tryd.prog 100 #[.int .u32 (b : Int), .int .u32 (p : Int)] w fun r w' => r = .returned (.tuple #[.int .u32 ((b ^ (p - 2) % p : Nat) : Int), .int .i64 0]) ∧ w' = w := by
  have h := fun W hW => pquo_yes 1 b p (by omega) hp hlt h0 W hW
  simp only [Nat.one_mul, Nat.mod_mod] at h
  have H := Lib.hid h
  have Hw := Lib.hid hw
  clear hw hp h0 h
  go_enter Tryd.func100, Tryd.ntmps100
  go_wp2_with fail
  refine (H.out _ Hw.out).mono ?_
  rintro _ _ ⟨rfl, rfl⟩
  go_wp2
  go_ret2
  exact ⟨rfl, rfl⟩
end
section
open Go

/-- Whatever order the head comes up in; L holds behind it. -/
def HeadQ (P : Program) (md : Region.Mode) (ops : Array Oper) (C : World → Prop) (n : Nat) (L : Array Bool → Act → Prop) : Nat → Array Bool → Act → Prop
  | 0, ls, a => L ls a
  | f + 1, ls, a => Region.ready md ops ls ≠ [] ∧ ∀ i ∈ Region.ready md ops ls, i < n ∧ qOp P ops C i (HeadQ P md ops C n L f (ls.setIfInBounds i true)) a

section
variable {P : Program} {md : Region.Mode} {ops : Array Oper} {C : World → Prop} {n : Nat}

theorem HeadQ.any {g : Nat} {L : Array Bool → Act → Prop} {Q : Exit → Act → World → Prop} (hL : ∀ ls a W, C W → L ls a → wpAny P md ops Q g ls a W) :
    ∀ f ls a W, C W → HeadQ P md ops C n L f ls a → wpAny P md ops Q (f + g) ls a W
  | 0, ls, a, W, hW, h => by rw [Nat.zero_add]; exact hL ls a W hW h
  | f + 1, ls, a, W, hW, h => by
    rw [show f + 1 + g = (f + g) + 1 from by omega]
    exact ⟨fun h0 => absurd h0 h.1, fun i hi => wpOp_of_qOp hW (fun a' W' hW' h' => HeadQ.any hL f _ a' W' hW' h') (h.2 i hi).2⟩

theorem HeadQ.first {i : Nat} {o : Oper} {v : Value} {L : Array Bool → Act → Prop} (ho : ops[i]? = some o) (hsel : Region.noSelect ops = true)
    (hs : Region.sinkB md ops n = true) (hc : Region.chainB md ops n = true) (hn : n < ops.size) (hin : i < n) (hend : ∀ ls a, L ls a → ∀ j ∈ Region.ready md ops ls, n ≤ j) :
    ∀ f ls a, HeadInv md ops n ls → (∀ j oj, ops[j]? = some oj → j ≠ i → ls.getD j true = false → (∀ e ∈ oj.after, Region.binds md e = true → e.on ≠ i) → o.apart ops oj = true) →
      i ∈ Region.ready md ops ls → YieldsIn P ops C o v a → HeadQ P md ops C n L f (ls.setIfInBounds i true) (a.put o.dst v) → HeadQ P md ops C n L (f + 1) ls a := by
  intro f
  induction f with
  | zero =>
    intro ls a inv _ hr hy H
    have hun := (mem_ready.1 hr).1
    refine ⟨fun h => (by rw [h] at hr; cases hr), fun j hj => ?_⟩
    have hjn : j < n := (Nat.lt_or_ge j n).resolve_right fun h => absurd hj (tail_waits hs hc hn inv _ i rfl hin hun j h)
    refine ⟨hjn, ?_⟩
    by_cases hji : j = i
    · subst hji; exact hy.qOp ho H
    · exact absurd (hend _ _ H j (ready_mono hj hji)) (by omega)
  | succ f ih =>
    intro ls a inv hfree hr hy H
    have hun := (mem_ready.1 hr).1
    refine ⟨fun h => (by rw [h] at hr; cases hr), fun j hj => ?_⟩
    have hjn : j < n := (Nat.lt_or_ge j n).resolve_right fun h => absurd hj (tail_waits hs hc hn inv _ i rfl hin hun j h)
    refine ⟨hjn, ?_⟩
    by_cases hji : j = i
    · subst hji; exact hy.qOp ho H
    · have h1 := (H.2 j (ready_mono hj hji)).2
      obtain ⟨hjun, oj, hoj, hall⟩ := mem_ready.1 hj
      have hno : ∀ e ∈ oj.after, Region.binds md e = true → e.on ≠ i := fun e he hb heq => by
        have h2 := hall e he hb
        rw [heq, getD_both hun] at h2
        cases h2
      have h2 := qOp_put hoj (hfree j oj hoj hji hjun hno) (fun cs b => Region.noSelect_spec hsel i o cs b ho) (fun cs b => Region.noSelect_spec hsel j oj cs b hoj) hy h1
      refine qOp_mono (fun a' h3 => ih (ls.setIfInBounds j true) a' (inv.set hj hjn) (fun k ok hk hki hku hkn => hfree k ok hk hki ?_ hkn) (ready_mono hr (Ne.symm hji)) h3.1 ?_) h2
      · by_cases hjk : j = k
        · subst hjk; exact hjun
        · rw [getD_set_ne true hjk] at hku; exact hku
      · rw [Array.setIfInBounds_comm _ _ hji]; exact h3.2

theorem HeadQ.lex {g : Nat} {Lq : Act → Prop} (hsel : Region.noSelect ops = true) (hs : Region.sinkB md ops n = true) (hc : Region.chainB md ops n = true) (hn : n < ops.size) :
    ∀ (l : List Oper) k ls a, (∀ j, j < l.length → l[j]? = ops[k + j]?) → k + l.length = n → HeadInv md ops n ls → Region.lexHead md ops g l.length k ls = true → wpQuiet P ops C Lq l a →
      HeadQ P md ops C n (fun ls' a' => Region.seqB md ops g n ls' = true ∧ Lq a') l.length ls a
  | [], k, ls, a, _, hk, _, hB, h => by
    obtain rfl : k = n := by simpa using hk
    exact ⟨by simpa [Region.lexHead] using hB, h⟩
  | o :: l, k, ls, a, hl, hk, inv, hB, h => by
    have h0 : ops[k]? = some o := by simpa using (hl 0 (by simp)).symm
    simp only [List.length_cons, Region.lexHead, Bool.and_eq_true] at hB
    obtain ⟨⟨hr, hf⟩, hB'⟩ := hB
    have hkn : k < n := by simp only [List.length_cons] at hk; omega
    have hr' : k ∈ Region.ready md ops ls := by simpa using hr
    have hq : qOp P ops C k (wpQuiet P ops C Lq l) a := by unfold qOp; simp only [h0]; exact h
    obtain ⟨v, hy, hK⟩ := yieldsIn_of_qOp h0 hq
    refine HeadQ.first h0 hsel hs hc hn hkn (fun ls' a' hL => seqB_ready hL.1) l.length ls a inv (Region.free_spec h0 hf) hr' hy ?_
    exact HeadQ.lex hsel hs hc hn l (k + 1) _ _ (fun j hj => by have := hl (j + 1) (by simp; omega); simpa [Nat.add_assoc, Nat.add_comm 1 j] using this) (by simp only [List.length_cons] at hk; omega) (inv.set hr' hkn) hB' hK
end

/-- The class of worlds is any: each operation of the head is quiet in it; the tail is walked from any world of it. -/
theorem region_class_tail {P : Program} {C : World → Prop} {id : Nat} {Q : Exit → Act → World → Prop} {a : Act} {w : World} {l : List Oper} (n : Nat) (hm : P.follows .mixedOrders = true) (hB : Region.lexTailB .any l.toArray n = true) (hC : C (w.drewN 1))
    (h : wpQuiet P l.toArray C (fun a' => ∀ w', C w' → wpList P l.toArray Q (l.drop n) a' w') (l.take n) a) : (Code.region id l.toArray true).wp P Q a w := by
  simp only [Region.lexTailB, Bool.and_eq_true, decide_eq_true_eq] at hB
  obtain ⟨⟨⟨⟨hsel, hn⟩, hs⟩, hc⟩, hlex⟩ := hB
  have hn' : n < l.length := by simpa using hn
  have htl : (l.take n).length = n := by rw [List.length_take]; omega
  have hdl : (l.drop n).length = l.toArray.size - n := by simp
  have inv0 : HeadInv .any l.toArray n (Array.replicate l.toArray.size false) :=
    ⟨by simp, fun j oj _ hl => (by rw [getD_replicate_false] at hl; cases hl), fun t _ ht => getD_in (by simpa using ht) (getD_replicate_false _ _)⟩
  have H := HeadQ.lex (md := .any) (g := l.toArray.size - n) hsel hs hc hn (l.take n) 0 _ a (fun j hj => by
    have hj' : j < n := by rw [htl] at hj; exact hj
    simp [hj']) (by simpa using htl) inv0 (by rw [htl]; exact hlex) h
  refine wp_region_any hm ?_
  have hfin := HeadQ.any (Q := Q) (g := l.toArray.size - n) (fun ls a' W hW hL => by
    have h1 := wpAny_of_seq (md := .any) (Q' := Q) (l.drop n) n ls a' W (fun j => by simp [List.getElem?_drop]) (by rw [hdl]; exact hL.1) (hL.2 W hW)
    rwa [hdl] at h1) _ _ _ (w.drewN 1) hC H
  rw [htl, show n + (l.toArray.size - n) = l.toArray.size from by omega] at hfin
  exact hfin

/-- At the class 'some draws behind w'. -/
theorem region_quiet_tail {P : Program} {id : Nat} {Q : Exit → Act → World → Prop} {a : Act} {w : World} {l : List Oper} (n : Nat) (hm : P.follows .mixedOrders = true) (hB : Region.lexTailB .any l.toArray n = true)
    (h : wpQuiet P l.toArray (fun w' => ∃ n, w' = w.drewN n) (fun a' => ∀ w', (∃ n, w' = w.drewN n) → wpList P l.toArray Q (l.drop n) a' w') (l.take n) a) : (Code.region id l.toArray true).wp P Q a w :=
  region_class_tail n hm hB ⟨1, rfl⟩ h
end
section
open Go.RowKit

def invN (p x : Nat) : Nat := x ^ (p - 2) % p
theorem invN_lt {p : Nat} (hp : 0 < p) (x : Nat) : invN p x < p := Nat.mod_lt _ hp
theorem Bases.lt {w : World} (h : Bases w) : 0 < w.heap.size := by
  have h1 := h.1
  rcases Nat.lt_or_ge 0 w.heap.size with hlt | hge
  · exact hlt
  · simp [World.cell?, Array.getElem?_eq_none hge] at h1
theorem Bases.below {w w' : World} (h : Bases w) {B : Nat} (hb : Below B w w') (hB : 0 < B) : Bases w' :=
  ⟨(hb.cell (p := ⟨_, 0, none⟩) hB).trans h.1, (hb.cell (p := ⟨_, 1, none⟩) hB).trans h.2.1, (hb.cell (p := ⟨_, 2, none⟩) hB).trans h.2.2⟩
theorem Bases.later {w w' : World} (h : Bases w) (hb : Below w.heap.size w w') : Bases w' := h.below hb h.lt

set_option maxHeartbeats 800000 in
theorem finv_any (p sp x : Nat) (w : World) (hpr : Pr p) (hp : p < 4294967296) (hw : Bases w) (h0 : x % p ≠ 0) :
    Calls Tryd.prog 77 #[fieldV p sp, .int .u32 (x : Int)] w fun e w' => e = .returned (.int .u32 (invN p x : Int)) ∧ Below w.heap.size w w' := by
  have H := Lib.hid (fun W hW => pinv_yes x p hpr hp h0 W hW)
  have Hw : Hid (∀ o, Bases (w.alloc o)) := fun o => hw.later ((Below.refl w.heap.size w).alloc (Nat.le_refl _) o)
  clear hw hpr h0
  unfold invN
  obtain ⟨v, hv⟩ : ∃ v, v = x ^ (p - 2) % p := ⟨_, rfl⟩
  simp only [← hv] at H ⊢
  clear hv
  go_enter Tryd.func77, Tryd.ntmps77
  go_wp2_with fail
  refine (H.out _ (Hw.out _)).mono ?_
  rintro _ _ ⟨rfl, rfl⟩
  go_wp2
  go_ret
  exact ⟨rfl, (Below.refl _ _).alloc (Nat.le_refl _) _⟩

/-- A call hands back the normal form of z, and nothing else. -/
def PS (p : Nat) (w : World) (z : Z) (e : Ending) (w' : World) : Prop := ∃ r, PR1 w r e w' ∧ Nf p r ∧ Cg p (zo r) z
theorem PS.mk {p : Nat} {w w' : World} {z : Z} {g n : Nat} {ys : List Nat} (hb : Blk w' g 24 (u32s ys)) (hy : ys.length = n) (hg : w.heap.size ≤ g) (hm : n ≤ 281474976710656) (hw : Below w.heap.size w w') (hd : ∀ x ∈ ys, x < p) (hz : Cg p (zo ys) z) :
    PS p w z (.returned (.slice (some ⟨g, 0, none⟩) (trimL ys).length n)) w' :=
  ⟨trimL ys, PR1.of_trim hb hy rfl hg hm hw, Nf.trim hd, (Cg.trim ys).trans hz⟩

set_option maxHeartbeats 1600000 in
theorem scaled_any (p sp : Nat) (A : Option Addr) (cp c : Nat) (xs : List Nat) (w : World) (B : Nat) (hp0 : 0 < p) (hp : p < 4294967296) (hr : Rd w B A (u32s xs)) (hB : B ≤ w.heap.size) (hm : xs.length ≤ Big) (hd : ∀ x ∈ xs, x < 4294967296) (hc : c < 4294967296) :
    Calls Tryd.prog 60 #[fieldV p sp, .slice A xs.length cp, .int .u32 (c : Int)] w (PS p w (zo xs * .c c)) := by
  unfold Big at hm
  have hmk := fun W => mkP xs.length (by omega) W
  have hdx : Hid (∀ k (h : k < xs.length), xs[k] < 4294967296) := fun k h => hd _ (List.getElem_mem h)
  obtain ⟨W1, hW1⟩ : ∃ W1, W1 = w.alloc (.cells #[.int .u64 (p : Int), .int .u64 (sp : Int)] 77 (0, 0)) := ⟨_, rfl⟩
  have hb0 : Below w.heap.size w W1 := by rw [hW1]; exact (Below.refl _ _).alloc (Nat.le_refl _) _
  have hra := hr.below (hb0.mono hB)
  have HT : Hid (∀ W (x : Nat), x < 4294967296 → Calls Tryd.prog 80 #[fieldV p sp, .int .u32 (x : Int), .int .u32 (c : Int)] W fun e w' => e = .returned (.int .u32 ((timesN p x c : Nat) : Int)) ∧ Below W.heap.size W w') := fun W x hx => ftimes_any p sp x c W hp0 hp hx hc
  obtain ⟨R, hR⟩ : ∃ R, R = PS p w (zo xs * .c c) := ⟨_, rfl⟩
  rw [← hR]
  have HR := Lib.hid hR
  have hbf : Blk W1 w.heap.size 77 [.int .u64 (p : Int), .int .u64 (sp : Int)] := by rw [hW1]; exact Blk.new_ rfl
  have hs1 : W1.heap.size = w.heap.size + 1 := by rw [hW1]; simp
  have HF0 := Lib.hid (hbf.cell 0)
  have HF1 := Lib.hid (hbf.cell 1)
  have Hra := Lib.hid hra
  clear hd hr hR hbf hra
  go_enter Tryd.func60, Tryd.ntmps60
  go_wp2
  rw [← hW1]
  have HW1 := Lib.hid hW1
  have Hs1 := Lib.hid hs1
  clear hW1 hmk hs1
  have E0 : Hid (∀ k (h : k < xs.length), timesN p (xs.getD k 0) c = timesN p xs[k] c) := fun k h => by rw [List.getD_eq_getElem?_getD, List.getElem?_eq_getElem h]; rfl
  go_loopw [8, 9, 15] (fun _ _ iv wr => ∃ k : Nat, k ≤ xs.length ∧ iv = .int .i64 (k : Int) ∧ Blk wr (w.heap.size + 1) 24 (u32s (fill (fun i => timesN p (xs.getD i 0) c) xs.length k)) ∧ Below (w.heap.size + 1) W1 wr ∧ w.heap.size + 1 < wr.heap.size) (fun _ _ iv _ => xs.length - (intOf iv).toNat)
  case atStart =>
    refine ⟨0, by omega, rfl, ?_, (Below.refl _ _).alloc (by rw [Hs1.out]; omega) _, by simp [Hs1.out]⟩
    rw [fill_zero]
    have := Blk.new_ (w := W1) (t := 24) (repl_u32 xs.length)
    rwa [Hs1.out] at this
  case round =>
    obtain ⟨k, hk, rfl, hblk, hbel, hsz⟩ := hrel
    have f0 := (hbel.cell (p := ⟨w.heap.size, 0, none⟩) (by simp)).trans HF0.out
    have f1 := (hbel.cell (p := ⟨w.heap.size, 1, none⟩) (by simp)).trans HF1.out
    by_cases hlt : k < xs.length
    · obtain ⟨b, off, rfl, hb, hcl⟩ := (Hra.out.below (hbel.mono (by omega))).at32 hlt
      have hx := hdx.out k hlt
      have hc0 := fill_cell hblk hlt
      have hfz := hblk.frozen k
      have hset := fill_set (g := fun i => timesN p (xs.getD i 0) c) hlt
      simp only [E0.out k hlt] at hset
      have Hset := Lib.hid hset
      clear hset
      obtain ⟨y, hy⟩ : ∃ y, y = timesN p xs[k] c := ⟨_, rfl⟩
      have HTk : Hid (∀ W, Calls Tryd.prog 80 #[fieldV p sp, .int .u32 (xs[k] : Int), .int .u32 (c : Int)] W fun e w' => e = .returned (.int .u32 (y : Int)) ∧ Below W.heap.size W w') := by rw [hy]; exact fun W => HT.out W _ hx
      rw [← hy] at Hset
      have HB := Lib.hid hblk
      clear hy
      go_wp2_with (go_at_call 80; (with_reducible refine (HTk.out _).mono ?_); rintro _ w3 ⟨rfl, hq⟩; have q0 := (hq.cell (p := ⟨w.heap.size + 1, k, none⟩) hsz).trans hc0; have q1 := (hq.frozen (p := ⟨w.heap.size + 1, k, none⟩) hsz).trans hfz)
      go_roundw
      case rel =>
        have h8 := (HB.out.below hq hsz).set_ k (.int .u32 (y : Int))
        rw [u32s_set, Hset.out] at h8
        exact ⟨k + 1, by omega, by go_num, h8, (hbel.trans (hq.mono (by omega))).setCell (p := ⟨w.heap.size + 1, k, none⟩) (Nat.le_refl _) _, by have := hq.size; simp; omega⟩
      case measure => simp [intOf]; omega
    · obtain rfl : k = xs.length := by omega
      have HB := Lib.hid hblk
      clear hblk
      go_wp2_with (go_at_call 76; (with_reducible refine (trim_own _ _ _ _ (fill_length (Nat.le_refl _)) HB.out (by omega)).mono ?_); rintro _ _ ⟨rfl, rfl⟩)
      rw [HR.out]
      have h9 := HB.out
      refine PS.mk h9 (fill_length (Nat.le_refl _)) (by omega) (by omega) (hb0.trans (hbel.mono (by omega))) (fun x hx => ?_) ?_
      · rw [fill_all] at hx
        obtain ⟨i, _, rfl⟩ := List.mem_map.1 hx
        exact Nat.mod_lt _ hp0
      · rw [fill_all]
        refine (Cg.of_co (b := sclI c (zi xs)) fun i => ?_).trans (Cg.of_eq fun x => by rw [Z.v_mul, Z.v_c]; show ev (sclI _ _) x = _; rw [ev_sclI, Int.mul_comm]; rfl)
        rw [zi_getD, fill_getD, getD_sclI, zi_getD]
        split
        · show (p : Int) ∣ ((xs.getD i 0 * c % p : Nat) : Int) - (c : Int) * ((xs.getD i 0 : Nat) : Int)
          generalize xs.getD i 0 = y
          have := mod_dvd (y * c) p
          rwa [Int.natCast_mul, Int.mul_comm (y : Int)] at this
        · rename_i h
          rw [getD_nat (by omega)]; simp
end
end Go.Proofs.YtddhhndnkjajmaaDoor
