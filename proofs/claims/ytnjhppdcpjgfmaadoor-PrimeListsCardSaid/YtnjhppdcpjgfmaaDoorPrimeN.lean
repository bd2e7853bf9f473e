/- Is is right: what prime's Is and the reference's Is answer of every number below 2^32. Conditions: bases reads 2, 7, 61 (prime's). -/
import Derived.Test.YtnjhppdcpjgfmaaDoorPrimeD
import Derived.Test.YtnjhppdcpjgfmaaDoorPrimeE
import Derived.Test.YtnjhppdcpjgfmaaDoorMrK
namespace Go.Proofs.YtnjhppdcpjgfmaaDoor
open Go.RowKit

theorem Bases.drewN {w : World} (h : Bases w) (n : Nat) : Bases (w.drewN n) := h

/-- Is n a prime? -/
noncomputable def isP (n : Nat) : Bool := @decide (Pr n) (Classical.propDecidable _)
theorem isP_true {n : Nat} (h : Pr n) : isP n = true := by unfold isP; exact @decide_eq_true _ (Classical.propDecidable _) h
theorem isP_false {n : Nat} (h : ¬ Pr n) : isP n = false := by unfold isP; exact @decide_eq_false _ (Classical.propDecidable _) h
theorem isP_cases (n : Nat) : (Pr n ∧ isP n = true) ∨ (¬ Pr n ∧ isP n = false) := by
  by_cases h : Pr n
  · exact Or.inl ⟨h, isP_true h⟩
  · exact Or.inr ⟨h, isP_false h⟩

theorem Pr.of_none {n : Nat} (h2 : 2 ≤ n) (h : ∀ e, 2 ≤ e → e < n → n % e ≠ 0) : Pr n := ⟨h2, fun e he => by
  have hle := Nat.le_of_dvd (by omega) he
  have h0 : e ≠ 0 := fun h0 => by subst h0; have := Nat.eq_zero_of_zero_dvd he; omega
  rcases Nat.lt_or_ge e 2 with h3 | h3
  · exact Or.inl (by omega)
  · rcases Nat.lt_or_ge e n with h4 | h4
    · exact absurd (Nat.mod_eq_zero_of_dvd he) (h e h3 h4)
    · exact Or.inr (by omega)⟩
theorem Pr.none {n : Nat} (h : Pr n) (e : Nat) (h2 : 2 ≤ e) (hlt : e < n) : n % e ≠ 0 := fun h0 => by
  rcases h.2 e (Nat.dvd_of_mod_eq_zero h0) with h1 | h1 <;> omega
theorem pr_iff_least {n : Nat} : Pr n ↔ Least n n := ⟨fun h => ⟨h.1, Nat.mod_self n, fun e h1 h2 => h.none e h1 h2⟩, fun h => Pr.of_none h.1 fun e h1 h2 => h.2.2 e h1 h2⟩
theorem pr_two : Pr 2 := Pr.of_none (by omega) fun e h1 h2 => by omega
theorem pr_three : Pr 3 := Pr.of_none (by omega) fun e h1 h2 => by
  obtain rfl : e = 2 := by omega
  decide
theorem pr_seven : Pr 7 := Pr.of_none (by omega) fun e h1 h2 => (show ∀ e < 7, 2 ≤ e → 7 % e ≠ 0 by decide) e h2 h1
theorem pr_61 : Pr 61 := Pr.of_none (by omega) fun e h1 h2 => (show ∀ e < 61, 2 ≤ e → 61 % e ≠ 0 by decide) e h2 h1
theorem Pr.odd {n : Nat} (h : Pr n) (h2 : 2 < n) : n % 2 = 1 := by
  have := h.none 2 (by omega) h2
  omega

/-- What passes answers is right. -/
theorem isN_isP (n d s : Nat) (hn : n < 4294967296) (h : 4 ≤ n → n % 2 = 1 → n - 1 = d * 2 ^ s ∧ d % 2 = 1) : isN n d s = isP n := by
  unfold isN
  by_cases h4 : n < 4
  · rw [if_pos h4]
    rcases isP_cases n with ⟨hp, e⟩ | ⟨hp, e⟩
    · rw [e]; exact decide_eq_true hp.1
    · rw [e]
      refine decide_eq_false fun h1 => hp ?_
      rcases (show n = 2 ∨ n = 3 by omega) with rfl | rfl
      · exact pr_two
      · exact pr_three
  · rw [if_neg h4]
    by_cases h2 : n % 2 = 1
    · rw [if_pos h2]
      obtain ⟨hd, ho⟩ := h (by omega) h2
      rcases isP_cases n with ⟨hp, e⟩ | ⟨hp, e⟩
      · rw [e]
        have key : ∀ b, base1 n d s b = true := fun b => by
          unfold base1
          by_cases hb : b % n = 0
          · rw [if_pos hb]
          · rw [if_neg hb]
            exact hp.mr_passes (fun hx => hb (Nat.mod_eq_zero_of_dvd hx)) hd
        unfold passAll
        rw [key 2, key 7, key 61]; rfl
      · rw [e]
        refine Bool.eq_false_iff.2 fun hx => hp ?_
        unfold passAll at hx
        have h7 : n ≠ 7 := fun h7 => hp (h7 ▸ pr_seven)
        have h61 : n ≠ 61 := fun h61 => hp (h61 ▸ pr_61)
        have key : ∀ b, Pr b → n ≠ b → base1 n d s b = true → mr b n d s = true := fun b hb hne hx => by
          unfold base1 at hx
          rwa [if_neg] at hx
          intro h0
          rcases hb.2 n (Nat.dvd_of_mod_eq_zero h0) with e | e
          · omega
          · exact hne e
        cases e2 : base1 n d s 2 with
        | false => rw [e2] at hx; simp at hx
        | true =>
          cases e7 : base1 n d s 7 with
          | false => rw [e2, e7] at hx; simp at hx
          | true =>
            rw [e2, e7] at hx
            have e61 : base1 n d s 61 = true := by simpa using hx
            refine Passes.prime (fun d' s' hd' ho' => ?_) (by omega) h2 hn
            obtain ⟨rfl, rfl⟩ := split_unique ho' ho (hd'.symm.trans hd)
            exact ⟨key 2 pr_two (by omega) e2, key 7 pr_seven h7 e7, key 61 pr_61 h61 e61⟩
    · rw [if_neg h2, isP_false]
      intro hp
      exact h2 (hp.odd (by omega))

theorem is_all (n : Nat) (hn : n < 4294967296) (w : World) (hw : Bases w) :
    Calls Tryd.prog 18 #[.int .u32 (n : Int)] w fun e w' => e = .returned (.bool (isP n)) ∧ w' = w := by
  by_cases h : 4 ≤ n ∧ n % 2 = 1
  · obtain ⟨d, s, hd, ho⟩ := split_exists (n - 1) (by omega)
    have hs : s ≤ 32 := by
      rcases Nat.lt_or_ge s 33 with h1 | h1
      · omega
      · exfalso
        have h2 : 2 ^ 33 ≤ 2 ^ s := Nat.pow_le_pow_right (by omega) h1
        have h3 : 2 ^ s ≤ d * 2 ^ s := Nat.le_mul_of_pos_left _ (by omega)
        have h4 : (2 : Nat) ^ 33 = 8589934592 := by decide
        omega
    have := is_any n d s hn (fun _ _ => ⟨hd, ho, hs⟩) w hw
    rwa [isN_isP n d s hn fun _ _ => ⟨hd, ho⟩] at this
  · have := is_any n 0 0 hn (fun h1 h2 => absurd ⟨h1, h2⟩ h) w hw
    rwa [isN_isP n 0 0 hn fun h1 h2 => absurd ⟨h1, h2⟩ h] at this
theorem is_yes (n : Nat) (hp : Pr n) (hn : n < 4294967296) (w : World) (hw : Bases w) :
    Calls Tryd.prog 18 #[.int .u32 (n : Int)] w fun e w' => e = .returned (.bool true) ∧ w' = w := by
  have := is_all n hn w hw
  rwa [isP_true hp] at this
theorem is_no (n : Nat) (hp : ¬ Pr n) (hn : n < 4294967296) (w : World) (hw : Bases w) :
    Calls Tryd.prog 18 #[.int .u32 (n : Int)] w fun e w' => e = .returned (.bool false) ∧ w' = w := by
  have := is_all n hn w hw
  rwa [isP_false hp] at this

set_option maxHeartbeats 400000 in
theorem ris_all (n : Nat) (hn : n < 4294967296) (w : World) :
    Calls Tryd.prog 19 #[.int .u32 (n : Int)] w fun e w' => e = .returned (.bool (isP n)) ∧ w' = w := by
  by_cases h2 : 2 ≤ n
  · obtain ⟨m, hm⟩ := least_exists n h2
    have hl := fun W => least_any n m hn h2 hm W
    by_cases hmn : m = n
    · subst hmn
      have E := Lib.hid (isP_true (pr_iff_least.2 hm))
      have Hl := Lib.hid hl
      clear hl hm
      go_enter Tryd.func19, Tryd.ntmps19
      go_wp2_with fail
      refine (Hl.out _).mono ?_
      rintro _ _ ⟨rfl, rfl⟩
      go_wp2
      go_ret
      exact ⟨by rw [E.out]; simp, rfl⟩
    · have E := Lib.hid (isP_false fun h => hmn (hm.unique (pr_iff_least.1 h)))
      have Hl := Lib.hid hl
      have t1 : ((m : Int) == (n : Int)) = false := by simp; omega
      clear hl hm
      go_enter Tryd.func19, Tryd.ntmps19
      go_wp2_with fail
      refine (Hl.out _).mono ?_
      rintro _ _ ⟨rfl, rfl⟩
      go_wp2
      go_ret
      exact ⟨by rw [E.out]; rfl, rfl⟩
  · have E := Lib.hid (isP_false fun h : Pr n => h2 h.1)
    go_enter Tryd.func19, Tryd.ntmps19
    go_wp2
    go_ret
    exact ⟨by rw [E.out]; simp, rfl⟩
theorem ris_yes (n : Nat) (hp : Pr n) (hn : n < 4294967296) (w : World) :
    Calls Tryd.prog 19 #[.int .u32 (n : Int)] w fun e w' => e = .returned (.bool true) ∧ w' = w := by
  have := ris_all n hn w
  rwa [isP_true hp] at this
theorem ris_no (n : Nat) (hp : ¬ Pr n) (hn : n < 4294967296) (w : World) :
    Calls Tryd.prog 19 #[.int .u32 (n : Int)] w fun e w' => e = .returned (.bool false) ∧ w' = w := by
  have := ris_all n hn w
  rwa [isP_false hp] at this
end Go.Proofs.YtnjhppdcpjgfmaaDoor
