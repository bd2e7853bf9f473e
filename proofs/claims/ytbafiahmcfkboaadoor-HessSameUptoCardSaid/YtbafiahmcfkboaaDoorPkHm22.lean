/- Is is right: what prime's Is and the reference's Is answer of every number below 2^32. Conditions: bases reads 2, 7, 61 (prime's). prime.Inv modulo a prime or none, and what the reference answers of sums, differences, products, powers, inverses. Conditions: p a prime, or none; bases reads 2, 7, 61. The examples of layer 8 come out as the document says: reckoned. Condition: bases is as the program lays it. Determinants over the integers: by the first column; linear and alternating in the rows, and the one form that is so. No conditions. -/
import Derived.Test.YtbafiahmcfkboaaDoorPkHm13
import Derived.Test.YtbafiahmcfkboaaDoorPkHm21
import Derived.Deep.CutBlock
import Derived.RegionTactic
import Derived.Deep.QuietTactic
import Derived.BigQuiet
import Derived.WalkMore
import Derived.IntWalk
import Derived.Deep.DeepCutAuto
import Derived.Test.YtbafiahmcfkboaaDoorPkHm10
namespace Go.Proofs.YtbafiahmcfkboaaDoor
section
open Go.RowKit

theorem Bases.drewN {w : World} (h : Bases w) (n : Nat) : Bases (w.drewN n) := h

/-- Is n a prime? -/
noncomputable def isP (n : Nat) : Bool := @decide (Pr n) (Classical.propDecidable _)
theorem isP_true {n : Nat} (h : Pr n) : isP n = true := by unfold isP; exact @decide_eq_true _ (Classical.propDecidable _) h
theorem isP_false {n : Nat} (h : ¬ Pr n) : isP n = false := by unfold isP; exact @decide_eq_false _ (Classical.propDecidable _) h
theorem isP_cases (n : Nat) : (Pr n ∧ isP n = true) ∨ (¬ Pr n ∧ isP n = false) := by
  by_cases h : Pr n
  · exact Or.inl ⟨h, isP_true h⟩
  · exact Or.inr ⟨h, isP_false h⟩

theorem Pr.of_none {n : Nat} (h2 : 2 ≤ n) (h : ∀ e, 2 ≤ e → e < n → n % e ≠ 0) : Pr n := ⟨h2, fun e he => by
  have hle := Nat.le_of_dvd (by omega) he
  have h0 : e ≠ 0 := fun h0 => by subst h0; have := Nat.eq_zero_of_zero_dvd he; omega
  rcases Nat.lt_or_ge e 2 with h3 | h3
  · exact Or.inl (by omega)
  · rcases Nat.lt_or_ge e n with h4 | h4
    · exact absurd (Nat.mod_eq_zero_of_dvd he) (h e h3 h4)
    · exact Or.inr (by omega)⟩
theorem Pr.none {n : Nat} (h : Pr n) (e : Nat) (h2 : 2 ≤ e) (hlt : e < n) : n % e ≠ 0 := fun h0 => by
  rcases h.2 e (Nat.dvd_of_mod_eq_zero h0) with h1 | h1 <;> omega
theorem pr_iff_least {n : Nat} : Pr n ↔ Least n n := ⟨fun h => ⟨h.1, Nat.mod_self n, fun e h1 h2 => h.none e h1 h2⟩, fun h => Pr.of_none h.1 fun e h1 h2 => h.2.2 e h1 h2⟩
theorem pr_two : Pr 2 := Pr.of_none (by omega) fun e h1 h2 => by omega
theorem pr_three : Pr 3 := Pr.of_none (by omega) fun e h1 h2 => by
  obtain rfl : e = 2 := by omega
  decide
theorem pr_seven : Pr 7 := Pr.of_none (by omega) fun e h1 h2 => (show ∀ e < 7, 2 ≤ e → 7 % e ≠ 0 by decide) e h2 h1
theorem pr_61 : Pr 61 := Pr.of_none (by omega) fun e h1 h2 => (show ∀ e < 61, 2 ≤ e → 61 % e ≠ 0 by decide) e h2 h1
theorem Pr.odd {n : Nat} (h : Pr n) (h2 : 2 < n) : n % 2 = 1 := by
  have := h.none 2 (by omega) h2
  omega

/-- What passes answers is right. -/
theorem isN_isP (n d s : Nat) (hn : n < 4294967296) (h : 4 ≤ n → n % 2 = 1 → n - 1 = d * 2 ^ s ∧ d % 2 = 1) : isN n d s = isP n := by
  unfold isN
  by_cases h4 : n < 4
  · rw [if_pos h4]
    rcases isP_cases n with ⟨hp, e⟩ | ⟨hp, e⟩
    · rw [e]; exact decide_eq_true hp.1
    · rw [e]
      refine decide_eq_false fun h1 => hp ?_
      rcases (show n = 2 ∨ n = 3 by omega) with rfl | rfl
      · exact pr_two
      · exact pr_three
  · rw [if_neg h4]
    by_cases h2 : n % 2 = 1
    · rw [if_pos h2]
      obtain ⟨hd, ho⟩ := h (by omega) h2
      rcases isP_cases n with ⟨hp, e⟩ | ⟨hp, e⟩
      · rw [e]
        have key : ∀ b, base1 n d s b = true := fun b => by
          unfold base1
          by_cases hb : b % n = 0
          · rw [if_pos hb]
          · rw [if_neg hb]
            exact hp.mr_passes (fun hx => hb (Nat.mod_eq_zero_of_dvd hx)) hd
        unfold passAll
        rw [key 2, key 7, key 61]; rfl
      · rw [e]
        refine Bool.eq_false_iff.2 fun hx => hp ?_
        unfold passAll at hx
        have h7 : n ≠ 7 := fun h7 => hp (h7 ▸ pr_seven)
        have h61 : n ≠ 61 := fun h61 => hp (h61 ▸ pr_61)
        have key : ∀ b, Pr b → n ≠ b → base1 n d s b = true → mr b n d s = true := fun b hb hne hx => by
          unfold base1 at hx
          rwa [if_neg] at hx
          intro h0
          rcases hb.2 n (Nat.dvd_of_mod_eq_zero h0) with e | e
          · omega
          · exact hne e
        cases e2 : base1 n d s 2 with
        | false => rw [e2] at hx; simp at hx
        | true =>
          cases e7 : base1 n d s 7 with
          | false => rw [e2, e7] at hx; simp at hx
          | true =>
            rw [e2, e7] at hx
            have e61 : base1 n d s 61 = true := by simpa using hx
            refine Passes.prime (fun d' s' hd' ho' => ?_) (by omega) h2 hn
            obtain ⟨rfl, rfl⟩ := split_unique ho' ho (hd'.symm.trans hd)
            exact ⟨key 2 pr_two (by omega) e2, key 7 pr_seven h7 e7, key 61 pr_61 h61 e61⟩
    · rw [if_neg h2, isP_false]
      intro hp
      exact h2 (hp.odd (by omega))

theorem is_all (n : Nat) (hn : n < 4294967296) (w : World) (hw : Bases w) :
    Calls Tryd.prog 30 #[.int .u32 (n : Int)] w fun e w' => e = .returned (.bool (isP n)) ∧ w' = w := by
  by_cases h : 4 ≤ n ∧ n % 2 = 1
  · obtain ⟨d, s, hd, ho⟩ := split_exists (n - 1) (by omega)
    have hs : s ≤ 32 := by
      rcases Nat.lt_or_ge s 33 with h1 | h1
      · omega
      · exfalso
        have h2 : 2 ^ 33 ≤ 2 ^ s := Nat.pow_le_pow_right (by omega) h1
        have h3 : 2 ^ s ≤ d * 2 ^ s := Nat.le_mul_of_pos_left _ (by omega)
        have h4 : (2 : Nat) ^ 33 = 8589934592 := by decide
        omega
    have := is_any n d s hn (fun _ _ => ⟨hd, ho, hs⟩) w hw
    rwa [isN_isP n d s hn fun _ _ => ⟨hd, ho⟩] at this
  · have := is_any n 0 0 hn (fun h1 h2 => absurd ⟨h1, h2⟩ h) w hw
    rwa [isN_isP n 0 0 hn fun h1 h2 => absurd ⟨h1, h2⟩ h] at this
theorem is_yes (n : Nat) (hp : Pr n) (hn : n < 4294967296) (w : World) (hw : Bases w) :
    Calls Tryd.prog 30 #[.int .u32 (n : Int)] w fun e w' => e = .returned (.bool true) ∧ w' = w := by
  have := is_all n hn w hw
  rwa [isP_true hp] at this
theorem is_no (n : Nat) (hp : ¬ Pr n) (hn : n < 4294967296) (w : World) (hw : Bases w) :
    Calls Tryd.prog 30 #[.int .u32 (n : Int)] w fun e w' => e = .returned (.bool false) ∧ w' = w := by
  have := is_all n hn w hw
  rwa [isP_false hp] at this
end
section
open Go.RowKit

theorem cast_mod (a p : Nat) : ((a : Int) % (p : Int)) = ((a % p : Nat) : Int) := (Int.natCast_emod a p).symm
theorem Pr.inv_right {p a : Nat} (hp : Pr p) (ha : ¬ p ∣ a) : a * (a ^ (p - 2) % p) % p = 1 := by
  have h2 := hp.1
  rw [Nat.mul_mod_mod, ← hp.fermat ha]
  congr 1
  rw [Nat.mul_comm, ← Nat.pow_succ]
  congr 1; omega
theorem inv_unique {p a u v : Nat} (hu : a * u % p = 1) (hv : a * v % p = 1) (hlt : v < p) (hul : u < p) : v = u := by
  have h1 : v * (a * u) % p = v := by rw [Nat.mul_mod, hu, Nat.mul_one, Nat.mod_mod, Nat.mod_eq_of_lt hlt]
  have h2 : u * (a * v) % p = u := by rw [Nat.mul_mod, hv, Nat.mul_one, Nat.mod_mod, Nat.mod_eq_of_lt hul]
  exact h1.symm.trans ((congrArg (· % p) (show v * (a * u) = u * (a * v) from by ac_rfl)).trans h2)

/-- What Euclid's steps keep. -/
def Eu (a p r s X Y : Nat) (x y : Int) : Prop :=
  s < r ∧ 1 ≤ s ∧ Nat.gcd r s = 1 ∧ Y * r + X * s = p ∧ ((x = -(X : Int) ∧ y = (Y : Int)) ∨ (x = (X : Int) ∧ y = -(Y : Int))) ∧ (∃ k : Int, (a : Int) * x = r + k * p) ∧ (∃ k : Int, (a : Int) * y = s + k * p)
theorem Eu.start {a p : Nat} (hp : Pr p) (ha : 0 < a) (hap : a < p) : Eu a p p a 0 1 0 1 :=
  ⟨hap, ha, hp.gcd (hp.not_dvd_lt ha hap), by simp, Or.inl ⟨rfl, rfl⟩, ⟨-1, by omega⟩, ⟨0, by omega⟩⟩
theorem Eu.step {a p r s X Y : Nat} {x y : Int} (h : Eu a p r s X Y x y) (hs : s ≠ 1) : Eu a p s (r % s) Y (X + r / s * Y) y (x - ((r / s : Nat) : Int) * y) := by
  obtain ⟨h1, h2, h3, h4, h5, ⟨k, h6⟩, ⟨j, h7⟩⟩ := h
  have hdm := Nat.div_add_mod r s
  have hg : Nat.gcd s (r % s) = 1 := by rw [Nat.gcd_comm, ← Nat.gcd_rec, Nat.gcd_comm]; exact h3
  have hm0 : r % s ≠ 0 := fun h0 => by rw [h0, Nat.gcd_zero_right] at hg; exact hs hg
  have hrI : (r : Int) = s * ((r / s : Nat) : Int) + ((r % s : Nat) : Int) := by rw [← Int.natCast_mul, ← Int.natCast_add, hdm]
  refine ⟨Nat.mod_lt _ (by omega), by omega, hg, ?_, ?_, ⟨j, h7⟩, ⟨k - ((r / s : Nat) : Int) * j, ?_⟩⟩
  · generalize r / s = q at hdm
    generalize r % s = m at hdm
    rw [← h4, ← hdm, Nat.add_mul, Nat.mul_add]
    rw [show q * Y * s = Y * (s * q) from by ac_rfl]
    omega
  · rcases h5 with ⟨rfl, rfl⟩ | ⟨rfl, rfl⟩
    · refine Or.inr ⟨rfl, ?_⟩
      rw [Int.natCast_add, Int.natCast_mul]; omega
    · refine Or.inl ⟨rfl, ?_⟩
      rw [Int.natCast_add, Int.natCast_mul, Int.mul_neg]; omega
  · generalize ((r / s : Nat) : Int) = q at hrI
    generalize ((r % s : Nat) : Int) = m at hrI
    rw [Int.mul_sub, h6, show (a : Int) * (q * y) = q * (a * y) from by ac_rfl, h7, hrI, Int.sub_mul, Int.mul_add, show q * (s : Int) = s * q from Int.mul_comm _ _, Int.mul_assoc]
    omega
theorem Eu.bounds {a p r s X Y : Nat} {x y : Int} (h : Eu a p r s X Y x y) : -(p : Int) ≤ x ∧ x ≤ p ∧ -(p : Int) ≤ y ∧ y ≤ p ∧ r ≤ p + r := by
  obtain ⟨h1, h2, h3, h4, h5, _, _⟩ := h
  have a1 : Y ≤ Y * r := Nat.le_mul_of_pos_right _ (by omega)
  have a2 : X ≤ X * s := Nat.le_mul_of_pos_right _ (by omega)
  rcases h5 with ⟨rfl, rfl⟩ | ⟨rfl, rfl⟩ <;> omega
theorem Eu.last {a p r X Y : Nat} {x y : Int} (h : Eu a p r 1 X Y x y) (hp : Pr p) (ha : ¬ p ∣ a) :
    (0 ≤ y → y = ((a ^ (p - 2) % p : Nat) : Int)) ∧ (y < 0 → y + p = ((a ^ (p - 2) % p : Nat) : Int)) := by
  have h2 := hp.1
  obtain ⟨h1, _, h3, h4, h5, _, ⟨j, h7⟩⟩ := h
  have hY : Y * 2 ≤ Y * r := Nat.mul_le_mul_left _ (by omega)
  have hYp : Y < p := by omega
  have hl : a ^ (p - 2) % p < p := Nat.mod_lt _ hp.pos
  have key : ∀ (v : Nat) (c : Int), (v : Int) = y + c * p → v < p → v = a ^ (p - 2) % p := fun v c hv hvp => by
    refine inv_unique (hp.inv_right ha) ?_ hvp hl
    have : ((a * v : Nat) : Int) = 1 + (j + a * c) * p := by
      rw [Int.natCast_mul, hv, Int.mul_add, h7, Int.add_mul, Int.mul_assoc]; omega
    have h8 : ((a * v % p : Nat) : Int) = 1 := by
      rw [Int.natCast_emod, this, Int.add_mul_emod_self_right, Int.emod_eq_of_lt (by omega) (by omega)]
    omega
  refine ⟨fun hy => ?_, fun hy => ?_⟩
  · have : y.toNat = a ^ (p - 2) % p := key y.toNat 0 (by omega) (by omega)
    omega
  · have : (y + p).toNat = a ^ (p - 2) % p := key (y + p).toNat 1 (by omega) (by omega)
    omega

set_option maxHeartbeats 1600000 in
theorem inverse_any (a p : Nat) (hp : Pr p) (ha0 : 0 < a) (hap : a < p) (hlt : p < 4294967296) (w : World) :
    Calls Tryd.prog 84 #[.int .u32 (a : Int), .int .u32 (p : Int)] w fun r w' => r = .returned (.int .u32 ((a ^ (p - 2) % p : Nat) : Int)) ∧ w' = w := by
  have hl : a ^ (p - 2) % p < p := Nat.mod_lt _ hp.pos
  have Hst := Lib.hid (Eu.start hp ha0 hap)
  have Hend := Lib.hid (fun (r X Y : Nat) (x y : Int) (h : Eu a p r 1 X Y x y) => h.last hp (hp.not_dvd_lt ha0 hap))
  obtain ⟨V, hV⟩ : ∃ V, V = a ^ (p - 2) % p := ⟨_, rfl⟩
  rw [← hV] at hl Hend ⊢
  have hp2 := hp.1
  clear hV hp
  go_enter Tryd.func84, Tryd.ntmps84
  go_wp2
  go_step3
  go_wp2
  go_step3
  go_wp2
  go_loop [5, 6, 7, 8] (fun rv sv xv yv => ∃ (r s X Y : Nat) (x y : Int), rv = .int .i64 (r : Int) ∧ sv = .int .i64 (s : Int) ∧ xv = .int .i64 x ∧ yv = .int .i64 y ∧ r ≤ p ∧ Eu a p r s X Y x y) (fun _ sv _ _ => (intOf sv).toNat)
  case atStart => exact ⟨p, a, 0, 1, 0, 1, rfl, rfl, rfl, rfl, Nat.le_refl _, Hst.out⟩
  case round =>
    obtain ⟨r, s, X, Y, x, y, rfl, rfl, rfl, rfl, hr, hrel⟩ := hrel
    obtain ⟨b1, b2, b3, b4, _⟩ := hrel.bounds
    have hs1 := hrel.2.1
    have hsr := hrel.1
    by_cases hs : s = 1
    · subst hs
      obtain ⟨e1, e2⟩ := Hend.out _ _ _ _ _ hrel
      clear hrel
      by_cases hy : y < 0
      · have e := e2 hy
        have t1 : decide (y < 0) = true := by simpa using hy
        clear e1 e2
        go_wp2
        go_ret
        exact ⟨rfl, rfl⟩
      · obtain rfl := e1 (by omega)
        have t1 : decide ((V : Int) < 0) = false := by simp
        clear e2
        go_wp2
        go_ret
        exact ⟨rfl, rfl⟩
    · have hst := hrel.step hs
      obtain ⟨_, _, c3, c4, _⟩ := hst.bounds
      have Hst2 := Lib.hid hst
      obtain ⟨q, hq⟩ : ∃ q, q = r / s := ⟨_, rfl⟩
      obtain ⟨m, hm⟩ : ∃ m, m = r % s := ⟨_, rfl⟩
      have hdm := Nat.div_add_mod r s
      rw [← hq, ← hm] at hdm Hst2
      rw [← hq] at c3 c4
      have hms : m < s := by rw [hm]; exact Nat.mod_lt _ (by omega)
      obtain ⟨z, hz⟩ : ∃ z, z = (q : Int) * y := ⟨_, rfl⟩
      rw [← hz] at c3 c4 Hst2
      obtain ⟨u, hu⟩ : ∃ u, u = s * q := ⟨_, rfl⟩
      rw [← hu] at hdm
      have t0 : ((s : Int) == 1) = false := by simp; omega
      have t1 : ((s : Int) == 0) = false := by simp; omega
      have t2 : (r : Int) / (s : Int) = (q : Int) := by rw [hq]; rfl
      have hqr : q ≤ r := by rw [hq]; exact Nat.div_le_self r s
      have t3 : wrap64 ((q : Int) * (s : Int)) = (u : Int) := by
        rw [show (q : Int) * (s : Int) = (u : Int) from by rw [hu, Int.natCast_mul, Int.mul_comm]]
        exact IntWalk.wrap64_in _ (by omega)
      have t4 : wrap64 ((q : Int) * y) = z := by
        rw [← hz]; exact IntWalk.wrap64_in _ (by omega)
      have t5 : (r : Int) - (u : Int) = (m : Int) := by omega
      clear hrel hst hs hq hm hz hu Hend hdm
      go_wp2
      go_round
      case rel => exact ⟨s, m, Y, X + q * Y, y, x - z, rfl, rfl, rfl, rfl, by omega, Hst2.out⟩
      case measure => simp [intOf]; omega

set_option maxHeartbeats 800000 in
theorem pquo_yes (a b p : Nat) (ha : a < 4294967296) (hp : Pr p) (hlt : p < 4294967296) (h0 : b % p ≠ 0) (w : World) (hw : Bases w) :
    Calls Tryd.prog 62 #[.int .u32 (a : Int), .int .u32 (b : Int), .int .u32 (p : Int)] w fun r w' => r = .returned (.tuple #[.int .u32 ((a * (b ^ (p - 2) % p) % p : Nat) : Int), .int .i64 0]) ∧ w' = w := by
  have Hw := Lib.hid hw
  have Hi := Lib.hid (fun W hW => is_yes p hp hlt W hW)
  have hp2 := hp.1
  have hbp : b % p < p := Nat.mod_lt _ hp.pos
  have hinv := fun W => inverse_any (b % p) p hp (by omega) hbp hlt W
  have hl : b ^ (p - 2) % p < p := Nat.mod_lt _ hp.pos
  rw [← Nat.pow_mod] at hinv
  have ht := fun W => times_any a (b ^ (p - 2) % p) p W ha (by omega) hlt hp.pos
  have t0 : (b : Int) % (p : Int) = ((b % p : Nat) : Int) := cast_mod b p
  obtain ⟨c, hc⟩ : ∃ c, c = b % p := ⟨_, rfl⟩
  obtain ⟨v, hv⟩ : ∃ v, v = b ^ (p - 2) % p := ⟨_, rfl⟩
  rw [← hc] at t0 h0 hbp
  simp only [← hc, ← hv] at hinv
  simp only [← hv] at ht
  rw [← hv] at hl ⊢
  have Hinv := Lib.hid hinv
  have Ht := Lib.hid ht
  have t1 : ((p : Int) == 0) = false := by simp; omega
  have t2 : ((c : Int) == 0) = false := by simp; omega
  clear hw hp hc hv hinv ht
  go_enter Tryd.func62, Tryd.ntmps62
  go_wp2_with fail
  refine (Hi.out _ Hw.out).mono ?_
  rintro _ _ ⟨rfl, rfl⟩
  go_wp2_with fail
  refine (Hinv.out _).mono ?_
  rintro _ _ ⟨rfl, rfl⟩
  go_wp2_with fail
  refine (Ht.out _).mono ?_
  rintro _ _ ⟨rfl, rfl⟩
  go_wp2
  go_ret2
  exact ⟨rfl, rfl⟩
set_option maxHeartbeats 400000 in
theorem pinv_yes (b p : Nat) (hp : Pr p) (hlt : p < 4294967296) (h0 : b % p ≠ 0) (w : World) (hw : Bases w) :
    Calls Tryd.prog 35 #[.int .u32 (b : Int), .int .u32 (p : Int)] w fun r w' => r = .returned (.tuple #[.int .u32 ((b ^ (p - 2) % p : Nat) : Int), .int .i64 0]) ∧ w' = w := by
  have h := fun W hW => pquo_yes 1 b p (by omega) hp hlt h0 W hW
  simp only [Nat.one_mul, Nat.mod_mod] at h
  have H := Lib.hid h
  have Hw := Lib.hid hw
  clear hw hp h0 h
  go_enter Tryd.func35, Tryd.ntmps35
  go_wp2_with fail
  refine (H.out _ Hw.out).mono ?_
  rintro _ _ ⟨rfl, rfl⟩
  go_wp2
  go_ret2
  exact ⟨rfl, rfl⟩
end
section
open Go.RowKit

/-- The bases, the block whole. -/
def Bx (w : World) : Prop := ∃ e, w.heap[0]? = some (.cells ⟨[.int .u32 2, .int .u32 7, .int .u32 61]⟩ e (0, 0))
theorem Bx.lt {w : World} (h : Bx w) : 0 < w.heap.size := by
  obtain ⟨e, h⟩ := h
  exact (Array.getElem?_eq_some_iff.1 h).1
theorem Bx.below {w w' : World} {B : Nat} (h : Bx w) (hb : Below B w w') (hB : w.heap.size ≤ B) : Bx w' := by
  have h1 := h.lt
  obtain ⟨e, h⟩ := h
  exact ⟨e, (hb.block _ (by omega)).trans h⟩
theorem Bx.bases {w : World} (h : Bx w) : Bases w := by
  obtain ⟨e, h⟩ := h
  exact ⟨by simp [World.cell?, h], by simp [World.cell?, h], by simp [World.cell?, h]⟩

set_option maxRecDepth 100000 in
theorem awake_true (e0 : TypeId) : Ev.yesB ((Ev.mach Tryd.prog 1 Ev.okT 300).call 12 [] (Ev.tabH [(0, .cells false e0 [.int .u32 2, .int .u32 7, .int .u32 61])]) 1) = true := by kernel_rfl
theorem ev_mix : Tryd.prog.follows .mixedOrders = true := by kernel_rfl
theorem ev_names : (Tryd.prog.funcs.toList.all fun fn => !(fn.name == "runtime.NumGoroutine")) = true := by kernel_rfl
set_option maxRecDepth 100000 in
theorem lawake_any (w : World) (hw : Bx w) : Calls Tryd.prog 12 #[] w fun r w' => r = .returned (.bool true) ∧ Below w.heap.size w w' := by
  obtain ⟨e0, he0⟩ := hw
  refine (callsIn_wide (n := 0)).1 (Ev.reckoned (G := 1) ev_mix (Ev.names_of ev_names) (l := [(0, .cells false e0 [.int .u32 2, .int .u32 7, .int .u32 61])]) (show 1 ≤ _ from Ev.size_of he0) (fun p hp => ?_) (by kernel_rfl) 300 (awake_true e0) 0)
  obtain rfl := List.mem_singleton.1 hp
  exact ⟨(by decide : (0 : Nat) < 1), he0, rfl⟩
end
section
/-- A sum of integers. -/
def si (f : Nat → Int) : Nat → Int
  | 0 => 0
  | n + 1 => si f n + f n
theorem si_congr {f g : Nat → Int} (n : Nat) (h : ∀ i, i < n → f i = g i) : si f n = si g n := by
  induction n with
  | zero => rfl
  | succ n ih => simp only [si]; rw [ih fun i hi => h i (by omega), h n (by omega)]
theorem si_zero (n : Nat) : si (fun _ => 0) n = 0 := by
  induction n with
  | zero => rfl
  | succ n ih => simp only [si, ih]; rfl
theorem si_none {f : Nat → Int} (n : Nat) (h : ∀ i, i < n → f i = 0) : si f n = 0 := by
  rw [si_congr (g := fun _ => 0) n h, si_zero]
theorem si_add (f g : Nat → Int) (n : Nat) : si (fun i => f i + g i) n = si f n + si g n := by
  induction n with
  | zero => rfl
  | succ n ih => simp only [si, ih]; omega
theorem si_mul (c : Int) (f : Nat → Int) (n : Nat) : si (fun i => c * f i) n = c * si f n := by
  induction n with
  | zero => simp [si]
  | succ n ih => simp only [si, ih]; grind
theorem si_one {f : Nat → Int} {n k : Nat} (hk : k < n) (h : ∀ i, i < n → i ≠ k → f i = 0) : si f n = f k := by
  induction n with
  | zero => omega
  | succ n ih =>
    simp only [si]
    by_cases e : k = n
    · subst e
      rw [si_none k (fun i hi => h i (by omega) (by omega))]; omega
    · rw [ih (by omega) (fun i hi hne => h i (by omega) hne), h n (by omega) (by omega)]; omega
theorem si_comm (f : Nat → Nat → Int) (m n : Nat) : si (fun i => si (fun j => f i j) m) n = si (fun j => si (fun i => f i j) n) m := by
  induction n with
  | zero => simp only [si]; rw [si_zero]
  | succ n ih => simp only [si, ih]; rw [← si_add]
theorem si_front (f : Nat → Int) (n : Nat) : si f (n + 1) = f 0 + si (fun i => f (i + 1)) n := by
  induction n with
  | zero => simp [si]
  | succ n ih => rw [si, ih]; simp only [si]; omega
/-- All numbers but k. -/
def hop (k i : Nat) : Nat := if i < k then i else i + 1
theorem hop_ne (k i : Nat) : hop k i ≠ k := by unfold hop; split <;> omega
theorem hop_lt {k i n : Nat} (hi : i < n) : hop k i < n + 1 := by unfold hop; split <;> omega
def sgi : Nat → Int
  | 0 => 1
  | i + 1 => - sgi i
def Di : Nat → (Nat → Nat → Int) → Int
  | 0, _ => 1
  | n + 1, M => si (fun i => sgi i * M i 0 * Di n (fun a b => M (hop i a) (b + 1))) (n + 1)
theorem Di_congr : ∀ (n : Nat) (M N : Nat → Nat → Int), (∀ i j, i < n → j < n → M i j = N i j) → Di n M = Di n N
  | 0, _, _, _ => rfl
  | n + 1, M, N, h => by
    unfold Di
    refine si_congr _ fun i hi => ?_
    rw [h i 0 hi (by omega), Di_congr n _ _ fun a b ha hb => h (hop i a) (b + 1) (hop_lt ha) (by omega)]
/-- The matrix with another row r. -/
def rep (M : Nat → Nat → Int) (r : Nat) (u : Nat → Int) : Nat → Nat → Int := fun i j => if i = r then u j else M i j
/-- Where row r stands once row i is struck. -/
def unhop (i r : Nat) : Nat := if r < i then r else r - 1
theorem hop_iff {i r : Nat} (h : r ≠ i) (a : Nat) : hop i a = r ↔ a = unhop i r := by
  unfold hop unhop
  split <;> split <;> omega
theorem unhop_lt {i r n : Nat} (h : r ≠ i) (hi : i < n + 1) (hr : r < n + 1) : unhop i r < n := by unfold unhop; split <;> omega
theorem minor_rep (M : Nat → Nat → Int) (u : Nat → Int) {i r : Nat} (h : r ≠ i) : (fun a b => rep M r u (hop i a) (b + 1)) = rep (fun a b => M (hop i a) (b + 1)) (unhop i r) (fun b => u (b + 1)) := by
  funext a b
  unfold rep
  by_cases e : hop i a = r
  · rw [if_pos e, if_pos ((hop_iff h a).1 e)]
  · rw [if_neg e, if_neg fun e2 => e ((hop_iff h a).2 e2)]
theorem minor_own (M : Nat → Nat → Int) (u : Nat → Int) (r : Nat) : (fun a b => rep M r u (hop r a) (b + 1)) = fun a b => M (hop r a) (b + 1) := by
  funext a b
  unfold rep
  rw [if_neg (hop_ne r a)]
/-- Linear in each row, nought where two rows beside each other are the same. -/
structure Alt (n : Nat) (D : (Nat → Nat → Int) → Int) : Prop where
  lin : ∀ (M : Nat → Nat → Int) (r : Nat) (u v : Nat → Int) (c d : Int), r < n → D (rep M r (fun j => c * u j + d * v j)) = c * D (rep M r u) + d * D (rep M r v)
  adj : ∀ (M : Nat → Nat → Int) (k : Nat), k + 1 < n → (∀ j, M k j = M (k + 1) j) → D M = 0
  cong : ∀ (M N : Nat → Nat → Int), (∀ i j, i < n → j < n → M i j = N i j) → D M = D N
theorem Di_lin : ∀ (n : Nat) (M : Nat → Nat → Int) (r : Nat) (u v : Nat → Int) (c d : Int), r < n → Di n (rep M r (fun j => c * u j + d * v j)) = c * Di n (rep M r u) + d * Di n (rep M r v)
  | 0, _, _, _, _, _, _, h => absurd h (Nat.not_lt_zero _)
  | n + 1, M, r, u, v, c, d, hr => by
    show si (fun i => sgi i * rep M r (fun j => c * u j + d * v j) i 0 * Di n (fun a b => rep M r (fun j => c * u j + d * v j) (hop i a) (b + 1))) (n + 1) = c * si (fun i => sgi i * rep M r u i 0 * Di n (fun a b => rep M r u (hop i a) (b + 1))) (n + 1) + d * si (fun i => sgi i * rep M r v i 0 * Di n (fun a b => rep M r v (hop i a) (b + 1))) (n + 1)
    rw [← si_mul, ← si_mul, ← si_add]
    refine si_congr _ fun i hi => ?_
    by_cases e : r = i
    · subst e
      rw [minor_own, minor_own, minor_own]
      simp only [rep, if_true]
      grind
    · rw [minor_rep _ _ e, minor_rep _ _ e, minor_rep _ _ e]
      have ih := Di_lin n (fun a b => M (hop i a) (b + 1)) (unhop i r) (fun b => u (b + 1)) (fun b => v (b + 1)) c d (unhop_lt e hi hr)
      rw [ih]
      simp only [rep, if_neg (fun e2 : i = r => e e2.symm)]
      grind
theorem si_two {f : Nat → Int} {n k : Nat} (hk : k + 1 < n) (h : ∀ i, i < n → i ≠ k → i ≠ k + 1 → f i = 0) : si f n = f k + f (k + 1) := by
  have e : si f n = si (fun i => if i = k then f k else 0) n + si (fun i => if i = k + 1 then f (k + 1) else 0) n := by
    rw [← si_add]
    refine si_congr _ fun i hi => ?_
    by_cases h1 : i = k
    · subst h1; simp only [if_true, if_neg (show ¬ i = i + 1 by omega)]; omega
    · by_cases h2 : i = k + 1
      · subst h2; simp only [if_true, if_neg (show ¬ k + 1 = k by omega)]; omega
      · rw [if_neg h1, if_neg h2, h i hi h1 h2]; omega
  rw [e, si_one (show k < n by omega) (fun i _ hne => if_neg hne), si_one hk (fun i _ hne => if_neg hne), if_pos rfl, if_pos rfl]
theorem Di_adj : ∀ (n : Nat) (M : Nat → Nat → Int) (k : Nat), k + 1 < n → (∀ j, M k j = M (k + 1) j) → Di n M = 0
  | 0, _, _, h, _ => absurd h (Nat.not_lt_zero _)
  | n + 1, M, k, hk, h => by
    show si (fun i => sgi i * M i 0 * Di n (fun a b => M (hop i a) (b + 1))) (n + 1) = 0
    rw [si_two hk fun i hi h1 h2 => ?_]
    · have e : (fun a b => M (hop (k + 1) a) (b + 1)) = fun a b => M (hop k a) (b + 1) := by
        funext a b
        by_cases e1 : a = k
        · subst e1
          have e2 : hop (a + 1) a = a := by unfold hop; rw [if_pos (by omega)]
          have e3 : hop a a = a + 1 := by unfold hop; rw [if_neg (by omega)]
          rw [e2, e3]; exact h _
        · have e2 : hop (k + 1) a = hop k a := by unfold hop; split <;> split <;> omega
          rw [e2]
      rw [e, ← h 0]
      simp only [sgi]
      grind
    · have hz : Di n (fun a b => M (hop i a) (b + 1)) = 0 := by
        refine Di_adj n _ (unhop i k) ?_ fun j => ?_
        · unfold unhop; split <;> omega
        · have e1 : hop i (unhop i k) = k := (hop_iff (Ne.symm h1) _).2 rfl
          have e2 : hop i (unhop i k + 1) = k + 1 := (hop_iff (Ne.symm h2) _).2 (by unfold unhop; split <;> split <;> omega)
          rw [e1, e2]; exact h _
      rw [hz]; grind
theorem Di_alt (n : Nat) : Alt n (Di n) := ⟨Di_lin n, Di_adj n, Di_congr n⟩

theorem rep_self (M : Nat → Nat → Int) (r : Nat) : rep M r (M r) = M := by
  funext i j; unfold rep; split
  · rename_i e; rw [e]
  · rfl
theorem rep_comm (M : Nat → Nat → Int) {r s : Nat} (h : r ≠ s) (u v : Nat → Int) : rep (rep M r u) s v = rep (rep M s v) r u := by
  funext i j; unfold rep
  by_cases h1 : i = s
  · subst h1; rw [if_pos rfl, if_neg (fun e => h e.symm), if_pos rfl]
  · rw [if_neg h1]
    by_cases h2 : i = r
    · rw [if_pos h2, if_pos h2]
    · rw [if_neg h2, if_neg h2, if_neg h1]

section
variable {n : Nat} {D : (Nat → Nat → Int) → Int} (h : Alt n D)
include h
/-- Where two equal rows make nought, an exchange turns the sign. -/
theorem Alt.turn {M : Nat → Nat → Int} {k l : Nat} (hk : k < n) (hl : l < n) (hne : k ≠ l) (h0 : ∀ u : Nat → Int, D (rep (rep M k u) l u) = 0) (u v : Nat → Int) : D (rep (rep M k u) l v) = - D (rep (rep M k v) l u) := by
  have e1 : ∀ u v w : Nat → Int, D (rep (rep M k (fun j => 1 * u j + 1 * v j)) l w) = D (rep (rep M k u) l w) + D (rep (rep M k v) l w) := fun u v w => by
    rw [rep_comm _ hne, rep_comm _ hne, rep_comm _ hne, h.lin _ k u v 1 1 hk]; omega
  have e2 : ∀ u v w : Nat → Int, D (rep (rep M k w) l (fun j => 1 * u j + 1 * v j)) = D (rep (rep M k w) l u) + D (rep (rep M k w) l v) := fun u v w => by
    rw [h.lin _ l u v 1 1 hl]; omega
  have h1 := h0 (fun j => 1 * u j + 1 * v j)
  rw [e1, e2, e2, h0 u, h0 v] at h1
  omega
/-- Two rows that are the same. -/
theorem Alt.same : ∀ (d : Nat) (M : Nat → Nat → Int) (k : Nat), k + d + 1 < n → (∀ j, M k j = M (k + d + 1) j) → D M = 0
  | 0, M, k, hk, e => h.adj M k hk e
  | d + 1, M, k, hk, e0 => by
    have h1 : ∀ u : Nat → Int, D (rep (rep M (k + d + 1) u) (k + d + 2) u) = 0 := fun u => h.adj _ (k + d + 1) (by omega) fun j => by
      simp [rep]
    have h2 := h.turn (M := M) (k := k + d + 1) (l := k + d + 2) (by omega) (by omega) (by omega) h1 (M (k + d + 1)) (M (k + d + 2))
    have e : rep (rep M (k + d + 1) (M (k + d + 1))) (k + d + 2) (M (k + d + 2)) = M := by rw [rep_self, rep_self]
    rw [e] at h2
    rw [h2, Alt.same d _ k (by omega) fun j => ?_]
    · rfl
    · have e1 : ¬ k = k + d + 1 := by omega
      have e2 : ¬ k = k + d + 2 := by omega
      have e3 : ¬ k + d + 1 = k + d + 2 := by omega
      simp only [rep, if_neg e1, if_neg e2, if_neg e3, if_true]
      exact e0 j
theorem Alt.eq {M : Nat → Nat → Int} {k l : Nat} (hk : k < n) (hl : l < n) (hne : k ≠ l) (e : ∀ j, M k j = M l j) : D M = 0 := by
  rcases Nat.lt_or_gt_of_ne hne with h1 | h1
  · exact h.same (l - k - 1) M k (by omega) fun j => by rw [show k + (l - k - 1) + 1 = l from by omega]; exact e j
  · exact h.same (k - l - 1) M l (by omega) fun j => by rw [show l + (k - l - 1) + 1 = k from by omega]; exact (e j).symm
theorem Alt.swap {M : Nat → Nat → Int} {k l : Nat} (hk : k < n) (hl : l < n) (hne : k ≠ l) : D (rep (rep M k (M l)) l (M k)) = - D M := by
  have h1 := h.turn (M := M) hk hl hne (fun u => h.eq hk hl hne fun j => by simp [rep]) (M l) (M k)
  rw [h1, rep_self, rep_self]
theorem Alt.nul {M : Nat → Nat → Int} {r : Nat} (hr : r < n) (e : ∀ j, M r j = 0) : D M = 0 := by
  have h1 := h.lin M r (M r) (M r) 0 0 hr
  have e1 : rep M r (fun j => 0 * M r j + 0 * M r j) = M := by
    funext i j; unfold rep; split
    · rename_i e2; show 0 * M r j + 0 * M r j = M i j; rw [e2, e j]; rfl
    · rfl
  rw [e1] at h1
  omega
theorem Alt.sum {M : Nat → Nat → Int} {r : Nat} (hr : r < n) (c : Nat → Int) (u : Nat → Nat → Int) (m : Nat) : D (rep M r (fun j => si (fun t => c t * u t j) m)) = si (fun t => c t * D (rep M r (u t))) m := by
  induction m with
  | zero =>
    simp only [si]
    exact h.nul hr fun j => by simp [rep]
  | succ m ih =>
    simp only [si]
    have h1 := h.lin M r (fun j => si (fun t => c t * u t j) m) (u m) 1 (c m) hr
    rw [ih] at h1
    have e : (fun j => 1 * si (fun t => c t * u t j) m + c m * u m j) = fun j => si (fun t => c t * u t j) m + c m * u m j := by funext j; omega
    rw [e] at h1
    rw [h1]; omega
theorem Alt.row {M : Nat → Nat → Int} {r k : Nat} (hr : r < n) (hk : k < n) (hne : r ≠ k) (c : Int) : D (rep M r (fun j => M r j + c * M k j)) = D M := by
  have h1 := h.lin M r (M r) (M k) 1 c hr
  rw [rep_self, h.eq (M := rep M r (M k)) hr hk hne (fun j => by simp only [rep, if_true, if_neg (fun e : k = r => hne e.symm)])] at h1
  have e : (fun j => 1 * M r j + c * M k j) = fun j => M r j + c * M k j := by funext j; omega
  rw [e] at h1
  rw [h1]; omega
end

/-- More numbers than places: two stand in one. -/
theorem pigeon : ∀ (m n : Nat) (f : Nat → Nat), m < n → (∀ i, i < n → f i < m) → ∃ a b, a < n ∧ b < n ∧ a ≠ b ∧ f a = f b
  | 0, n, f, hmn, h => absurd (h 0 hmn) (Nat.not_lt_zero _)
  | m + 1, n, f, hmn, h => by
    obtain ⟨q, rfl⟩ : ∃ q, n = q + 1 := ⟨n - 1, by omega⟩
    by_cases hc : ∃ a, a < q ∧ f a = f q
    · obtain ⟨a, ha, e⟩ := hc
      exact ⟨a, q, by omega, by omega, by omega, e⟩
    · have hne : ∀ a, a < q → f a ≠ f q := fun a ha e => hc ⟨a, ha, e⟩
      have hq := h q (by omega)
      obtain ⟨a, b, ha, hb, hab, e⟩ := pigeon m q (fun i => if f i < f q then f i else f i - 1) (by omega) fun i hi => by
        have h1 := hne i hi
        have h2 := h i (by omega)
        show (if f i < f q then f i else f i - 1) < m
        split <;> omega
      refine ⟨a, b, by omega, by omega, hab, ?_⟩
      have h1 := hne a ha
      have h2 := hne b hb
      have e9 : (if f a < f q then f a else f a - 1) = (if f b < f q then f b else f b - 1) := e
      split at e9 <;> split at e9 <;> omega
def unit (s : Nat → Nat) : Nat → Nat → Int := fun i j => if j = s i then 1 else 0
section
variable {n : Nat} {D : (Nat → Nat → Int) → Int} (h : Alt n D) (h0 : D (unit id) = 0)
include h h0
theorem Alt.units : ∀ (d k : Nat) (s : Nat → Nat), k + d = n → (∀ i, i < k → s i = i) → (∀ i, i < n → s i < n) → D (unit s) = 0
  | 0, k, s, hk, hs, _ => by
    rw [h.cong (unit s) (unit id) fun i j hi _ => by unfold unit; rw [hs i (by omega)]; rfl]
    exact h0
  | d + 1, k, s, hk, hs, hb => by
    by_cases e : s k = k
    · refine Alt.units d (k + 1) s (by omega) (fun i hi => ?_) hb
      by_cases e2 : i = k
      · rw [e2]; exact e
      · exact hs i (by omega)
    · by_cases hl : ∃ l, l < n ∧ s l = k
      · obtain ⟨l, hln, hlk⟩ := hl
        have hne : k ≠ l := fun e2 => e (by rw [← e2] at hlk; exact hlk)
        have hgt : k < l := by
          rcases Nat.lt_or_gt_of_ne hne with h1 | h1
          · exact h1
          · have := hs l h1; omega
        have h1 := h.swap (M := unit s) (k := k) (l := l) (by omega) hln hne
        have e3 : rep (rep (unit s) k (unit s l)) l (unit s k) = unit (fun i => if i = l then s k else if i = k then s l else s i) := by
          funext i j
          unfold rep unit
          by_cases e4 : i = l
          · simp only [if_pos e4]
          · simp only [if_neg e4]
            by_cases e5 : i = k
            · simp only [if_pos e5]
            · simp only [if_neg e5]
        rw [e3, Alt.units d (k + 1) _ (by omega) (fun i hi => ?_) fun i hi => ?_] at h1
        · omega
        · show (if i = l then s k else if i = k then s l else s i) = i
          rw [if_neg (by omega)]
          split
          · rename_i e4; rw [hlk, e4]
          · exact hs i (by omega)
        · show (if i = l then s k else if i = k then s l else s i) < n
          split
          · exact hb k (by omega)
          · split
            · exact hb l hln
            · exact hb i hi
      · have hno : ∀ l, l < n → s l ≠ k := fun l hl2 e2 => hl ⟨l, hl2, e2⟩
        obtain ⟨a, b, ha, hb2, hab, e2⟩ := pigeon (n - 1) n (fun i => if s i < k then s i else s i - 1) (by omega) fun i hi => by
          have h1 := hno i hi
          have h2 := hb i hi
          show (if s i < k then s i else s i - 1) < n - 1
          split <;> omega
        have h1 := hno a ha
        have h2 := hno b hb2
        have e3 : s a = s b := by
          have e9 : (if s a < k then s a else s a - 1) = (if s b < k then s b else s b - 1) := e2
          split at e9 <;> split at e9 <;> omega
        exact h.eq ha hb2 hab fun j => by unfold unit; rw [e3]
/-- An alternating form that makes nought of the identity makes nought. -/
theorem Alt.none : ∀ (k : Nat) (M : Nat → Nat → Int) (s : Nat → Nat), k ≤ n → (∀ i, i < n → s i < n) → (∀ i j, k ≤ i → i < n → j < n → M i j = unit s i j) → D M = 0
  | 0, M, s, _, hs, hM => by
    rw [h.cong M (unit s) fun i j hi hj => hM i j (Nat.zero_le _) hi hj]
    exact h.units h0 n 0 s (by omega) (fun i hi => absurd hi (Nat.not_lt_zero _)) hs
  | k + 1, M, s, hk, hs, hM => by
    have e : D M = D (rep M k (fun j => si (fun t => M k t * (if j = t then 1 else 0)) n)) := h.cong _ _ fun i j hi hj => by
      unfold rep
      split
      · rename_i e1
        show M i j = si (fun t => M k t * if j = t then 1 else 0) n
        rw [si_one hj fun t _ hne => by rw [if_neg (fun e2 => hne e2.symm)]; omega, if_pos rfl, e1]; omega
      · rfl
    rw [e, h.sum (M := M) (r := k) (by omega) (M k) (fun t j => if j = t then 1 else 0) n]
    refine si_none _ fun t ht => ?_
    rw [Alt.none k (rep M k (fun j => if j = t then 1 else 0)) (fun i => if i = k then t else s i) (by omega) (fun i hi => ?_) fun i j hi hin hj => ?_]
    · omega
    · show (if i = k then t else s i) < n
      split
      · exact ht
      · exact hs i hi
    · unfold rep unit
      by_cases e1 : i = k
      · simp only [if_pos e1]
      · simp only [if_neg e1]
        exact hM i j (by omega) hin hj
end
theorem Di_first {n : Nat} {M : Nat → Nat → Int} (h : ∀ i, 0 < i → i < n + 1 → M i 0 = 0) : Di (n + 1) M = M 0 0 * Di n (fun a b => M (a + 1) (b + 1)) := by
  show si (fun i => sgi i * M i 0 * Di n (fun a b => M (hop i a) (b + 1))) (n + 1) = _
  rw [si_one (show 0 < n + 1 by omega) fun i hi hne => by rw [h i (by omega) hi]; grind]
  have e : (fun a b => M (hop 0 a) (b + 1)) = fun a b => M (a + 1) (b + 1) := by
    funext a b; unfold hop; rw [if_neg (Nat.not_lt_zero _)]
  rw [e]
  simp only [sgi]
  grind
theorem Di_one : ∀ n : Nat, Di n (unit id) = 1
  | 0 => rfl
  | n + 1 => by
    rw [Di_first fun i hi _ => by unfold unit; rw [if_neg (by show ¬ 0 = i; omega)]]
    have e : (fun a b => unit id (a + 1) (b + 1)) = unit id := by
      funext a b
      unfold unit
      by_cases h : b = a
      · rw [if_pos (show b + 1 = id (a + 1) by show b + 1 = a + 1; omega), if_pos (show b = id a from h)]
      · rw [if_neg (show ¬ b + 1 = id (a + 1) by show ¬ b + 1 = a + 1; omega), if_neg (show ¬ b = id a from h)]
    rw [e, Di_one n]; rfl
/-- The one alternating form. -/
theorem Alt.det {n : Nat} {D : (Nat → Nat → Int) → Int} (h : Alt n D) (M : Nat → Nat → Int) : D M = D (unit id) * Di n M := by
  have hA := Di_alt n
  have h1 : Alt n (fun M => D M - D (unit id) * Di n M) := ⟨fun M r u v c d hr => by
    show D _ - D (unit id) * Di n _ = c * (D _ - D (unit id) * Di n _) + d * (D _ - D (unit id) * Di n _)
    rw [h.lin M r u v c d hr, hA.lin M r u v c d hr]; grind, fun M k hk e => by
    show D M - D (unit id) * Di n M = 0
    rw [h.adj M k hk e, hA.adj M k hk e]; omega, fun M N e => by
    show D M - D (unit id) * Di n M = D N - D (unit id) * Di n N
    rw [h.cong M N e, hA.cong M N e]⟩
  have h2 := h1.none (by show D (unit id) - D (unit id) * Di n (unit id) = 0; rw [Di_one]; omega) n M (fun i => i) (Nat.le_refl _) (fun i hi => hi) (fun i j h1 h2 => by omega)
  have h3 : D M - D (unit id) * Di n M = 0 := h2
  omega
/-- A product of matrices. -/
def mi (n : Nat) (A B : Nat → Nat → Int) : Nat → Nat → Int := fun i j => si (fun t => A i t * B t j) n
theorem mi_rep (n : Nat) (A B : Nat → Nat → Int) (r : Nat) (u : Nat → Int) : mi n (rep A r u) B = rep (mi n A B) r (fun j => si (fun t => u t * B t j) n) := by
  funext i j
  unfold mi rep
  by_cases e : i = r
  · rw [if_pos e]; exact si_congr _ fun t _ => by rw [if_pos e]
  · rw [if_neg e]; exact si_congr _ fun t _ => by rw [if_neg e]
/-- The determinant of a product. -/
theorem Di_mul (n : Nat) (A B : Nat → Nat → Int) : Di n (mi n A B) = Di n A * Di n B := by
  have hA := Di_alt n
  have h : Alt n (fun A => Di n (mi n A B)) := ⟨fun M r u v c d hr => by
    show Di n (mi n _ B) = c * Di n (mi n _ B) + d * Di n (mi n _ B)
    rw [mi_rep, mi_rep, mi_rep, ← hA.lin _ r _ _ c d hr]
    congr 1
    congr 1
    funext j
    rw [← si_mul, ← si_mul, ← si_add]
    exact si_congr _ fun t _ => by grind, fun M k hk e => hA.adj _ k hk fun j => si_congr _ fun t _ => by rw [e t], fun M N e => hA.cong _ _ fun i j hi _ => si_congr _ fun t ht => by rw [e i t hi ht]⟩
  have h1 := h.det A
  have e : Di n (mi n (unit id) B) = Di n B := Di_congr n _ _ fun i j hi _ => by
    show si (fun t => unit id i t * B t j) n = B i j
    rw [si_one hi fun t _ hne => by unfold unit; rw [if_neg (by exact hne)]; omega]
    unfold unit; rw [if_pos (show i = id i from rfl)]; omega
  have h2 : Di n (mi n A B) = Di n (mi n (unit id) B) * Di n A := h1
  rw [h2, e, Int.mul_comm]
/-- Linear in each column. -/
theorem Di_col : ∀ (n : Nat) (M : Nat → Nat → Int) (r : Nat) (u v : Nat → Int) (c d : Int), r < n → Di n (fun i j => if j = r then c * u i + d * v i else M i j) = c * Di n (fun i j => if j = r then u i else M i j) + d * Di n (fun i j => if j = r then v i else M i j)
  | 0, _, _, _, _, _, _, h => absurd h (Nat.not_lt_zero _)
  | n + 1, M, r, u, v, c, d, hr => by
    unfold Di
    rw [← si_mul, ← si_mul, ← si_add]
    refine si_congr _ fun i hi => ?_
    cases r with
    | zero =>
      have e : ∀ w : Nat → Int, (fun a b => if b + 1 = 0 then w (hop i a) else M (hop i a) (b + 1)) = fun a b => M (hop i a) (b + 1) := fun w => by
        funext a b
        rw [if_neg (by omega)]
      simp only [if_true]
      rw [e, e, e (fun x => c * u x + d * v x)]
      grind
    | succ r =>
      have e : ∀ w : Nat → Int, (fun a b => if b + 1 = r + 1 then w (hop i a) else M (hop i a) (b + 1)) = fun a b => if b = r then w (hop i a) else M (hop i a) (b + 1) := fun w => by
        funext a b
        by_cases h : b = r
        · rw [if_pos h, if_pos (by omega)]
        · rw [if_neg h, if_neg (by omega)]
      rw [e, e, e (fun x => c * u x + d * v x), Di_col n (fun a b => M (hop i a) (b + 1)) r (fun a => u (hop i a)) (fun a => v (hop i a)) c d (by omega)]
      have e0 : ¬ 0 = r + 1 := by omega
      simp only [if_neg e0]
      grind
/-- Two columns beside each other that are the same. -/
theorem Di_cols {n : Nat} {M : Nat → Nat → Int} {k : Nat} (hk : k + 1 < n) (e : ∀ i, M i k = M i (k + 1)) : Di n M = 0 := by
  -- M is N with its column k added to column k + 1, and column k + 1 of N is nought
  have h0 : Di n (fun i j => if j = k + 1 then 0 else M i j) = 0 := by
    have h := Di_col n M (k + 1) (fun _ => 0) (fun _ => 0) 0 0 hk
    simp only [Int.zero_mul, Int.add_zero] at h
    exact h
  have h1 : Di n (mi n (fun i j => if j = k + 1 then 0 else M i j) (fun t j => if j = t ∨ (t = k ∧ j = k + 1) then 1 else 0)) = Di n M := Di_congr n _ _ fun i j hi hj => by
    show si (fun t => (if t = k + 1 then 0 else M i t) * (if j = t ∨ (t = k ∧ j = k + 1) then 1 else 0)) n = M i j
    by_cases hj1 : j = k + 1
    · subst hj1
      rw [si_one (k := k) (by omega) fun t ht hne => ?_]
      · rw [if_neg (by omega), if_pos (by omega), e i]; omega
      · by_cases h2 : t = k + 1
        · rw [if_pos h2]; omega
        · rw [if_neg h2, if_neg (by omega)]; omega
    · rw [si_one hj fun t ht hne => ?_]
      · rw [if_neg hj1, if_pos (by omega)]; omega
      · by_cases h2 : t = k + 1
        · rw [if_pos h2]; omega
        · rw [if_neg h2, if_neg (by omega)]; omega
  rw [← h1, Di_mul, h0]; omega
/-- The determinant of the transpose. -/
theorem Di_turn (n : Nat) (M : Nat → Nat → Int) : Di n (fun i j => M j i) = Di n M := by
  have h : Alt n (fun M => Di n (fun i j => M j i)) := ⟨fun M r u v c d hr => Di_col n (fun i j => M j i) r u v c d hr, fun M k hk e => Di_cols hk fun i => e i, fun M N e => Di_congr n _ _ fun i j hi hj => e j i hj hi⟩
  have h1 := h.det M
  have e : Di n (fun i j => unit id j i) = Di n (unit id) := Di_congr n _ _ fun i j _ _ => by
    unfold unit
    by_cases h : i = j
    · rw [if_pos (show i = id j from h), if_pos (show j = id i from h.symm)]
    · rw [if_neg (show ¬ i = id j from h), if_neg (show ¬ j = id i from fun e => h e.symm)]
  have h2 : Di n (fun i j => M j i) = Di n (fun i j => unit id j i) * Di n M := h1
  rw [h2, e, Di_one]; omega
end
end Go.Proofs.YtbafiahmcfkboaaDoor
