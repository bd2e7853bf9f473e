/- prime's inverse, Quo and Inv modulo a prime: by Fermat's power. Conditions: p a prime; bases reads 2, 7, 61. -/
import Derived.Test.YtnjhppdcpjgfmaaDoorPrimeO
import Derived.Deep.CutBlock
import Derived.RegionTactic
import Derived.Deep.QuietTactic
import Derived.BigQuiet
import Derived.WalkMore
import Derived.IntWalk
import Derived.Deep.DeepCutAuto
namespace Go.Proofs.YtnjhppdcpjgfmaaDoor
open Go.RowKit

theorem Pr.inv_right {p a : Nat} (hp : Pr p) (ha : ¬ p ∣ a) : a * (a ^ (p - 2) % p) % p = 1 := by
  have h2 := hp.1
  rw [Nat.mul_mod_mod, ← hp.fermat ha]
  congr 1
  rw [Nat.mul_comm, ← Nat.pow_succ]
  congr 1; omega
theorem inv_unique {p a u v : Nat} (hu : a * u % p = 1) (hv : a * v % p = 1) (hlt : v < p) (hul : u < p) : v = u := by
  have h1 : v * (a * u) % p = v := by rw [Nat.mul_mod, hu, Nat.mul_one, Nat.mod_mod, Nat.mod_eq_of_lt hlt]
  have h2 : u * (a * v) % p = u := by rw [Nat.mul_mod, hv, Nat.mul_one, Nat.mod_mod, Nat.mod_eq_of_lt hul]
  exact h1.symm.trans ((congrArg (· % p) (show v * (a * u) = u * (a * v) from by ac_rfl)).trans h2)

/-- What Euclid's steps keep. -/
def Eu (a p r s X Y : Nat) (x y : Int) : Prop :=
  s < r ∧ 1 ≤ s ∧ Nat.gcd r s = 1 ∧ Y * r + X * s = p ∧ ((x = -(X : Int) ∧ y = (Y : Int)) ∨ (x = (X : Int) ∧ y = -(Y : Int))) ∧ (∃ k : Int, (a : Int) * x = r + k * p) ∧ (∃ k : Int, (a : Int) * y = s + k * p)
theorem Eu.start {a p : Nat} (hp : Pr p) (ha : 0 < a) (hap : a < p) : Eu a p p a 0 1 0 1 :=
  ⟨hap, ha, hp.gcd (hp.not_dvd_lt ha hap), by simp, Or.inl ⟨rfl, rfl⟩, ⟨-1, by omega⟩, ⟨0, by omega⟩⟩
theorem Eu.step {a p r s X Y : Nat} {x y : Int} (h : Eu a p r s X Y x y) (hs : s ≠ 1) : Eu a p s (r % s) Y (X + r / s * Y) y (x - ((r / s : Nat) : Int) * y) := by
  obtain ⟨h1, h2, h3, h4, h5, ⟨k, h6⟩, ⟨j, h7⟩⟩ := h
  have hdm := Nat.div_add_mod r s
  have hg : Nat.gcd s (r % s) = 1 := by rw [Nat.gcd_comm, ← Nat.gcd_rec, Nat.gcd_comm]; exact h3
  have hm0 : r % s ≠ 0 := fun h0 => by rw [h0, Nat.gcd_zero_right] at hg; exact hs hg
  have hrI : (r : Int) = s * ((r / s : Nat) : Int) + ((r % s : Nat) : Int) := by rw [← Int.natCast_mul, ← Int.natCast_add, hdm]
  refine ⟨Nat.mod_lt _ (by omega), by omega, hg, ?_, ?_, ⟨j, h7⟩, ⟨k - ((r / s : Nat) : Int) * j, ?_⟩⟩
  · generalize r / s = q at hdm
    generalize r % s = m at hdm
    rw [← h4, ← hdm, Nat.add_mul, Nat.mul_add]
    rw [show q * Y * s = Y * (s * q) from by ac_rfl]
    omega
  · rcases h5 with ⟨rfl, rfl⟩ | ⟨rfl, rfl⟩
    · refine Or.inr ⟨rfl, ?_⟩
      rw [Int.natCast_add, Int.natCast_mul]; omega
    · refine Or.inl ⟨rfl, ?_⟩
      rw [Int.natCast_add, Int.natCast_mul, Int.mul_neg]; omega
  · generalize ((r / s : Nat) : Int) = q at hrI
    generalize ((r % s : Nat) : Int) = m at hrI
    rw [Int.mul_sub, h6, show (a : Int) * (q * y) = q * (a * y) from by ac_rfl, h7, hrI, Int.sub_mul, Int.mul_add, show q * (s : Int) = s * q from Int.mul_comm _ _, Int.mul_assoc]
    omega
theorem Eu.bounds {a p r s X Y : Nat} {x y : Int} (h : Eu a p r s X Y x y) : -(p : Int) ≤ x ∧ x ≤ p ∧ -(p : Int) ≤ y ∧ y ≤ p ∧ r ≤ p + r := by
  obtain ⟨h1, h2, h3, h4, h5, _, _⟩ := h
  have a1 : Y ≤ Y * r := Nat.le_mul_of_pos_right _ (by omega)
  have a2 : X ≤ X * s := Nat.le_mul_of_pos_right _ (by omega)
  rcases h5 with ⟨rfl, rfl⟩ | ⟨rfl, rfl⟩ <;> omega
theorem Eu.last {a p r X Y : Nat} {x y : Int} (h : Eu a p r 1 X Y x y) (hp : Pr p) (ha : ¬ p ∣ a) :
    (0 ≤ y → y = ((a ^ (p - 2) % p : Nat) : Int)) ∧ (y < 0 → y + p = ((a ^ (p - 2) % p : Nat) : Int)) := by
  have h2 := hp.1
  obtain ⟨h1, _, h3, h4, h5, _, ⟨j, h7⟩⟩ := h
  have hY : Y * 2 ≤ Y * r := Nat.mul_le_mul_left _ (by omega)
  have hYp : Y < p := by omega
  have hl : a ^ (p - 2) % p < p := Nat.mod_lt _ hp.pos
  have key : ∀ (v : Nat) (c : Int), (v : Int) = y + c * p → v < p → v = a ^ (p - 2) % p := fun v c hv hvp => by
    refine inv_unique (hp.inv_right ha) ?_ hvp hl
    have : ((a * v : Nat) : Int) = 1 + (j + a * c) * p := by
      rw [Int.natCast_mul, hv, Int.mul_add, h7, Int.add_mul, Int.mul_assoc]; omega
    have h8 : ((a * v % p : Nat) : Int) = 1 := by
      rw [Int.natCast_emod, this, Int.add_mul_emod_self_right, Int.emod_eq_of_lt (by omega) (by omega)]
    omega
  refine ⟨fun hy => ?_, fun hy => ?_⟩
  · have : y.toNat = a ^ (p - 2) % p := key y.toNat 0 (by omega) (by omega)
    omega
  · have : (y + p).toNat = a ^ (p - 2) % p := key (y + p).toNat 1 (by omega) (by omega)
    omega

set_option maxHeartbeats 1600000 in
theorem inverse_any (a p : Nat) (hp : Pr p) (ha0 : 0 < a) (hap : a < p) (hlt : p < 4294967296) (w : World) :
    Calls Tryd.prog 62 #[.int .u32 (a : Int), .int .u32 (p : Int)] w fun r w' => r = .returned (.int .u32 ((a ^ (p - 2) % p : Nat) : Int)) ∧ w' = w := by
  have hl : a ^ (p - 2) % p < p := Nat.mod_lt _ hp.pos
  have Hst := Lib.hid (Eu.start hp ha0 hap)
  have Hend := Lib.hid (fun (r X Y : Nat) (x y : Int) (h : Eu a p r 1 X Y x y) => h.last hp (hp.not_dvd_lt ha0 hap))
  obtain ⟨V, hV⟩ : ∃ V, V = a ^ (p - 2) % p := ⟨_, rfl⟩
  rw [← hV] at hl Hend ⊢
  have hp2 := hp.1
  clear hV hp
  go_enter Tryd.func62, Tryd.ntmps62
  go_wp2
  go_step3
  go_wp2
  go_step3
  go_wp2
  go_loop [5, 6, 7, 8] (fun rv sv xv yv => ∃ (r s X Y : Nat) (x y : Int), rv = .int .i64 (r : Int) ∧ sv = .int .i64 (s : Int) ∧ xv = .int .i64 x ∧ yv = .int .i64 y ∧ r ≤ p ∧ Eu a p r s X Y x y) (fun _ sv _ _ => (intOf sv).toNat)
  case atStart => exact ⟨p, a, 0, 1, 0, 1, rfl, rfl, rfl, rfl, Nat.le_refl _, Hst.out⟩
  case round =>
    obtain ⟨r, s, X, Y, x, y, rfl, rfl, rfl, rfl, hr, hrel⟩ := hrel
    obtain ⟨b1, b2, b3, b4, _⟩ := hrel.bounds
    have hs1 := hrel.2.1
    have hsr := hrel.1
    by_cases hs : s = 1
    · subst hs
      obtain ⟨e1, e2⟩ := Hend.out _ _ _ _ _ hrel
      clear hrel
      by_cases hy : y < 0
      · have e := e2 hy
        have t1 : decide (y < 0) = true := by simpa using hy
        clear e1 e2
        go_wp2
        go_ret
        exact ⟨rfl, rfl⟩
      · obtain rfl := e1 (by omega)
        have t1 : decide ((V : Int) < 0) = false := by simp
        clear e2
        go_wp2
        go_ret
        exact ⟨rfl, rfl⟩
    · have hst := hrel.step hs
      obtain ⟨_, _, c3, c4, _⟩ := hst.bounds
      have Hst2 := Lib.hid hst
      obtain ⟨q, hq⟩ : ∃ q, q = r / s := ⟨_, rfl⟩
      obtain ⟨m, hm⟩ : ∃ m, m = r % s := ⟨_, rfl⟩
      have hdm := Nat.div_add_mod r s
      rw [← hq, ← hm] at hdm Hst2
      rw [← hq] at c3 c4
      have hms : m < s := by rw [hm]; exact Nat.mod_lt _ (by omega)
      obtain ⟨z, hz⟩ : ∃ z, z = (q : Int) * y := ⟨_, rfl⟩
      rw [← hz] at c3 c4 Hst2
      obtain ⟨u, hu⟩ : ∃ u, u = s * q := ⟨_, rfl⟩
      rw [← hu] at hdm
      have t0 : ((s : Int) == 1) = false := by simp; omega
      have t1 : ((s : Int) == 0) = false := by simp; omega
      have t2 : (r : Int) / (s : Int) = (q : Int) := by rw [hq]; rfl
      have hqr : q ≤ r := by rw [hq]; exact Nat.div_le_self r s
      have t3 : wrap64 ((q : Int) * (s : Int)) = (u : Int) := by
        rw [show (q : Int) * (s : Int) = (u : Int) from by rw [hu, Int.natCast_mul, Int.mul_comm]]
        exact IntWalk.wrap64_in _ (by omega)
      have t4 : wrap64 ((q : Int) * y) = z := by
        rw [← hz]; exact IntWalk.wrap64_in _ (by omega)
      have t5 : (r : Int) - (u : Int) = (m : Int) := by omega
      clear hrel hst hs hq hm hz hu Hend hdm
      go_wp2
      go_round
      case rel => exact ⟨s, m, Y, X + q * Y, y, x - z, rfl, rfl, rfl, rfl, by omega, Hst2.out⟩
      case measure => simp [intOf]; omega

theorem mod_dvd_not {b p : Nat} (hb : b % p ≠ 0) : ¬ p ∣ b := fun h => hb (Nat.mod_eq_zero_of_dvd h)
set_option maxHeartbeats 800000 in
theorem pquo_zero (a b p : Nat) (hp : Pr p) (hlt : p < 4294967296) (h0 : b % p = 0) (w : World) (hw : Bases w) :
    Calls Tryd.prog 46 #[.int .u32 (a : Int), .int .u32 (b : Int), .int .u32 (p : Int)] w fun r w' => r = .returned (.tuple #[.int .u32 0, .int .i64 5]) ∧ w' = w := by
  have Hw := Lib.hid hw
  have Hi := Lib.hid (fun W hW => is_yes p hp hlt W hW)
  have hp2 := hp.1
  have t0 : (b : Int) % (p : Int) = 0 := by rw [cast_mod, h0]; rfl
  have t1 : ((p : Int) == 0) = false := by simp; omega
  clear hw hp h0
  go_enter Tryd.func46, Tryd.ntmps46
  go_wp2_with fail
  refine (Hi.out _ Hw.out).mono ?_
  rintro _ _ ⟨rfl, rfl⟩
  go_wp2
  go_ret2
  exact ⟨rfl, rfl⟩
set_option maxHeartbeats 800000 in
theorem pquo_yes (a b p : Nat) (ha : a < 4294967296) (hp : Pr p) (hlt : p < 4294967296) (h0 : b % p ≠ 0) (w : World) (hw : Bases w) :
    Calls Tryd.prog 46 #[.int .u32 (a : Int), .int .u32 (b : Int), .int .u32 (p : Int)] w fun r w' => r = .returned (.tuple #[.int .u32 ((a * (b ^ (p - 2) % p) % p : Nat) : Int), .int .i64 0]) ∧ w' = w := by
  have Hw := Lib.hid hw
  have Hi := Lib.hid (fun W hW => is_yes p hp hlt W hW)
  have hp2 := hp.1
  have hbp : b % p < p := Nat.mod_lt _ hp.pos
  have hinv := fun W => inverse_any (b % p) p hp (by omega) hbp hlt W
  have hl : b ^ (p - 2) % p < p := Nat.mod_lt _ hp.pos
  rw [← Nat.pow_mod] at hinv
  have ht := fun W => times_any a (b ^ (p - 2) % p) p W ha (by omega) hlt hp.pos
  have t0 : (b : Int) % (p : Int) = ((b % p : Nat) : Int) := cast_mod b p
  obtain ⟨c, hc⟩ : ∃ c, c = b % p := ⟨_, rfl⟩
  obtain ⟨v, hv⟩ : ∃ v, v = b ^ (p - 2) % p := ⟨_, rfl⟩
  rw [← hc] at t0 h0 hbp
  simp only [← hc, ← hv] at hinv
  simp only [← hv] at ht
  rw [← hv] at hl ⊢
  have Hinv := Lib.hid hinv
  have Ht := Lib.hid ht
  have t1 : ((p : Int) == 0) = false := by simp; omega
  have t2 : ((c : Int) == 0) = false := by simp; omega
  clear hw hp hc hv hinv ht
  go_enter Tryd.func46, Tryd.ntmps46
  go_wp2_with fail
  refine (Hi.out _ Hw.out).mono ?_
  rintro _ _ ⟨rfl, rfl⟩
  go_wp2_with fail
  refine (Hinv.out _).mono ?_
  rintro _ _ ⟨rfl, rfl⟩
  go_wp2_with fail
  refine (Ht.out _).mono ?_
  rintro _ _ ⟨rfl, rfl⟩
  go_wp2
  go_ret2
  exact ⟨rfl, rfl⟩
set_option maxHeartbeats 400000 in
theorem pinv_zero (b p : Nat) (hp : Pr p) (hlt : p < 4294967296) (h0 : b % p = 0) (w : World) (hw : Bases w) :
    Calls Tryd.prog 51 #[.int .u32 (b : Int), .int .u32 (p : Int)] w fun r w' => r = .returned (.tuple #[.int .u32 0, .int .i64 5]) ∧ w' = w := by
  have H := Lib.hid (fun W hW => pquo_zero 1 b p hp hlt h0 W hW)
  have Hw := Lib.hid hw
  clear hw hp h0
  go_enter Tryd.func51, Tryd.ntmps51
  go_wp2_with fail
  refine (H.out _ Hw.out).mono ?_
  rintro _ _ ⟨rfl, rfl⟩
  go_wp2
  go_ret2
  exact ⟨rfl, rfl⟩
set_option maxHeartbeats 400000 in
theorem pinv_yes (b p : Nat) (hp : Pr p) (hlt : p < 4294967296) (h0 : b % p ≠ 0) (w : World) (hw : Bases w) :
    Calls Tryd.prog 51 #[.int .u32 (b : Int), .int .u32 (p : Int)] w fun r w' => r = .returned (.tuple #[.int .u32 ((b ^ (p - 2) % p : Nat) : Int), .int .i64 0]) ∧ w' = w := by
  have h := fun W hW => pquo_yes 1 b p (by omega) hp hlt h0 W hW
  simp only [Nat.one_mul, Nat.mod_mod] at h
  have H := Lib.hid h
  have Hw := Lib.hid hw
  clear hw hp h0 h
  go_enter Tryd.func51, Tryd.ntmps51
  go_wp2_with fail
  refine (H.out _ Hw.out).mono ?_
  rintro _ _ ⟨rfl, rfl⟩
  go_wp2
  go_ret2
  exact ⟨rfl, rfl⟩
end Go.Proofs.YtnjhppdcpjgfmaaDoor
