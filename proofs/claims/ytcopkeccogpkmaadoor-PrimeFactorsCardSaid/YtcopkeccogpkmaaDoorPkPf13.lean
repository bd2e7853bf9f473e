/- Is is right: what prime's Is and the reference's Is answer of every number below 2^32. Conditions: bases reads 2, 7, 61 (prime's). prime's Add, Sub, Mul, Neg, Pow and what the reference answers. Conditions: p a prime, or none; bases reads 2, 7, 61. prime's inverse, Quo and Inv modulo a prime: by Fermat's power. Conditions: p a prime; bases reads 2, 7, 61. The walk of PrimeLaws: true. Conditions: bases reads 2, 7, 61. -/
import Derived.Test.YtcopkeccogpkmaaDoorPkPf1
import Derived.Test.YtcopkeccogpkmaaDoorPkPf2
import Derived.Test.YtcopkeccogpkmaaDoorPkPf12
import Derived.Deep.QuietTactic
import Derived.BigQuiet
import Derived.Deep.CutBlock
import Derived.RegionTactic
import Derived.WalkMore
import Derived.IntWalk
import Derived.Deep.DeepCutAuto
namespace Go.Proofs.YtcopkeccogpkmaaDoor
section
open Go.RowKit

theorem Bases.drewN {w : World} (h : Bases w) (n : Nat) : Bases (w.drewN n) := h

/-- Is n a prime? -/
noncomputable def isP (n : Nat) : Bool := @decide (Pr n) (Classical.propDecidable _)
theorem Pr.none {n : Nat} (h : Pr n) (e : Nat) (h2 : 2 ≤ e) (hlt : e < n) : n % e ≠ 0 := fun h0 => by
  rcases h.2 e (Nat.dvd_of_mod_eq_zero h0) with h1 | h1 <;> omega
theorem Pr.odd {n : Nat} (h : Pr n) (h2 : 2 < n) : n % 2 = 1 := by
  have := h.none 2 (by omega) h2
  omega
end
section
open Go.RowKit
end
section
open Go.RowKit

theorem Pr.inv_right {p a : Nat} (hp : Pr p) (ha : ¬ p ∣ a) : a * (a ^ (p - 2) % p) % p = 1 := by
  have h2 := hp.1
  rw [Nat.mul_mod_mod, ← hp.fermat ha]
  congr 1
  rw [Nat.mul_comm, ← Nat.pow_succ]
  congr 1; omega
theorem inv_unique {p a u v : Nat} (hu : a * u % p = 1) (hv : a * v % p = 1) (hlt : v < p) (hul : u < p) : v = u := by
  have h1 : v * (a * u) % p = v := by rw [Nat.mul_mod, hu, Nat.mul_one, Nat.mod_mod, Nat.mod_eq_of_lt hlt]
  have h2 : u * (a * v) % p = u := by rw [Nat.mul_mod, hv, Nat.mul_one, Nat.mod_mod, Nat.mod_eq_of_lt hul]
  exact h1.symm.trans ((congrArg (· % p) (show v * (a * u) = u * (a * v) from by ac_rfl)).trans h2)

/-- What Euclid's steps keep. -/
def Eu (a p r s X Y : Nat) (x y : Int) : Prop :=
  s < r ∧ 1 ≤ s ∧ Nat.gcd r s = 1 ∧ Y * r + X * s = p ∧ ((x = -(X : Int) ∧ y = (Y : Int)) ∨ (x = (X : Int) ∧ y = -(Y : Int))) ∧ (∃ k : Int, (a : Int) * x = r + k * p) ∧ (∃ k : Int, (a : Int) * y = s + k * p)
theorem Eu.start {a p : Nat} (hp : Pr p) (ha : 0 < a) (hap : a < p) : Eu a p p a 0 1 0 1 :=
  ⟨hap, ha, hp.gcd (hp.not_dvd_lt ha hap), by simp, Or.inl ⟨rfl, rfl⟩, ⟨-1, by omega⟩, ⟨0, by omega⟩⟩
theorem Eu.step {a p r s X Y : Nat} {x y : Int} (h : Eu a p r s X Y x y) (hs : s ≠ 1) : Eu a p s (r % s) Y (X + r / s * Y) y (x - ((r / s : Nat) : Int) * y) := by
  obtain ⟨h1, h2, h3, h4, h5, ⟨k, h6⟩, ⟨j, h7⟩⟩ := h
  have hdm := Nat.div_add_mod r s
  have hg : Nat.gcd s (r % s) = 1 := by rw [Nat.gcd_comm, ← Nat.gcd_rec, Nat.gcd_comm]; exact h3
  have hm0 : r % s ≠ 0 := fun h0 => by rw [h0, Nat.gcd_zero_right] at hg; exact hs hg
  have hrI : (r : Int) = s * ((r / s : Nat) : Int) + ((r % s : Nat) : Int) := by rw [← Int.natCast_mul, ← Int.natCast_add, hdm]
  refine ⟨Nat.mod_lt _ (by omega), by omega, hg, ?_, ?_, ⟨j, h7⟩, ⟨k - ((r / s : Nat) : Int) * j, ?_⟩⟩
  · generalize r / s = q at hdm
    generalize r % s = m at hdm
    rw [← h4, ← hdm, Nat.add_mul, Nat.mul_add]
    rw [show q * Y * s = Y * (s * q) from by ac_rfl]
    omega
  · rcases h5 with ⟨rfl, rfl⟩ | ⟨rfl, rfl⟩
    · refine Or.inr ⟨rfl, ?_⟩
      rw [Int.natCast_add, Int.natCast_mul]; omega
    · refine Or.inl ⟨rfl, ?_⟩
      rw [Int.natCast_add, Int.natCast_mul, Int.mul_neg]; omega
  · generalize ((r / s : Nat) : Int) = q at hrI
    generalize ((r % s : Nat) : Int) = m at hrI
    rw [Int.mul_sub, h6, show (a : Int) * (q * y) = q * (a * y) from by ac_rfl, h7, hrI, Int.sub_mul, Int.mul_add, show q * (s : Int) = s * q from Int.mul_comm _ _, Int.mul_assoc]
    omega
theorem Eu.last {a p r X Y : Nat} {x y : Int} (h : Eu a p r 1 X Y x y) (hp : Pr p) (ha : ¬ p ∣ a) :
    (0 ≤ y → y = ((a ^ (p - 2) % p : Nat) : Int)) ∧ (y < 0 → y + p = ((a ^ (p - 2) % p : Nat) : Int)) := by
  have h2 := hp.1
  obtain ⟨h1, _, h3, h4, h5, _, ⟨j, h7⟩⟩ := h
  have hY : Y * 2 ≤ Y * r := Nat.mul_le_mul_left _ (by omega)
  have hYp : Y < p := by omega
  have hl : a ^ (p - 2) % p < p := Nat.mod_lt _ hp.pos
  have key : ∀ (v : Nat) (c : Int), (v : Int) = y + c * p → v < p → v = a ^ (p - 2) % p := fun v c hv hvp => by
    refine inv_unique (hp.inv_right ha) ?_ hvp hl
    have : ((a * v : Nat) : Int) = 1 + (j + a * c) * p := by
      rw [Int.natCast_mul, hv, Int.mul_add, h7, Int.add_mul, Int.mul_assoc]; omega
    have h8 : ((a * v % p : Nat) : Int) = 1 := by
      rw [Int.natCast_emod, this, Int.add_mul_emod_self_right, Int.emod_eq_of_lt (by omega) (by omega)]
    omega
  refine ⟨fun hy => ?_, fun hy => ?_⟩
  · have : y.toNat = a ^ (p - 2) % p := key y.toNat 0 (by omega) (by omega)
    omega
  · have : (y + p).toNat = a ^ (p - 2) % p := key (y + p).toNat 1 (by omega) (by omega)
    omega
end
section
open Go.RowKit

theorem Bases.lt {w : World} (h : Bases w) : 0 < w.heap.size := by
  rcases Nat.lt_or_ge 0 w.heap.size with h1 | h1
  · exact h1
  · exfalso
    have h2 := h.1
    simp [World.cell?, Array.getElem?_eq_none h1] at h2
theorem Bases.keep {w w' : World} (h : Bases w) {B : Nat} (hb : Below B w w') (hB : 0 < B) : Bases w' :=
  ⟨(hb.cell (p := ⟨_, 0, none⟩) hB).trans h.1, (hb.cell (p := ⟨_, 1, none⟩) hB).trans h.2.1, (hb.cell (p := ⟨_, 2, none⟩) hB).trans h.2.2⟩
theorem Bases.alloc {w : World} (h : Bases w) (o : Obj) : Bases (w.alloc o) := h.keep ((Below.refl w.heap.size w).alloc (Nat.le_refl _) o) h.lt
end
end Go.Proofs.YtcopkeccogpkmaaDoor
