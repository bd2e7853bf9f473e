/- The walk of PrimeLaws: true. Conditions: bases reads 2, 7, 61. -/
import Derived.Test.YtnjhppdcpjgfmaaDoorPrimeP
namespace Go.Proofs.YtnjhppdcpjgfmaaDoor
open Go.RowKit

theorem Bases.lt {w : World} (h : Bases w) : 0 < w.heap.size := by
  rcases Nat.lt_or_ge 0 w.heap.size with h1 | h1
  · exact h1
  · exfalso
    have h2 := h.1
    simp [World.cell?, Array.getElem?_eq_none h1] at h2
theorem Bases.keep {w w' : World} (h : Bases w) {B : Nat} (hb : Below B w w') (hB : 0 < B) : Bases w' :=
  ⟨(hb.cell (p := ⟨_, 0, none⟩) hB).trans h.1, (hb.cell (p := ⟨_, 1, none⟩) hB).trans h.2.1, (hb.cell (p := ⟨_, 2, none⟩) hB).trans h.2.2⟩
theorem Bases.alloc {w : World} (h : Bases w) (o : Obj) : Bases (w.alloc o) := h.keep ((Below.refl w.heap.size w).alloc (Nat.le_refl _) o) h.lt

theorem neg_adds {a p : Nat} (hp0 : 0 < p) : (a + (0 + (p - a % p)) % p) % p = 0 := by
  have h : a % p < p := Nat.mod_lt _ hp0
  rw [Nat.zero_add, Nat.add_mod_mod, Nat.add_mod, ← Nat.add_mod, ← Nat.mod_add_mod, show a % p + (p - a % p) = p from by omega, Nat.mod_self]
theorem dist_mod (a b c p : Nat) : a * ((b + c) % p) % p = (a * b % p + a * c % p) % p := by
  rw [Nat.mul_mod_mod, Nat.mul_add, ← Nat.add_mod]
theorem Pr.quo_back {p a b : Nat} (hp : Pr p) (hb : b % p ≠ 0) : a * b % p * (b ^ (p - 2) % p) % p = a % p := by
  have h := hp.inv_right (mod_dvd_not hb)
  rw [Nat.mod_mul_mod, Nat.mul_assoc, Nat.mul_mod, h, Nat.mul_one, Nat.mod_mod]

set_option maxRecDepth 100000 in
set_option maxHeartbeats 3200000 in
theorem laws_zero (a b c p : Nat) (ha : a < 4294967296) (hb : b < 4294967296) (hc : c < 4294967296) (hp : Pr p) (hlt : p < 4294967296) (hb0 : b % p = 0) (w : World) (hw : Bases w) :
    Calls Tryd.prog 10 #[.agg #[.int .u32 (a : Int), .int .u32 (b : Int), .int .u32 (c : Int), .int .u32 (p : Int)]] w fun r w' => r = .returned (.bool true) ∧ Below w.heap.size w w' := by
  have Hw := Lib.hid (fun o => hw.alloc o)
  have hp1 := hp.1
  have Hi := Lib.hid (fun W => ris_yes p hp hlt W)
  have x1l : a * b % p < p := Nat.mod_lt _ (by omega)
  have x2l : (b + c) % p < p := Nat.mod_lt _ (by omega)
  have x3l : a * c % p < p := Nat.mod_lt _ (by omega)
  have nl : (0 + (p - a % p)) % p < p := Nat.mod_lt _ (by omega)
  have a1 := fun W hW => pmul_yes a b p ha hb hp hlt W hW
  have a2 := fun W hW => padd_yes b c p hb hc hp hlt W hW
  have a3 := fun W hW => pmul_yes a c p ha hc hp hlt W hW
  have a4 := fun W hW => pmul_yes a ((b + c) % p) p ha (by omega) hp hlt W hW
  have a5 := fun W hW => padd_yes (a * b % p) (a * c % p) p (by omega) (by omega) hp hlt W hW
  have a6 := fun W hW => pmul_yes b a p hb ha hp hlt W hW
  have a7 := fun W hW => pneg_yes a p ha hp hlt W hW
  have a8 := fun W hW => padd_yes a ((0 + (p - a % p)) % p) p ha (by omega) hp hlt W hW
  have a9 := fun W hW => pquo_zero (a * b % p) b p hp hlt hb0 W hW
  have tb : (b : Int) % (p : Int) = 0 := by rw [cast_mod, hb0]; rfl
  simp only [neg_adds (a := a) (show 0 < p by omega)] at a8
  simp only [← dist_mod] at a5
  simp only [Nat.mul_comm b a] at a6
  have tp : ((p : Int) == 0) = false := by simp; omega
  obtain ⟨x1, e1⟩ : ∃ x, x = a * b % p := ⟨_, rfl⟩
  obtain ⟨x2, e2⟩ : ∃ x, x = (b + c) % p := ⟨_, rfl⟩
  obtain ⟨x3, e3⟩ : ∃ x, x = a * c % p := ⟨_, rfl⟩
  obtain ⟨n, e5⟩ : ∃ x, x = (0 + (p - a % p)) % p := ⟨_, rfl⟩
  simp only [← e1] at a1 a5 a6 a9
  simp only [← e2] at a2 a4 a5
  simp only [← e3] at a3 a5
  obtain ⟨x4, e4⟩ : ∃ x, x = a * x2 % p := ⟨_, rfl⟩
  simp only [← e4] at a4 a5
  simp only [← e5] at a7 a8
  have A1 := Lib.hid a1
  have A2 := Lib.hid a2
  have A3 := Lib.hid a3
  have A4 := Lib.hid a4
  have A5 := Lib.hid a5
  have A6 := Lib.hid a6
  have A7 := Lib.hid a7
  have A8 := Lib.hid a8
  have A9 := Lib.hid a9
  clear a1 a2 a3 a4 a5 a6 a7 a8 a9 e1 e2 e3 e4 e5 x1l x2l x3l nl hw hp hb0
  go_enter Tryd.func10, Tryd.ntmps10
  go_wp2_with fail
  refine (Hi.out _).mono ?_
  rintro _ _ ⟨rfl, rfl⟩
  go_wp2_with fail
  refine (A1.out _ (Hw.out _)).mono ?_
  rintro _ _ ⟨rfl, rfl⟩
  go_wp2_with fail
  refine (A2.out _ (Hw.out _)).mono ?_
  rintro _ _ ⟨rfl, rfl⟩
  go_wp2_with fail
  refine (A3.out _ (Hw.out _)).mono ?_
  rintro _ _ ⟨rfl, rfl⟩
  go_wp2_with fail
  refine (A4.out _ (Hw.out _)).mono ?_
  rintro _ _ ⟨rfl, rfl⟩
  go_wp2_with fail
  refine (A5.out _ (Hw.out _)).mono ?_
  rintro _ _ ⟨rfl, rfl⟩
  go_wp2_with fail
  refine (A6.out _ (Hw.out _)).mono ?_
  rintro _ _ ⟨rfl, rfl⟩
  go_wp2_with fail
  refine (A7.out _ (Hw.out _)).mono ?_
  rintro _ _ ⟨rfl, rfl⟩
  go_wp2_with fail
  refine (A8.out _ (Hw.out _)).mono ?_
  rintro _ _ ⟨rfl, rfl⟩
  go_wp2_with fail
  refine (num_any _ _).mono ?_
  rintro _ _ ⟨rfl, rfl⟩
  go_wp2_with fail
  refine (num_any _ _).mono ?_
  rintro _ _ ⟨rfl, rfl⟩
  go_wp2_with fail
  refine (num_any _ _).mono ?_
  rintro _ _ ⟨rfl, rfl⟩
  go_wp2_with fail
  refine (num_any _ _).mono ?_
  rintro _ _ ⟨rfl, rfl⟩
  go_wp2_with fail
  refine (num_any _ _).mono ?_
  rintro _ _ ⟨rfl, rfl⟩
  go_wp2_with fail
  refine (num_any _ _).mono ?_
  rintro _ _ ⟨rfl, rfl⟩
  go_wp2_with fail
  refine (num_any _ _).mono ?_
  rintro _ _ ⟨rfl, rfl⟩
  go_wp2_with fail
  refine (num_any _ _).mono ?_
  rintro _ _ ⟨rfl, rfl⟩
  go_wp2_with fail
  refine (A9.out _ (Hw.out _)).mono ?_
  rintro _ _ ⟨rfl, rfl⟩
  go_wp2_with fail
  refine (num_any _ _).mono ?_
  rintro _ _ ⟨rfl, rfl⟩
  go_wp2_with fail
  refine (awake_any _ (Hw.out _)).mono ?_
  rintro _ _ ⟨rfl, rfl⟩
  go_wp2
  go_ret
  exact ⟨rfl, (Below.refl _ _).alloc (Nat.le_refl _) _⟩

set_option maxRecDepth 100000 in
set_option maxHeartbeats 3200000 in
theorem laws_some (a b c p : Nat) (ha : a < 4294967296) (hb : b < 4294967296) (hc : c < 4294967296) (hp : Pr p) (hlt : p < 4294967296) (hb0 : b % p ≠ 0) (w : World) (hw : Bases w) :
    Calls Tryd.prog 10 #[.agg #[.int .u32 (a : Int), .int .u32 (b : Int), .int .u32 (c : Int), .int .u32 (p : Int)]] w fun r w' => r = .returned (.bool true) ∧ Below w.heap.size w w' := by
  have Hw := Lib.hid (fun o => hw.alloc o)
  have hp1 := hp.1
  have Hi := Lib.hid (fun W => ris_yes p hp hlt W)
  have x1l : a * b % p < p := Nat.mod_lt _ (by omega)
  have x2l : (b + c) % p < p := Nat.mod_lt _ (by omega)
  have x3l : a * c % p < p := Nat.mod_lt _ (by omega)
  have nl : (0 + (p - a % p)) % p < p := Nat.mod_lt _ (by omega)
  have a1 := fun W hW => pmul_yes a b p ha hb hp hlt W hW
  have a2 := fun W hW => padd_yes b c p hb hc hp hlt W hW
  have a3 := fun W hW => pmul_yes a c p ha hc hp hlt W hW
  have a4 := fun W hW => pmul_yes a ((b + c) % p) p ha (by omega) hp hlt W hW
  have a5 := fun W hW => padd_yes (a * b % p) (a * c % p) p (by omega) (by omega) hp hlt W hW
  have a6 := fun W hW => pmul_yes b a p hb ha hp hlt W hW
  have a7 := fun W hW => pneg_yes a p ha hp hlt W hW
  have a8 := fun W hW => padd_yes a ((0 + (p - a % p)) % p) p ha (by omega) hp hlt W hW
  have a9 := fun W hW => pquo_yes (a * b % p) b p (by omega) hp hlt hb0 W hW
  simp only [hp.quo_back hb0] at a9
  have tb : (b : Int) % (p : Int) = ((b % p : Nat) : Int) := cast_mod b p
  obtain ⟨rb, hrb⟩ : ∃ x, x = b % p := ⟨_, rfl⟩
  rw [← hrb] at tb hb0
  have tb2 : ((rb : Int) == 0) = false := by simp; omega
  have ta : (a : Int) % (p : Int) = ((a % p : Nat) : Int) := cast_mod a p
  obtain ⟨ra, hra⟩ : ∃ x, x = a % p := ⟨_, rfl⟩
  rw [← hra] at ta
  simp only [← hra] at a9
  simp only [neg_adds (a := a) (show 0 < p by omega)] at a8
  simp only [← dist_mod] at a5
  simp only [Nat.mul_comm b a] at a6
  have tp : ((p : Int) == 0) = false := by simp; omega
  obtain ⟨x1, e1⟩ : ∃ x, x = a * b % p := ⟨_, rfl⟩
  obtain ⟨x2, e2⟩ : ∃ x, x = (b + c) % p := ⟨_, rfl⟩
  obtain ⟨x3, e3⟩ : ∃ x, x = a * c % p := ⟨_, rfl⟩
  obtain ⟨n, e5⟩ : ∃ x, x = (0 + (p - a % p)) % p := ⟨_, rfl⟩
  simp only [← e1] at a1 a5 a6 a9
  simp only [← e2] at a2 a4 a5
  simp only [← e3] at a3 a5
  obtain ⟨x4, e4⟩ : ∃ x, x = a * x2 % p := ⟨_, rfl⟩
  simp only [← e4] at a4 a5
  rw [← hra] at e5
  simp only [← hra, ← e5] at a7 a8
  have A1 := Lib.hid a1
  have A2 := Lib.hid a2
  have A3 := Lib.hid a3
  have A4 := Lib.hid a4
  have A5 := Lib.hid a5
  have A6 := Lib.hid a6
  have A7 := Lib.hid a7
  have A8 := Lib.hid a8
  have A9 := Lib.hid a9
  clear a1 a2 a3 a4 a5 a6 a7 a8 a9 e1 e2 e3 e4 e5 x1l x2l x3l nl hw hp hb0 hrb hra
  go_enter Tryd.func10, Tryd.ntmps10
  go_wp2_with fail
  refine (Hi.out _).mono ?_
  rintro _ _ ⟨rfl, rfl⟩
  go_wp2_with fail
  refine (A1.out _ (Hw.out _)).mono ?_
  rintro _ _ ⟨rfl, rfl⟩
  go_wp2_with fail
  refine (A2.out _ (Hw.out _)).mono ?_
  rintro _ _ ⟨rfl, rfl⟩
  go_wp2_with fail
  refine (A3.out _ (Hw.out _)).mono ?_
  rintro _ _ ⟨rfl, rfl⟩
  go_wp2_with fail
  refine (A4.out _ (Hw.out _)).mono ?_
  rintro _ _ ⟨rfl, rfl⟩
  go_wp2_with fail
  refine (A5.out _ (Hw.out _)).mono ?_
  rintro _ _ ⟨rfl, rfl⟩
  go_wp2_with fail
  refine (A6.out _ (Hw.out _)).mono ?_
  rintro _ _ ⟨rfl, rfl⟩
  go_wp2_with fail
  refine (A7.out _ (Hw.out _)).mono ?_
  rintro _ _ ⟨rfl, rfl⟩
  go_wp2_with fail
  refine (A8.out _ (Hw.out _)).mono ?_
  rintro _ _ ⟨rfl, rfl⟩
  go_wp2_with fail
  refine (num_any _ _).mono ?_
  rintro _ _ ⟨rfl, rfl⟩
  go_wp2_with fail
  refine (num_any _ _).mono ?_
  rintro _ _ ⟨rfl, rfl⟩
  go_wp2_with fail
  refine (num_any _ _).mono ?_
  rintro _ _ ⟨rfl, rfl⟩
  go_wp2_with fail
  refine (num_any _ _).mono ?_
  rintro _ _ ⟨rfl, rfl⟩
  go_wp2_with fail
  refine (num_any _ _).mono ?_
  rintro _ _ ⟨rfl, rfl⟩
  go_wp2_with fail
  refine (num_any _ _).mono ?_
  rintro _ _ ⟨rfl, rfl⟩
  go_wp2_with fail
  refine (num_any _ _).mono ?_
  rintro _ _ ⟨rfl, rfl⟩
  go_wp2_with fail
  refine (num_any _ _).mono ?_
  rintro _ _ ⟨rfl, rfl⟩
  go_wp2_with fail
  refine (A9.out _ (Hw.out _)).mono ?_
  rintro _ _ ⟨rfl, rfl⟩
  go_wp2_with fail
  refine (num_any _ _).mono ?_
  rintro _ _ ⟨rfl, rfl⟩
  go_wp2_with fail
  refine (awake_any _ (Hw.out _)).mono ?_
  rintro _ _ ⟨rfl, rfl⟩
  go_wp2
  go_ret
  exact ⟨rfl, (Below.refl _ _).alloc (Nat.le_refl _) _⟩

set_option maxRecDepth 100000 in
set_option maxHeartbeats 800000 in
theorem laws_none (a b c p : Nat) (hp : ¬ Pr p) (hlt : p < 4294967296) (w : World) (hw : Bases w) :
    Calls Tryd.prog 10 #[.agg #[.int .u32 (a : Int), .int .u32 (b : Int), .int .u32 (c : Int), .int .u32 (p : Int)]] w fun r w' => r = .returned (.bool true) ∧ Below w.heap.size w w' := by
  have Hw := Lib.hid (fun o => hw.alloc o)
  have Hi := Lib.hid (fun W => ris_no p hp hlt W)
  clear hw hp
  go_enter Tryd.func10, Tryd.ntmps10
  go_wp2_with fail
  refine (Hi.out _).mono ?_
  rintro _ _ ⟨rfl, rfl⟩
  go_wp2_with fail
  refine (awake_any _ (Hw.out _)).mono ?_
  rintro _ _ ⟨rfl, rfl⟩
  go_wp2
  go_ret
  exact ⟨rfl, (Below.refl _ _).alloc (Nat.le_refl _) _⟩
theorem primeLaws_walk (a : Nat) (ha : a < 4294967296) (b : Nat) (hb : b < 4294967296) (c : Nat) (hc : c < 4294967296) (p : Nat) (hlt : p < 4294967296) (w : World) (hw : Bases w) :
    Calls Tryd.prog 10 #[.agg #[.int .u32 (a : Int), .int .u32 (b : Int), .int .u32 (c : Int), .int .u32 (p : Int)]] w fun r w' => r = .returned (.bool true) ∧ Below w.heap.size w w' := by
  by_cases hp : Pr p
  · by_cases h0 : b % p = 0
    · exact laws_zero a b c p ha hb hc hp hlt h0 w hw
    · exact laws_some a b c p ha hb hc hp hlt h0 w hw
  · exact laws_none a b c p hp hlt w hw
end Go.Proofs.YtnjhppdcpjgfmaaDoor
