/- prime's Sqrt, the reference's Legendre, and the walk of PrimeRoots: true. Conditions: bases reads 2, 7, 61. -/
import Derived.Test.YtnjhppdcpjgfmaaDoorPrimeAb
import Derived.Test.YtnjhppdcpjgfmaaDoorPrimeY
import Derived.WalkLawsBesides
namespace Go.Proofs.YtnjhppdcpjgfmaaDoor
open Go.RowKit

theorem minus_sq {p r : Nat} (h : r ≤ p) : (p - r) * (p - r) % p = r * r % p := by
  obtain ⟨q, rfl⟩ : ∃ q, p = r + q := ⟨p - r, by omega⟩
  rw [Nat.add_sub_cancel_left]
  have e : (r + q) * q + r * r = q * q + (r + q) * r := by
    rw [Nat.add_mul, Nat.add_mul]
    have : r * q = q * r := Nat.mul_comm r q
    omega
  have h1 : ((r + q) * q + r * r) % (r + q) = r * r % (r + q) := by rw [Nat.add_comm, Nat.add_mul_mod_self_left]
  have h2 : (q * q + (r + q) * r) % (r + q) = q * q % (r + q) := by rw [Nat.add_mul_mod_self_left]
  rw [← h1, ← h2, e]

theorem psqrt_no (a p : Nat) (hp : ¬ Pr p) (hlt : p < 4294967296) (w : World) (hw : Bases w) :
    Calls Tryd.prog 35 #[.int .u32 (a : Int), .int .u32 (p : Int)] w fun r w' => r = .returned (.tuple #[.int .u32 0, .int .i64 40]) ∧ w' = w := by
  have Hw := Lib.hid hw
  have Hi := Lib.hid (fun W hW => is_no p hp hlt W hW)
  clear hw hp
  go_enter Tryd.func35, Tryd.ntmps35
  go_wp2_with fail
  refine (Hi.out _ Hw.out).mono ?_
  rintro _ _ ⟨rfl, rfl⟩
  go_wp2
  go_ret2
  exact ⟨rfl, rfl⟩
theorem psqrt_zero (a p : Nat) (hp : Pr p) (hlt : p < 4294967296) (h0 : a % p = 0) (w : World) (hw : Bases w) :
    Calls Tryd.prog 35 #[.int .u32 (a : Int), .int .u32 (p : Int)] w fun r w' => r = .returned (.tuple #[.int .u32 0, .int .i64 0]) ∧ w' = w := by
  have Hw := Lib.hid hw
  have hp1 := hp.1
  have Hi := Lib.hid (fun W hW => is_yes p hp hlt W hW)
  have t0 : (a : Int) % (p : Int) = 0 := by rw [cast_mod, h0]; rfl
  have t2 : ((p : Int) == 0) = false := by simp; omega
  clear hw hp h0
  go_enter Tryd.func35, Tryd.ntmps35
  go_wp2_with fail
  refine (Hi.out _ Hw.out).mono ?_
  rintro _ _ ⟨rfl, rfl⟩
  go_wp2
  go_ret2
  exact ⟨rfl, rfl⟩
theorem psqrt_none (a p : Nat) (ha : a < 4294967296) (hp : Pr p) (hlt : p < 4294967296) (h0 : a % p ≠ 0) (hs : ¬ Sq a p) (w : World) (hw : Bases w) :
    Calls Tryd.prog 35 #[.int .u32 (a : Int), .int .u32 (p : Int)] w fun r w' => r = .returned (.tuple #[.int .u32 0, .int .i64 41]) ∧ w' = w := by
  have Hw := Lib.hid hw
  have hp1 := hp.1
  have Hi := Lib.hid (fun W hW => is_yes p hp hlt W hW)
  have Hs := Lib.hid (fun W => isSquare_no a p ha hp hlt hs W)
  have t0 : (a : Int) % (p : Int) = ((a % p : Nat) : Int) := cast_mod a p
  obtain ⟨c, hc⟩ : ∃ c, c = a % p := ⟨_, rfl⟩
  rw [← hc] at t0 h0
  have t1 : ((c : Int) == 0) = false := by simp; omega
  have t2 : ((p : Int) == 0) = false := by simp; omega
  clear hw hp h0 hs hc
  go_enter Tryd.func35, Tryd.ntmps35
  go_wp2_with fail
  refine (Hi.out _ Hw.out).mono ?_
  rintro _ _ ⟨rfl, rfl⟩
  go_wp2_with fail
  refine (Hs.out _).mono ?_
  rintro _ _ ⟨rfl, rfl⟩
  go_wp2
  go_ret2
  exact ⟨rfl, rfl⟩
theorem psqrt_two (a : Nat) (ha : a < 4294967296) (h0 : a % 2 ≠ 0) (w : World) (hw : Bases w) :
    Calls Tryd.prog 35 #[.int .u32 (a : Int), .int .u32 2] w fun r w' => r = .returned (.tuple #[.int .u32 1, .int .i64 0]) ∧ w' = w := by
  have Hw := Lib.hid hw
  have Hi := Lib.hid (fun W hW => is_yes 2 pr_two (by decide) W hW)
  have t0 : (a : Int) % 2 = 1 := by omega
  clear hw h0
  go_enter Tryd.func35, Tryd.ntmps35
  go_wp2_with fail
  refine (Hi.out _ Hw.out).mono ?_
  rintro _ _ ⟨rfl, rfl⟩
  go_wp2_with fail
  refine (isSquare_two a _).mono ?_
  rintro _ _ ⟨rfl, rfl⟩
  go_wp2
  go_ret2
  exact ⟨rfl, rfl⟩
set_option maxHeartbeats 800000 in
theorem psqrt_some (a p : Nat) (ha : a < 4294967296) (hp : Pr p) (hlt : p < 4294967296) (h2 : 2 < p) (h0 : a % p ≠ 0) (hs : a ^ ((p - 1) / 2) % p = 1) (w : World) (hw : Bases w) :
    Calls Tryd.prog 35 #[.int .u32 (a : Int), .int .u32 (p : Int)] w fun r w' => (∃ s : Nat, r = .returned (.tuple #[.int .u32 (s : Int), .int .i64 0]) ∧ 0 < s ∧ s < p ∧ s * s % p = a % p ∧ s ≤ p - s) ∧ w' = w := by
  have Hw := Lib.hid hw
  have hp1 := hp.1
  have Hi := Lib.hid (fun W hW => is_yes p hp hlt W hW)
  have Hs := Lib.hid (fun W => isSquare_yes a p ha hp hlt (Or.inr hs) W)
  have Hr := Lib.hid (fun W => root_any (a % p) p hp h2 hlt (Nat.mod_lt _ hp.pos) (by rw [← Nat.pow_mod]; exact hs) W)
  have t0 : (a : Int) % (p : Int) = ((a % p : Nat) : Int) := cast_mod a p
  obtain ⟨c, hc⟩ : ∃ c, c = a % p := ⟨_, rfl⟩
  rw [← hc] at t0 h0 Hr ⊢
  have t1 : ((c : Int) == 0) = false := by simp; omega
  have t2 : ((p : Int) == 0) = false := by simp; omega
  have t3 : ((p : Int) == 2) = false := by simp; omega
  have Hc := Lib.hid h0
  clear hw hp h0 hs hc
  go_enter Tryd.func35, Tryd.ntmps35
  go_wp2_with fail
  refine (Hi.out _ Hw.out).mono ?_
  rintro _ _ ⟨rfl, rfl⟩
  go_wp2_with fail
  refine (Hs.out _).mono ?_
  rintro _ _ ⟨rfl, rfl⟩
  go_wp2_with fail
  refine (Hr.out _).mono ?_
  rintro _ _ ⟨⟨x, rfl, hxp, hxx⟩, rfl⟩
  have hx0 : 0 < x := Nat.pos_of_ne_zero fun h => by
    subst h
    exact Hc.out (by rw [← hxx, Nat.zero_mul, Nat.zero_mod])
  have Hxx := Lib.hid hxx
  clear hxx
  obtain ⟨y, hy⟩ : ∃ y, y = p - x := ⟨_, rfl⟩
  have ty : (p : Int) - (x : Int) = (y : Int) := by omega
  have Hy := Lib.hid hy
  have hyp : y < p := by omega
  have hy0 : 0 < y := by omega
  by_cases hle : x ≤ y
  · have tm : min (x : Int) (y : Int) = (x : Int) := by omega
    have tl : decide ((y : Int) < (x : Int)) = false := by simp; omega
    have tl2 : decide ((x : Int) < (y : Int)) = decide (x < y) := by simp
    clear hy
    go_wp2
    go_ret2
    exact ⟨⟨x, by first | rfl | simp [tm], hx0, hxp, Hxx.out, by have := Hy.out; omega⟩, rfl⟩
  · have tm : min (x : Int) (y : Int) = (y : Int) := by omega
    have tl : decide ((y : Int) < (x : Int)) = true := by simp; omega
    clear hy
    go_wp2
    go_ret2
    exact ⟨⟨y, by first | rfl | simp [tm], hy0, hyp, by rw [Hy.out, minus_sq (by omega)]; exact Hxx.out, by have := Hy.out; omega⟩, rfl⟩
end Go.Proofs.YtnjhppdcpjgfmaaDoor
