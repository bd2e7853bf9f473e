/- The walk of the law ZintPowers. Conditions: at most 2^20 limbs; the table of the library as it is laid. -/
import Derived.Test.YtanlejlmckdeiaaGreatDoorPkZk42
import Derived.Test.YtanlejlmckdeiaaGreatDoorPkZk33
namespace Go.Proofs.YtanlejlmckdeiaaGreatDoor
open Go.RowKit

theorem lsame_res9 {W w1 w2 : World} {z : Int} {zs ys : List Nat} {A1 A2 : Option Addr} {c1 c2 B1 B2 : Nat} (n1 : Num 4294967296 zs z.natAbs) (r1 : Res w1 B1 61 A1 c1 (u32s zs)) (h1 : Below w1.heap.size w1 W) (n2 : Num 4294967296 ys z.natAbs) (r2 : Res w2 B2 61 A2 c2 (u32s ys)) (h2 : Below w2.heap.size w2 W) :
    Calls Tryz.prog 7 #[.agg #[.bool (isNeg z), .slice A1 zs.length c1], .agg #[.bool (isNeg z), .slice A2 ys.length c2]] W fun e w' => e = .returned (.bool true) ∧ Below W.heap.size W w' := by
  have e2 := Num.unique (by omega) n1 n2
  subst e2
  exact lsame_any _ ((r1.rd.below h1).mono h1.size) ((r2.rd.below h2).mono h2.size) (res_len r1)
section
variable {w : World} {g : Bool} {A : Option Addr} {c b : Nat} {xs : List Nat}
set_option maxHeartbeats 3200000 in
theorem powers_low_neg (k : Int) (_ : -9223372036854775808 ≤ k) (_ : k ≤ 9223372036854775807) (hb9 : b ≤ 2147483648) (hb : b ≤ 1) (hn : k < 0) (ZP : Hid (∀ W (_ : Below w.heap.size w W), Calls Tryz.prog 19 #[.agg #[.bool g, .slice A xs.length c], .int .i64 k] W fun e w' => ZE W w' 0 1 e)) (LN : Hid (∀ W (_ : Below w.heap.size w W), Calls Tryz.prog 18 #[.slice A xs.length c] W fun e w' => e = .returned (.int .i64 (b : Nat)) ∧ Below W.heap.size W w')) :
    Calls Tryz.prog 4 #[.agg #[.bool g, .slice A xs.length c], .int .i64 k] w fun e w' => e = .returned (.bool true) ∧ Below w.heap.size w w' := by
  have t9 : decide (k < 0) = true := decide_eq_true hn
  have k0 := bel_one w (.cells #[.bool g, .slice A xs.length c] 28)
  have b0 := blk_one w (.bool g) (.slice A xs.length c)
  have t1 : decide ((1 : Int) < (b : Int)) = false := decide_eq_false (by omega)
  have t1b : decide (1 < b) = false := decide_eq_false (by omega)
  go_enter Tryz.func4, Tryz.ntmps4
  go_wp2_with fail
  obtain ⟨w0, hw0⟩ : ∃ v, v = w.alloc (.cells #[.bool g, .slice A xs.length c] 28) := ⟨_, rfl⟩
  rw [← hw0] at k0 b0 ⊢
  clear hw0
  refine (LN.out _ k0).mono ?_
  rintro e w1 ⟨rfl, hb1⟩
  have k1 := bst k0 hb1 (Nat.le_refl _)
  replace b0 := b0.below hb1 b0.lt
  obtain ⟨p0, p1, _, _⟩ := b0.two
  clear hb1 k0 LN
  go_wp2_with fail
  refine (ZP.out _ k1).mono ?_
  rintro e w2 ⟨zs, A2, c2, rfl, n2, r2, hb2⟩
  have k2 := bst k1 hb2 (Nat.le_refl _)
  obtain rfl : zs = [] := Num.unique (by omega) n2 (Num.zero_ _)
  have SM : Hid (∀ W (_ : Below w2.heap.size w2 W), Calls Tryz.prog 7 #[.agg #[.bool (isNeg 0), .slice A2 0 c2], .agg #[.bool false, .slice none 0 0]] W fun e w' => e = .returned (.bool true) ∧ Below W.heap.size W w') := fun W hW => lsame_any (xs := []) false ((r2.rd.below hW).mono hW.size) Rd.nil_ (by decide)
  clear p0 p1 ZP b0 hb2
  have j3 := bel_one w2 (.cells #[.bool (isNeg 0), .slice A2 0 c2] 28)
  have b3 := blk_one w2 (.bool (isNeg 0)) (.slice A2 0 c2)
  go_upto_region 6 with fail
  obtain ⟨w3, hw3⟩ : ∃ v, v = w2.alloc (.cells #[.bool (isNeg 0), .slice A2 0 c2] 28) := ⟨_, rfl⟩
  rw [← hw3] at j3 b3 ⊢
  clear hw3
  obtain ⟨q0, q1, _, _⟩ := b3.two
  go_wp2_with fail
  refine (SM.out _ j3).mono ?_
  rintro e w4 ⟨rfl, hb4⟩
  have k4 := bst (bst k2 j3 (Nat.le_refl _)) hb4 (Nat.le_refl _)
  clear q0 q1 b3 j3 hb4 SM
  go_wp2_with fail
  refine (zlives_any _).mono ?_
  rintro e wz ⟨rfl, hbz⟩
  go_wp2_with fail
  go_ret
  exact ⟨rfl, bst k4 hbz (Nat.le_refl _)⟩
set_option maxHeartbeats 3200000 in
theorem powers_non_neg (k : Int) (hk9 : -9223372036854775808 ≤ k) (hk8 : k ≤ 9223372036854775807) (hb9 : b ≤ 2147483648) (hb : 1 < b) (hk0 : k ≤ 0) (hn : k < 0) (ZP : Hid (∀ W (_ : Below w.heap.size w W), Calls Tryz.prog 19 #[.agg #[.bool g, .slice A xs.length c], .int .i64 k] W fun e w' => ZE W w' 0 1 e)) (LN : Hid (∀ W (_ : Below w.heap.size w W), Calls Tryz.prog 18 #[.slice A xs.length c] W fun e w' => e = .returned (.int .i64 (b : Nat)) ∧ Below W.heap.size W w')) :
    Calls Tryz.prog 4 #[.agg #[.bool g, .slice A xs.length c], .int .i64 k] w fun e w' => e = .returned (.bool true) ∧ Below w.heap.size w w' := by
  have t9 : decide (k < 0) = true := decide_eq_true hn
  have k0 := bel_one w (.cells #[.bool g, .slice A xs.length c] 28)
  have b0 := blk_one w (.bool g) (.slice A xs.length c)
  have t1 : decide ((1 : Int) < (b : Int)) = true := decide_eq_true (by omega)
  have t1b : decide (1 < b) = true := decide_eq_true hb
  have t2 : decide (0 < k) = false := decide_eq_false (by omega)
  go_enter Tryz.func4, Tryz.ntmps4
  go_wp2_with fail
  obtain ⟨w0, hw0⟩ : ∃ v, v = w.alloc (.cells #[.bool g, .slice A xs.length c] 28) := ⟨_, rfl⟩
  rw [← hw0] at k0 b0 ⊢
  clear hw0
  refine (LN.out _ k0).mono ?_
  rintro e w1 ⟨rfl, hb1⟩
  have k1 := bst k0 hb1 (Nat.le_refl _)
  replace b0 := b0.below hb1 b0.lt
  obtain ⟨p0, p1, _, _⟩ := b0.two
  clear hb1 k0 LN
  go_wp2_with fail
  refine (ZP.out _ k1).mono ?_
  rintro e w2 ⟨zs, A2, c2, rfl, n2, r2, hb2⟩
  have k2 := bst k1 hb2 (Nat.le_refl _)
  obtain rfl : zs = [] := Num.unique (by omega) n2 (Num.zero_ _)
  have SM : Hid (∀ W (_ : Below w2.heap.size w2 W), Calls Tryz.prog 7 #[.agg #[.bool (isNeg 0), .slice A2 0 c2], .agg #[.bool false, .slice none 0 0]] W fun e w' => e = .returned (.bool true) ∧ Below W.heap.size W w') := fun W hW => lsame_any (xs := []) false ((r2.rd.below hW).mono hW.size) Rd.nil_ (by decide)
  clear p0 p1 ZP b0 hb2
  have j3 := bel_one w2 (.cells #[.bool (isNeg 0), .slice A2 0 c2] 28)
  have b3 := blk_one w2 (.bool (isNeg 0)) (.slice A2 0 c2)
  go_upto_region 6 with fail
  obtain ⟨w3, hw3⟩ : ∃ v, v = w2.alloc (.cells #[.bool (isNeg 0), .slice A2 0 c2] 28) := ⟨_, rfl⟩
  rw [← hw3] at j3 b3 ⊢
  clear hw3
  obtain ⟨q0, q1, _, _⟩ := b3.two
  go_wp2_with fail
  refine (SM.out _ j3).mono ?_
  rintro e w4 ⟨rfl, hb4⟩
  have k4 := bst (bst k2 j3 (Nat.le_refl _)) hb4 (Nat.le_refl _)
  clear q0 q1 b3 j3 hb4 SM
  go_wp2_with fail
  refine (zlives_any _).mono ?_
  rintro e wz ⟨rfl, hbz⟩
  go_wp2_with fail
  go_ret
  exact ⟨rfl, bst k4 hbz (Nat.le_refl _)⟩
set_option maxHeartbeats 3200000 in
theorem powers_low_ok (k : Int) (hk9 : -9223372036854775808 ≤ k) (hk8 : k ≤ 9223372036854775807) (hb9 : b ≤ 2147483648) (hb : b ≤ 1) (q : Int) (hn : 0 ≤ k) (ZP : Hid (∀ W (_ : Below w.heap.size w W), Calls Tryz.prog 19 #[.agg #[.bool g, .slice A xs.length c], .int .i64 k] W fun e w' => ZE W w' q 0 e)) (RP : Hid (∀ W (_ : Below w.heap.size w W), Calls Tryz.prog 20 #[.agg #[.bool g, .slice A xs.length c], .int .i64 k] W fun e w' => ZB W w' q true e)) (LN : Hid (∀ W (_ : Below w.heap.size w W), Calls Tryz.prog 18 #[.slice A xs.length c] W fun e w' => e = .returned (.int .i64 (b : Nat)) ∧ Below W.heap.size W w')) :
    Calls Tryz.prog 4 #[.agg #[.bool g, .slice A xs.length c], .int .i64 k] w fun e w' => e = .returned (.bool true) ∧ Below w.heap.size w w' := by
  have t9 : decide (k < 0) = false := decide_eq_false (by omega)
  have k0 := bel_one w (.cells #[.bool g, .slice A xs.length c] 28)
  have b0 := blk_one w (.bool g) (.slice A xs.length c)
  have t1 : decide ((1 : Int) < (b : Int)) = false := decide_eq_false (by omega)
  have t1b : decide (1 < b) = false := decide_eq_false (by omega)
  go_enter Tryz.func4, Tryz.ntmps4
  go_wp2_with fail
  obtain ⟨w0, hw0⟩ : ∃ v, v = w.alloc (.cells #[.bool g, .slice A xs.length c] 28) := ⟨_, rfl⟩
  rw [← hw0] at k0 b0 ⊢
  clear hw0
  refine (LN.out _ k0).mono ?_
  rintro e w1 ⟨rfl, hb1⟩
  have k1 := bst k0 hb1 (Nat.le_refl _)
  replace b0 := b0.below hb1 b0.lt
  obtain ⟨p0, p1, _, _⟩ := b0.two
  clear hb1 k0 LN
  go_wp2_with fail
  refine (ZP.out _ k1).mono ?_
  rintro e w2 ⟨zs, A2, c2, rfl, n2, r2, hb2⟩
  have k2 := bst k1 hb2 (Nat.le_refl _)
  have b2 := b0.below hb2 b0.lt
  obtain ⟨u0, u1, _, _⟩ := (b2.heapAlloc (.cells #[.bool (isNeg q), .slice A2 zs.length c2] 28)).two
  clear p0 p1 ZP hb2 b0
  have j3 := bel_one w2 (.cells #[.bool (isNeg q), .slice A2 zs.length c2] 28)
  have b3 := blk_one w2 (.bool (isNeg q)) (.slice A2 zs.length c2)
  go_upto_region 7 with fail
  obtain ⟨w3, hw3⟩ : ∃ v, v = w2.alloc (.cells #[.bool (isNeg q), .slice A2 zs.length c2] 28) := ⟨_, rfl⟩
  rw [← hw3] at j3 b3 u0 u1 ⊢
  clear hw3 b2
  have k3 := bst k2 j3 (Nat.le_refl _)
  go_wp2_with fail
  refine (RP.out _ k3).mono ?_
  rintro e w4 ⟨ys, A4, c4, rfl, n4, r4, hb4⟩
  have k4 := bst k3 hb4 (Nat.le_refl _)
  have j4 := bst j3 hb4 (Nat.le_refl _)
  have b4 := b3.below hb4 b3.lt
  obtain ⟨u2, u3, _, _⟩ := (b4.heapAlloc (.cells #[.bool (isNeg q), .slice A4 ys.length c4] 28)).two
  clear u0 u1 RP hb4 b3
  have j5 := bel_one w4 (.cells #[.bool (isNeg q), .slice A4 ys.length c4] 28)
  have b5 := blk_one w4 (.bool (isNeg q)) (.slice A4 ys.length c4)
  go_upto_region 10 with fail
  obtain ⟨w5, hw5⟩ : ∃ v, v = w4.alloc (.cells #[.bool (isNeg q), .slice A4 ys.length c4] 28) := ⟨_, rfl⟩
  rw [← hw5] at j5 b5 u2 u3 ⊢
  clear hw5 b4
  have k5 := bst k4 j5 (Nat.le_refl _)
  have SM := Lib.hid (lsame_res9 n2 r2 (bst j4 j5 (Nat.le_refl _)) n4 r4 j5)
  obtain ⟨v0, v1, _, _⟩ := b5.two
  go_wp2_with fail
  refine SM.out.mono ?_
  rintro e w6 ⟨rfl, hb6⟩
  have k6 := bst k5 hb6 (Nat.le_refl _)
  clear u2 u3 v0 v1 b5 j5 hb6 SM
  go_wp2_with fail
  refine (zlives_any _).mono ?_
  rintro e wz ⟨rfl, hbz⟩
  go_wp2_with fail
  go_ret
  exact ⟨rfl, bst k6 hbz (Nat.le_refl _)⟩
set_option maxHeartbeats 3200000 in
theorem powers_non_ok (k : Int) (hk9 : -9223372036854775808 ≤ k) (hk8 : k ≤ 9223372036854775807) (hb9 : b ≤ 2147483648) (hb : 1 < b) (hk0 : k ≤ 0) (q : Int) (hn : 0 ≤ k) (ZP : Hid (∀ W (_ : Below w.heap.size w W), Calls Tryz.prog 19 #[.agg #[.bool g, .slice A xs.length c], .int .i64 k] W fun e w' => ZE W w' q 0 e)) (RP : Hid (∀ W (_ : Below w.heap.size w W), Calls Tryz.prog 20 #[.agg #[.bool g, .slice A xs.length c], .int .i64 k] W fun e w' => ZB W w' q true e)) (LN : Hid (∀ W (_ : Below w.heap.size w W), Calls Tryz.prog 18 #[.slice A xs.length c] W fun e w' => e = .returned (.int .i64 (b : Nat)) ∧ Below W.heap.size W w')) :
    Calls Tryz.prog 4 #[.agg #[.bool g, .slice A xs.length c], .int .i64 k] w fun e w' => e = .returned (.bool true) ∧ Below w.heap.size w w' := by
  have t9 : decide (k < 0) = false := decide_eq_false (by omega)
  have k0 := bel_one w (.cells #[.bool g, .slice A xs.length c] 28)
  have b0 := blk_one w (.bool g) (.slice A xs.length c)
  have t1 : decide ((1 : Int) < (b : Int)) = true := decide_eq_true (by omega)
  have t1b : decide (1 < b) = true := decide_eq_true hb
  have t2 : decide (0 < k) = false := decide_eq_false (by omega)
  go_enter Tryz.func4, Tryz.ntmps4
  go_wp2_with fail
  obtain ⟨w0, hw0⟩ : ∃ v, v = w.alloc (.cells #[.bool g, .slice A xs.length c] 28) := ⟨_, rfl⟩
  rw [← hw0] at k0 b0 ⊢
  clear hw0
  refine (LN.out _ k0).mono ?_
  rintro e w1 ⟨rfl, hb1⟩
  have k1 := bst k0 hb1 (Nat.le_refl _)
  replace b0 := b0.below hb1 b0.lt
  obtain ⟨p0, p1, _, _⟩ := b0.two
  clear hb1 k0 LN
  go_wp2_with fail
  refine (ZP.out _ k1).mono ?_
  rintro e w2 ⟨zs, A2, c2, rfl, n2, r2, hb2⟩
  have k2 := bst k1 hb2 (Nat.le_refl _)
  have b2 := b0.below hb2 b0.lt
  obtain ⟨u0, u1, _, _⟩ := (b2.heapAlloc (.cells #[.bool (isNeg q), .slice A2 zs.length c2] 28)).two
  clear p0 p1 ZP hb2 b0
  have j3 := bel_one w2 (.cells #[.bool (isNeg q), .slice A2 zs.length c2] 28)
  have b3 := blk_one w2 (.bool (isNeg q)) (.slice A2 zs.length c2)
  go_upto_region 7 with fail
  obtain ⟨w3, hw3⟩ : ∃ v, v = w2.alloc (.cells #[.bool (isNeg q), .slice A2 zs.length c2] 28) := ⟨_, rfl⟩
  rw [← hw3] at j3 b3 u0 u1 ⊢
  clear hw3 b2
  have k3 := bst k2 j3 (Nat.le_refl _)
  go_wp2_with fail
  refine (RP.out _ k3).mono ?_
  rintro e w4 ⟨ys, A4, c4, rfl, n4, r4, hb4⟩
  have k4 := bst k3 hb4 (Nat.le_refl _)
  have j4 := bst j3 hb4 (Nat.le_refl _)
  have b4 := b3.below hb4 b3.lt
  obtain ⟨u2, u3, _, _⟩ := (b4.heapAlloc (.cells #[.bool (isNeg q), .slice A4 ys.length c4] 28)).two
  clear u0 u1 RP hb4 b3
  have j5 := bel_one w4 (.cells #[.bool (isNeg q), .slice A4 ys.length c4] 28)
  have b5 := blk_one w4 (.bool (isNeg q)) (.slice A4 ys.length c4)
  go_upto_region 10 with fail
  obtain ⟨w5, hw5⟩ : ∃ v, v = w4.alloc (.cells #[.bool (isNeg q), .slice A4 ys.length c4] 28) := ⟨_, rfl⟩
  rw [← hw5] at j5 b5 u2 u3 ⊢
  clear hw5 b4
  have k5 := bst k4 j5 (Nat.le_refl _)
  have SM := Lib.hid (lsame_res9 n2 r2 (bst j4 j5 (Nat.le_refl _)) n4 r4 j5)
  obtain ⟨v0, v1, _, _⟩ := b5.two
  go_wp2_with fail
  refine SM.out.mono ?_
  rintro e w6 ⟨rfl, hb6⟩
  have k6 := bst k5 hb6 (Nat.le_refl _)
  clear u2 u3 v0 v1 b5 j5 hb6 SM
  go_wp2_with fail
  refine (zlives_any _).mono ?_
  rintro e wz ⟨rfl, hbz⟩
  go_wp2_with fail
  go_ret
  exact ⟨rfl, bst k6 hbz (Nat.le_refl _)⟩
set_option maxHeartbeats 3200000 in
theorem powers_few_ok (k : Int) (hk9 : -9223372036854775808 ≤ k) (hk8 : k ≤ 9223372036854775807) (hb9 : b ≤ 2147483648) (hb : 1 < b) (hk0 : 0 < k) (hk1 : k < 67108864) (m : Int) (hm : (b : Int) * k = m) (hm1 : m ≤ 40000) (hm0 : 0 ≤ m) (q : Int) (_ : 0 ≤ k) (ZP : Hid (∀ W (_ : Below w.heap.size w W), Calls Tryz.prog 19 #[.agg #[.bool g, .slice A xs.length c], .int .i64 k] W fun e w' => ZE W w' q 0 e)) (RP : Hid (∀ W (_ : Below w.heap.size w W), Calls Tryz.prog 20 #[.agg #[.bool g, .slice A xs.length c], .int .i64 k] W fun e w' => ZB W w' q true e)) (LN : Hid (∀ W (_ : Below w.heap.size w W), Calls Tryz.prog 18 #[.slice A xs.length c] W fun e w' => e = .returned (.int .i64 (b : Nat)) ∧ Below W.heap.size W w')) :
    Calls Tryz.prog 4 #[.agg #[.bool g, .slice A xs.length c], .int .i64 k] w fun e w' => e = .returned (.bool true) ∧ Below w.heap.size w w' := by
  have t9 : decide (k < 0) = false := decide_eq_false (by omega)
  have k0 := bel_one w (.cells #[.bool g, .slice A xs.length c] 28)
  have b0 := blk_one w (.bool g) (.slice A xs.length c)
  have t1 : decide ((1 : Int) < (b : Int)) = true := decide_eq_true (by omega)
  have t1b : decide (1 < b) = true := decide_eq_true hb
  have t2 : decide (0 < k) = true := decide_eq_true (by omega)
  have t3 : decide (k < 67108864) = true := decide_eq_true (by omega)
  have t4 : decide (40000 < m) = false := decide_eq_false (by omega)
  go_enter Tryz.func4, Tryz.ntmps4
  go_wp2_with fail
  obtain ⟨w0, hw0⟩ : ∃ v, v = w.alloc (.cells #[.bool g, .slice A xs.length c] 28) := ⟨_, rfl⟩
  rw [← hw0] at k0 b0 ⊢
  clear hw0
  refine (LN.out _ k0).mono ?_
  rintro e w1 ⟨rfl, hb1⟩
  have k1 := bst k0 hb1 (Nat.le_refl _)
  replace b0 := b0.below hb1 b0.lt
  obtain ⟨p0, p1, _, _⟩ := b0.two
  clear hb1 k0 LN
  go_wp2_with (simp only [])
  refine (ZP.out _ k1).mono ?_
  rintro e w2 ⟨zs, A2, c2, rfl, n2, r2, hb2⟩
  have k2 := bst k1 hb2 (Nat.le_refl _)
  have b2 := b0.below hb2 b0.lt
  obtain ⟨u0, u1, _, _⟩ := (b2.heapAlloc (.cells #[.bool (isNeg q), .slice A2 zs.length c2] 28)).two
  clear p0 p1 ZP hb2 b0
  have j3 := bel_one w2 (.cells #[.bool (isNeg q), .slice A2 zs.length c2] 28)
  have b3 := blk_one w2 (.bool (isNeg q)) (.slice A2 zs.length c2)
  go_upto_region 7 with fail
  obtain ⟨w3, hw3⟩ : ∃ v, v = w2.alloc (.cells #[.bool (isNeg q), .slice A2 zs.length c2] 28) := ⟨_, rfl⟩
  rw [← hw3] at j3 b3 u0 u1 ⊢
  clear hw3 b2
  have k3 := bst k2 j3 (Nat.le_refl _)
  go_wp2_with fail
  refine (RP.out _ k3).mono ?_
  rintro e w4 ⟨ys, A4, c4, rfl, n4, r4, hb4⟩
  have k4 := bst k3 hb4 (Nat.le_refl _)
  have j4 := bst j3 hb4 (Nat.le_refl _)
  have b4 := b3.below hb4 b3.lt
  obtain ⟨u2, u3, _, _⟩ := (b4.heapAlloc (.cells #[.bool (isNeg q), .slice A4 ys.length c4] 28)).two
  clear u0 u1 RP hb4 b3
  have j5 := bel_one w4 (.cells #[.bool (isNeg q), .slice A4 ys.length c4] 28)
  have b5 := blk_one w4 (.bool (isNeg q)) (.slice A4 ys.length c4)
  go_upto_region 10 with fail
  obtain ⟨w5, hw5⟩ : ∃ v, v = w4.alloc (.cells #[.bool (isNeg q), .slice A4 ys.length c4] 28) := ⟨_, rfl⟩
  rw [← hw5] at j5 b5 u2 u3 ⊢
  clear hw5 b4
  have k5 := bst k4 j5 (Nat.le_refl _)
  have SM := Lib.hid (lsame_res9 n2 r2 (bst j4 j5 (Nat.le_refl _)) n4 r4 j5)
  obtain ⟨v0, v1, _, _⟩ := b5.two
  go_wp2_with fail
  refine SM.out.mono ?_
  rintro e w6 ⟨rfl, hb6⟩
  have k6 := bst k5 hb6 (Nat.le_refl _)
  clear u2 u3 v0 v1 b5 j5 hb6 SM
  go_wp2_with fail
  refine (zlives_any _).mono ?_
  rintro e wz ⟨rfl, hbz⟩
  go_wp2_with fail
  go_ret
  exact ⟨rfl, bst k6 hbz (Nat.le_refl _)⟩
set_option maxHeartbeats 3200000 in
theorem powers_far_much (k : Int) (hk9 : -9223372036854775808 ≤ k) (hk8 : k ≤ 9223372036854775807) (hb9 : b ≤ 2147483648) (hb : 1 < b) (hk0 : 67108864 ≤ k) (_ : 0 ≤ k) (ZP : Hid (∀ W (_ : Below w.heap.size w W), Calls Tryz.prog 19 #[.agg #[.bool g, .slice A xs.length c], .int .i64 k] W fun e w' => ZE W w' 0 4 e)) (RP : Hid (∀ W (_ : Below w.heap.size w W), Calls Tryz.prog 20 #[.agg #[.bool g, .slice A xs.length c], .int .i64 k] W fun e w' => ZB W w' 0 false e)) (LN : Hid (∀ W (_ : Below w.heap.size w W), Calls Tryz.prog 18 #[.slice A xs.length c] W fun e w' => e = .returned (.int .i64 (b : Nat)) ∧ Below W.heap.size W w')) :
    Calls Tryz.prog 4 #[.agg #[.bool g, .slice A xs.length c], .int .i64 k] w fun e w' => e = .returned (.bool true) ∧ Below w.heap.size w w' := by
  have t9 : decide (k < 0) = false := decide_eq_false (by omega)
  have k0 := bel_one w (.cells #[.bool g, .slice A xs.length c] 28)
  have b0 := blk_one w (.bool g) (.slice A xs.length c)
  have t1 : decide ((1 : Int) < (b : Int)) = true := decide_eq_true (by omega)
  have t1b : decide (1 < b) = true := decide_eq_true hb
  have t2 : decide (0 < k) = true := decide_eq_true (by omega)
  have t3 : decide (k < 67108864) = false := decide_eq_false (by omega)
  go_enter Tryz.func4, Tryz.ntmps4
  go_wp2_with fail
  obtain ⟨w0, hw0⟩ : ∃ v, v = w.alloc (.cells #[.bool g, .slice A xs.length c] 28) := ⟨_, rfl⟩
  rw [← hw0] at k0 b0 ⊢
  clear hw0
  refine (LN.out _ k0).mono ?_
  rintro e w1 ⟨rfl, hb1⟩
  have k1 := bst k0 hb1 (Nat.le_refl _)
  replace b0 := b0.below hb1 b0.lt
  obtain ⟨p0, p1, _, _⟩ := b0.two
  clear hb1 k0 LN
  go_wp2_with fail
  refine (ZP.out _ k1).mono ?_
  rintro e w2 ⟨zs, A2, c2, rfl, n2, r2, hb2⟩
  have k2 := bst k1 hb2 (Nat.le_refl _)
  obtain rfl : zs = [] := Num.unique (by omega) n2 (Num.zero_ _)
  have b2 := b0.below hb2 b0.lt
  obtain ⟨u0, u1, _, _⟩ := (b2.heapAlloc (.cells #[.bool (isNeg 0), .slice A2 0 c2] 28)).two
  have SM : Hid (∀ W (_ : Below w2.heap.size w2 W), Calls Tryz.prog 7 #[.agg #[.bool (isNeg 0), .slice A2 0 c2], .agg #[.bool false, .slice none 0 0]] W fun e w' => e = .returned (.bool true) ∧ Below W.heap.size W w') := fun W hW => lsame_any (xs := []) false ((r2.rd.below hW).mono hW.size) Rd.nil_ (by decide)
  clear p0 p1 ZP hb2 b0
  have j3 := bel_one w2 (.cells #[.bool (isNeg 0), .slice A2 0 c2] 28)
  have b3 := blk_one w2 (.bool (isNeg 0)) (.slice A2 0 c2)
  go_upto_region 7 with fail
  obtain ⟨w3, hw3⟩ : ∃ v, v = w2.alloc (.cells #[.bool (isNeg 0), .slice A2 0 c2] 28) := ⟨_, rfl⟩
  rw [← hw3] at j3 b3 u0 u1 ⊢
  clear hw3 b2
  have k3 := bst k2 j3 (Nat.le_refl _)
  go_wp2_with fail
  refine (RP.out _ k3).mono ?_
  rintro e w4 ⟨ys, A4, c4, rfl, n4, r4, hb4⟩
  obtain rfl : ys = [] := Num.unique (by omega) n4 (Num.zero_ _)
  have k4 := bst k3 hb4 (Nat.le_refl _)
  have j4 := bst j3 hb4 (Nat.le_refl _)
  have b4 := b3.below hb4 b3.lt
  obtain ⟨u2, u3, _, _⟩ := (b4.heapAlloc (.cells #[.bool (isNeg 0), .slice A4 0 c4] 28)).two
  clear u0 u1 RP hb4 b3
  have j5 := bel_one w4 (.cells #[.bool (isNeg 0), .slice A4 0 c4] 28)
  go_upto_region 9 with fail
  obtain ⟨w5, hw5⟩ : ∃ v, v = w4.alloc (.cells #[.bool (isNeg 0), .slice A4 0 c4] 28) := ⟨_, rfl⟩
  rw [← hw5] at j5 u2 u3 ⊢
  clear hw5 b4
  have k5 := bst k4 j5 (Nat.le_refl _)
  have j6 := bst j4 j5 (Nat.le_refl _)
  go_wp2_with fail
  refine (SM.out _ j6).mono ?_
  rintro e w6 ⟨rfl, hb6⟩
  have k6 := bst k5 hb6 (Nat.le_refl _)
  clear u2 u3 j5 hb6 SM
  go_wp2_with fail
  refine (zlives_any _).mono ?_
  rintro e wz ⟨rfl, hbz⟩
  go_wp2_with fail
  go_ret
  exact ⟨rfl, bst k6 hbz (Nat.le_refl _)⟩
set_option maxHeartbeats 3200000 in
theorem powers_big_much (k : Int) (hk9 : -9223372036854775808 ≤ k) (hk8 : k ≤ 9223372036854775807) (hb9 : b ≤ 2147483648) (hb : 1 < b) (hk0 : 0 < k) (hk1 : k < 67108864) (m r : Int) (hm : (b : Int) * k = m) (hm1 : 40000 < m) (hm2 : m ≤ 9223372036854775807) (hr : ((b : Int) - 1) * k = r) (hr1 : 67108864 ≤ r) (hr2 : r ≤ 9223372036854775807) (_ : 0 ≤ k) (ZP : Hid (∀ W (_ : Below w.heap.size w W), Calls Tryz.prog 19 #[.agg #[.bool g, .slice A xs.length c], .int .i64 k] W fun e w' => ZE W w' 0 4 e)) (RP : Hid (∀ W (_ : Below w.heap.size w W), Calls Tryz.prog 20 #[.agg #[.bool g, .slice A xs.length c], .int .i64 k] W fun e w' => ZB W w' 0 false e)) (LN : Hid (∀ W (_ : Below w.heap.size w W), Calls Tryz.prog 18 #[.slice A xs.length c] W fun e w' => e = .returned (.int .i64 (b : Nat)) ∧ Below W.heap.size W w')) :
    Calls Tryz.prog 4 #[.agg #[.bool g, .slice A xs.length c], .int .i64 k] w fun e w' => e = .returned (.bool true) ∧ Below w.heap.size w w' := by
  have t9 : decide (k < 0) = false := decide_eq_false (by omega)
  have k0 := bel_one w (.cells #[.bool g, .slice A xs.length c] 28)
  have b0 := blk_one w (.bool g) (.slice A xs.length c)
  have t1 : decide ((1 : Int) < (b : Int)) = true := decide_eq_true (by omega)
  have t1b : decide (1 < b) = true := decide_eq_true hb
  have t2 : decide (0 < k) = true := decide_eq_true (by omega)
  have t3 : decide (k < 67108864) = true := decide_eq_true (by omega)
  have t4 : decide (40000 < m) = true := decide_eq_true (by omega)
  have t5 : decide (r < 67108864) = false := decide_eq_false (by omega)
  go_enter Tryz.func4, Tryz.ntmps4
  go_wp2_with fail
  obtain ⟨w0, hw0⟩ : ∃ v, v = w.alloc (.cells #[.bool g, .slice A xs.length c] 28) := ⟨_, rfl⟩
  rw [← hw0] at k0 b0 ⊢
  clear hw0
  refine (LN.out _ k0).mono ?_
  rintro e w1 ⟨rfl, hb1⟩
  have k1 := bst k0 hb1 (Nat.le_refl _)
  replace b0 := b0.below hb1 b0.lt
  obtain ⟨p0, p1, _, _⟩ := b0.two
  clear hb1 k0 LN
  go_wp2_with (first | simp only [] | simp only [hr])
  refine (ZP.out _ k1).mono ?_
  rintro e w2 ⟨zs, A2, c2, rfl, n2, r2, hb2⟩
  have k2 := bst k1 hb2 (Nat.le_refl _)
  obtain rfl : zs = [] := Num.unique (by omega) n2 (Num.zero_ _)
  have b2 := b0.below hb2 b0.lt
  obtain ⟨u0, u1, _, _⟩ := (b2.heapAlloc (.cells #[.bool (isNeg 0), .slice A2 0 c2] 28)).two
  have SM : Hid (∀ W (_ : Below w2.heap.size w2 W), Calls Tryz.prog 7 #[.agg #[.bool (isNeg 0), .slice A2 0 c2], .agg #[.bool false, .slice none 0 0]] W fun e w' => e = .returned (.bool true) ∧ Below W.heap.size W w') := fun W hW => lsame_any (xs := []) false ((r2.rd.below hW).mono hW.size) Rd.nil_ (by decide)
  clear p0 p1 ZP hb2 b0
  have j3 := bel_one w2 (.cells #[.bool (isNeg 0), .slice A2 0 c2] 28)
  have b3 := blk_one w2 (.bool (isNeg 0)) (.slice A2 0 c2)
  go_upto_region 7 with fail
  obtain ⟨w3, hw3⟩ : ∃ v, v = w2.alloc (.cells #[.bool (isNeg 0), .slice A2 0 c2] 28) := ⟨_, rfl⟩
  rw [← hw3] at j3 b3 u0 u1 ⊢
  clear hw3 b2
  have k3 := bst k2 j3 (Nat.le_refl _)
  go_wp2_with fail
  refine (RP.out _ k3).mono ?_
  rintro e w4 ⟨ys, A4, c4, rfl, n4, r4, hb4⟩
  obtain rfl : ys = [] := Num.unique (by omega) n4 (Num.zero_ _)
  have k4 := bst k3 hb4 (Nat.le_refl _)
  have j4 := bst j3 hb4 (Nat.le_refl _)
  have b4 := b3.below hb4 b3.lt
  obtain ⟨u2, u3, _, _⟩ := (b4.heapAlloc (.cells #[.bool (isNeg 0), .slice A4 0 c4] 28)).two
  clear u0 u1 RP hb4 b3
  have j5 := bel_one w4 (.cells #[.bool (isNeg 0), .slice A4 0 c4] 28)
  go_upto_region 9 with fail
  obtain ⟨w5, hw5⟩ : ∃ v, v = w4.alloc (.cells #[.bool (isNeg 0), .slice A4 0 c4] 28) := ⟨_, rfl⟩
  rw [← hw5] at j5 u2 u3 ⊢
  clear hw5 b4
  have k5 := bst k4 j5 (Nat.le_refl _)
  have j6 := bst j4 j5 (Nat.le_refl _)
  go_wp2_with fail
  refine (SM.out _ j6).mono ?_
  rintro e w6 ⟨rfl, hb6⟩
  have k6 := bst k5 hb6 (Nat.le_refl _)
  clear u2 u3 j5 hb6 SM
  go_wp2_with fail
  refine (zlives_any _).mono ?_
  rintro e wz ⟨rfl, hbz⟩
  go_wp2_with fail
  go_ret
  exact ⟨rfl, bst k6 hbz (Nat.le_refl _)⟩
set_option maxHeartbeats 3200000 in
theorem powers_mid_lives (k : Int) (_ : -9223372036854775808 ≤ k) (_ : k ≤ 9223372036854775807) (hb9 : b ≤ 2147483648) (hb : 1 < b) (hk0 : 0 < k) (hk1 : k < 67108864) (m r : Int) (hm : (b : Int) * k = m) (hm1 : 40000 < m) (hm2 : m ≤ 9223372036854775807) (hr : ((b : Int) - 1) * k = r) (hr1 : r < 67108864) (hr2 : 0 ≤ r)  (LN : Hid (∀ W (_ : Below w.heap.size w W), Calls Tryz.prog 18 #[.slice A xs.length c] W fun e w' => e = .returned (.int .i64 (b : Nat)) ∧ Below W.heap.size W w')) :
    Calls Tryz.prog 4 #[.agg #[.bool g, .slice A xs.length c], .int .i64 k] w fun e w' => e = .returned (.bool true) ∧ Below w.heap.size w w' := by
  have k0 := bel_one w (.cells #[.bool g, .slice A xs.length c] 28)
  have b0 := blk_one w (.bool g) (.slice A xs.length c)
  have t1 : decide ((1 : Int) < (b : Int)) = true := decide_eq_true (by omega)
  have t1b : decide (1 < b) = true := decide_eq_true hb
  have t2 : decide (0 < k) = true := decide_eq_true (by omega)
  have t3 : decide (k < 67108864) = true := decide_eq_true (by omega)
  have t4 : decide (40000 < m) = true := decide_eq_true (by omega)
  have t5 : decide (r < 67108864) = true := decide_eq_true (by omega)
  go_enter Tryz.func4, Tryz.ntmps4
  go_wp2_with fail
  obtain ⟨w0, hw0⟩ : ∃ v, v = w.alloc (.cells #[.bool g, .slice A xs.length c] 28) := ⟨_, rfl⟩
  rw [← hw0] at k0 b0 ⊢
  clear hw0
  refine (LN.out _ k0).mono ?_
  rintro e w1 ⟨rfl, hb1⟩
  have k1 := bst k0 hb1 (Nat.le_refl _)
  replace b0 := b0.below hb1 b0.lt
  obtain ⟨p0, p1, _, _⟩ := b0.two
  clear hb1 k0 LN
  go_wp2_with (first | simp only [] | simp only [hr])
  refine (zlives_any _).mono ?_
  rintro e wz ⟨rfl, hbz⟩
  go_wp2_with fail
  go_ret
  exact ⟨rfl, bst k1 hbz (Nat.le_refl _)⟩

theorem powers_walk {z : Int} (N : Nat) (hN : N ≤ 1048576) (hT : Tab32 w) (hTB : 1 < w.heap.size) (h : Zh w g A c xs z N) (k : Int) (hk9 : -9223372036854775808 ≤ k ∧ k ≤ 9223372036854775807) :
    Calls Tryz.prog 4 #[.agg #[.bool g, .slice A xs.length c], .int .i64 k] w fun e w' => e = .returned (.bool true) ∧ Below w.heap.size w w' := by
  have hbl := bits_limbs h.lt
  have LN : Hid (∀ W (_ : Below w.heap.size w W), Calls Tryz.prog 18 #[.slice A xs.length c] W fun e w' => e = .returned (.int .i64 (bitsOf z.natAbs : Nat)) ∧ Below W.heap.size W w') := fun W hW => (h.next hW).hv.lenP (by omega)
  have TT : ∀ W (_ : Below w.heap.size w W), Tab32 W ∧ 1 < W.heap.size := fun W hW => ⟨hT.below hW hTB, Nat.lt_of_lt_of_le hTB hW.size⟩
  have OKZ : ∀ m : Nat, k = (m : Int) → PwS z.natAbs m → Hid (∀ W (_ : Below w.heap.size w W), Calls Tryz.prog 19 #[.agg #[.bool g, .slice A xs.length c], .int .i64 k] W fun e w' => ZE W w' (z ^ m) 0 e) := fun m hm hs W hW => by
    rw [hm]
    refine zpow_out m (z.natAbs ^ m) (z ^ m) (fun V hV => ?_) (by rw [← pow_ival, h.sg]) (by omega)
    have hWV := bst hW hV (Nat.le_refl _)
    exact npow_all (h.next hWV).hv (by omega) m (by omega) hs (TT V hWV).1 (TT V hWV).2
  have OKR : ∀ m : Nat, k = (m : Int) → PwS z.natAbs m → Hid (∀ W (_ : Below w.heap.size w W), Calls Tryz.prog 20 #[.agg #[.bool g, .slice A xs.length c], .int .i64 k] W fun e w' => ZB W w' (z ^ m) true e) := fun m hm hs W hW => by
    rw [hm]
    obtain ⟨J, h1, h2⟩ := hs.limbs
    exact rzpow_out m (z.natAbs ^ m) J (z ^ m) (fun V hV => rpow_all (h.next (bst hW hV (Nat.le_refl _))).hv (by omega) m (by omega) hs) (by rw [← pow_ival, h.sg]) (by omega) (by omega) h2
  have NOZ : ∀ m : Nat, k = (m : Int) → 2 ≤ bitsOf z.natAbs → 67108864 ≤ m * (bitsOf z.natAbs - 1) → Hid (∀ W (_ : Below w.heap.size w W), Calls Tryz.prog 19 #[.agg #[.bool g, .slice A xs.length c], .int .i64 k] W fun e w' => ZE W w' 0 4 e) := fun m hm h1 h2 W hW => by
    rw [hm]
    exact zpow_no (m : Int) 4 (fun V hV => npow_big (h.next (bst hW hV (Nat.le_refl _))).hv (by omega) m (by omega) h1 h2) (by decide)
  have NOR : ∀ m : Nat, k = (m : Int) → 2 ≤ bitsOf z.natAbs → 67108864 ≤ m * (bitsOf z.natAbs - 1) → Hid (∀ W (_ : Below w.heap.size w W), Calls Tryz.prog 20 #[.agg #[.bool g, .slice A xs.length c], .int .i64 k] W fun e w' => ZB W w' 0 false e) := fun m hm h1 h2 W hW => by
    rw [hm]
    exact rzpow_no (m : Int) (fun V hV => rpow_much (h.next (bst hW hV (Nat.le_refl _))).hv (by omega) m (by omega) h1 h2)
  have NEG : k < 0 → Hid (∀ W (_ : Below w.heap.size w W), Calls Tryz.prog 19 #[.agg #[.bool g, .slice A xs.length c], .int .i64 k] W fun e w' => ZE W w' 0 1 e) := fun h0 W hW =>
    zpow_no k 1 (fun V hV => npow_neg (h.next (bst hW hV (Nat.le_refl _))).hv (by omega) k h0) (by decide)
  obtain ⟨b, hb⟩ : ∃ b, b = bitsOf z.natAbs := ⟨_, rfl⟩
  have hS : ∀ m, PwS z.natAbs m ↔ m = 0 ∨ b ≤ 1 ∨ b * m ≤ 40000 := fun m => by rw [hb]; exact Iff.rfl
  rw [← hb] at LN hbl NOZ NOR
  have hb9 : b ≤ 2147483648 := by omega
  by_cases hn : k < 0
  · by_cases h1 : b ≤ 1
    · exact powers_low_neg k hk9.1 hk9.2 hb9 h1 hn (NEG hn) LN
    · exact powers_non_neg k hk9.1 hk9.2 hb9 (by omega) (by omega) hn (NEG hn) LN
  · obtain ⟨m, hm⟩ : ∃ m : Nat, k = (m : Int) := ⟨k.toNat, by omega⟩
    by_cases h1 : b ≤ 1
    · have hs := (hS m).2 (Or.inr (Or.inl h1))
      exact powers_low_ok k hk9.1 hk9.2 hb9 h1 _ (by omega) (OKZ m hm hs) (OKR m hm hs) LN
    · by_cases h2 : m = 0
      · have hs := (hS m).2 (Or.inl h2)
        exact powers_non_ok k hk9.1 hk9.2 hb9 (by omega) (by omega) _ (by omega) (OKZ m hm hs) (OKR m hm hs) LN
      · by_cases h3 : 67108864 ≤ m
        · have h4 : 67108864 ≤ m * (b - 1) := Nat.le_trans h3 (Nat.le_mul_of_pos_right m (by omega))
          exact powers_far_much k hk9.1 hk9.2 hb9 (by omega) (by omega) (by omega) (NOZ m hm (by omega) h4) (NOR m hm (by omega) h4) LN
        · have e1 : (b : Int) * k = ((b * m : Nat) : Int) := by rw [hm]; simp
          have e2 : ((b : Int) - 1) * k = (((b - 1) * m : Nat) : Int) := by
            rw [hm, Int.natCast_mul, Int.natCast_sub (by omega)]
            rfl
          have u1 : b * m ≤ 2147483648 * 67108864 := Nat.mul_le_mul hb9 (by omega)
          have u2 : (b - 1) * m ≤ 2147483648 * 67108864 := Nat.mul_le_mul (by omega) (by omega)
          by_cases h4 : b * m ≤ 40000
          · have hs := (hS m).2 (Or.inr (Or.inr h4))
            exact powers_few_ok k hk9.1 hk9.2 hb9 (by omega) (by omega) (by omega) _ e1 (by omega) (by omega) _ (by omega) (OKZ m hm hs) (OKR m hm hs) LN
          · by_cases h5 : (b - 1) * m < 67108864
            · exact powers_mid_lives k hk9.1 hk9.2 hb9 (by omega) (by omega) (by omega) _ _ e1 (by omega) (by omega) e2 (by omega) (by omega) LN
            · have h6 : 67108864 ≤ m * (b - 1) := by rw [Nat.mul_comm]; omega
              exact powers_big_much k hk9.1 hk9.2 hb9 (by omega) (by omega) (by omega) _ _ e1 (by omega) (by omega) e2 (by omega) (by omega) (by omega) (NOZ m hm (by omega) h6) (NOR m hm (by omega) h6) LN
end
end Go.Proofs.YtanlejlmckdeiaaGreatDoor
