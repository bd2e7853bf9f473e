/- The contracts of zint.Pow and of the reference's Pow, over contracts of the powers of sizes. No conditions beyond the sizes. -/
import Derived.Test.YtanlejlmckdeiaaGreatDoorPkZk41
import Derived.Test.YtanlejlmckdeiaaGreatDoorPkZk23
import Derived.Test.YtanlejlmckdeiaaGreatDoorPkZk30
import Derived.Test.YtanlejlmckdeiaaGreatDoorPkZk36
namespace Go.Proofs.YtanlejlmckdeiaaGreatDoor
open Go.RowKit

theorem neg_pow9 (n k : Nat) : (-(n : Int)) ^ k = if k % 2 = 1 then -((n ^ k : Nat) : Int) else ((n ^ k : Nat) : Int) := by
  induction k with
  | zero => simp
  | succ k ih =>
    rw [Int.pow_succ, ih, Nat.pow_succ]
    rcases Nat.mod_two_eq_zero_or_one k with e | e
    · rw [if_neg (by omega), if_pos (by omega)]
      simp [Int.mul_neg]
    · rw [if_pos e, if_neg (by omega)]
      simp [Int.neg_mul, Int.mul_neg]
theorem pow_ival (g : Bool) (n k : Nat) : ivalN g n ^ k = ivalN (g && decide (k % 2 = 1)) (n ^ k) := by
  cases g with
  | false => simp [ivalN]
  | true =>
    simp only [ivalN, if_true, Bool.true_and, neg_pow9, decide_eq_true_eq]
section
variable {w : World} {g : Bool} {A : Option Addr} {c K : Nat} {xs : List Nat} {z : Int}
set_option maxHeartbeats 1600000 in
theorem zpow_out (k n : Nat) (q : Int) (NP : Hid (∀ W (_ : Below w.heap.size w W), Calls Tryz.prog 54 #[.slice A xs.length c, .int .i64 (k : Int)] W fun e w' => PwE W w' n (.int .i64 0) e)) (hq : q = ivalN (g && decide (k % 2 = 1)) n) (hk : k < 9223372036854775808) :
    Calls Tryz.prog 19 #[.agg #[.bool g, .slice A xs.length c], .int .i64 (k : Int)] w fun e w' => ZE w w' q 0 e := by
  obtain ⟨b0, b1⟩ := blk_pair2 w (.bool g) (.slice A xs.length c) (.bool false) (.slice none 0 0)
  have k0 := bel_two w (.cells #[.bool g, .slice A xs.length c] 28) (.cells #[.bool false, .slice none 0 0] 28)
  have e2 : ((k : Int) % 2) = ((k % 2 : Nat) : Int) := by omega
  go_enter Tryz.func19, Tryz.ntmps19
  go_wp2_with fail
  refine (NP.out _ k0).mono ?_
  rintro e w1 ⟨zs, A1, c1, rfl, hz, hr, hb1⟩
  have k1 := bst k0 hb1 (Nat.le_refl _)
  replace b0 := b0.below hb1 b0.lt
  replace b1 := b1.below hb1 b1.lt
  have r1 : Res w1 w.heap.size 61 A1 c1 (u32s zs) := hr.mono k0.size
  obtain ⟨p0, p1, _, _⟩ := b0.two
  have MD : Hid (∀ gg W, (g && decide (k % 2 = 1)) = gg → Calls Tryz.prog 39 #[.bool gg, .slice A1 zs.length c1] W fun e w' => e = .returned (.agg #[.bool (isNeg q), .slice A1 zs.length c1]) ∧ Below W.heap.size W w') := fun gg W hg => by
    subst hg
    exact made_num _ q hz hq W (res_len r1)
  have HQ := Lib.hid hq
  have B1 := Lib.hid b1
  have Hz := Lib.hid hz
  obtain ⟨kb, hkb⟩ : ∃ kb, kb = decide (k % 2 = 1) := ⟨_, rfl⟩
  rw [← hkb] at MD HQ
  have t1 : (((k : Int) % 2) == 1) = kb := by
    rw [hkb, e2]
    by_cases h : k % 2 = 1
    · rw [h]; rfl
    · rw [decide_eq_false h]; exact beq_eq_false_iff_ne.2 (by omega)
  have t2 : (Int.tmod (k : Int) 2 == 1) = kb := by rw [Int.tmod_eq_emod_of_nonneg (by omega)]; exact t1
  clear hkb e2 hq b0 b1 hz hr hb1 NP
  cases g with
  | false =>
    simp only [Bool.false_and] at MD HQ
    go_wp2_with fail
    refine (MD.out _ _ rfl).mono ?_
    rintro e w2 ⟨rfl, hb2⟩
    have B2 := B1.out.below hb2 B1.out.lt
    obtain ⟨q0, q1, q2, q3⟩ := B2.two
    go_wp2_with fail
    exact ze_ret (bst k1 hb2 (Nat.le_refl _)) B2 (by omega) (num_eq Hz.out (by rw [HQ.out, abs_ival])) (r1.below hb2 (Nat.le_refl _)) rfl rfl rfl rfl rfl
  | true =>
    simp only [Bool.true_and] at MD HQ
    go_wp2_with fail
    refine (MD.out _ _ rfl).mono ?_
    rintro e w2 ⟨rfl, hb2⟩
    have B2 := B1.out.below hb2 B1.out.lt
    obtain ⟨q0, q1, q2, q3⟩ := B2.two
    go_wp2_with fail
    exact ze_ret (bst k1 hb2 (Nat.le_refl _)) B2 (by omega) (num_eq Hz.out (by rw [HQ.out, abs_ival])) (r1.below hb2 (Nat.le_refl _)) rfl rfl rfl rfl rfl
set_option maxHeartbeats 1600000 in
theorem zpow_no (k er : Int) (NP : Hid (∀ W (_ : Below w.heap.size w W), Calls Tryz.prog 54 #[.slice A xs.length c, .int .i64 k] W fun e w' => PwF W w' (.int .i64 er) e)) (he : er ≠ 0) :
    Calls Tryz.prog 19 #[.agg #[.bool g, .slice A xs.length c], .int .i64 k] w fun e w' => ZE w w' 0 er e := by
  obtain ⟨b0, b1⟩ := blk_pair2 w (.bool g) (.slice A xs.length c) (.bool false) (.slice none 0 0)
  have k0 := bel_two w (.cells #[.bool g, .slice A xs.length c] 28) (.cells #[.bool false, .slice none 0 0] 28)
  have t0 : (er != 0) = true := by simpa using he
  have t0b : (er == 0) = false := by simpa using he
  go_enter Tryz.func19, Tryz.ntmps19
  go_wp2_with fail
  refine (NP.out _ k0).mono ?_
  rintro e w1 ⟨rfl, hb1⟩
  have k1 := bst k0 hb1 (Nat.le_refl _)
  replace b1 := b1.below hb1 b1.lt
  obtain ⟨q0, q1, q2, q3⟩ := b1.two
  have B1 := Lib.hid b1
  clear b0 b1 NP hb1
  go_wp2_with fail
  exact ze_ret (qs := []) k1 B1.out (by omega) (Num.zero_ _) Res.none_ rfl rfl rfl rfl rfl
set_option maxHeartbeats 1600000 in
theorem rzpow_no (k : Int) (NP : Hid (∀ W (_ : Below w.heap.size w W), Calls Tryz.prog 55 #[.slice A xs.length c, .int .i64 k] W fun e w' => PwF W w' (.bool false) e)) :
    Calls Tryz.prog 20 #[.agg #[.bool g, .slice A xs.length c], .int .i64 k] w fun e w' => ZB w w' 0 false e := by
  obtain ⟨b0, b1⟩ := blk_pair2 w (.bool g) (.slice A xs.length c) (.bool false) (.slice none 0 0)
  have k0 := bel_two w (.cells #[.bool g, .slice A xs.length c] 28) (.cells #[.bool false, .slice none 0 0] 28)
  go_enter Tryz.func20, Tryz.ntmps20
  go_wp2_with fail
  refine (NP.out _ k0).mono ?_
  rintro e w1 ⟨rfl, hb1⟩
  have k1 := bst k0 hb1 (Nat.le_refl _)
  replace b1 := b1.below hb1 b1.lt
  obtain ⟨q0, q1, q2, q3⟩ := b1.two
  have B1 := Lib.hid b1
  clear b0 b1 NP hb1
  go_wp2_with fail
  exact zb_ret (qs := []) k1 B1.out (by omega) (Num.zero_ _) Res.none_ rfl rfl rfl rfl rfl
set_option maxHeartbeats 1600000 in
theorem rzpow_out (k n J : Nat) (q : Int) (NP : Hid (∀ W (_ : Below w.heap.size w W), Calls Tryz.prog 55 #[.slice A xs.length c, .int .i64 (k : Int)] W fun e w' => PwE W w' n (.bool true) e)) (hq : q = ivalN (g && decide (k % 2 = 1)) n) (hk : k < 9223372036854775808) (hJ : J ≤ 67108864) (hn : n < 4294967296 ^ J) :
    Calls Tryz.prog 20 #[.agg #[.bool g, .slice A xs.length c], .int .i64 (k : Int)] w fun e w' => ZB w w' q true e := by
  obtain ⟨b0, b1⟩ := blk_pair2 w (.bool g) (.slice A xs.length c) (.bool false) (.slice none 0 0)
  have k0 := bel_two w (.cells #[.bool g, .slice A xs.length c] 28) (.cells #[.bool false, .slice none 0 0] 28)
  have e2 : ((k : Int) % 2) = ((k % 2 : Nat) : Int) := by omega
  go_enter Tryz.func20, Tryz.ntmps20
  go_wp2_with fail
  refine (NP.out _ k0).mono ?_
  rintro e w1 ⟨zs, A1, c1, rfl, hz, hr, hb1⟩
  have k1 := bst k0 hb1 (Nat.le_refl _)
  replace b0 := b0.below hb1 b0.lt
  replace b1 := b1.below hb1 b1.lt
  have r1 : Res w1 w.heap.size 61 A1 c1 (u32s zs) := hr.mono k0.size
  obtain ⟨p0, p1, _, _⟩ := b0.two
  have MD : Hid (∀ gg W, (g && decide (k % 2 = 1)) = gg → Below w1.heap.size w1 W → Calls Tryz.prog 56 #[.agg #[.bool gg, .slice A1 zs.length c1]] W fun e w' => ZOut W w' q e) := fun gg W hg hW => by
    subst hg
    have hv : Hv w1 A1 c1 zs q.natAbs J := Hv.of (num_eq hz (by rw [hq, abs_ival])) hr (by rw [hq, abs_ival]; exact hn)
    exact Zh.rnorm ⟨hv.next hW, by rw [hq, abs_ival]⟩ hJ
  have B1 := Lib.hid b1
  obtain ⟨kb, hkb⟩ : ∃ kb, kb = decide (k % 2 = 1) := ⟨_, rfl⟩
  rw [← hkb] at MD
  have t1 : (((k : Int) % 2) == 1) = kb := by
    rw [hkb, e2]
    by_cases h : k % 2 = 1
    · rw [h]; rfl
    · rw [decide_eq_false h]; exact beq_eq_false_iff_ne.2 (by omega)
  have t2 : (Int.tmod (k : Int) 2 == 1) = kb := by rw [Int.tmod_eq_emod_of_nonneg (by omega)]; exact t1
  clear hkb e2 hq b0 b1 hz hr hb1 NP hn
  cases g with
  | false =>
    simp only [Bool.false_and] at MD
    go_wp2_with fail
    refine (MD.out _ _ rfl (Below.refl _ _)).mono ?_
    rintro e w2 ⟨z2, A2, c2, rfl, hz2, hr2, hb2⟩
    have B2 := B1.out.below hb2 B1.out.lt
    obtain ⟨q0, q1, q2, q3⟩ := B2.two
    go_wp2_with fail
    exact zb_ret (bst k1 hb2 (Nat.le_refl _)) B2 (by omega) hz2 (hr2.mono k1.size) rfl rfl rfl rfl rfl
  | true =>
    simp only [Bool.true_and] at MD
    go_wp2_with fail
    refine (MD.out _ _ rfl (Below.refl _ _)).mono ?_
    rintro e w2 ⟨z2, A2, c2, rfl, hz2, hr2, hb2⟩
    have B2 := B1.out.below hb2 B1.out.lt
    obtain ⟨q0, q1, q2, q3⟩ := B2.two
    go_wp2_with fail
    exact zb_ret (bst k1 hb2 (Nat.le_refl _)) B2 (by omega) hz2 (hr2.mono k1.size) rfl rfl rfl rfl rfl
end
end Go.Proofs.YtanlejlmckdeiaaGreatDoor
