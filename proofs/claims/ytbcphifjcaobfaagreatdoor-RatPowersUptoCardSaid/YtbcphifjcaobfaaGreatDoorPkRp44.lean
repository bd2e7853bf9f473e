/- The walk of the law RatPowers. -/
import Derived.Test.YtbcphifjcaobfaaGreatDoorPkRp43
import Derived.Test.YtbcphifjcaobfaaGreatDoorPkRp39
namespace Go.Proofs.YtbcphifjcaobfaaGreatDoor
open Go.RowKit
section
variable {w : World} {B B2 : Nat} {K N : Nat} {z y : Int} {q : Rat} {a0 a4 : Bool} {a1 a5 : Option Addr} {a2 a3 a6 a7 : Nat}
theorem may_no (h : FV B w (.bool a0) (.slice a1 a2 a3) (.bool a4) (.slice a5 a6 a7) z 0 K) (hK : K ≤ 67108864) : Calls Tryz.prog 16 #[.agg #[.bool a0, .slice a1 a2 a3, .bool a4, .slice a5 a6 a7]] w fun e w' => e = .returned (.bool false) ∧ Below w.heap.size w w' := by
 have := h.rmay hK
 rwa [show decide ((0 : Int) ≠ 0) = false from rfl] at this
theorem len_to {P : FuncId} {aa : Array Value} {s t : Nat} (h : Calls Tryz.prog P aa w fun e w' => e = .returned (.int .i64 (s : Int)) ∧ Below w.heap.size w w') (e9 : s = t) : Calls Tryz.prog P aa w fun e w' => e = .returned (.int .i64 (t : Int)) ∧ Below w.heap.size w w' := e9 ▸ h
theorem bits_le {n : Nat} (h : n < 4294967296 ^ K) (hK : K ≤ 2097152) : bitsOf n ≤ 67108864 := Nat.le_trans (bits_limbs h) (by omega)
set_option maxHeartbeats 6400000 in
set_option maxRecDepth 40000 in
theorem powers_bad (N : Nat) (hN : N ≤ 1048576) (hN1 : 1 ≤ N) (hT : Tb w) (_ : T3 w) (h : FV w.heap.size w (.bool a0) (.slice a1 a2 a3) (.bool a4) (.slice a5 a6 a7) z 0 N) (k : Int) (_ : -9223372036854775808 ≤ k) (_ : k ≤ 9223372036854775807) : Calls Tryz.prog 6 #[.agg #[.bool a0, .slice a1 a2 a3, .bool a4, .slice a5 a6 a7], .int .i64 k] w fun e w' => e = .returned (.bool true) ∧ Below w.heap.size w w' := by
 have XA := hi9 h
 have TT := hi9 hT
 have PW : Hid (∀ W (_ : Below w.heap.size w W), Calls Tryz.prog 42 #[.agg #[.bool a0, .slice a1 a2 a3, .bool a4, .slice a5 a6 a7], .int .i64 k] W fun e w' => RE W w' 0 0 6 e) := hi9 fun W hW => fpow_bad (h.next hW) hN1 (by omega) k
 clear h hT
 have k0 := bel_one w (.cells #[.bool a0, .slice a1 a2 a3, .bool a4, .slice a5 a6 a7] 27)
 have b0' : Blk (w.alloc (.cells #[.bool a0, .slice a1 a2 a3, .bool a4, .slice a5 a6 a7] 27)) w.heap.size 27 [.bool a0, .slice a1 a2 a3, .bool a4, .slice a5 a6 a7] := Blk.new_ rfl
 go_enter Tryz.func6, Tryz.ntmps6
 go_upto_region 1 with fail
 obtain ⟨w0, hw0⟩ : ∃ v, v = w.alloc (.cells #[.bool a0, .slice a1 a2 a3, .bool a4, .slice a5 a6 a7] 27) := ⟨_, rfl⟩
 rw [← hw0] at k0 b0' ⊢
 clear hw0
 have H0 := hi9 b0'
 clear b0'
 obtain ⟨c0H0, c1H0, c2H0, c3H0, -, -, -, -⟩ := H0.out.four
 go_wp2_with fail
 refine ((may_no (XA.out.next k0) (by omega))).mono ?_
 rintro e w1 ⟨rfl, hb1⟩
 clear c0H0 c1H0 c2H0 c3H0
 have k1 := bst k0 hb1 nl9
 replace H0 := hi9 (H0.out.below hb1 H0.out.lt)
 clear k0
 clear hb1
 obtain ⟨c0H0, c1H0, c2H0, c3H0, -, -, -, -⟩ := H0.out.four
 obtain ⟨c0H0, c1H0, c2H0, c3H0, -, -, -, -⟩ := H0.out.four
 go_wp2_with fail
 refine ((PW.out _ k1)).mono ?_
 rintro e w2 ⟨p0, p1, p2, p3, p4, p5, p6, p7, rfl, nn, hb2⟩
 clear c0H0 c1H0 c2H0 c3H0
 have k2 := bst k1 hb2 nl9
 replace H0 := hi9 (H0.out.below hb2 H0.out.lt)
 clear k1
 clear hb2
 have NP := hi9 nn
 clear nn
 go_upto_region 6 with fail
 obtain ⟨v3, hv⟩ : ∃ v, v = w2.alloc (.cells #[.bool p0, .slice p1 p2 p3, .bool p4, .slice p5 p6 p7] 27) := ⟨_, rfl⟩
 rw [← hv]
 have bn : Blk v3 w2.heap.size 27 [.bool p0, .slice p1 p2 p3, .bool p4, .slice p5 p6 p7] := by rw [hv]; exact Blk.new_ rfl
 have jn : Below w2.heap.size w2 v3 := by rw [hv]; exact bel_one _ _
 obtain ⟨gp, hg⟩ : ∃ g, g = w2.heap.size := ⟨_, rfl⟩
 rw [← hg] at bn ⊢
 clear hg hv
 have Hp := hi9 bn
 clear bn
 have k3 := bst k2 jn nl9
 replace H0 := hi9 (H0.out.below jn H0.out.lt)
 replace NP := hi9 (NP.out.next jn)
 clear k2
 clear jn
 obtain ⟨c0H0, c1H0, c2H0, c3H0, -, -, -, -⟩ := H0.out.four
 go_wp2_with fail
 refine ((may_no (XA.out.next k3) (by omega))).mono ?_
 rintro e w4 ⟨rfl, hb4⟩
 clear c0H0 c1H0 c2H0 c3H0
 have k4 := bst k3 hb4 nl9
 replace H0 := hi9 (H0.out.below hb4 H0.out.lt)
 replace Hp := hi9 (Hp.out.below hb4 Hp.out.lt)
 replace NP := hi9 (NP.out.next hb4)
 clear k3
 clear hb4
 obtain ⟨c0H0, c1H0, c2H0, c3H0, -, -, -, -⟩ := H0.out.four
 clear c0H0 c1H0 c2H0 c3H0
 obtain ⟨c0Hp, c1Hp, c2Hp, c3Hp, -, -, -, -⟩ := Hp.out.four
 go_wp2_with fail
 refine ((NP.out.nsame)).mono ?_
 rintro e w5 ⟨rfl, hb5⟩
 clear c0Hp c1Hp c2Hp c3Hp
 have k5 := bst k4 hb5 nl9
 replace H0 := hi9 (H0.out.below hb5 H0.out.lt)
 replace Hp := hi9 (Hp.out.below hb5 Hp.out.lt)
 replace NP := hi9 (NP.out.next hb5)
 clear k4
 clear hb5
 obtain ⟨c0Hp, c1Hp, c2Hp, c3Hp, -, -, -, -⟩ := Hp.out.four
 clear c0Hp c1Hp c2Hp c3Hp
 go_wp2_with fail
 refine (lives05 (TT.out.next k5)).mono ?_
 rintro e w6 ⟨rfl, hb6⟩
 have k6 := bst k5 hb6 nl9
 replace H0 := hi9 (H0.out.below hb6 H0.out.lt)
 replace Hp := hi9 (Hp.out.below hb6 Hp.out.lt)
 replace NP := hi9 (NP.out.next hb6)
 clear k5
 clear hb6
 go_wp2_with fail
 go_ret
 exact ⟨rfl, k6⟩
set_option maxHeartbeats 6400000 in
set_option maxRecDepth 40000 in
theorem powers_l1 (N : Nat) (hN : N ≤ 1048576) (hN1 : 1 ≤ N) (hT : Tb w) (_ : T3 w) (h : FV w.heap.size w (.bool a0) (.slice a1 a2 a3) (.bool a4) (.slice a5 a6 a7) z y N) (hy : y ≠ 0) (k : Int) (h1 : -9223372036854775808 ≤ k) (h2 : k ≤ 9223372036854775807) (g1 : longB (bitsOf (Rat.divInt z y).num.natAbs) k = true) : Calls Tryz.prog 6 #[.agg #[.bool a0, .slice a1 a2 a3, .bool a4, .slice a5 a6 a7], .int .i64 k] w fun e w' => e = .returned (.bool true) ∧ Below w.heap.size w w' := by
 have XA := hi9 h
 have TT := hi9 hT
 obtain ⟨q, hq⟩ : ∃ q : Rat, q = Rat.divInt z y := ⟨_, rfl⟩
 have QA : Hid (QV w.heap.size w (.bool a0) (.slice a1 a2 a3) (.bool a4) (.slice a5 a6 a7) q N) := by rw [hq]; exact h.qv hy
 have BQ := hi9 QA.out.qb
 have dy : decide (y ≠ 0) = true := decide_eq_true hy
 rw [← hq] at g1
 have hb1 := bits_le BQ.out.num (by omega)
 have hb2 := bits_le BQ.out.den (by omega)
 have PL : True := trivial
 obtain ⟨b1, e1⟩ : ∃ b, b = bitsOf q.num.natAbs := ⟨_, rfl⟩
 obtain ⟨b2, e2⟩ : ∃ b, b = bitsOf q.den := ⟨_, rfl⟩
 rw [← e1] at g1 hb1
 rw [← e2] at hb2
 have LB1 := hi9 e1.symm
 have LB2 := hi9 e2.symm
 have LG1 : Hid (∀ W, Calls Tryz.prog 40 #[.int .i64 (b1 : Int), .int .i64 k] W fun e w' => e = .returned (.bool true) ∧ Below W.heap.size W w') := hi9 fun W => by have h9 := long_all b1 hb1 k h1 h2 (w := W); rwa [g1] at h9
 clear h hT h1 h2 hy hq g1 hb1 hb2 e1 e2 PL
 have k0 := bel_one w (.cells #[.bool a0, .slice a1 a2 a3, .bool a4, .slice a5 a6 a7] 27)
 have b0' : Blk (w.alloc (.cells #[.bool a0, .slice a1 a2 a3, .bool a4, .slice a5 a6 a7] 27)) w.heap.size 27 [.bool a0, .slice a1 a2 a3, .bool a4, .slice a5 a6 a7] := Blk.new_ rfl
 go_enter Tryz.func6, Tryz.ntmps6
 go_upto_region 1 with fail
 obtain ⟨w0, hw0⟩ : ∃ v, v = w.alloc (.cells #[.bool a0, .slice a1 a2 a3, .bool a4, .slice a5 a6 a7] 27) := ⟨_, rfl⟩
 rw [← hw0] at k0 b0' ⊢
 clear hw0
 have H0 := hi9 b0'
 clear b0'
 obtain ⟨c0H0, c1H0, c2H0, c3H0, -, -, -, -⟩ := H0.out.four
 go_wp2_with fail
 refine ((may_yes (XA.out.next k0) dy (by omega))).mono ?_
 rintro e w1 ⟨rfl, hb1⟩
 clear c0H0 c1H0 c2H0 c3H0
 have k1 := bst k0 hb1 nl9
 replace H0 := hi9 (H0.out.below hb1 H0.out.lt)
 clear k0
 clear hb1
 obtain ⟨c0H0, c1H0, c2H0, c3H0, -, -, -, -⟩ := H0.out.four
 go_wp2_with fail
 refine (((QA.out.next k1).rqnorm (by omega))).mono ?_
 rintro e w2 ⟨s0, s1, s2, s3, s4, s5, s6, s7, rfl, nn, hb2⟩
 clear c0H0 c1H0 c2H0 c3H0
 have k2 := bst k1 hb2 nl9
 replace H0 := hi9 (H0.out.below hb2 H0.out.lt)
 clear k1
 clear hb2
 have NX := hi9 nn
 clear nn
 go_upto_region 3 with fail
 obtain ⟨v3, hv⟩ : ∃ v, v = w2.alloc (.cells #[.bool s0, .slice s1 s2 s3, .bool s4, .slice s5 s6 s7] 27) := ⟨_, rfl⟩
 rw [← hv]
 have bn : Blk v3 w2.heap.size 27 [.bool s0, .slice s1 s2 s3, .bool s4, .slice s5 s6 s7] := by rw [hv]; exact Blk.new_ rfl
 have jn : Below w2.heap.size w2 v3 := by rw [hv]; exact bel_one _ _
 obtain ⟨gx, hg⟩ : ∃ g, g = w2.heap.size := ⟨_, rfl⟩
 rw [← hg] at bn ⊢
 clear hg hv
 have Hx := hi9 bn
 clear bn
 have k3 := bst k2 jn nl9
 replace H0 := hi9 (H0.out.below jn H0.out.lt)
 replace NX := hi9 (NX.out.next jn)
 clear k2
 clear jn
 obtain ⟨c0Hx, c1Hx, c2Hx, c3Hx, -, -, -, -⟩ := Hx.out.four
 go_wp2_with fail
 refine ((len_to ((NX.out.num.iv (B2 := 0) BQ.out.num).rlen (by omega)) LB1.out)).mono ?_
 rintro e w4 ⟨rfl, hb4⟩
 clear c0Hx c1Hx c2Hx c3Hx
 have k4 := bst k3 hb4 nl9
 replace H0 := hi9 (H0.out.below hb4 H0.out.lt)
 replace Hx := hi9 (Hx.out.below hb4 Hx.out.lt)
 replace NX := hi9 (NX.out.next hb4)
 clear k3
 clear hb4
 obtain ⟨c0Hx, c1Hx, c2Hx, c3Hx, -, -, -, -⟩ := Hx.out.four
 go_wp2_with fail
 refine ((LG1.out _)).mono ?_
 rintro e w5 ⟨rfl, hb5⟩
 clear c0Hx c1Hx c2Hx c3Hx
 have k5 := bst k4 hb5 nl9
 replace H0 := hi9 (H0.out.below hb5 H0.out.lt)
 replace Hx := hi9 (Hx.out.below hb5 Hx.out.lt)
 replace NX := hi9 (NX.out.next hb5)
 clear k4
 clear hb5
 obtain ⟨c0Hx, c1Hx, c2Hx, c3Hx, -, -, -, -⟩ := Hx.out.four
 clear c0Hx c1Hx c2Hx c3Hx
 go_wp2_with fail
 refine (lives05 (TT.out.next k5)).mono ?_
 rintro e w6 ⟨rfl, hb6⟩
 have k6 := bst k5 hb6 nl9
 replace H0 := hi9 (H0.out.below hb6 H0.out.lt)
 replace Hx := hi9 (Hx.out.below hb6 Hx.out.lt)
 replace NX := hi9 (NX.out.next hb6)
 clear k5
 clear hb6
 obtain ⟨c0Hx, c1Hx, c2Hx, c3Hx, -, -, -, -⟩ := Hx.out.four
 go_wp2_with fail
 go_ret
 exact ⟨rfl, k6⟩
set_option maxHeartbeats 6400000 in
set_option maxRecDepth 40000 in
theorem powers_l2 (N : Nat) (hN : N ≤ 1048576) (hN1 : 1 ≤ N) (hT : Tb w) (_ : T3 w) (h : FV w.heap.size w (.bool a0) (.slice a1 a2 a3) (.bool a4) (.slice a5 a6 a7) z y N) (hy : y ≠ 0) (k : Int) (h1 : -9223372036854775808 ≤ k) (h2 : k ≤ 9223372036854775807) (g1 : longB (bitsOf (Rat.divInt z y).num.natAbs) k = false) (g2 : longB (bitsOf (Rat.divInt z y).den) k = true) : Calls Tryz.prog 6 #[.agg #[.bool a0, .slice a1 a2 a3, .bool a4, .slice a5 a6 a7], .int .i64 k] w fun e w' => e = .returned (.bool true) ∧ Below w.heap.size w w' := by
 have XA := hi9 h
 have TT := hi9 hT
 obtain ⟨q, hq⟩ : ∃ q : Rat, q = Rat.divInt z y := ⟨_, rfl⟩
 have QA : Hid (QV w.heap.size w (.bool a0) (.slice a1 a2 a3) (.bool a4) (.slice a5 a6 a7) q N) := by rw [hq]; exact h.qv hy
 have BQ := hi9 QA.out.qb
 have dy : decide (y ≠ 0) = true := decide_eq_true hy
 rw [← hq] at g1 g2
 have hb1 := bits_le BQ.out.num (by omega)
 have hb2 := bits_le BQ.out.den (by omega)
 have PL : True := trivial
 obtain ⟨b1, e1⟩ : ∃ b, b = bitsOf q.num.natAbs := ⟨_, rfl⟩
 obtain ⟨b2, e2⟩ : ∃ b, b = bitsOf q.den := ⟨_, rfl⟩
 rw [← e1] at g1 hb1
 rw [← e2] at hb2 g2
 have LB1 := hi9 e1.symm
 have LB2 := hi9 e2.symm
 have LG1 : Hid (∀ W, Calls Tryz.prog 40 #[.int .i64 (b1 : Int), .int .i64 k] W fun e w' => e = .returned (.bool false) ∧ Below W.heap.size W w') := hi9 fun W => by have h9 := long_all b1 hb1 k h1 h2 (w := W); rwa [g1] at h9
 have LG2 : Hid (∀ W, Calls Tryz.prog 40 #[.int .i64 (b2 : Int), .int .i64 k] W fun e w' => e = .returned (.bool true) ∧ Below W.heap.size W w') := hi9 fun W => by have h9 := long_all b2 hb2 k h1 h2 (w := W); rwa [g2] at h9
 clear h hT h1 h2 hy hq g1 hb1 hb2 e1 e2 PL g2
 have k0 := bel_one w (.cells #[.bool a0, .slice a1 a2 a3, .bool a4, .slice a5 a6 a7] 27)
 have b0' : Blk (w.alloc (.cells #[.bool a0, .slice a1 a2 a3, .bool a4, .slice a5 a6 a7] 27)) w.heap.size 27 [.bool a0, .slice a1 a2 a3, .bool a4, .slice a5 a6 a7] := Blk.new_ rfl
 go_enter Tryz.func6, Tryz.ntmps6
 go_upto_region 1 with fail
 obtain ⟨w0, hw0⟩ : ∃ v, v = w.alloc (.cells #[.bool a0, .slice a1 a2 a3, .bool a4, .slice a5 a6 a7] 27) := ⟨_, rfl⟩
 rw [← hw0] at k0 b0' ⊢
 clear hw0
 have H0 := hi9 b0'
 clear b0'
 obtain ⟨c0H0, c1H0, c2H0, c3H0, -, -, -, -⟩ := H0.out.four
 go_wp2_with fail
 refine ((may_yes (XA.out.next k0) dy (by omega))).mono ?_
 rintro e w1 ⟨rfl, hb1⟩
 clear c0H0 c1H0 c2H0 c3H0
 have k1 := bst k0 hb1 nl9
 replace H0 := hi9 (H0.out.below hb1 H0.out.lt)
 clear k0
 clear hb1
 obtain ⟨c0H0, c1H0, c2H0, c3H0, -, -, -, -⟩ := H0.out.four
 go_wp2_with fail
 refine (((QA.out.next k1).rqnorm (by omega))).mono ?_
 rintro e w2 ⟨s0, s1, s2, s3, s4, s5, s6, s7, rfl, nn, hb2⟩
 clear c0H0 c1H0 c2H0 c3H0
 have k2 := bst k1 hb2 nl9
 replace H0 := hi9 (H0.out.below hb2 H0.out.lt)
 clear k1
 clear hb2
 have NX := hi9 nn
 clear nn
 go_upto_region 3 with fail
 obtain ⟨v3, hv⟩ : ∃ v, v = w2.alloc (.cells #[.bool s0, .slice s1 s2 s3, .bool s4, .slice s5 s6 s7] 27) := ⟨_, rfl⟩
 rw [← hv]
 have bn : Blk v3 w2.heap.size 27 [.bool s0, .slice s1 s2 s3, .bool s4, .slice s5 s6 s7] := by rw [hv]; exact Blk.new_ rfl
 have jn : Below w2.heap.size w2 v3 := by rw [hv]; exact bel_one _ _
 obtain ⟨gx, hg⟩ : ∃ g, g = w2.heap.size := ⟨_, rfl⟩
 rw [← hg] at bn ⊢
 clear hg hv
 have Hx := hi9 bn
 clear bn
 have k3 := bst k2 jn nl9
 replace H0 := hi9 (H0.out.below jn H0.out.lt)
 replace NX := hi9 (NX.out.next jn)
 clear k2
 clear jn
 obtain ⟨c0Hx, c1Hx, c2Hx, c3Hx, -, -, -, -⟩ := Hx.out.four
 go_wp2_with fail
 refine ((len_to ((NX.out.num.iv (B2 := 0) BQ.out.num).rlen (by omega)) LB1.out)).mono ?_
 rintro e w4 ⟨rfl, hb4⟩
 clear c0Hx c1Hx c2Hx c3Hx
 have k4 := bst k3 hb4 nl9
 replace H0 := hi9 (H0.out.below hb4 H0.out.lt)
 replace Hx := hi9 (Hx.out.below hb4 Hx.out.lt)
 replace NX := hi9 (NX.out.next hb4)
 clear k3
 clear hb4
 obtain ⟨c0Hx, c1Hx, c2Hx, c3Hx, -, -, -, -⟩ := Hx.out.four
 go_wp2_with fail
 refine ((LG1.out _)).mono ?_
 rintro e w5 ⟨rfl, hb5⟩
 clear c0Hx c1Hx c2Hx c3Hx
 have k5 := bst k4 hb5 nl9
 replace H0 := hi9 (H0.out.below hb5 H0.out.lt)
 replace Hx := hi9 (Hx.out.below hb5 Hx.out.lt)
 replace NX := hi9 (NX.out.next hb5)
 clear k4
 clear hb5
 obtain ⟨c0Hx, c1Hx, c2Hx, c3Hx, -, -, -, -⟩ := Hx.out.four
 go_wp2_with fail
 refine ((len_to ((NX.out.den.iv (B2 := 0) (by rw [Int.natAbs_natCast]; exact BQ.out.den)).rlen (by omega)) (show bitsOf (q.den : Int).natAbs = b2 from LB2.out))).mono ?_
 rintro e w6 ⟨rfl, hb6⟩
 clear c0Hx c1Hx c2Hx c3Hx
 have k6 := bst k5 hb6 nl9
 replace H0 := hi9 (H0.out.below hb6 H0.out.lt)
 replace Hx := hi9 (Hx.out.below hb6 Hx.out.lt)
 replace NX := hi9 (NX.out.next hb6)
 clear k5
 clear hb6
 obtain ⟨c0Hx, c1Hx, c2Hx, c3Hx, -, -, -, -⟩ := Hx.out.four
 go_wp2_with fail
 refine ((LG2.out _)).mono ?_
 rintro e w7 ⟨rfl, hb7⟩
 clear c0Hx c1Hx c2Hx c3Hx
 have k7 := bst k6 hb7 nl9
 replace H0 := hi9 (H0.out.below hb7 H0.out.lt)
 replace Hx := hi9 (Hx.out.below hb7 Hx.out.lt)
 replace NX := hi9 (NX.out.next hb7)
 clear k6
 clear hb7
 obtain ⟨c0Hx, c1Hx, c2Hx, c3Hx, -, -, -, -⟩ := Hx.out.four
 clear c0Hx c1Hx c2Hx c3Hx
 go_wp2_with fail
 refine (lives05 (TT.out.next k7)).mono ?_
 rintro e w8 ⟨rfl, hb8⟩
 have k8 := bst k7 hb8 nl9
 replace H0 := hi9 (H0.out.below hb8 H0.out.lt)
 replace Hx := hi9 (Hx.out.below hb8 Hx.out.lt)
 replace NX := hi9 (NX.out.next hb8)
 clear k7
 clear hb8
 obtain ⟨c0Hx, c1Hx, c2Hx, c3Hx, -, -, -, -⟩ := Hx.out.four
 go_wp2_with fail
 go_ret
 exact ⟨rfl, k8⟩
set_option maxHeartbeats 6400000 in
set_option maxRecDepth 40000 in
theorem powers_z5 (N : Nat) (hN : N ≤ 1048576) (hN1 : 1 ≤ N) (hT : Tb w) (_ : T3 w) (h : FV w.heap.size w (.bool a0) (.slice a1 a2 a3) (.bool a4) (.slice a5 a6 a7) z y N) (hy : y ≠ 0) (k : Int) (h1 : -9223372036854775808 ≤ k) (h2 : k ≤ 9223372036854775807) (g1 : longB (bitsOf (Rat.divInt z y).num.natAbs) k = false) (g2 : longB (bitsOf (Rat.divInt z y).den) k = false) (hz : Rat.divInt z y = 0) (hk : k < 0) : Calls Tryz.prog 6 #[.agg #[.bool a0, .slice a1 a2 a3, .bool a4, .slice a5 a6 a7], .int .i64 k] w fun e w' => e = .returned (.bool true) ∧ Below w.heap.size w w' := by
 have XA := hi9 h
 have TT := hi9 hT
 obtain ⟨q, hq⟩ : ∃ q : Rat, q = Rat.divInt z y := ⟨_, rfl⟩
 have QA : Hid (QV w.heap.size w (.bool a0) (.slice a1 a2 a3) (.bool a4) (.slice a5 a6 a7) q N) := by rw [hq]; exact h.qv hy
 have BQ := hi9 QA.out.qb
 have dy : decide (y ≠ 0) = true := decide_eq_true hy
 rw [← hq] at g1 g2 hz
 have hb1 := bits_le BQ.out.num (by omega)
 have hb2 := bits_le BQ.out.den (by omega)
 have PL : PwL q k := pwl_of g1 g2
 obtain ⟨b1, e1⟩ : ∃ b, b = bitsOf q.num.natAbs := ⟨_, rfl⟩
 obtain ⟨b2, e2⟩ : ∃ b, b = bitsOf q.den := ⟨_, rfl⟩
 rw [← e1] at g1 hb1
 rw [← e2] at hb2 g2
 have LB1 := hi9 e1.symm
 have LB2 := hi9 e2.symm
 have LG1 : Hid (∀ W, Calls Tryz.prog 40 #[.int .i64 (b1 : Int), .int .i64 k] W fun e w' => e = .returned (.bool false) ∧ Below W.heap.size W w') := hi9 fun W => by have h9 := long_all b1 hb1 k h1 h2 (w := W); rwa [g1] at h9
 have LG2 : Hid (∀ W, Calls Tryz.prog 40 #[.int .i64 (b2 : Int), .int .i64 k] W fun e w' => e = .returned (.bool false) ∧ Below W.heap.size W w') := hi9 fun W => by have h9 := long_all b2 hb2 k h1 h2 (w := W); rwa [g2] at h9
 have PW : Hid (∀ W (_ : Below w.heap.size w W), Calls Tryz.prog 42 #[.agg #[.bool a0, .slice a1 a2 a3, .bool a4, .slice a5 a6 a7], .int .i64 k] W fun e w' => RE W w' 0 0 5 e) := hi9 fun W hW => qpow_zero ((QA.out.next hW).to hz) hN1 (by omega) (hT.next hW) k hk
 have t8 : decide (k < 0) = true := decide_eq_true hk
 have SG : Hid ((0 : Int) = q.num.sign) := by show _ = _; rw [hz]; rfl
 clear h hT h1 h2 hy hq g1 hb1 hb2 e1 e2 PL g2 hz hk
 have k0 := bel_one w (.cells #[.bool a0, .slice a1 a2 a3, .bool a4, .slice a5 a6 a7] 27)
 have b0' : Blk (w.alloc (.cells #[.bool a0, .slice a1 a2 a3, .bool a4, .slice a5 a6 a7] 27)) w.heap.size 27 [.bool a0, .slice a1 a2 a3, .bool a4, .slice a5 a6 a7] := Blk.new_ rfl
 go_enter Tryz.func6, Tryz.ntmps6
 go_upto_region 1 with fail
 obtain ⟨w0, hw0⟩ : ∃ v, v = w.alloc (.cells #[.bool a0, .slice a1 a2 a3, .bool a4, .slice a5 a6 a7] 27) := ⟨_, rfl⟩
 rw [← hw0] at k0 b0' ⊢
 clear hw0
 have H0 := hi9 b0'
 clear b0'
 obtain ⟨c0H0, c1H0, c2H0, c3H0, -, -, -, -⟩ := H0.out.four
 go_wp2_with fail
 refine ((may_yes (XA.out.next k0) dy (by omega))).mono ?_
 rintro e w1 ⟨rfl, hb1⟩
 clear c0H0 c1H0 c2H0 c3H0
 have k1 := bst k0 hb1 nl9
 replace H0 := hi9 (H0.out.below hb1 H0.out.lt)
 clear k0
 clear hb1
 obtain ⟨c0H0, c1H0, c2H0, c3H0, -, -, -, -⟩ := H0.out.four
 go_wp2_with fail
 refine (((QA.out.next k1).rqnorm (by omega))).mono ?_
 rintro e w2 ⟨s0, s1, s2, s3, s4, s5, s6, s7, rfl, nn, hb2⟩
 clear c0H0 c1H0 c2H0 c3H0
 have k2 := bst k1 hb2 nl9
 replace H0 := hi9 (H0.out.below hb2 H0.out.lt)
 clear k1
 clear hb2
 have NX := hi9 nn
 clear nn
 go_upto_region 3 with fail
 obtain ⟨v3, hv⟩ : ∃ v, v = w2.alloc (.cells #[.bool s0, .slice s1 s2 s3, .bool s4, .slice s5 s6 s7] 27) := ⟨_, rfl⟩
 rw [← hv]
 have bn : Blk v3 w2.heap.size 27 [.bool s0, .slice s1 s2 s3, .bool s4, .slice s5 s6 s7] := by rw [hv]; exact Blk.new_ rfl
 have jn : Below w2.heap.size w2 v3 := by rw [hv]; exact bel_one _ _
 obtain ⟨gx, hg⟩ : ∃ g, g = w2.heap.size := ⟨_, rfl⟩
 rw [← hg] at bn ⊢
 clear hg hv
 have Hx := hi9 bn
 clear bn
 have k3 := bst k2 jn nl9
 replace H0 := hi9 (H0.out.below jn H0.out.lt)
 replace NX := hi9 (NX.out.next jn)
 clear k2
 clear jn
 obtain ⟨c0Hx, c1Hx, c2Hx, c3Hx, -, -, -, -⟩ := Hx.out.four
 go_wp2_with fail
 refine ((len_to ((NX.out.num.iv (B2 := 0) BQ.out.num).rlen (by omega)) LB1.out)).mono ?_
 rintro e w4 ⟨rfl, hb4⟩
 clear c0Hx c1Hx c2Hx c3Hx
 have k4 := bst k3 hb4 nl9
 replace H0 := hi9 (H0.out.below hb4 H0.out.lt)
 replace Hx := hi9 (Hx.out.below hb4 Hx.out.lt)
 replace NX := hi9 (NX.out.next hb4)
 clear k3
 clear hb4
 obtain ⟨c0Hx, c1Hx, c2Hx, c3Hx, -, -, -, -⟩ := Hx.out.four
 go_wp2_with fail
 refine ((LG1.out _)).mono ?_
 rintro e w5 ⟨rfl, hb5⟩
 clear c0Hx c1Hx c2Hx c3Hx
 have k5 := bst k4 hb5 nl9
 replace H0 := hi9 (H0.out.below hb5 H0.out.lt)
 replace Hx := hi9 (Hx.out.below hb5 Hx.out.lt)
 replace NX := hi9 (NX.out.next hb5)
 clear k4
 clear hb5
 obtain ⟨c0Hx, c1Hx, c2Hx, c3Hx, -, -, -, -⟩ := Hx.out.four
 go_wp2_with fail
 refine ((len_to ((NX.out.den.iv (B2 := 0) (by rw [Int.natAbs_natCast]; exact BQ.out.den)).rlen (by omega)) (show bitsOf (q.den : Int).natAbs = b2 from LB2.out))).mono ?_
 rintro e w6 ⟨rfl, hb6⟩
 clear c0Hx c1Hx c2Hx c3Hx
 have k6 := bst k5 hb6 nl9
 replace H0 := hi9 (H0.out.below hb6 H0.out.lt)
 replace Hx := hi9 (Hx.out.below hb6 Hx.out.lt)
 replace NX := hi9 (NX.out.next hb6)
 clear k5
 clear hb6
 obtain ⟨c0Hx, c1Hx, c2Hx, c3Hx, -, -, -, -⟩ := Hx.out.four
 go_wp2_with fail
 refine ((LG2.out _)).mono ?_
 rintro e w7 ⟨rfl, hb7⟩
 clear c0Hx c1Hx c2Hx c3Hx
 have k7 := bst k6 hb7 nl9
 replace H0 := hi9 (H0.out.below hb7 H0.out.lt)
 replace Hx := hi9 (Hx.out.below hb7 Hx.out.lt)
 replace NX := hi9 (NX.out.next hb7)
 clear k6
 clear hb7
 obtain ⟨c0Hx, c1Hx, c2Hx, c3Hx, -, -, -, -⟩ := Hx.out.four
 clear c0Hx c1Hx c2Hx c3Hx
 obtain ⟨c0H0, c1H0, c2H0, c3H0, -, -, -, -⟩ := H0.out.four
 go_wp2_with fail
 refine ((PW.out _ k7)).mono ?_
 rintro e w8 ⟨p0, p1, p2, p3, p4, p5, p6, p7, rfl, nn, hb8⟩
 clear c0H0 c1H0 c2H0 c3H0
 have k8 := bst k7 hb8 nl9
 replace H0 := hi9 (H0.out.below hb8 H0.out.lt)
 replace Hx := hi9 (Hx.out.below hb8 Hx.out.lt)
 replace NX := hi9 (NX.out.next hb8)
 clear k7
 clear hb8
 have NP := hi9 nn
 clear nn
 go_upto_region 6 with fail
 obtain ⟨v9, hv⟩ : ∃ v, v = w8.alloc (.cells #[.bool p0, .slice p1 p2 p3, .bool p4, .slice p5 p6 p7] 27) := ⟨_, rfl⟩
 rw [← hv]
 have bn : Blk v9 w8.heap.size 27 [.bool p0, .slice p1 p2 p3, .bool p4, .slice p5 p6 p7] := by rw [hv]; exact Blk.new_ rfl
 have jn : Below w8.heap.size w8 v9 := by rw [hv]; exact bel_one _ _
 obtain ⟨gp, hg⟩ : ∃ g, g = w8.heap.size := ⟨_, rfl⟩
 rw [← hg] at bn ⊢
 clear hg hv
 have Hp := hi9 bn
 clear bn
 have k9 := bst k8 jn nl9
 replace H0 := hi9 (H0.out.below jn H0.out.lt)
 replace Hx := hi9 (Hx.out.below jn Hx.out.lt)
 replace NX := hi9 (NX.out.next jn)
 replace NP := hi9 (NP.out.next jn)
 clear k8
 clear jn
 obtain ⟨c0H0, c1H0, c2H0, c3H0, -, -, -, -⟩ := H0.out.four
 go_wp2_with fail
 refine ((may_yes (XA.out.next k9) dy (by omega))).mono ?_
 rintro e w10 ⟨rfl, hb10⟩
 clear c0H0 c1H0 c2H0 c3H0
 have k10 := bst k9 hb10 nl9
 replace H0 := hi9 (H0.out.below hb10 H0.out.lt)
 replace Hx := hi9 (Hx.out.below hb10 Hx.out.lt)
 replace Hp := hi9 (Hp.out.below hb10 Hp.out.lt)
 replace NX := hi9 (NX.out.next hb10)
 replace NP := hi9 (NP.out.next hb10)
 clear k9
 clear hb10
 obtain ⟨c0H0, c1H0, c2H0, c3H0, -, -, -, -⟩ := H0.out.four
 go_wp2_with fail
 refine ((sgn_to ((QA.out.next k10).rqsign (by omega)) SG.out)).mono ?_
 rintro e w11 ⟨rfl, hb11⟩
 clear c0H0 c1H0 c2H0 c3H0
 have k11 := bst k10 hb11 nl9
 replace H0 := hi9 (H0.out.below hb11 H0.out.lt)
 replace Hx := hi9 (Hx.out.below hb11 Hx.out.lt)
 replace Hp := hi9 (Hp.out.below hb11 Hp.out.lt)
 replace NX := hi9 (NX.out.next hb11)
 replace NP := hi9 (NP.out.next hb11)
 clear k10
 clear hb11
 obtain ⟨c0H0, c1H0, c2H0, c3H0, -, -, -, -⟩ := H0.out.four
 clear c0H0 c1H0 c2H0 c3H0
 obtain ⟨c0Hp, c1Hp, c2Hp, c3Hp, -, -, -, -⟩ := Hp.out.four
 go_wp2_with fail
 refine ((NP.out.nsame)).mono ?_
 rintro e w12 ⟨rfl, hb12⟩
 clear c0Hp c1Hp c2Hp c3Hp
 have k12 := bst k11 hb12 nl9
 replace H0 := hi9 (H0.out.below hb12 H0.out.lt)
 replace Hx := hi9 (Hx.out.below hb12 Hx.out.lt)
 replace Hp := hi9 (Hp.out.below hb12 Hp.out.lt)
 replace NX := hi9 (NX.out.next hb12)
 replace NP := hi9 (NP.out.next hb12)
 clear k11
 clear hb12
 obtain ⟨c0Hp, c1Hp, c2Hp, c3Hp, -, -, -, -⟩ := Hp.out.four
 clear c0Hp c1Hp c2Hp c3Hp
 go_wp2_with fail
 refine (lives05 (TT.out.next k12)).mono ?_
 rintro e w13 ⟨rfl, hb13⟩
 have k13 := bst k12 hb13 nl9
 replace H0 := hi9 (H0.out.below hb13 H0.out.lt)
 replace Hx := hi9 (Hx.out.below hb13 Hx.out.lt)
 replace Hp := hi9 (Hp.out.below hb13 Hp.out.lt)
 replace NX := hi9 (NX.out.next hb13)
 replace NP := hi9 (NP.out.next hb13)
 clear k12
 clear hb13
 go_wp2_with fail
 go_ret
 exact ⟨rfl, k13⟩
set_option maxHeartbeats 6400000 in
set_option maxRecDepth 40000 in
theorem powers_zfit (N : Nat) (hN : N ≤ 1048576) (hN1 : 1 ≤ N) (hT : Tb w) (h3 : T3 w) (h : FV w.heap.size w (.bool a0) (.slice a1 a2 a3) (.bool a4) (.slice a5 a6 a7) z y N) (hy : y ≠ 0) (k : Int) (h1 : -9223372036854775808 ≤ k) (h2 : k ≤ 9223372036854775807) (g1 : longB (bitsOf (Rat.divInt z y).num.natAbs) k = false) (g2 : longB (bitsOf (Rat.divInt z y).den) k = false) (hz : Rat.divInt z y = 0) (hk : 0 ≤ k) (hf : Fit (pwQ (Rat.divInt z y) k) (pwX k)) : Calls Tryz.prog 6 #[.agg #[.bool a0, .slice a1 a2 a3, .bool a4, .slice a5 a6 a7], .int .i64 k] w fun e w' => e = .returned (.bool true) ∧ Below w.heap.size w w' := by
 have XA := hi9 h
 have TT := hi9 hT
 obtain ⟨q, hq⟩ : ∃ q : Rat, q = Rat.divInt z y := ⟨_, rfl⟩
 have QA : Hid (QV w.heap.size w (.bool a0) (.slice a1 a2 a3) (.bool a4) (.slice a5 a6 a7) q N) := by rw [hq]; exact h.qv hy
 have BQ := hi9 QA.out.qb
 have dy : decide (y ≠ 0) = true := decide_eq_true hy
 rw [← hq] at g1 g2 hz hf
 have hb1 := bits_le BQ.out.num (by omega)
 have hb2 := bits_le BQ.out.den (by omega)
 have PL : PwL q k := pwl_of g1 g2
 obtain ⟨b1, e1⟩ : ∃ b, b = bitsOf q.num.natAbs := ⟨_, rfl⟩
 obtain ⟨b2, e2⟩ : ∃ b, b = bitsOf q.den := ⟨_, rfl⟩
 rw [← e1] at g1 hb1
 rw [← e2] at hb2 g2
 have LB1 := hi9 e1.symm
 have LB2 := hi9 e2.symm
 have LG1 : Hid (∀ W, Calls Tryz.prog 40 #[.int .i64 (b1 : Int), .int .i64 k] W fun e w' => e = .returned (.bool false) ∧ Below W.heap.size W w') := hi9 fun W => by have h9 := long_all b1 hb1 k h1 h2 (w := W); rwa [g1] at h9
 have LG2 : Hid (∀ W, Calls Tryz.prog 40 #[.int .i64 (b2 : Int), .int .i64 k] W fun e w' => e = .returned (.bool false) ∧ Below W.heap.size W w') := hi9 fun W => by have h9 := long_all b2 hb2 k h1 h2 (w := W); rwa [g2] at h9
 obtain ⟨N9, hN9⟩ : ∃ v, v = pwN (pwQ q k) (pwX k) := ⟨_, rfl⟩
 obtain ⟨D9, hD9⟩ : ∃ v, v = pwD (pwQ q k) (pwX k) := ⟨_, rfl⟩
 have hE : pwE (pwQ q k) (pwX k) = 0 := if_pos hf
 have hG : decide (Fit (pwQ q k) (pwX k)) = true := decide_eq_true hf
 have PW : Hid (∀ W (_ : Below w.heap.size w W), Calls Tryz.prog 42 #[.agg #[.bool a0, .slice a1 a2 a3, .bool a4, .slice a5 a6 a7], .int .i64 k] W fun e w' => RE W w' N9 D9 0 e) := hi9 fun W hW => by
  have h9 := qpow_all (QA.out.next hW) hN1 (by omega) (hT.next hW) (h3.next hW) k h1 h2 (Or.inr hk) PL
  rwa [← hN9, ← hD9, hE] at h9
 have RW : Hid (∀ W (_ : Below w.heap.size w W), Calls Tryz.prog 43 #[.agg #[.bool a0, .slice a1 a2 a3, .bool a4, .slice a5 a6 a7], .int .i64 k] W fun e w' => RB W w' N9 D9 true e) := hi9 fun W hW => by
  have h9 := rqpow_all (QA.out.next hW) hN1 (by omega) k h1 h2 (Or.inr hk) PL
  rwa [← hN9, ← hD9, hG] at h9
 obtain ⟨J9, hJ9⟩ : ∃ J, J = PK := ⟨_, rfl⟩
 have JB : Hid (J9 ≤ 281474976710656) := by show _ ≤ _; rw [hJ9]; decide
 have NB : Hid (N9.natAbs < 4294967296 ^ J9) := by show _ < _; rw [hN9, hJ9]; exact pwN_lt _ _
 have DB : Hid (D9.natAbs < 4294967296 ^ J9) := by show _ < _; rw [hD9, hJ9]; exact pwD_lt _ _
 clear hN9 hD9 hJ9
 clear hE hG hf
 have t8 : decide (k < 0) = false := decide_eq_false (by omega)
 have SG : Hid ((0 : Int) = q.num.sign) := by show _ = _; rw [hz]; rfl
 clear h hT h1 h2 h3 hy hq g1 hb1 hb2 e1 e2 PL g2 hz hk
 have k0 := bel_one w (.cells #[.bool a0, .slice a1 a2 a3, .bool a4, .slice a5 a6 a7] 27)
 have b0' : Blk (w.alloc (.cells #[.bool a0, .slice a1 a2 a3, .bool a4, .slice a5 a6 a7] 27)) w.heap.size 27 [.bool a0, .slice a1 a2 a3, .bool a4, .slice a5 a6 a7] := Blk.new_ rfl
 go_enter Tryz.func6, Tryz.ntmps6
 go_upto_region 1 with fail
 obtain ⟨w0, hw0⟩ : ∃ v, v = w.alloc (.cells #[.bool a0, .slice a1 a2 a3, .bool a4, .slice a5 a6 a7] 27) := ⟨_, rfl⟩
 rw [← hw0] at k0 b0' ⊢
 clear hw0
 have H0 := hi9 b0'
 clear b0'
 obtain ⟨c0H0, c1H0, c2H0, c3H0, -, -, -, -⟩ := H0.out.four
 go_wp2_with fail
 refine ((may_yes (XA.out.next k0) dy (by omega))).mono ?_
 rintro e w1 ⟨rfl, hb1⟩
 clear c0H0 c1H0 c2H0 c3H0
 have k1 := bst k0 hb1 nl9
 replace H0 := hi9 (H0.out.below hb1 H0.out.lt)
 clear k0
 clear hb1
 obtain ⟨c0H0, c1H0, c2H0, c3H0, -, -, -, -⟩ := H0.out.four
 go_wp2_with fail
 refine (((QA.out.next k1).rqnorm (by omega))).mono ?_
 rintro e w2 ⟨s0, s1, s2, s3, s4, s5, s6, s7, rfl, nn, hb2⟩
 clear c0H0 c1H0 c2H0 c3H0
 have k2 := bst k1 hb2 nl9
 replace H0 := hi9 (H0.out.below hb2 H0.out.lt)
 clear k1
 clear hb2
 have NX := hi9 nn
 clear nn
 go_upto_region 3 with fail
 obtain ⟨v3, hv⟩ : ∃ v, v = w2.alloc (.cells #[.bool s0, .slice s1 s2 s3, .bool s4, .slice s5 s6 s7] 27) := ⟨_, rfl⟩
 rw [← hv]
 have bn : Blk v3 w2.heap.size 27 [.bool s0, .slice s1 s2 s3, .bool s4, .slice s5 s6 s7] := by rw [hv]; exact Blk.new_ rfl
 have jn : Below w2.heap.size w2 v3 := by rw [hv]; exact bel_one _ _
 obtain ⟨gx, hg⟩ : ∃ g, g = w2.heap.size := ⟨_, rfl⟩
 rw [← hg] at bn ⊢
 clear hg hv
 have Hx := hi9 bn
 clear bn
 have k3 := bst k2 jn nl9
 replace H0 := hi9 (H0.out.below jn H0.out.lt)
 replace NX := hi9 (NX.out.next jn)
 clear k2
 clear jn
 obtain ⟨c0Hx, c1Hx, c2Hx, c3Hx, -, -, -, -⟩ := Hx.out.four
 go_wp2_with fail
 refine ((len_to ((NX.out.num.iv (B2 := 0) BQ.out.num).rlen (by omega)) LB1.out)).mono ?_
 rintro e w4 ⟨rfl, hb4⟩
 clear c0Hx c1Hx c2Hx c3Hx
 have k4 := bst k3 hb4 nl9
 replace H0 := hi9 (H0.out.below hb4 H0.out.lt)
 replace Hx := hi9 (Hx.out.below hb4 Hx.out.lt)
 replace NX := hi9 (NX.out.next hb4)
 clear k3
 clear hb4
 obtain ⟨c0Hx, c1Hx, c2Hx, c3Hx, -, -, -, -⟩ := Hx.out.four
 go_wp2_with fail
 refine ((LG1.out _)).mono ?_
 rintro e w5 ⟨rfl, hb5⟩
 clear c0Hx c1Hx c2Hx c3Hx
 have k5 := bst k4 hb5 nl9
 replace H0 := hi9 (H0.out.below hb5 H0.out.lt)
 replace Hx := hi9 (Hx.out.below hb5 Hx.out.lt)
 replace NX := hi9 (NX.out.next hb5)
 clear k4
 clear hb5
 obtain ⟨c0Hx, c1Hx, c2Hx, c3Hx, -, -, -, -⟩ := Hx.out.four
 go_wp2_with fail
 refine ((len_to ((NX.out.den.iv (B2 := 0) (by rw [Int.natAbs_natCast]; exact BQ.out.den)).rlen (by omega)) (show bitsOf (q.den : Int).natAbs = b2 from LB2.out))).mono ?_
 rintro e w6 ⟨rfl, hb6⟩
 clear c0Hx c1Hx c2Hx c3Hx
 have k6 := bst k5 hb6 nl9
 replace H0 := hi9 (H0.out.below hb6 H0.out.lt)
 replace Hx := hi9 (Hx.out.below hb6 Hx.out.lt)
 replace NX := hi9 (NX.out.next hb6)
 clear k5
 clear hb6
 obtain ⟨c0Hx, c1Hx, c2Hx, c3Hx, -, -, -, -⟩ := Hx.out.four
 go_wp2_with fail
 refine ((LG2.out _)).mono ?_
 rintro e w7 ⟨rfl, hb7⟩
 clear c0Hx c1Hx c2Hx c3Hx
 have k7 := bst k6 hb7 nl9
 replace H0 := hi9 (H0.out.below hb7 H0.out.lt)
 replace Hx := hi9 (Hx.out.below hb7 Hx.out.lt)
 replace NX := hi9 (NX.out.next hb7)
 clear k6
 clear hb7
 obtain ⟨c0Hx, c1Hx, c2Hx, c3Hx, -, -, -, -⟩ := Hx.out.four
 clear c0Hx c1Hx c2Hx c3Hx
 obtain ⟨c0H0, c1H0, c2H0, c3H0, -, -, -, -⟩ := H0.out.four
 go_wp2_with fail
 refine ((PW.out _ k7)).mono ?_
 rintro e w8 ⟨p0, p1, p2, p3, p4, p5, p6, p7, rfl, nn, hb8⟩
 clear c0H0 c1H0 c2H0 c3H0
 have k8 := bst k7 hb8 nl9
 replace H0 := hi9 (H0.out.below hb8 H0.out.lt)
 replace Hx := hi9 (Hx.out.below hb8 Hx.out.lt)
 replace NX := hi9 (NX.out.next hb8)
 clear k7
 clear hb8
 have NP := hi9 nn
 clear nn
 go_upto_region 6 with fail
 obtain ⟨v9, hv⟩ : ∃ v, v = w8.alloc (.cells #[.bool p0, .slice p1 p2 p3, .bool p4, .slice p5 p6 p7] 27) := ⟨_, rfl⟩
 rw [← hv]
 have bn : Blk v9 w8.heap.size 27 [.bool p0, .slice p1 p2 p3, .bool p4, .slice p5 p6 p7] := by rw [hv]; exact Blk.new_ rfl
 have jn : Below w8.heap.size w8 v9 := by rw [hv]; exact bel_one _ _
 obtain ⟨gp, hg⟩ : ∃ g, g = w8.heap.size := ⟨_, rfl⟩
 rw [← hg] at bn ⊢
 clear hg hv
 have Hp := hi9 bn
 clear bn
 have k9 := bst k8 jn nl9
 replace H0 := hi9 (H0.out.below jn H0.out.lt)
 replace Hx := hi9 (Hx.out.below jn Hx.out.lt)
 replace NX := hi9 (NX.out.next jn)
 replace NP := hi9 (NP.out.next jn)
 clear k8
 clear jn
 obtain ⟨c0H0, c1H0, c2H0, c3H0, -, -, -, -⟩ := H0.out.four
 go_wp2_with fail
 refine ((may_yes (XA.out.next k9) dy (by omega))).mono ?_
 rintro e w10 ⟨rfl, hb10⟩
 clear c0H0 c1H0 c2H0 c3H0
 have k10 := bst k9 hb10 nl9
 replace H0 := hi9 (H0.out.below hb10 H0.out.lt)
 replace Hx := hi9 (Hx.out.below hb10 Hx.out.lt)
 replace Hp := hi9 (Hp.out.below hb10 Hp.out.lt)
 replace NX := hi9 (NX.out.next hb10)
 replace NP := hi9 (NP.out.next hb10)
 clear k9
 clear hb10
 obtain ⟨c0H0, c1H0, c2H0, c3H0, -, -, -, -⟩ := H0.out.four
 go_wp2_with fail
 refine ((sgn_to ((QA.out.next k10).rqsign (by omega)) SG.out)).mono ?_
 rintro e w11 ⟨rfl, hb11⟩
 clear c0H0 c1H0 c2H0 c3H0
 have k11 := bst k10 hb11 nl9
 replace H0 := hi9 (H0.out.below hb11 H0.out.lt)
 replace Hx := hi9 (Hx.out.below hb11 Hx.out.lt)
 replace Hp := hi9 (Hp.out.below hb11 Hp.out.lt)
 replace NX := hi9 (NX.out.next hb11)
 replace NP := hi9 (NP.out.next hb11)
 clear k10
 clear hb11
 obtain ⟨c0H0, c1H0, c2H0, c3H0, -, -, -, -⟩ := H0.out.four
 go_wp2_with fail
 refine ((RW.out _ k11)).mono ?_
 rintro e w12 ⟨t0, t1, t2, t3, t4, t5, t6, t7, rfl, nn, hb12⟩
 clear c0H0 c1H0 c2H0 c3H0
 have k12 := bst k11 hb12 nl9
 replace H0 := hi9 (H0.out.below hb12 H0.out.lt)
 replace Hx := hi9 (Hx.out.below hb12 Hx.out.lt)
 replace Hp := hi9 (Hp.out.below hb12 Hp.out.lt)
 replace NX := hi9 (NX.out.next hb12)
 replace NP := hi9 (NP.out.next hb12)
 clear k11
 clear hb12
 have NT := hi9 nn
 clear nn
 go_upto_region 11 with fail
 obtain ⟨v13, hv⟩ : ∃ v, v = w12.alloc (.cells #[.bool t0, .slice t1 t2 t3, .bool t4, .slice t5 t6 t7] 27) := ⟨_, rfl⟩
 rw [← hv]
 have bn : Blk v13 w12.heap.size 27 [.bool t0, .slice t1 t2 t3, .bool t4, .slice t5 t6 t7] := by rw [hv]; exact Blk.new_ rfl
 have jn : Below w12.heap.size w12 v13 := by rw [hv]; exact bel_one _ _
 obtain ⟨gt, hg⟩ : ∃ g, g = w12.heap.size := ⟨_, rfl⟩
 rw [← hg] at bn ⊢
 clear hg hv
 have Ht := hi9 bn
 clear bn
 have k13 := bst k12 jn nl9
 replace H0 := hi9 (H0.out.below jn H0.out.lt)
 replace Hx := hi9 (Hx.out.below jn Hx.out.lt)
 replace Hp := hi9 (Hp.out.below jn Hp.out.lt)
 replace NX := hi9 (NX.out.next jn)
 replace NP := hi9 (NP.out.next jn)
 replace NT := hi9 (NT.out.next jn)
 clear k12
 clear jn
 obtain ⟨c0H0, c1H0, c2H0, c3H0, -, -, -, -⟩ := H0.out.four
 clear c0H0 c1H0 c2H0 c3H0
 obtain ⟨c0Hp, c1Hp, c2Hp, c3Hp, -, -, -, -⟩ := Hp.out.four
 obtain ⟨c0Ht, c1Ht, c2Ht, c3Ht, -, -, -, -⟩ := Ht.out.four
 go_wp2_with fail
 refine (((NP.out.fx NB.out DB.out (B2 := 0)).lsame (NT.out.fx NB.out DB.out (B2 := 0)) JB.out)).mono ?_
 rintro e w14 ⟨rfl, hb14⟩
 clear c0Hp c1Hp c2Hp c3Hp c0Ht c1Ht c2Ht c3Ht
 have k14 := bst k13 hb14 nl9
 replace H0 := hi9 (H0.out.below hb14 H0.out.lt)
 replace Hx := hi9 (Hx.out.below hb14 Hx.out.lt)
 replace Hp := hi9 (Hp.out.below hb14 Hp.out.lt)
 replace Ht := hi9 (Ht.out.below hb14 Ht.out.lt)
 replace NX := hi9 (NX.out.next hb14)
 replace NP := hi9 (NP.out.next hb14)
 replace NT := hi9 (NT.out.next hb14)
 clear k13
 clear hb14
 obtain ⟨c0Hp, c1Hp, c2Hp, c3Hp, -, -, -, -⟩ := Hp.out.four
 obtain ⟨c0Ht, c1Ht, c2Ht, c3Ht, -, -, -, -⟩ := Ht.out.four
 clear c0Hp c1Hp c2Hp c3Hp c0Ht c1Ht c2Ht c3Ht
 go_wp2_with fail
 refine (lives05 (TT.out.next k14)).mono ?_
 rintro e w15 ⟨rfl, hb15⟩
 have k15 := bst k14 hb15 nl9
 replace H0 := hi9 (H0.out.below hb15 H0.out.lt)
 replace Hx := hi9 (Hx.out.below hb15 Hx.out.lt)
 replace Hp := hi9 (Hp.out.below hb15 Hp.out.lt)
 replace Ht := hi9 (Ht.out.below hb15 Ht.out.lt)
 replace NX := hi9 (NX.out.next hb15)
 replace NP := hi9 (NP.out.next hb15)
 replace NT := hi9 (NT.out.next hb15)
 clear k14
 clear hb15
 go_wp2_with fail
 go_ret
 exact ⟨rfl, k15⟩
set_option maxHeartbeats 6400000 in
set_option maxRecDepth 40000 in
theorem powers_fit (N : Nat) (hN : N ≤ 1048576) (hN1 : 1 ≤ N) (hT : Tb w) (h3 : T3 w) (h : FV w.heap.size w (.bool a0) (.slice a1 a2 a3) (.bool a4) (.slice a5 a6 a7) z y N) (hy : y ≠ 0) (k : Int) (h1 : -9223372036854775808 ≤ k) (h2 : k ≤ 9223372036854775807) (g1 : longB (bitsOf (Rat.divInt z y).num.natAbs) k = false) (g2 : longB (bitsOf (Rat.divInt z y).den) k = false) (hz : Rat.divInt z y ≠ 0) (hf : Fit (pwQ (Rat.divInt z y) k) (pwX k)) : Calls Tryz.prog 6 #[.agg #[.bool a0, .slice a1 a2 a3, .bool a4, .slice a5 a6 a7], .int .i64 k] w fun e w' => e = .returned (.bool true) ∧ Below w.heap.size w w' := by
 have XA := hi9 h
 have TT := hi9 hT
 obtain ⟨q, hq⟩ : ∃ q : Rat, q = Rat.divInt z y := ⟨_, rfl⟩
 have QA : Hid (QV w.heap.size w (.bool a0) (.slice a1 a2 a3) (.bool a4) (.slice a5 a6 a7) q N) := by rw [hq]; exact h.qv hy
 have BQ := hi9 QA.out.qb
 have dy : decide (y ≠ 0) = true := decide_eq_true hy
 rw [← hq] at g1 g2 hz hf
 have hb1 := bits_le BQ.out.num (by omega)
 have hb2 := bits_le BQ.out.den (by omega)
 have PL : PwL q k := pwl_of g1 g2
 obtain ⟨b1, e1⟩ : ∃ b, b = bitsOf q.num.natAbs := ⟨_, rfl⟩
 obtain ⟨b2, e2⟩ : ∃ b, b = bitsOf q.den := ⟨_, rfl⟩
 rw [← e1] at g1 hb1
 rw [← e2] at hb2 g2
 have LB1 := hi9 e1.symm
 have LB2 := hi9 e2.symm
 have LG1 : Hid (∀ W, Calls Tryz.prog 40 #[.int .i64 (b1 : Int), .int .i64 k] W fun e w' => e = .returned (.bool false) ∧ Below W.heap.size W w') := hi9 fun W => by have h9 := long_all b1 hb1 k h1 h2 (w := W); rwa [g1] at h9
 have LG2 : Hid (∀ W, Calls Tryz.prog 40 #[.int .i64 (b2 : Int), .int .i64 k] W fun e w' => e = .returned (.bool false) ∧ Below W.heap.size W w') := hi9 fun W => by have h9 := long_all b2 hb2 k h1 h2 (w := W); rwa [g2] at h9
 obtain ⟨N9, hN9⟩ : ∃ v, v = pwN (pwQ q k) (pwX k) := ⟨_, rfl⟩
 obtain ⟨D9, hD9⟩ : ∃ v, v = pwD (pwQ q k) (pwX k) := ⟨_, rfl⟩
 have hE : pwE (pwQ q k) (pwX k) = 0 := if_pos hf
 have hG : decide (Fit (pwQ q k) (pwX k)) = true := decide_eq_true hf
 have PW : Hid (∀ W (_ : Below w.heap.size w W), Calls Tryz.prog 42 #[.agg #[.bool a0, .slice a1 a2 a3, .bool a4, .slice a5 a6 a7], .int .i64 k] W fun e w' => RE W w' N9 D9 0 e) := hi9 fun W hW => by
  have h9 := qpow_all (QA.out.next hW) hN1 (by omega) (hT.next hW) (h3.next hW) k h1 h2 (Or.inl hz) PL
  rwa [← hN9, ← hD9, hE] at h9
 have RW : Hid (∀ W (_ : Below w.heap.size w W), Calls Tryz.prog 43 #[.agg #[.bool a0, .slice a1 a2 a3, .bool a4, .slice a5 a6 a7], .int .i64 k] W fun e w' => RB W w' N9 D9 true e) := hi9 fun W hW => by
  have h9 := rqpow_all (QA.out.next hW) hN1 (by omega) k h1 h2 (Or.inl hz) PL
  rwa [← hN9, ← hD9, hG] at h9
 obtain ⟨J9, hJ9⟩ : ∃ J, J = PK := ⟨_, rfl⟩
 have JB : Hid (J9 ≤ 281474976710656) := by show _ ≤ _; rw [hJ9]; decide
 have NB : Hid (N9.natAbs < 4294967296 ^ J9) := by show _ < _; rw [hN9, hJ9]; exact pwN_lt _ _
 have DB : Hid (D9.natAbs < 4294967296 ^ J9) := by show _ < _; rw [hD9, hJ9]; exact pwD_lt _ _
 clear hN9 hD9 hJ9
 clear hE hG hf
 have s0 := num_sign_ne hz
 obtain ⟨sg, hsg⟩ : ∃ s, s = q.num.sign := ⟨_, rfl⟩
 rw [← hsg] at s0
 have SG := hi9 hsg
 clear hsg
 clear h hT h1 h2 h3 hy hq g1 hb1 hb2 e1 e2 PL g2 hz
 have k0 := bel_one w (.cells #[.bool a0, .slice a1 a2 a3, .bool a4, .slice a5 a6 a7] 27)
 have b0' : Blk (w.alloc (.cells #[.bool a0, .slice a1 a2 a3, .bool a4, .slice a5 a6 a7] 27)) w.heap.size 27 [.bool a0, .slice a1 a2 a3, .bool a4, .slice a5 a6 a7] := Blk.new_ rfl
 go_enter Tryz.func6, Tryz.ntmps6
 go_upto_region 1 with fail
 obtain ⟨w0, hw0⟩ : ∃ v, v = w.alloc (.cells #[.bool a0, .slice a1 a2 a3, .bool a4, .slice a5 a6 a7] 27) := ⟨_, rfl⟩
 rw [← hw0] at k0 b0' ⊢
 clear hw0
 have H0 := hi9 b0'
 clear b0'
 obtain ⟨c0H0, c1H0, c2H0, c3H0, -, -, -, -⟩ := H0.out.four
 go_wp2_with fail
 refine ((may_yes (XA.out.next k0) dy (by omega))).mono ?_
 rintro e w1 ⟨rfl, hb1⟩
 clear c0H0 c1H0 c2H0 c3H0
 have k1 := bst k0 hb1 nl9
 replace H0 := hi9 (H0.out.below hb1 H0.out.lt)
 clear k0
 clear hb1
 obtain ⟨c0H0, c1H0, c2H0, c3H0, -, -, -, -⟩ := H0.out.four
 go_wp2_with fail
 refine (((QA.out.next k1).rqnorm (by omega))).mono ?_
 rintro e w2 ⟨s0, s1, s2, s3, s4, s5, s6, s7, rfl, nn, hb2⟩
 clear c0H0 c1H0 c2H0 c3H0
 have k2 := bst k1 hb2 nl9
 replace H0 := hi9 (H0.out.below hb2 H0.out.lt)
 clear k1
 clear hb2
 have NX := hi9 nn
 clear nn
 go_upto_region 3 with fail
 obtain ⟨v3, hv⟩ : ∃ v, v = w2.alloc (.cells #[.bool s0, .slice s1 s2 s3, .bool s4, .slice s5 s6 s7] 27) := ⟨_, rfl⟩
 rw [← hv]
 have bn : Blk v3 w2.heap.size 27 [.bool s0, .slice s1 s2 s3, .bool s4, .slice s5 s6 s7] := by rw [hv]; exact Blk.new_ rfl
 have jn : Below w2.heap.size w2 v3 := by rw [hv]; exact bel_one _ _
 obtain ⟨gx, hg⟩ : ∃ g, g = w2.heap.size := ⟨_, rfl⟩
 rw [← hg] at bn ⊢
 clear hg hv
 have Hx := hi9 bn
 clear bn
 have k3 := bst k2 jn nl9
 replace H0 := hi9 (H0.out.below jn H0.out.lt)
 replace NX := hi9 (NX.out.next jn)
 clear k2
 clear jn
 obtain ⟨c0Hx, c1Hx, c2Hx, c3Hx, -, -, -, -⟩ := Hx.out.four
 go_wp2_with fail
 refine ((len_to ((NX.out.num.iv (B2 := 0) BQ.out.num).rlen (by omega)) LB1.out)).mono ?_
 rintro e w4 ⟨rfl, hb4⟩
 clear c0Hx c1Hx c2Hx c3Hx
 have k4 := bst k3 hb4 nl9
 replace H0 := hi9 (H0.out.below hb4 H0.out.lt)
 replace Hx := hi9 (Hx.out.below hb4 Hx.out.lt)
 replace NX := hi9 (NX.out.next hb4)
 clear k3
 clear hb4
 obtain ⟨c0Hx, c1Hx, c2Hx, c3Hx, -, -, -, -⟩ := Hx.out.four
 go_wp2_with fail
 refine ((LG1.out _)).mono ?_
 rintro e w5 ⟨rfl, hb5⟩
 clear c0Hx c1Hx c2Hx c3Hx
 have k5 := bst k4 hb5 nl9
 replace H0 := hi9 (H0.out.below hb5 H0.out.lt)
 replace Hx := hi9 (Hx.out.below hb5 Hx.out.lt)
 replace NX := hi9 (NX.out.next hb5)
 clear k4
 clear hb5
 obtain ⟨c0Hx, c1Hx, c2Hx, c3Hx, -, -, -, -⟩ := Hx.out.four
 go_wp2_with fail
 refine ((len_to ((NX.out.den.iv (B2 := 0) (by rw [Int.natAbs_natCast]; exact BQ.out.den)).rlen (by omega)) (show bitsOf (q.den : Int).natAbs = b2 from LB2.out))).mono ?_
 rintro e w6 ⟨rfl, hb6⟩
 clear c0Hx c1Hx c2Hx c3Hx
 have k6 := bst k5 hb6 nl9
 replace H0 := hi9 (H0.out.below hb6 H0.out.lt)
 replace Hx := hi9 (Hx.out.below hb6 Hx.out.lt)
 replace NX := hi9 (NX.out.next hb6)
 clear k5
 clear hb6
 obtain ⟨c0Hx, c1Hx, c2Hx, c3Hx, -, -, -, -⟩ := Hx.out.four
 go_wp2_with fail
 refine ((LG2.out _)).mono ?_
 rintro e w7 ⟨rfl, hb7⟩
 clear c0Hx c1Hx c2Hx c3Hx
 have k7 := bst k6 hb7 nl9
 replace H0 := hi9 (H0.out.below hb7 H0.out.lt)
 replace Hx := hi9 (Hx.out.below hb7 Hx.out.lt)
 replace NX := hi9 (NX.out.next hb7)
 clear k6
 clear hb7
 obtain ⟨c0Hx, c1Hx, c2Hx, c3Hx, -, -, -, -⟩ := Hx.out.four
 clear c0Hx c1Hx c2Hx c3Hx
 obtain ⟨c0H0, c1H0, c2H0, c3H0, -, -, -, -⟩ := H0.out.four
 go_wp2_with fail
 refine ((PW.out _ k7)).mono ?_
 rintro e w8 ⟨p0, p1, p2, p3, p4, p5, p6, p7, rfl, nn, hb8⟩
 clear c0H0 c1H0 c2H0 c3H0
 have k8 := bst k7 hb8 nl9
 replace H0 := hi9 (H0.out.below hb8 H0.out.lt)
 replace Hx := hi9 (Hx.out.below hb8 Hx.out.lt)
 replace NX := hi9 (NX.out.next hb8)
 clear k7
 clear hb8
 have NP := hi9 nn
 clear nn
 go_upto_region 6 with fail
 obtain ⟨v9, hv⟩ : ∃ v, v = w8.alloc (.cells #[.bool p0, .slice p1 p2 p3, .bool p4, .slice p5 p6 p7] 27) := ⟨_, rfl⟩
 rw [← hv]
 have bn : Blk v9 w8.heap.size 27 [.bool p0, .slice p1 p2 p3, .bool p4, .slice p5 p6 p7] := by rw [hv]; exact Blk.new_ rfl
 have jn : Below w8.heap.size w8 v9 := by rw [hv]; exact bel_one _ _
 obtain ⟨gp, hg⟩ : ∃ g, g = w8.heap.size := ⟨_, rfl⟩
 rw [← hg] at bn ⊢
 clear hg hv
 have Hp := hi9 bn
 clear bn
 have k9 := bst k8 jn nl9
 replace H0 := hi9 (H0.out.below jn H0.out.lt)
 replace Hx := hi9 (Hx.out.below jn Hx.out.lt)
 replace NX := hi9 (NX.out.next jn)
 replace NP := hi9 (NP.out.next jn)
 clear k8
 clear jn
 obtain ⟨c0H0, c1H0, c2H0, c3H0, -, -, -, -⟩ := H0.out.four
 go_wp2_with fail
 refine ((may_yes (XA.out.next k9) dy (by omega))).mono ?_
 rintro e w10 ⟨rfl, hb10⟩
 clear c0H0 c1H0 c2H0 c3H0
 have k10 := bst k9 hb10 nl9
 replace H0 := hi9 (H0.out.below hb10 H0.out.lt)
 replace Hx := hi9 (Hx.out.below hb10 Hx.out.lt)
 replace Hp := hi9 (Hp.out.below hb10 Hp.out.lt)
 replace NX := hi9 (NX.out.next hb10)
 replace NP := hi9 (NP.out.next hb10)
 clear k9
 clear hb10
 obtain ⟨c0H0, c1H0, c2H0, c3H0, -, -, -, -⟩ := H0.out.four
 go_wp2_with fail
 refine ((sgn_to ((QA.out.next k10).rqsign (by omega)) SG.out)).mono ?_
 rintro e w11 ⟨rfl, hb11⟩
 clear c0H0 c1H0 c2H0 c3H0
 have k11 := bst k10 hb11 nl9
 replace H0 := hi9 (H0.out.below hb11 H0.out.lt)
 replace Hx := hi9 (Hx.out.below hb11 Hx.out.lt)
 replace Hp := hi9 (Hp.out.below hb11 Hp.out.lt)
 replace NX := hi9 (NX.out.next hb11)
 replace NP := hi9 (NP.out.next hb11)
 clear k10
 clear hb11
 obtain ⟨c0H0, c1H0, c2H0, c3H0, -, -, -, -⟩ := H0.out.four
 go_wp2_with fail
 refine ((RW.out _ k11)).mono ?_
 rintro e w12 ⟨t0, t1, t2, t3, t4, t5, t6, t7, rfl, nn, hb12⟩
 clear c0H0 c1H0 c2H0 c3H0
 have k12 := bst k11 hb12 nl9
 replace H0 := hi9 (H0.out.below hb12 H0.out.lt)
 replace Hx := hi9 (Hx.out.below hb12 Hx.out.lt)
 replace Hp := hi9 (Hp.out.below hb12 Hp.out.lt)
 replace NX := hi9 (NX.out.next hb12)
 replace NP := hi9 (NP.out.next hb12)
 clear k11
 clear hb12
 have NT := hi9 nn
 clear nn
 go_upto_region 11 with fail
 obtain ⟨v13, hv⟩ : ∃ v, v = w12.alloc (.cells #[.bool t0, .slice t1 t2 t3, .bool t4, .slice t5 t6 t7] 27) := ⟨_, rfl⟩
 rw [← hv]
 have bn : Blk v13 w12.heap.size 27 [.bool t0, .slice t1 t2 t3, .bool t4, .slice t5 t6 t7] := by rw [hv]; exact Blk.new_ rfl
 have jn : Below w12.heap.size w12 v13 := by rw [hv]; exact bel_one _ _
 obtain ⟨gt, hg⟩ : ∃ g, g = w12.heap.size := ⟨_, rfl⟩
 rw [← hg] at bn ⊢
 clear hg hv
 have Ht := hi9 bn
 clear bn
 have k13 := bst k12 jn nl9
 replace H0 := hi9 (H0.out.below jn H0.out.lt)
 replace Hx := hi9 (Hx.out.below jn Hx.out.lt)
 replace Hp := hi9 (Hp.out.below jn Hp.out.lt)
 replace NX := hi9 (NX.out.next jn)
 replace NP := hi9 (NP.out.next jn)
 replace NT := hi9 (NT.out.next jn)
 clear k12
 clear jn
 obtain ⟨c0H0, c1H0, c2H0, c3H0, -, -, -, -⟩ := H0.out.four
 clear c0H0 c1H0 c2H0 c3H0
 obtain ⟨c0Hp, c1Hp, c2Hp, c3Hp, -, -, -, -⟩ := Hp.out.four
 obtain ⟨c0Ht, c1Ht, c2Ht, c3Ht, -, -, -, -⟩ := Ht.out.four
 go_wp2_with fail
 refine (((NP.out.fx NB.out DB.out (B2 := 0)).lsame (NT.out.fx NB.out DB.out (B2 := 0)) JB.out)).mono ?_
 rintro e w14 ⟨rfl, hb14⟩
 clear c0Hp c1Hp c2Hp c3Hp c0Ht c1Ht c2Ht c3Ht
 have k14 := bst k13 hb14 nl9
 replace H0 := hi9 (H0.out.below hb14 H0.out.lt)
 replace Hx := hi9 (Hx.out.below hb14 Hx.out.lt)
 replace Hp := hi9 (Hp.out.below hb14 Hp.out.lt)
 replace Ht := hi9 (Ht.out.below hb14 Ht.out.lt)
 replace NX := hi9 (NX.out.next hb14)
 replace NP := hi9 (NP.out.next hb14)
 replace NT := hi9 (NT.out.next hb14)
 clear k13
 clear hb14
 obtain ⟨c0Hp, c1Hp, c2Hp, c3Hp, -, -, -, -⟩ := Hp.out.four
 obtain ⟨c0Ht, c1Ht, c2Ht, c3Ht, -, -, -, -⟩ := Ht.out.four
 clear c0Hp c1Hp c2Hp c3Hp c0Ht c1Ht c2Ht c3Ht
 go_wp2_with fail
 refine (lives05 (TT.out.next k14)).mono ?_
 rintro e w15 ⟨rfl, hb15⟩
 have k15 := bst k14 hb15 nl9
 replace H0 := hi9 (H0.out.below hb15 H0.out.lt)
 replace Hx := hi9 (Hx.out.below hb15 Hx.out.lt)
 replace Hp := hi9 (Hp.out.below hb15 Hp.out.lt)
 replace Ht := hi9 (Ht.out.below hb15 Ht.out.lt)
 replace NX := hi9 (NX.out.next hb15)
 replace NP := hi9 (NP.out.next hb15)
 replace NT := hi9 (NT.out.next hb15)
 clear k14
 clear hb15
 go_wp2_with fail
 go_ret
 exact ⟨rfl, k15⟩
set_option maxHeartbeats 6400000 in
set_option maxRecDepth 40000 in
theorem powers_big (N : Nat) (hN : N ≤ 1048576) (hN1 : 1 ≤ N) (hT : Tb w) (h3 : T3 w) (h : FV w.heap.size w (.bool a0) (.slice a1 a2 a3) (.bool a4) (.slice a5 a6 a7) z y N) (hy : y ≠ 0) (k : Int) (h1 : -9223372036854775808 ≤ k) (h2 : k ≤ 9223372036854775807) (g1 : longB (bitsOf (Rat.divInt z y).num.natAbs) k = false) (g2 : longB (bitsOf (Rat.divInt z y).den) k = false) (hz : Rat.divInt z y ≠ 0) (hf : ¬ Fit (pwQ (Rat.divInt z y) k) (pwX k)) : Calls Tryz.prog 6 #[.agg #[.bool a0, .slice a1 a2 a3, .bool a4, .slice a5 a6 a7], .int .i64 k] w fun e w' => e = .returned (.bool true) ∧ Below w.heap.size w w' := by
 have XA := hi9 h
 have TT := hi9 hT
 obtain ⟨q, hq⟩ : ∃ q : Rat, q = Rat.divInt z y := ⟨_, rfl⟩
 have QA : Hid (QV w.heap.size w (.bool a0) (.slice a1 a2 a3) (.bool a4) (.slice a5 a6 a7) q N) := by rw [hq]; exact h.qv hy
 have BQ := hi9 QA.out.qb
 have dy : decide (y ≠ 0) = true := decide_eq_true hy
 rw [← hq] at g1 g2 hz hf
 have hb1 := bits_le BQ.out.num (by omega)
 have hb2 := bits_le BQ.out.den (by omega)
 have PL : PwL q k := pwl_of g1 g2
 obtain ⟨b1, e1⟩ : ∃ b, b = bitsOf q.num.natAbs := ⟨_, rfl⟩
 obtain ⟨b2, e2⟩ : ∃ b, b = bitsOf q.den := ⟨_, rfl⟩
 rw [← e1] at g1 hb1
 rw [← e2] at hb2 g2
 have LB1 := hi9 e1.symm
 have LB2 := hi9 e2.symm
 have LG1 : Hid (∀ W, Calls Tryz.prog 40 #[.int .i64 (b1 : Int), .int .i64 k] W fun e w' => e = .returned (.bool false) ∧ Below W.heap.size W w') := hi9 fun W => by have h9 := long_all b1 hb1 k h1 h2 (w := W); rwa [g1] at h9
 have LG2 : Hid (∀ W, Calls Tryz.prog 40 #[.int .i64 (b2 : Int), .int .i64 k] W fun e w' => e = .returned (.bool false) ∧ Below W.heap.size W w') := hi9 fun W => by have h9 := long_all b2 hb2 k h1 h2 (w := W); rwa [g2] at h9
 obtain ⟨N9, hN9⟩ : ∃ v, v = pwN (pwQ q k) (pwX k) := ⟨_, rfl⟩
 obtain ⟨D9, hD9⟩ : ∃ v, v = pwD (pwQ q k) (pwX k) := ⟨_, rfl⟩
 have hE : pwE (pwQ q k) (pwX k) = 4 := if_neg hf
 have hG : decide (Fit (pwQ q k) (pwX k)) = false := decide_eq_false hf
 have PW : Hid (∀ W (_ : Below w.heap.size w W), Calls Tryz.prog 42 #[.agg #[.bool a0, .slice a1 a2 a3, .bool a4, .slice a5 a6 a7], .int .i64 k] W fun e w' => RE W w' N9 D9 4 e) := hi9 fun W hW => by
  have h9 := qpow_all (QA.out.next hW) hN1 (by omega) (hT.next hW) (h3.next hW) k h1 h2 (Or.inl hz) PL
  rwa [← hN9, ← hD9, hE] at h9
 have RW : Hid (∀ W (_ : Below w.heap.size w W), Calls Tryz.prog 43 #[.agg #[.bool a0, .slice a1 a2 a3, .bool a4, .slice a5 a6 a7], .int .i64 k] W fun e w' => RB W w' N9 D9 false e) := hi9 fun W hW => by
  have h9 := rqpow_all (QA.out.next hW) hN1 (by omega) k h1 h2 (Or.inl hz) PL
  rwa [← hN9, ← hD9, hG] at h9
 have Z1 : N9 = 0 := hN9.trans (if_neg hf)
 have Z2 : D9 = 0 := hD9.trans (if_neg hf)
 rw [Z1, Z2] at PW RW
 clear hN9 hD9 Z1 Z2
 clear hE hG hf
 have s0 := num_sign_ne hz
 obtain ⟨sg, hsg⟩ : ∃ s, s = q.num.sign := ⟨_, rfl⟩
 rw [← hsg] at s0
 have SG := hi9 hsg
 clear hsg
 clear h hT h1 h2 h3 hy hq g1 hb1 hb2 e1 e2 PL g2 hz
 have k0 := bel_one w (.cells #[.bool a0, .slice a1 a2 a3, .bool a4, .slice a5 a6 a7] 27)
 have b0' : Blk (w.alloc (.cells #[.bool a0, .slice a1 a2 a3, .bool a4, .slice a5 a6 a7] 27)) w.heap.size 27 [.bool a0, .slice a1 a2 a3, .bool a4, .slice a5 a6 a7] := Blk.new_ rfl
 go_enter Tryz.func6, Tryz.ntmps6
 go_upto_region 1 with fail
 obtain ⟨w0, hw0⟩ : ∃ v, v = w.alloc (.cells #[.bool a0, .slice a1 a2 a3, .bool a4, .slice a5 a6 a7] 27) := ⟨_, rfl⟩
 rw [← hw0] at k0 b0' ⊢
 clear hw0
 have H0 := hi9 b0'
 clear b0'
 obtain ⟨c0H0, c1H0, c2H0, c3H0, -, -, -, -⟩ := H0.out.four
 go_wp2_with fail
 refine ((may_yes (XA.out.next k0) dy (by omega))).mono ?_
 rintro e w1 ⟨rfl, hb1⟩
 clear c0H0 c1H0 c2H0 c3H0
 have k1 := bst k0 hb1 nl9
 replace H0 := hi9 (H0.out.below hb1 H0.out.lt)
 clear k0
 clear hb1
 obtain ⟨c0H0, c1H0, c2H0, c3H0, -, -, -, -⟩ := H0.out.four
 go_wp2_with fail
 refine (((QA.out.next k1).rqnorm (by omega))).mono ?_
 rintro e w2 ⟨s0, s1, s2, s3, s4, s5, s6, s7, rfl, nn, hb2⟩
 clear c0H0 c1H0 c2H0 c3H0
 have k2 := bst k1 hb2 nl9
 replace H0 := hi9 (H0.out.below hb2 H0.out.lt)
 clear k1
 clear hb2
 have NX := hi9 nn
 clear nn
 go_upto_region 3 with fail
 obtain ⟨v3, hv⟩ : ∃ v, v = w2.alloc (.cells #[.bool s0, .slice s1 s2 s3, .bool s4, .slice s5 s6 s7] 27) := ⟨_, rfl⟩
 rw [← hv]
 have bn : Blk v3 w2.heap.size 27 [.bool s0, .slice s1 s2 s3, .bool s4, .slice s5 s6 s7] := by rw [hv]; exact Blk.new_ rfl
 have jn : Below w2.heap.size w2 v3 := by rw [hv]; exact bel_one _ _
 obtain ⟨gx, hg⟩ : ∃ g, g = w2.heap.size := ⟨_, rfl⟩
 rw [← hg] at bn ⊢
 clear hg hv
 have Hx := hi9 bn
 clear bn
 have k3 := bst k2 jn nl9
 replace H0 := hi9 (H0.out.below jn H0.out.lt)
 replace NX := hi9 (NX.out.next jn)
 clear k2
 clear jn
 obtain ⟨c0Hx, c1Hx, c2Hx, c3Hx, -, -, -, -⟩ := Hx.out.four
 go_wp2_with fail
 refine ((len_to ((NX.out.num.iv (B2 := 0) BQ.out.num).rlen (by omega)) LB1.out)).mono ?_
 rintro e w4 ⟨rfl, hb4⟩
 clear c0Hx c1Hx c2Hx c3Hx
 have k4 := bst k3 hb4 nl9
 replace H0 := hi9 (H0.out.below hb4 H0.out.lt)
 replace Hx := hi9 (Hx.out.below hb4 Hx.out.lt)
 replace NX := hi9 (NX.out.next hb4)
 clear k3
 clear hb4
 obtain ⟨c0Hx, c1Hx, c2Hx, c3Hx, -, -, -, -⟩ := Hx.out.four
 go_wp2_with fail
 refine ((LG1.out _)).mono ?_
 rintro e w5 ⟨rfl, hb5⟩
 clear c0Hx c1Hx c2Hx c3Hx
 have k5 := bst k4 hb5 nl9
 replace H0 := hi9 (H0.out.below hb5 H0.out.lt)
 replace Hx := hi9 (Hx.out.below hb5 Hx.out.lt)
 replace NX := hi9 (NX.out.next hb5)
 clear k4
 clear hb5
 obtain ⟨c0Hx, c1Hx, c2Hx, c3Hx, -, -, -, -⟩ := Hx.out.four
 go_wp2_with fail
 refine ((len_to ((NX.out.den.iv (B2 := 0) (by rw [Int.natAbs_natCast]; exact BQ.out.den)).rlen (by omega)) (show bitsOf (q.den : Int).natAbs = b2 from LB2.out))).mono ?_
 rintro e w6 ⟨rfl, hb6⟩
 clear c0Hx c1Hx c2Hx c3Hx
 have k6 := bst k5 hb6 nl9
 replace H0 := hi9 (H0.out.below hb6 H0.out.lt)
 replace Hx := hi9 (Hx.out.below hb6 Hx.out.lt)
 replace NX := hi9 (NX.out.next hb6)
 clear k5
 clear hb6
 obtain ⟨c0Hx, c1Hx, c2Hx, c3Hx, -, -, -, -⟩ := Hx.out.four
 go_wp2_with fail
 refine ((LG2.out _)).mono ?_
 rintro e w7 ⟨rfl, hb7⟩
 clear c0Hx c1Hx c2Hx c3Hx
 have k7 := bst k6 hb7 nl9
 replace H0 := hi9 (H0.out.below hb7 H0.out.lt)
 replace Hx := hi9 (Hx.out.below hb7 Hx.out.lt)
 replace NX := hi9 (NX.out.next hb7)
 clear k6
 clear hb7
 obtain ⟨c0Hx, c1Hx, c2Hx, c3Hx, -, -, -, -⟩ := Hx.out.four
 clear c0Hx c1Hx c2Hx c3Hx
 obtain ⟨c0H0, c1H0, c2H0, c3H0, -, -, -, -⟩ := H0.out.four
 go_wp2_with fail
 refine ((PW.out _ k7)).mono ?_
 rintro e w8 ⟨p0, p1, p2, p3, p4, p5, p6, p7, rfl, nn, hb8⟩
 clear c0H0 c1H0 c2H0 c3H0
 have k8 := bst k7 hb8 nl9
 replace H0 := hi9 (H0.out.below hb8 H0.out.lt)
 replace Hx := hi9 (Hx.out.below hb8 Hx.out.lt)
 replace NX := hi9 (NX.out.next hb8)
 clear k7
 clear hb8
 have NP := hi9 nn
 clear nn
 go_upto_region 6 with fail
 obtain ⟨v9, hv⟩ : ∃ v, v = w8.alloc (.cells #[.bool p0, .slice p1 p2 p3, .bool p4, .slice p5 p6 p7] 27) := ⟨_, rfl⟩
 rw [← hv]
 have bn : Blk v9 w8.heap.size 27 [.bool p0, .slice p1 p2 p3, .bool p4, .slice p5 p6 p7] := by rw [hv]; exact Blk.new_ rfl
 have jn : Below w8.heap.size w8 v9 := by rw [hv]; exact bel_one _ _
 obtain ⟨gp, hg⟩ : ∃ g, g = w8.heap.size := ⟨_, rfl⟩
 rw [← hg] at bn ⊢
 clear hg hv
 have Hp := hi9 bn
 clear bn
 have k9 := bst k8 jn nl9
 replace H0 := hi9 (H0.out.below jn H0.out.lt)
 replace Hx := hi9 (Hx.out.below jn Hx.out.lt)
 replace NX := hi9 (NX.out.next jn)
 replace NP := hi9 (NP.out.next jn)
 clear k8
 clear jn
 obtain ⟨c0H0, c1H0, c2H0, c3H0, -, -, -, -⟩ := H0.out.four
 go_wp2_with fail
 refine ((may_yes (XA.out.next k9) dy (by omega))).mono ?_
 rintro e w10 ⟨rfl, hb10⟩
 clear c0H0 c1H0 c2H0 c3H0
 have k10 := bst k9 hb10 nl9
 replace H0 := hi9 (H0.out.below hb10 H0.out.lt)
 replace Hx := hi9 (Hx.out.below hb10 Hx.out.lt)
 replace Hp := hi9 (Hp.out.below hb10 Hp.out.lt)
 replace NX := hi9 (NX.out.next hb10)
 replace NP := hi9 (NP.out.next hb10)
 clear k9
 clear hb10
 obtain ⟨c0H0, c1H0, c2H0, c3H0, -, -, -, -⟩ := H0.out.four
 go_wp2_with fail
 refine ((sgn_to ((QA.out.next k10).rqsign (by omega)) SG.out)).mono ?_
 rintro e w11 ⟨rfl, hb11⟩
 clear c0H0 c1H0 c2H0 c3H0
 have k11 := bst k10 hb11 nl9
 replace H0 := hi9 (H0.out.below hb11 H0.out.lt)
 replace Hx := hi9 (Hx.out.below hb11 Hx.out.lt)
 replace Hp := hi9 (Hp.out.below hb11 Hp.out.lt)
 replace NX := hi9 (NX.out.next hb11)
 replace NP := hi9 (NP.out.next hb11)
 clear k10
 clear hb11
 obtain ⟨c0H0, c1H0, c2H0, c3H0, -, -, -, -⟩ := H0.out.four
 go_wp2_with fail
 refine ((RW.out _ k11)).mono ?_
 rintro e w12 ⟨t0, t1, t2, t3, t4, t5, t6, t7, rfl, nn, hb12⟩
 clear c0H0 c1H0 c2H0 c3H0
 have k12 := bst k11 hb12 nl9
 replace H0 := hi9 (H0.out.below hb12 H0.out.lt)
 replace Hx := hi9 (Hx.out.below hb12 Hx.out.lt)
 replace Hp := hi9 (Hp.out.below hb12 Hp.out.lt)
 replace NX := hi9 (NX.out.next hb12)
 replace NP := hi9 (NP.out.next hb12)
 clear k11
 clear hb12
 have NT := hi9 nn
 clear nn
 go_upto_region 11 with fail
 obtain ⟨v13, hv⟩ : ∃ v, v = w12.alloc (.cells #[.bool t0, .slice t1 t2 t3, .bool t4, .slice t5 t6 t7] 27) := ⟨_, rfl⟩
 rw [← hv]
 have bn : Blk v13 w12.heap.size 27 [.bool t0, .slice t1 t2 t3, .bool t4, .slice t5 t6 t7] := by rw [hv]; exact Blk.new_ rfl
 have jn : Below w12.heap.size w12 v13 := by rw [hv]; exact bel_one _ _
 obtain ⟨gt, hg⟩ : ∃ g, g = w12.heap.size := ⟨_, rfl⟩
 rw [← hg] at bn ⊢
 clear hg hv
 have Ht := hi9 bn
 clear bn
 have k13 := bst k12 jn nl9
 replace H0 := hi9 (H0.out.below jn H0.out.lt)
 replace Hx := hi9 (Hx.out.below jn Hx.out.lt)
 replace Hp := hi9 (Hp.out.below jn Hp.out.lt)
 replace NX := hi9 (NX.out.next jn)
 replace NP := hi9 (NP.out.next jn)
 replace NT := hi9 (NT.out.next jn)
 clear k12
 clear jn
 obtain ⟨c0H0, c1H0, c2H0, c3H0, -, -, -, -⟩ := H0.out.four
 clear c0H0 c1H0 c2H0 c3H0
 obtain ⟨c0Hp, c1Hp, c2Hp, c3Hp, -, -, -, -⟩ := Hp.out.four
 obtain ⟨c0Ht, c1Ht, c2Ht, c3Ht, -, -, -, -⟩ := Ht.out.four
 go_wp2_with fail
 refine ((NP.out.nsame)).mono ?_
 rintro e w14 ⟨rfl, hb14⟩
 clear c0Hp c1Hp c2Hp c3Hp c0Ht c1Ht c2Ht c3Ht
 have k14 := bst k13 hb14 nl9
 replace H0 := hi9 (H0.out.below hb14 H0.out.lt)
 replace Hx := hi9 (Hx.out.below hb14 Hx.out.lt)
 replace Hp := hi9 (Hp.out.below hb14 Hp.out.lt)
 replace Ht := hi9 (Ht.out.below hb14 Ht.out.lt)
 replace NX := hi9 (NX.out.next hb14)
 replace NP := hi9 (NP.out.next hb14)
 replace NT := hi9 (NT.out.next hb14)
 clear k13
 clear hb14
 obtain ⟨c0Hp, c1Hp, c2Hp, c3Hp, -, -, -, -⟩ := Hp.out.four
 obtain ⟨c0Ht, c1Ht, c2Ht, c3Ht, -, -, -, -⟩ := Ht.out.four
 clear c0Hp c1Hp c2Hp c3Hp c0Ht c1Ht c2Ht c3Ht
 go_wp2_with fail
 refine (lives05 (TT.out.next k14)).mono ?_
 rintro e w15 ⟨rfl, hb15⟩
 have k15 := bst k14 hb15 nl9
 replace H0 := hi9 (H0.out.below hb15 H0.out.lt)
 replace Hx := hi9 (Hx.out.below hb15 Hx.out.lt)
 replace Hp := hi9 (Hp.out.below hb15 Hp.out.lt)
 replace Ht := hi9 (Ht.out.below hb15 Ht.out.lt)
 replace NX := hi9 (NX.out.next hb15)
 replace NP := hi9 (NP.out.next hb15)
 replace NT := hi9 (NT.out.next hb15)
 clear k14
 clear hb15
 go_wp2_with fail
 go_ret
 exact ⟨rfl, k15⟩
theorem powers_walk5 (N : Nat) (hN : N ≤ 1048576) (hN1 : 1 ≤ N) (hT : Tb w) (h3 : T3 w) (h : FV w.heap.size w (.bool a0) (.slice a1 a2 a3) (.bool a4) (.slice a5 a6 a7) z y N) (k : Int) (hk : -9223372036854775808 ≤ k ∧ k ≤ 9223372036854775807) : Calls Tryz.prog 6 #[.agg #[.bool a0, .slice a1 a2 a3, .bool a4, .slice a5 a6 a7], .int .i64 k] w fun e w' => e = .returned (.bool true) ∧ Below w.heap.size w w' := by
 by_cases hy : y = 0
 ·subst hy; exact powers_bad N hN hN1 hT h3 h k hk.1 hk.2
 cases g1 : longB (bitsOf (Rat.divInt z y).num.natAbs) k with
 | true => exact powers_l1 N hN hN1 hT h3 h hy k hk.1 hk.2 g1
 | false =>
  cases g2 : longB (bitsOf (Rat.divInt z y).den) k with
  | true => exact powers_l2 N hN hN1 hT h3 h hy k hk.1 hk.2 g1 g2
  | false =>
   by_cases hz : Rat.divInt z y = 0
   ·by_cases h0 : k < 0
    ·exact powers_z5 N hN hN1 hT h3 h hy k hk.1 hk.2 g1 g2 hz h0
    ·refine powers_zfit N hN hN1 hT h3 h hy k hk.1 hk.2 g1 g2 hz (by omega) ?_
     unfold pwQ pwX
     rw [if_neg (show ¬ k = -9223372036854775808 by omega), if_neg h0, if_neg (show ¬ k = -9223372036854775808 by omega), hz]
     exact ⟨Or.inr (Or.inl (by decide)), Or.inr (Or.inl (by decide))⟩
   ·by_cases hf : Fit (pwQ (Rat.divInt z y) k) (pwX k)
    ·exact powers_fit N hN hN1 hT h3 h hy k hk.1 hk.2 g1 g2 hz hf
    ·exact powers_big N hN hN1 hT h3 h hy k hk.1 hk.2 g1 g2 hz hf
end
end Go.Proofs.YtbcphifjcaobfaaGreatDoor
