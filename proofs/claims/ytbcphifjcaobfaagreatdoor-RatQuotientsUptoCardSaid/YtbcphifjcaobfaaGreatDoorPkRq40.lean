/- The walk of the law RatQuotients. Conditions: at most 2^20 limbs each; the table of the library as it is laid. -/
import Derived.Test.YtbcphifjcaobfaaGreatDoorPkRq39
namespace Go.Proofs.YtbcphifjcaobfaaGreatDoor
open Go.RowKit

section
variable {w : World} {B B2 B3 B4 : Nat} {a0 a1 a2 a3 b0 b1 b2 b3 : Value} {K N : Nat} {z y x v : Int} {q r : Rat}
set_option maxHeartbeats 12800000 in
set_option maxRecDepth 20000 in
theorem quot_bad_any (N : Nat) (hN : N ≤ 1048576) (hN1 : 1 ≤ N) (hT : Tb w) (h : FV B w a0 a1 a2 a3 z 0 N) (h' : FV B2 w b0 b1 b2 b3 x v N) : Calls Tryz.prog 5 #[.agg #[a0, a1, a2, a3], .agg #[b0, b1, b2, b3]] w fun e w' => e = .returned (.bool true) ∧ Below w.heap.size w w' := by
  have FA := Lib.hid h
  clear h
  have FC := Lib.hid h'
  clear h'
  have TT := Lib.hid hT
  clear hT
  obtain ⟨b0', b1'⟩ := blk_rr w a0 a1 a2 a3 b0 b1 b2 b3
  have k0 := bel_two w (.cells #[a0, a1, a2, a3] 27) (.cells #[b0, b1, b2, b3] 27)
  go_enter Tryz.func5, Tryz.ntmps5
  go_upto_region 1 with fail
  obtain ⟨w0, hw0⟩ : ∃ v, v = (w.alloc (.cells #[a0, a1, a2, a3] 27)).alloc (.cells #[b0, b1, b2, b3] 27) := ⟨_, rfl⟩
  rw [← hw0] at k0 b0' b1' ⊢
  clear hw0
  have H0 := Lib.hid b0'
  have H1 := Lib.hid b1'
  clear b0' b1'
  obtain ⟨c0H0, c1H0, c2H0, c3H0, -, -, -, -⟩ := H0.out.four
  obtain ⟨c0H1, c1H1, c2H1, c3H1, -, -, -, -⟩ := H1.out.four
  go_wp2_with fail
  refine ((FA.out.next k0).inv_bad hN1 (by omega)).mono ?_
  rintro e w1 ⟨s0, s1, s2, s3, s4, s5, s6, s7, rfl, nn, hb1⟩
  clear c0H0 c1H0 c2H0 c3H0 c0H1 c1H1 c2H1 c3H1
  have k1 := bst k0 hb1 (Nat.le_refl _)
  replace H0 := Lib.hid (H0.out.below hb1 H0.out.lt)
  replace H1 := Lib.hid (H1.out.below hb1 H1.out.lt)
  clear k0
  clear hb1
  have NI := Lib.hid nn
  clear nn
  go_upto_region 2 with fail
  obtain ⟨v2, hv⟩ : ∃ v, v = w1.alloc (.cells #[.bool s0, .slice s1 s2 s3, .bool s4, .slice s5 s6 s7] 27) := ⟨_, rfl⟩
  rw [← hv]
  have bn : Blk v2 w1.heap.size 27 [.bool s0, .slice s1 s2 s3, .bool s4, .slice s5 s6 s7] := by rw [hv]; exact Blk.new_ rfl
  have jn : Below w1.heap.size w1 v2 := by rw [hv]; exact bel_one _ _
  obtain ⟨gi, hg⟩ : ∃ g, g = w1.heap.size := ⟨_, rfl⟩
  rw [← hg] at bn ⊢
  clear hg hv
  have Hi := Lib.hid bn
  clear bn
  have k2 := bst k1 jn (Nat.le_refl _)
  replace H0 := Lib.hid (H0.out.below jn H0.out.lt)
  replace H1 := Lib.hid (H1.out.below jn H1.out.lt)
  replace NI := Lib.hid (NI.out.next jn)
  clear k1
  clear jn
  obtain ⟨c0H0, c1H0, c2H0, c3H0, -, -, -, -⟩ := H0.out.four
  obtain ⟨c0H1, c1H1, c2H1, c3H1, -, -, -, -⟩ := H1.out.four
  obtain ⟨c0Hi, c1Hi, c2Hi, c3Hi, -, -, -, -⟩ := Hi.out.four
  go_wp2_with fail
  refine ((FA.out.next k2).quo_bad (FC.out.next k2) (by omega) (Or.inl rfl)).mono ?_
  rintro e w3 ⟨t0, t1, t2, t3, t4, t5, t6, t7, rfl, nn, hb3⟩
  clear c0H0 c1H0 c2H0 c3H0 c0H1 c1H1 c2H1 c3H1 c0Hi c1Hi c2Hi c3Hi
  have k3 := bst k2 hb3 (Nat.le_refl _)
  replace H0 := Lib.hid (H0.out.below hb3 H0.out.lt)
  replace H1 := Lib.hid (H1.out.below hb3 H1.out.lt)
  replace Hi := Lib.hid (Hi.out.below hb3 Hi.out.lt)
  replace NI := Lib.hid (NI.out.next hb3)
  clear k2
  clear hb3
  have NQ := Lib.hid nn
  clear nn
  go_upto_region 3 with fail
  obtain ⟨v4, hv⟩ : ∃ v, v = w3.alloc (.cells #[.bool t0, .slice t1 t2 t3, .bool t4, .slice t5 t6 t7] 27) := ⟨_, rfl⟩
  rw [← hv]
  have bn : Blk v4 w3.heap.size 27 [.bool t0, .slice t1 t2 t3, .bool t4, .slice t5 t6 t7] := by rw [hv]; exact Blk.new_ rfl
  have jn : Below w3.heap.size w3 v4 := by rw [hv]; exact bel_one _ _
  obtain ⟨gq, hg⟩ : ∃ g, g = w3.heap.size := ⟨_, rfl⟩
  rw [← hg] at bn ⊢
  clear hg hv
  have Hq := Lib.hid bn
  clear bn
  have k4 := bst k3 jn (Nat.le_refl _)
  replace H0 := Lib.hid (H0.out.below jn H0.out.lt)
  replace H1 := Lib.hid (H1.out.below jn H1.out.lt)
  replace Hi := Lib.hid (Hi.out.below jn Hi.out.lt)
  replace NI := Lib.hid (NI.out.next jn)
  replace NQ := Lib.hid (NQ.out.next jn)
  clear k3
  clear jn
  obtain ⟨c0H0, c1H0, c2H0, c3H0, -, -, -, -⟩ := H0.out.four
  obtain ⟨c0H1, c1H1, c2H1, c3H1, -, -, -, -⟩ := H1.out.four
  obtain ⟨c0Hi, c1Hi, c2Hi, c3Hi, -, -, -, -⟩ := Hi.out.four
  obtain ⟨c0Hq, c1Hq, c2Hq, c3Hq, -, -, -, -⟩ := Hq.out.four
  go_wp2_with fail
  refine (((FA.out.next k4).rmay (by omega))).mono ?_
  rintro e w5 ⟨rfl, hb5⟩
  clear c0H0 c1H0 c2H0 c3H0 c0H1 c1H1 c2H1 c3H1 c0Hi c1Hi c2Hi c3Hi c0Hq c1Hq c2Hq c3Hq
  have k5 := bst k4 hb5 (Nat.le_refl _)
  replace H0 := Lib.hid (H0.out.below hb5 H0.out.lt)
  replace H1 := Lib.hid (H1.out.below hb5 H1.out.lt)
  replace Hi := Lib.hid (Hi.out.below hb5 Hi.out.lt)
  replace Hq := Lib.hid (Hq.out.below hb5 Hq.out.lt)
  replace NI := Lib.hid (NI.out.next hb5)
  replace NQ := Lib.hid (NQ.out.next hb5)
  clear k4
  clear hb5
  obtain ⟨c0H0, c1H0, c2H0, c3H0, -, -, -, -⟩ := H0.out.four
  obtain ⟨c0H1, c1H1, c2H1, c3H1, -, -, -, -⟩ := H1.out.four
  obtain ⟨c0Hi, c1Hi, c2Hi, c3Hi, -, -, -, -⟩ := Hi.out.four
  obtain ⟨c0Hq, c1Hq, c2Hq, c3Hq, -, -, -, -⟩ := Hq.out.four
  go_wp2_with fail
  refine (((FA.out.next k5).rmay (by omega))).mono ?_
  rintro e w6 ⟨rfl, hb6⟩
  clear c0H0 c1H0 c2H0 c3H0 c0H1 c1H1 c2H1 c3H1 c0Hi c1Hi c2Hi c3Hi c0Hq c1Hq c2Hq c3Hq
  have k6 := bst k5 hb6 (Nat.le_refl _)
  replace H0 := Lib.hid (H0.out.below hb6 H0.out.lt)
  replace H1 := Lib.hid (H1.out.below hb6 H1.out.lt)
  replace Hi := Lib.hid (Hi.out.below hb6 Hi.out.lt)
  replace Hq := Lib.hid (Hq.out.below hb6 Hq.out.lt)
  replace NI := Lib.hid (NI.out.next hb6)
  replace NQ := Lib.hid (NQ.out.next hb6)
  clear k5
  clear hb6
  obtain ⟨c0H0, c1H0, c2H0, c3H0, -, -, -, -⟩ := H0.out.four
  obtain ⟨c0H1, c1H1, c2H1, c3H1, -, -, -, -⟩ := H1.out.four
  obtain ⟨c0Hi, c1Hi, c2Hi, c3Hi, -, -, -, -⟩ := Hi.out.four
  obtain ⟨c0Hq, c1Hq, c2Hq, c3Hq, -, -, -, -⟩ := Hq.out.four
  go_wp2_with fail
  refine (NI.out.nsame).mono ?_
  rintro e w7 ⟨rfl, hb7⟩
  clear c0H0 c1H0 c2H0 c3H0 c0H1 c1H1 c2H1 c3H1 c0Hi c1Hi c2Hi c3Hi c0Hq c1Hq c2Hq c3Hq
  have k7 := bst k6 hb7 (Nat.le_refl _)
  replace H0 := Lib.hid (H0.out.below hb7 H0.out.lt)
  replace H1 := Lib.hid (H1.out.below hb7 H1.out.lt)
  replace Hi := Lib.hid (Hi.out.below hb7 Hi.out.lt)
  replace Hq := Lib.hid (Hq.out.below hb7 Hq.out.lt)
  replace NI := Lib.hid (NI.out.next hb7)
  replace NQ := Lib.hid (NQ.out.next hb7)
  clear k6
  clear hb7
  obtain ⟨c0H0, c1H0, c2H0, c3H0, -, -, -, -⟩ := H0.out.four
  obtain ⟨c0H1, c1H1, c2H1, c3H1, -, -, -, -⟩ := H1.out.four
  obtain ⟨c0Hi, c1Hi, c2Hi, c3Hi, -, -, -, -⟩ := Hi.out.four
  obtain ⟨c0Hq, c1Hq, c2Hq, c3Hq, -, -, -, -⟩ := Hq.out.four
  go_wp2_with fail
  refine (((FA.out.next k7).rmay (by omega))).mono ?_
  rintro e w8 ⟨rfl, hb8⟩
  clear c0H0 c1H0 c2H0 c3H0 c0H1 c1H1 c2H1 c3H1 c0Hi c1Hi c2Hi c3Hi c0Hq c1Hq c2Hq c3Hq
  have k8 := bst k7 hb8 (Nat.le_refl _)
  replace H0 := Lib.hid (H0.out.below hb8 H0.out.lt)
  replace H1 := Lib.hid (H1.out.below hb8 H1.out.lt)
  replace Hi := Lib.hid (Hi.out.below hb8 Hi.out.lt)
  replace Hq := Lib.hid (Hq.out.below hb8 Hq.out.lt)
  replace NI := Lib.hid (NI.out.next hb8)
  replace NQ := Lib.hid (NQ.out.next hb8)
  clear k7
  clear hb8
  obtain ⟨c0H0, c1H0, c2H0, c3H0, -, -, -, -⟩ := H0.out.four
  obtain ⟨c0H1, c1H1, c2H1, c3H1, -, -, -, -⟩ := H1.out.four
  obtain ⟨c0Hi, c1Hi, c2Hi, c3Hi, -, -, -, -⟩ := Hi.out.four
  obtain ⟨c0Hq, c1Hq, c2Hq, c3Hq, -, -, -, -⟩ := Hq.out.four
  go_wp2_with fail
  refine (NQ.out.nsame).mono ?_
  rintro e w9 ⟨rfl, hb9⟩
  clear c0H0 c1H0 c2H0 c3H0 c0H1 c1H1 c2H1 c3H1 c0Hi c1Hi c2Hi c3Hi c0Hq c1Hq c2Hq c3Hq
  have k9 := bst k8 hb9 (Nat.le_refl _)
  replace H0 := Lib.hid (H0.out.below hb9 H0.out.lt)
  replace H1 := Lib.hid (H1.out.below hb9 H1.out.lt)
  replace Hi := Lib.hid (Hi.out.below hb9 Hi.out.lt)
  replace Hq := Lib.hid (Hq.out.below hb9 Hq.out.lt)
  replace NI := Lib.hid (NI.out.next hb9)
  replace NQ := Lib.hid (NQ.out.next hb9)
  clear k8
  clear hb9
  obtain ⟨c0H0, c1H0, c2H0, c3H0, -, -, -, -⟩ := H0.out.four
  obtain ⟨c0H1, c1H1, c2H1, c3H1, -, -, -, -⟩ := H1.out.four
  obtain ⟨c0Hi, c1Hi, c2Hi, c3Hi, -, -, -, -⟩ := Hi.out.four
  obtain ⟨c0Hq, c1Hq, c2Hq, c3Hq, -, -, -, -⟩ := Hq.out.four
  go_wp2_with fail
  refine (lives05 (TT.out.next k9)).mono ?_
  rintro e w10 ⟨rfl, hb10⟩
  clear c0H0 c1H0 c2H0 c3H0 c0H1 c1H1 c2H1 c3H1 c0Hi c1Hi c2Hi c3Hi c0Hq c1Hq c2Hq c3Hq
  have k10 := bst k9 hb10 (Nat.le_refl _)
  replace H0 := Lib.hid (H0.out.below hb10 H0.out.lt)
  replace H1 := Lib.hid (H1.out.below hb10 H1.out.lt)
  replace Hi := Lib.hid (Hi.out.below hb10 Hi.out.lt)
  replace Hq := Lib.hid (Hq.out.below hb10 Hq.out.lt)
  replace NI := Lib.hid (NI.out.next hb10)
  replace NQ := Lib.hid (NQ.out.next hb10)
  clear k9
  clear hb10
  obtain ⟨c0H0, c1H0, c2H0, c3H0, -, -, -, -⟩ := H0.out.four
  obtain ⟨c0H1, c1H1, c2H1, c3H1, -, -, -, -⟩ := H1.out.four
  obtain ⟨c0Hi, c1Hi, c2Hi, c3Hi, -, -, -, -⟩ := Hi.out.four
  obtain ⟨c0Hq, c1Hq, c2Hq, c3Hq, -, -, -, -⟩ := Hq.out.four
  go_wp2_with fail
  go_ret
  exact ⟨rfl, k10⟩
set_option maxHeartbeats 12800000 in
set_option maxRecDepth 20000 in
theorem quot_zero_bad (N : Nat) (hN : N ≤ 1048576) (hN1 : 1 ≤ N) (hT : Tb w) (h : QV B w a0 a1 a2 a3 0 N) (h' : FV B2 w b0 b1 b2 b3 x 0 N) : Calls Tryz.prog 5 #[.agg #[a0, a1, a2, a3], .agg #[b0, b1, b2, b3]] w fun e w' => e = .returned (.bool true) ∧ Below w.heap.size w w' := by
  have QA := Lib.hid h
  obtain ⟨z, y, h9, hy, -⟩ := h
  have FA := Lib.hid h9
  have dy : decide (y ≠ 0) = true := decide_eq_true hy
  clear h9 hy
  have FC := Lib.hid h'
  clear h'
  have TT := Lib.hid hT
  clear hT
  obtain ⟨b0', b1'⟩ := blk_rr w a0 a1 a2 a3 b0 b1 b2 b3
  have k0 := bel_two w (.cells #[a0, a1, a2, a3] 27) (.cells #[b0, b1, b2, b3] 27)
  go_enter Tryz.func5, Tryz.ntmps5
  go_upto_region 1 with fail
  obtain ⟨w0, hw0⟩ : ∃ v, v = (w.alloc (.cells #[a0, a1, a2, a3] 27)).alloc (.cells #[b0, b1, b2, b3] 27) := ⟨_, rfl⟩
  rw [← hw0] at k0 b0' b1' ⊢
  clear hw0
  have H0 := Lib.hid b0'
  have H1 := Lib.hid b1'
  clear b0' b1'
  obtain ⟨c0H0, c1H0, c2H0, c3H0, -, -, -, -⟩ := H0.out.four
  obtain ⟨c0H1, c1H1, c2H1, c3H1, -, -, -, -⟩ := H1.out.four
  go_wp2_with fail
  refine ((QA.out.next k0).inv0 hN1 (by omega)).mono ?_
  rintro e w1 ⟨s0, s1, s2, s3, s4, s5, s6, s7, rfl, nn, hb1⟩
  clear c0H0 c1H0 c2H0 c3H0 c0H1 c1H1 c2H1 c3H1
  have k1 := bst k0 hb1 (Nat.le_refl _)
  replace H0 := Lib.hid (H0.out.below hb1 H0.out.lt)
  replace H1 := Lib.hid (H1.out.below hb1 H1.out.lt)
  clear k0
  clear hb1
  have NI := Lib.hid nn
  clear nn
  go_upto_region 2 with fail
  obtain ⟨v2, hv⟩ : ∃ v, v = w1.alloc (.cells #[.bool s0, .slice s1 s2 s3, .bool s4, .slice s5 s6 s7] 27) := ⟨_, rfl⟩
  rw [← hv]
  have bn : Blk v2 w1.heap.size 27 [.bool s0, .slice s1 s2 s3, .bool s4, .slice s5 s6 s7] := by rw [hv]; exact Blk.new_ rfl
  have jn : Below w1.heap.size w1 v2 := by rw [hv]; exact bel_one _ _
  obtain ⟨gi, hg⟩ : ∃ g, g = w1.heap.size := ⟨_, rfl⟩
  rw [← hg] at bn ⊢
  clear hg hv
  have Hi := Lib.hid bn
  clear bn
  have k2 := bst k1 jn (Nat.le_refl _)
  replace H0 := Lib.hid (H0.out.below jn H0.out.lt)
  replace H1 := Lib.hid (H1.out.below jn H1.out.lt)
  replace NI := Lib.hid (NI.out.next jn)
  clear k1
  clear jn
  obtain ⟨c0H0, c1H0, c2H0, c3H0, -, -, -, -⟩ := H0.out.four
  obtain ⟨c0H1, c1H1, c2H1, c3H1, -, -, -, -⟩ := H1.out.four
  obtain ⟨c0Hi, c1Hi, c2Hi, c3Hi, -, -, -, -⟩ := Hi.out.four
  go_wp2_with fail
  refine ((FA.out.next k2).quo_bad (FC.out.next k2) (by omega) (Or.inr rfl)).mono ?_
  rintro e w3 ⟨t0, t1, t2, t3, t4, t5, t6, t7, rfl, nn, hb3⟩
  clear c0H0 c1H0 c2H0 c3H0 c0H1 c1H1 c2H1 c3H1 c0Hi c1Hi c2Hi c3Hi
  have k3 := bst k2 hb3 (Nat.le_refl _)
  replace H0 := Lib.hid (H0.out.below hb3 H0.out.lt)
  replace H1 := Lib.hid (H1.out.below hb3 H1.out.lt)
  replace Hi := Lib.hid (Hi.out.below hb3 Hi.out.lt)
  replace NI := Lib.hid (NI.out.next hb3)
  clear k2
  clear hb3
  have NQ := Lib.hid nn
  clear nn
  go_upto_region 3 with fail
  obtain ⟨v4, hv⟩ : ∃ v, v = w3.alloc (.cells #[.bool t0, .slice t1 t2 t3, .bool t4, .slice t5 t6 t7] 27) := ⟨_, rfl⟩
  rw [← hv]
  have bn : Blk v4 w3.heap.size 27 [.bool t0, .slice t1 t2 t3, .bool t4, .slice t5 t6 t7] := by rw [hv]; exact Blk.new_ rfl
  have jn : Below w3.heap.size w3 v4 := by rw [hv]; exact bel_one _ _
  obtain ⟨gq, hg⟩ : ∃ g, g = w3.heap.size := ⟨_, rfl⟩
  rw [← hg] at bn ⊢
  clear hg hv
  have Hq := Lib.hid bn
  clear bn
  have k4 := bst k3 jn (Nat.le_refl _)
  replace H0 := Lib.hid (H0.out.below jn H0.out.lt)
  replace H1 := Lib.hid (H1.out.below jn H1.out.lt)
  replace Hi := Lib.hid (Hi.out.below jn Hi.out.lt)
  replace NI := Lib.hid (NI.out.next jn)
  replace NQ := Lib.hid (NQ.out.next jn)
  clear k3
  clear jn
  obtain ⟨c0H0, c1H0, c2H0, c3H0, -, -, -, -⟩ := H0.out.four
  obtain ⟨c0H1, c1H1, c2H1, c3H1, -, -, -, -⟩ := H1.out.four
  obtain ⟨c0Hi, c1Hi, c2Hi, c3Hi, -, -, -, -⟩ := Hi.out.four
  obtain ⟨c0Hq, c1Hq, c2Hq, c3Hq, -, -, -, -⟩ := Hq.out.four
  go_wp2_with fail
  refine ((may_yes (FA.out.next k4) dy (by omega))).mono ?_
  rintro e w5 ⟨rfl, hb5⟩
  clear c0H0 c1H0 c2H0 c3H0 c0H1 c1H1 c2H1 c3H1 c0Hi c1Hi c2Hi c3Hi c0Hq c1Hq c2Hq c3Hq
  have k5 := bst k4 hb5 (Nat.le_refl _)
  replace H0 := Lib.hid (H0.out.below hb5 H0.out.lt)
  replace H1 := Lib.hid (H1.out.below hb5 H1.out.lt)
  replace Hi := Lib.hid (Hi.out.below hb5 Hi.out.lt)
  replace Hq := Lib.hid (Hq.out.below hb5 Hq.out.lt)
  replace NI := Lib.hid (NI.out.next hb5)
  replace NQ := Lib.hid (NQ.out.next hb5)
  clear k4
  clear hb5
  obtain ⟨c0H0, c1H0, c2H0, c3H0, -, -, -, -⟩ := H0.out.four
  obtain ⟨c0H1, c1H1, c2H1, c3H1, -, -, -, -⟩ := H1.out.four
  obtain ⟨c0Hi, c1Hi, c2Hi, c3Hi, -, -, -, -⟩ := Hi.out.four
  obtain ⟨c0Hq, c1Hq, c2Hq, c3Hq, -, -, -, -⟩ := Hq.out.four
  go_wp2_with fail
  refine ((QA.out.next k5).rqsign (by omega)).mono ?_
  rintro e w6 ⟨rfl, hb6⟩
  clear c0H0 c1H0 c2H0 c3H0 c0H1 c1H1 c2H1 c3H1 c0Hi c1Hi c2Hi c3Hi c0Hq c1Hq c2Hq c3Hq
  have k6 := bst k5 hb6 (Nat.le_refl _)
  replace H0 := Lib.hid (H0.out.below hb6 H0.out.lt)
  replace H1 := Lib.hid (H1.out.below hb6 H1.out.lt)
  replace Hi := Lib.hid (Hi.out.below hb6 Hi.out.lt)
  replace Hq := Lib.hid (Hq.out.below hb6 Hq.out.lt)
  replace NI := Lib.hid (NI.out.next hb6)
  replace NQ := Lib.hid (NQ.out.next hb6)
  clear k5
  clear hb6
  obtain ⟨c0H0, c1H0, c2H0, c3H0, -, -, -, -⟩ := H0.out.four
  obtain ⟨c0H1, c1H1, c2H1, c3H1, -, -, -, -⟩ := H1.out.four
  obtain ⟨c0Hi, c1Hi, c2Hi, c3Hi, -, -, -, -⟩ := Hi.out.four
  obtain ⟨c0Hq, c1Hq, c2Hq, c3Hq, -, -, -, -⟩ := Hq.out.four
  go_wp2_with fail
  refine (NI.out.nsame).mono ?_
  rintro e w7 ⟨rfl, hb7⟩
  clear c0H0 c1H0 c2H0 c3H0 c0H1 c1H1 c2H1 c3H1 c0Hi c1Hi c2Hi c3Hi c0Hq c1Hq c2Hq c3Hq
  have k7 := bst k6 hb7 (Nat.le_refl _)
  replace H0 := Lib.hid (H0.out.below hb7 H0.out.lt)
  replace H1 := Lib.hid (H1.out.below hb7 H1.out.lt)
  replace Hi := Lib.hid (Hi.out.below hb7 Hi.out.lt)
  replace Hq := Lib.hid (Hq.out.below hb7 Hq.out.lt)
  replace NI := Lib.hid (NI.out.next hb7)
  replace NQ := Lib.hid (NQ.out.next hb7)
  clear k6
  clear hb7
  obtain ⟨c0H0, c1H0, c2H0, c3H0, -, -, -, -⟩ := H0.out.four
  obtain ⟨c0H1, c1H1, c2H1, c3H1, -, -, -, -⟩ := H1.out.four
  obtain ⟨c0Hi, c1Hi, c2Hi, c3Hi, -, -, -, -⟩ := Hi.out.four
  obtain ⟨c0Hq, c1Hq, c2Hq, c3Hq, -, -, -, -⟩ := Hq.out.four
  go_wp2_with fail
  refine ((may_yes (FA.out.next k7) dy (by omega))).mono ?_
  rintro e w8 ⟨rfl, hb8⟩
  clear c0H0 c1H0 c2H0 c3H0 c0H1 c1H1 c2H1 c3H1 c0Hi c1Hi c2Hi c3Hi c0Hq c1Hq c2Hq c3Hq
  have k8 := bst k7 hb8 (Nat.le_refl _)
  replace H0 := Lib.hid (H0.out.below hb8 H0.out.lt)
  replace H1 := Lib.hid (H1.out.below hb8 H1.out.lt)
  replace Hi := Lib.hid (Hi.out.below hb8 Hi.out.lt)
  replace Hq := Lib.hid (Hq.out.below hb8 Hq.out.lt)
  replace NI := Lib.hid (NI.out.next hb8)
  replace NQ := Lib.hid (NQ.out.next hb8)
  clear k7
  clear hb8
  obtain ⟨c0H0, c1H0, c2H0, c3H0, -, -, -, -⟩ := H0.out.four
  obtain ⟨c0H1, c1H1, c2H1, c3H1, -, -, -, -⟩ := H1.out.four
  obtain ⟨c0Hi, c1Hi, c2Hi, c3Hi, -, -, -, -⟩ := Hi.out.four
  obtain ⟨c0Hq, c1Hq, c2Hq, c3Hq, -, -, -, -⟩ := Hq.out.four
  go_wp2_with fail
  refine (((FC.out.next k8).rmay (by omega))).mono ?_
  rintro e w9 ⟨rfl, hb9⟩
  clear c0H0 c1H0 c2H0 c3H0 c0H1 c1H1 c2H1 c3H1 c0Hi c1Hi c2Hi c3Hi c0Hq c1Hq c2Hq c3Hq
  have k9 := bst k8 hb9 (Nat.le_refl _)
  replace H0 := Lib.hid (H0.out.below hb9 H0.out.lt)
  replace H1 := Lib.hid (H1.out.below hb9 H1.out.lt)
  replace Hi := Lib.hid (Hi.out.below hb9 Hi.out.lt)
  replace Hq := Lib.hid (Hq.out.below hb9 Hq.out.lt)
  replace NI := Lib.hid (NI.out.next hb9)
  replace NQ := Lib.hid (NQ.out.next hb9)
  clear k8
  clear hb9
  obtain ⟨c0H0, c1H0, c2H0, c3H0, -, -, -, -⟩ := H0.out.four
  obtain ⟨c0H1, c1H1, c2H1, c3H1, -, -, -, -⟩ := H1.out.four
  obtain ⟨c0Hi, c1Hi, c2Hi, c3Hi, -, -, -, -⟩ := Hi.out.four
  obtain ⟨c0Hq, c1Hq, c2Hq, c3Hq, -, -, -, -⟩ := Hq.out.four
  go_wp2_with fail
  refine (NQ.out.nsame).mono ?_
  rintro e w10 ⟨rfl, hb10⟩
  clear c0H0 c1H0 c2H0 c3H0 c0H1 c1H1 c2H1 c3H1 c0Hi c1Hi c2Hi c3Hi c0Hq c1Hq c2Hq c3Hq
  have k10 := bst k9 hb10 (Nat.le_refl _)
  replace H0 := Lib.hid (H0.out.below hb10 H0.out.lt)
  replace H1 := Lib.hid (H1.out.below hb10 H1.out.lt)
  replace Hi := Lib.hid (Hi.out.below hb10 Hi.out.lt)
  replace Hq := Lib.hid (Hq.out.below hb10 Hq.out.lt)
  replace NI := Lib.hid (NI.out.next hb10)
  replace NQ := Lib.hid (NQ.out.next hb10)
  clear k9
  clear hb10
  obtain ⟨c0H0, c1H0, c2H0, c3H0, -, -, -, -⟩ := H0.out.four
  obtain ⟨c0H1, c1H1, c2H1, c3H1, -, -, -, -⟩ := H1.out.four
  obtain ⟨c0Hi, c1Hi, c2Hi, c3Hi, -, -, -, -⟩ := Hi.out.four
  obtain ⟨c0Hq, c1Hq, c2Hq, c3Hq, -, -, -, -⟩ := Hq.out.four
  go_wp2_with fail
  refine (lives05 (TT.out.next k10)).mono ?_
  rintro e w11 ⟨rfl, hb11⟩
  clear c0H0 c1H0 c2H0 c3H0 c0H1 c1H1 c2H1 c3H1 c0Hi c1Hi c2Hi c3Hi c0Hq c1Hq c2Hq c3Hq
  have k11 := bst k10 hb11 (Nat.le_refl _)
  replace H0 := Lib.hid (H0.out.below hb11 H0.out.lt)
  replace H1 := Lib.hid (H1.out.below hb11 H1.out.lt)
  replace Hi := Lib.hid (Hi.out.below hb11 Hi.out.lt)
  replace Hq := Lib.hid (Hq.out.below hb11 Hq.out.lt)
  replace NI := Lib.hid (NI.out.next hb11)
  replace NQ := Lib.hid (NQ.out.next hb11)
  clear k10
  clear hb11
  obtain ⟨c0H0, c1H0, c2H0, c3H0, -, -, -, -⟩ := H0.out.four
  obtain ⟨c0H1, c1H1, c2H1, c3H1, -, -, -, -⟩ := H1.out.four
  obtain ⟨c0Hi, c1Hi, c2Hi, c3Hi, -, -, -, -⟩ := Hi.out.four
  obtain ⟨c0Hq, c1Hq, c2Hq, c3Hq, -, -, -, -⟩ := Hq.out.four
  go_wp2_with fail
  go_ret
  exact ⟨rfl, k11⟩
set_option maxHeartbeats 12800000 in
set_option maxRecDepth 20000 in
theorem quot_zero_zero (N : Nat) (hN : N ≤ 1048576) (hN1 : 1 ≤ N) (hT : Tb w) (h : QV B w a0 a1 a2 a3 0 N) (h' : QV B2 w b0 b1 b2 b3 0 N) : Calls Tryz.prog 5 #[.agg #[a0, a1, a2, a3], .agg #[b0, b1, b2, b3]] w fun e w' => e = .returned (.bool true) ∧ Below w.heap.size w w' := by
  have QA := Lib.hid h
  obtain ⟨z, y, h9, hy, -⟩ := h
  have FA := Lib.hid h9
  have dy : decide (y ≠ 0) = true := decide_eq_true hy
  clear h9 hy
  have QC := Lib.hid h'
  obtain ⟨x, v, h9, hv, -⟩ := h'
  have FC := Lib.hid h9
  have dv : decide (v ≠ 0) = true := decide_eq_true hv
  clear h9 hv
  have TT := Lib.hid hT
  clear hT
  obtain ⟨b0', b1'⟩ := blk_rr w a0 a1 a2 a3 b0 b1 b2 b3
  have k0 := bel_two w (.cells #[a0, a1, a2, a3] 27) (.cells #[b0, b1, b2, b3] 27)
  go_enter Tryz.func5, Tryz.ntmps5
  go_upto_region 1 with fail
  obtain ⟨w0, hw0⟩ : ∃ v, v = (w.alloc (.cells #[a0, a1, a2, a3] 27)).alloc (.cells #[b0, b1, b2, b3] 27) := ⟨_, rfl⟩
  rw [← hw0] at k0 b0' b1' ⊢
  clear hw0
  have H0 := Lib.hid b0'
  have H1 := Lib.hid b1'
  clear b0' b1'
  obtain ⟨c0H0, c1H0, c2H0, c3H0, -, -, -, -⟩ := H0.out.four
  obtain ⟨c0H1, c1H1, c2H1, c3H1, -, -, -, -⟩ := H1.out.four
  go_wp2_with fail
  refine ((QA.out.next k0).inv0 hN1 (by omega)).mono ?_
  rintro e w1 ⟨s0, s1, s2, s3, s4, s5, s6, s7, rfl, nn, hb1⟩
  clear c0H0 c1H0 c2H0 c3H0 c0H1 c1H1 c2H1 c3H1
  have k1 := bst k0 hb1 (Nat.le_refl _)
  replace H0 := Lib.hid (H0.out.below hb1 H0.out.lt)
  replace H1 := Lib.hid (H1.out.below hb1 H1.out.lt)
  clear k0
  clear hb1
  have NI := Lib.hid nn
  clear nn
  go_upto_region 2 with fail
  obtain ⟨v2, hv⟩ : ∃ v, v = w1.alloc (.cells #[.bool s0, .slice s1 s2 s3, .bool s4, .slice s5 s6 s7] 27) := ⟨_, rfl⟩
  rw [← hv]
  have bn : Blk v2 w1.heap.size 27 [.bool s0, .slice s1 s2 s3, .bool s4, .slice s5 s6 s7] := by rw [hv]; exact Blk.new_ rfl
  have jn : Below w1.heap.size w1 v2 := by rw [hv]; exact bel_one _ _
  obtain ⟨gi, hg⟩ : ∃ g, g = w1.heap.size := ⟨_, rfl⟩
  rw [← hg] at bn ⊢
  clear hg hv
  have Hi := Lib.hid bn
  clear bn
  have k2 := bst k1 jn (Nat.le_refl _)
  replace H0 := Lib.hid (H0.out.below jn H0.out.lt)
  replace H1 := Lib.hid (H1.out.below jn H1.out.lt)
  replace NI := Lib.hid (NI.out.next jn)
  clear k1
  clear jn
  obtain ⟨c0H0, c1H0, c2H0, c3H0, -, -, -, -⟩ := H0.out.four
  obtain ⟨c0H1, c1H1, c2H1, c3H1, -, -, -, -⟩ := H1.out.four
  obtain ⟨c0Hi, c1Hi, c2Hi, c3Hi, -, -, -, -⟩ := Hi.out.four
  go_wp2_with fail
  refine ((QA.out.next k2).quo0 (QC.out.next k2) (by omega)).mono ?_
  rintro e w3 ⟨t0, t1, t2, t3, t4, t5, t6, t7, rfl, nn, hb3⟩
  clear c0H0 c1H0 c2H0 c3H0 c0H1 c1H1 c2H1 c3H1 c0Hi c1Hi c2Hi c3Hi
  have k3 := bst k2 hb3 (Nat.le_refl _)
  replace H0 := Lib.hid (H0.out.below hb3 H0.out.lt)
  replace H1 := Lib.hid (H1.out.below hb3 H1.out.lt)
  replace Hi := Lib.hid (Hi.out.below hb3 Hi.out.lt)
  replace NI := Lib.hid (NI.out.next hb3)
  clear k2
  clear hb3
  have NQ := Lib.hid nn
  clear nn
  go_upto_region 3 with fail
  obtain ⟨v4, hv⟩ : ∃ v, v = w3.alloc (.cells #[.bool t0, .slice t1 t2 t3, .bool t4, .slice t5 t6 t7] 27) := ⟨_, rfl⟩
  rw [← hv]
  have bn : Blk v4 w3.heap.size 27 [.bool t0, .slice t1 t2 t3, .bool t4, .slice t5 t6 t7] := by rw [hv]; exact Blk.new_ rfl
  have jn : Below w3.heap.size w3 v4 := by rw [hv]; exact bel_one _ _
  obtain ⟨gq, hg⟩ : ∃ g, g = w3.heap.size := ⟨_, rfl⟩
  rw [← hg] at bn ⊢
  clear hg hv
  have Hq := Lib.hid bn
  clear bn
  have k4 := bst k3 jn (Nat.le_refl _)
  replace H0 := Lib.hid (H0.out.below jn H0.out.lt)
  replace H1 := Lib.hid (H1.out.below jn H1.out.lt)
  replace Hi := Lib.hid (Hi.out.below jn Hi.out.lt)
  replace NI := Lib.hid (NI.out.next jn)
  replace NQ := Lib.hid (NQ.out.next jn)
  clear k3
  clear jn
  obtain ⟨c0H0, c1H0, c2H0, c3H0, -, -, -, -⟩ := H0.out.four
  obtain ⟨c0H1, c1H1, c2H1, c3H1, -, -, -, -⟩ := H1.out.four
  obtain ⟨c0Hi, c1Hi, c2Hi, c3Hi, -, -, -, -⟩ := Hi.out.four
  obtain ⟨c0Hq, c1Hq, c2Hq, c3Hq, -, -, -, -⟩ := Hq.out.four
  go_wp2_with fail
  refine ((may_yes (FA.out.next k4) dy (by omega))).mono ?_
  rintro e w5 ⟨rfl, hb5⟩
  clear c0H0 c1H0 c2H0 c3H0 c0H1 c1H1 c2H1 c3H1 c0Hi c1Hi c2Hi c3Hi c0Hq c1Hq c2Hq c3Hq
  have k5 := bst k4 hb5 (Nat.le_refl _)
  replace H0 := Lib.hid (H0.out.below hb5 H0.out.lt)
  replace H1 := Lib.hid (H1.out.below hb5 H1.out.lt)
  replace Hi := Lib.hid (Hi.out.below hb5 Hi.out.lt)
  replace Hq := Lib.hid (Hq.out.below hb5 Hq.out.lt)
  replace NI := Lib.hid (NI.out.next hb5)
  replace NQ := Lib.hid (NQ.out.next hb5)
  clear k4
  clear hb5
  obtain ⟨c0H0, c1H0, c2H0, c3H0, -, -, -, -⟩ := H0.out.four
  obtain ⟨c0H1, c1H1, c2H1, c3H1, -, -, -, -⟩ := H1.out.four
  obtain ⟨c0Hi, c1Hi, c2Hi, c3Hi, -, -, -, -⟩ := Hi.out.four
  obtain ⟨c0Hq, c1Hq, c2Hq, c3Hq, -, -, -, -⟩ := Hq.out.four
  go_wp2_with fail
  refine ((QA.out.next k5).rqsign (by omega)).mono ?_
  rintro e w6 ⟨rfl, hb6⟩
  clear c0H0 c1H0 c2H0 c3H0 c0H1 c1H1 c2H1 c3H1 c0Hi c1Hi c2Hi c3Hi c0Hq c1Hq c2Hq c3Hq
  have k6 := bst k5 hb6 (Nat.le_refl _)
  replace H0 := Lib.hid (H0.out.below hb6 H0.out.lt)
  replace H1 := Lib.hid (H1.out.below hb6 H1.out.lt)
  replace Hi := Lib.hid (Hi.out.below hb6 Hi.out.lt)
  replace Hq := Lib.hid (Hq.out.below hb6 Hq.out.lt)
  replace NI := Lib.hid (NI.out.next hb6)
  replace NQ := Lib.hid (NQ.out.next hb6)
  clear k5
  clear hb6
  obtain ⟨c0H0, c1H0, c2H0, c3H0, -, -, -, -⟩ := H0.out.four
  obtain ⟨c0H1, c1H1, c2H1, c3H1, -, -, -, -⟩ := H1.out.four
  obtain ⟨c0Hi, c1Hi, c2Hi, c3Hi, -, -, -, -⟩ := Hi.out.four
  obtain ⟨c0Hq, c1Hq, c2Hq, c3Hq, -, -, -, -⟩ := Hq.out.four
  go_wp2_with fail
  refine (NI.out.nsame).mono ?_
  rintro e w7 ⟨rfl, hb7⟩
  clear c0H0 c1H0 c2H0 c3H0 c0H1 c1H1 c2H1 c3H1 c0Hi c1Hi c2Hi c3Hi c0Hq c1Hq c2Hq c3Hq
  have k7 := bst k6 hb7 (Nat.le_refl _)
  replace H0 := Lib.hid (H0.out.below hb7 H0.out.lt)
  replace H1 := Lib.hid (H1.out.below hb7 H1.out.lt)
  replace Hi := Lib.hid (Hi.out.below hb7 Hi.out.lt)
  replace Hq := Lib.hid (Hq.out.below hb7 Hq.out.lt)
  replace NI := Lib.hid (NI.out.next hb7)
  replace NQ := Lib.hid (NQ.out.next hb7)
  clear k6
  clear hb7
  obtain ⟨c0H0, c1H0, c2H0, c3H0, -, -, -, -⟩ := H0.out.four
  obtain ⟨c0H1, c1H1, c2H1, c3H1, -, -, -, -⟩ := H1.out.four
  obtain ⟨c0Hi, c1Hi, c2Hi, c3Hi, -, -, -, -⟩ := Hi.out.four
  obtain ⟨c0Hq, c1Hq, c2Hq, c3Hq, -, -, -, -⟩ := Hq.out.four
  go_wp2_with fail
  refine ((may_yes (FA.out.next k7) dy (by omega))).mono ?_
  rintro e w8 ⟨rfl, hb8⟩
  clear c0H0 c1H0 c2H0 c3H0 c0H1 c1H1 c2H1 c3H1 c0Hi c1Hi c2Hi c3Hi c0Hq c1Hq c2Hq c3Hq
  have k8 := bst k7 hb8 (Nat.le_refl _)
  replace H0 := Lib.hid (H0.out.below hb8 H0.out.lt)
  replace H1 := Lib.hid (H1.out.below hb8 H1.out.lt)
  replace Hi := Lib.hid (Hi.out.below hb8 Hi.out.lt)
  replace Hq := Lib.hid (Hq.out.below hb8 Hq.out.lt)
  replace NI := Lib.hid (NI.out.next hb8)
  replace NQ := Lib.hid (NQ.out.next hb8)
  clear k7
  clear hb8
  obtain ⟨c0H0, c1H0, c2H0, c3H0, -, -, -, -⟩ := H0.out.four
  obtain ⟨c0H1, c1H1, c2H1, c3H1, -, -, -, -⟩ := H1.out.four
  obtain ⟨c0Hi, c1Hi, c2Hi, c3Hi, -, -, -, -⟩ := Hi.out.four
  obtain ⟨c0Hq, c1Hq, c2Hq, c3Hq, -, -, -, -⟩ := Hq.out.four
  go_wp2_with fail
  refine ((may_yes (FC.out.next k8) dv (by omega))).mono ?_
  rintro e w9 ⟨rfl, hb9⟩
  clear c0H0 c1H0 c2H0 c3H0 c0H1 c1H1 c2H1 c3H1 c0Hi c1Hi c2Hi c3Hi c0Hq c1Hq c2Hq c3Hq
  have k9 := bst k8 hb9 (Nat.le_refl _)
  replace H0 := Lib.hid (H0.out.below hb9 H0.out.lt)
  replace H1 := Lib.hid (H1.out.below hb9 H1.out.lt)
  replace Hi := Lib.hid (Hi.out.below hb9 Hi.out.lt)
  replace Hq := Lib.hid (Hq.out.below hb9 Hq.out.lt)
  replace NI := Lib.hid (NI.out.next hb9)
  replace NQ := Lib.hid (NQ.out.next hb9)
  clear k8
  clear hb9
  obtain ⟨c0H0, c1H0, c2H0, c3H0, -, -, -, -⟩ := H0.out.four
  obtain ⟨c0H1, c1H1, c2H1, c3H1, -, -, -, -⟩ := H1.out.four
  obtain ⟨c0Hi, c1Hi, c2Hi, c3Hi, -, -, -, -⟩ := Hi.out.four
  obtain ⟨c0Hq, c1Hq, c2Hq, c3Hq, -, -, -, -⟩ := Hq.out.four
  go_wp2_with fail
  refine ((QC.out.next k9).rqsign (by omega)).mono ?_
  rintro e w10 ⟨rfl, hb10⟩
  clear c0H0 c1H0 c2H0 c3H0 c0H1 c1H1 c2H1 c3H1 c0Hi c1Hi c2Hi c3Hi c0Hq c1Hq c2Hq c3Hq
  have k10 := bst k9 hb10 (Nat.le_refl _)
  replace H0 := Lib.hid (H0.out.below hb10 H0.out.lt)
  replace H1 := Lib.hid (H1.out.below hb10 H1.out.lt)
  replace Hi := Lib.hid (Hi.out.below hb10 Hi.out.lt)
  replace Hq := Lib.hid (Hq.out.below hb10 Hq.out.lt)
  replace NI := Lib.hid (NI.out.next hb10)
  replace NQ := Lib.hid (NQ.out.next hb10)
  clear k9
  clear hb10
  obtain ⟨c0H0, c1H0, c2H0, c3H0, -, -, -, -⟩ := H0.out.four
  obtain ⟨c0H1, c1H1, c2H1, c3H1, -, -, -, -⟩ := H1.out.four
  obtain ⟨c0Hi, c1Hi, c2Hi, c3Hi, -, -, -, -⟩ := Hi.out.four
  obtain ⟨c0Hq, c1Hq, c2Hq, c3Hq, -, -, -, -⟩ := Hq.out.four
  go_wp2_with fail
  refine (NQ.out.nsame).mono ?_
  rintro e w11 ⟨rfl, hb11⟩
  clear c0H0 c1H0 c2H0 c3H0 c0H1 c1H1 c2H1 c3H1 c0Hi c1Hi c2Hi c3Hi c0Hq c1Hq c2Hq c3Hq
  have k11 := bst k10 hb11 (Nat.le_refl _)
  replace H0 := Lib.hid (H0.out.below hb11 H0.out.lt)
  replace H1 := Lib.hid (H1.out.below hb11 H1.out.lt)
  replace Hi := Lib.hid (Hi.out.below hb11 Hi.out.lt)
  replace Hq := Lib.hid (Hq.out.below hb11 Hq.out.lt)
  replace NI := Lib.hid (NI.out.next hb11)
  replace NQ := Lib.hid (NQ.out.next hb11)
  clear k10
  clear hb11
  obtain ⟨c0H0, c1H0, c2H0, c3H0, -, -, -, -⟩ := H0.out.four
  obtain ⟨c0H1, c1H1, c2H1, c3H1, -, -, -, -⟩ := H1.out.four
  obtain ⟨c0Hi, c1Hi, c2Hi, c3Hi, -, -, -, -⟩ := Hi.out.four
  obtain ⟨c0Hq, c1Hq, c2Hq, c3Hq, -, -, -, -⟩ := Hq.out.four
  go_wp2_with fail
  refine (lives05 (TT.out.next k11)).mono ?_
  rintro e w12 ⟨rfl, hb12⟩
  clear c0H0 c1H0 c2H0 c3H0 c0H1 c1H1 c2H1 c3H1 c0Hi c1Hi c2Hi c3Hi c0Hq c1Hq c2Hq c3Hq
  have k12 := bst k11 hb12 (Nat.le_refl _)
  replace H0 := Lib.hid (H0.out.below hb12 H0.out.lt)
  replace H1 := Lib.hid (H1.out.below hb12 H1.out.lt)
  replace Hi := Lib.hid (Hi.out.below hb12 Hi.out.lt)
  replace Hq := Lib.hid (Hq.out.below hb12 Hq.out.lt)
  replace NI := Lib.hid (NI.out.next hb12)
  replace NQ := Lib.hid (NQ.out.next hb12)
  clear k11
  clear hb12
  obtain ⟨c0H0, c1H0, c2H0, c3H0, -, -, -, -⟩ := H0.out.four
  obtain ⟨c0H1, c1H1, c2H1, c3H1, -, -, -, -⟩ := H1.out.four
  obtain ⟨c0Hi, c1Hi, c2Hi, c3Hi, -, -, -, -⟩ := Hi.out.four
  obtain ⟨c0Hq, c1Hq, c2Hq, c3Hq, -, -, -, -⟩ := Hq.out.four
  go_wp2_with fail
  go_ret
  exact ⟨rfl, k12⟩
set_option maxHeartbeats 12800000 in
set_option maxRecDepth 20000 in
theorem quot_zero_nz (N : Nat) (hN : N ≤ 1048576) (hN1 : 1 ≤ N) (hT : Tb w) (h : QV B w a0 a1 a2 a3 0 N) (h' : QV B2 w b0 b1 b2 b3 r N) (hr : r ≠ 0) : Calls Tryz.prog 5 #[.agg #[a0, a1, a2, a3], .agg #[b0, b1, b2, b3]] w fun e w' => e = .returned (.bool true) ∧ Below w.heap.size w w' := by
  have QA := Lib.hid h
  obtain ⟨z, y, h9, hy, -⟩ := h
  have FA := Lib.hid h9
  have dy : decide (y ≠ 0) = true := decide_eq_true hy
  clear h9 hy
  have QC := Lib.hid h'
  obtain ⟨x, v, h9, hv, -⟩ := h'
  have FC := Lib.hid h9
  have dv : decide (v ≠ 0) = true := decide_eq_true hv
  clear h9 hv
  have sr := num_sign_ne hr
  obtain ⟨sh, hsh⟩ : ∃ s, s = r.num.sign := ⟨_, rfl⟩
  rw [← hsh] at sr
  have HR := Lib.hid hr
  have SGR := Lib.hid hsh
  clear hr hsh
  have TT := Lib.hid hT
  clear hT
  obtain ⟨b0', b1'⟩ := blk_rr w a0 a1 a2 a3 b0 b1 b2 b3
  have k0 := bel_two w (.cells #[a0, a1, a2, a3] 27) (.cells #[b0, b1, b2, b3] 27)
  go_enter Tryz.func5, Tryz.ntmps5
  go_upto_region 1 with fail
  obtain ⟨w0, hw0⟩ : ∃ v, v = (w.alloc (.cells #[a0, a1, a2, a3] 27)).alloc (.cells #[b0, b1, b2, b3] 27) := ⟨_, rfl⟩
  rw [← hw0] at k0 b0' b1' ⊢
  clear hw0
  have H0 := Lib.hid b0'
  have H1 := Lib.hid b1'
  clear b0' b1'
  obtain ⟨c0H0, c1H0, c2H0, c3H0, -, -, -, -⟩ := H0.out.four
  obtain ⟨c0H1, c1H1, c2H1, c3H1, -, -, -, -⟩ := H1.out.four
  go_wp2_with fail
  refine ((QA.out.next k0).inv0 hN1 (by omega)).mono ?_
  rintro e w1 ⟨s0, s1, s2, s3, s4, s5, s6, s7, rfl, nn, hb1⟩
  clear c0H0 c1H0 c2H0 c3H0 c0H1 c1H1 c2H1 c3H1
  have k1 := bst k0 hb1 (Nat.le_refl _)
  replace H0 := Lib.hid (H0.out.below hb1 H0.out.lt)
  replace H1 := Lib.hid (H1.out.below hb1 H1.out.lt)
  clear k0
  clear hb1
  have NI := Lib.hid nn
  clear nn
  go_upto_region 2 with fail
  obtain ⟨v2, hv⟩ : ∃ v, v = w1.alloc (.cells #[.bool s0, .slice s1 s2 s3, .bool s4, .slice s5 s6 s7] 27) := ⟨_, rfl⟩
  rw [← hv]
  have bn : Blk v2 w1.heap.size 27 [.bool s0, .slice s1 s2 s3, .bool s4, .slice s5 s6 s7] := by rw [hv]; exact Blk.new_ rfl
  have jn : Below w1.heap.size w1 v2 := by rw [hv]; exact bel_one _ _
  obtain ⟨gi, hg⟩ : ∃ g, g = w1.heap.size := ⟨_, rfl⟩
  rw [← hg] at bn ⊢
  clear hg hv
  have Hi := Lib.hid bn
  clear bn
  have k2 := bst k1 jn (Nat.le_refl _)
  replace H0 := Lib.hid (H0.out.below jn H0.out.lt)
  replace H1 := Lib.hid (H1.out.below jn H1.out.lt)
  replace NI := Lib.hid (NI.out.next jn)
  clear k1
  clear jn
  obtain ⟨c0H0, c1H0, c2H0, c3H0, -, -, -, -⟩ := H0.out.four
  obtain ⟨c0H1, c1H1, c2H1, c3H1, -, -, -, -⟩ := H1.out.four
  obtain ⟨c0Hi, c1Hi, c2Hi, c3Hi, -, -, -, -⟩ := Hi.out.four
  go_wp2_with fail
  refine ((QA.out.next k2).qquo (QC.out.next k2) HR.out (by omega) (TT.out.next k2)).mono ?_
  rintro e w3 ⟨t0, t1, t2, t3, t4, t5, t6, t7, rfl, nn, hb3⟩
  clear c0H0 c1H0 c2H0 c3H0 c0H1 c1H1 c2H1 c3H1 c0Hi c1Hi c2Hi c3Hi
  have k3 := bst k2 hb3 (Nat.le_refl _)
  replace H0 := Lib.hid (H0.out.below hb3 H0.out.lt)
  replace H1 := Lib.hid (H1.out.below hb3 H1.out.lt)
  replace Hi := Lib.hid (Hi.out.below hb3 Hi.out.lt)
  replace NI := Lib.hid (NI.out.next hb3)
  clear k2
  clear hb3
  have NQ := Lib.hid nn
  clear nn
  go_upto_region 3 with fail
  obtain ⟨v4, hv⟩ : ∃ v, v = w3.alloc (.cells #[.bool t0, .slice t1 t2 t3, .bool t4, .slice t5 t6 t7] 27) := ⟨_, rfl⟩
  rw [← hv]
  have bn : Blk v4 w3.heap.size 27 [.bool t0, .slice t1 t2 t3, .bool t4, .slice t5 t6 t7] := by rw [hv]; exact Blk.new_ rfl
  have jn : Below w3.heap.size w3 v4 := by rw [hv]; exact bel_one _ _
  obtain ⟨gq, hg⟩ : ∃ g, g = w3.heap.size := ⟨_, rfl⟩
  rw [← hg] at bn ⊢
  clear hg hv
  have Hq := Lib.hid bn
  clear bn
  have k4 := bst k3 jn (Nat.le_refl _)
  replace H0 := Lib.hid (H0.out.below jn H0.out.lt)
  replace H1 := Lib.hid (H1.out.below jn H1.out.lt)
  replace Hi := Lib.hid (Hi.out.below jn Hi.out.lt)
  replace NI := Lib.hid (NI.out.next jn)
  replace NQ := Lib.hid (NQ.out.next jn)
  clear k3
  clear jn
  obtain ⟨c0H0, c1H0, c2H0, c3H0, -, -, -, -⟩ := H0.out.four
  obtain ⟨c0H1, c1H1, c2H1, c3H1, -, -, -, -⟩ := H1.out.four
  obtain ⟨c0Hi, c1Hi, c2Hi, c3Hi, -, -, -, -⟩ := Hi.out.four
  obtain ⟨c0Hq, c1Hq, c2Hq, c3Hq, -, -, -, -⟩ := Hq.out.four
  go_wp2_with fail
  refine ((may_yes (FA.out.next k4) dy (by omega))).mono ?_
  rintro e w5 ⟨rfl, hb5⟩
  clear c0H0 c1H0 c2H0 c3H0 c0H1 c1H1 c2H1 c3H1 c0Hi c1Hi c2Hi c3Hi c0Hq c1Hq c2Hq c3Hq
  have k5 := bst k4 hb5 (Nat.le_refl _)
  replace H0 := Lib.hid (H0.out.below hb5 H0.out.lt)
  replace H1 := Lib.hid (H1.out.below hb5 H1.out.lt)
  replace Hi := Lib.hid (Hi.out.below hb5 Hi.out.lt)
  replace Hq := Lib.hid (Hq.out.below hb5 Hq.out.lt)
  replace NI := Lib.hid (NI.out.next hb5)
  replace NQ := Lib.hid (NQ.out.next hb5)
  clear k4
  clear hb5
  obtain ⟨c0H0, c1H0, c2H0, c3H0, -, -, -, -⟩ := H0.out.four
  obtain ⟨c0H1, c1H1, c2H1, c3H1, -, -, -, -⟩ := H1.out.four
  obtain ⟨c0Hi, c1Hi, c2Hi, c3Hi, -, -, -, -⟩ := Hi.out.four
  obtain ⟨c0Hq, c1Hq, c2Hq, c3Hq, -, -, -, -⟩ := Hq.out.four
  go_wp2_with fail
  refine ((QA.out.next k5).rqsign (by omega)).mono ?_
  rintro e w6 ⟨rfl, hb6⟩
  clear c0H0 c1H0 c2H0 c3H0 c0H1 c1H1 c2H1 c3H1 c0Hi c1Hi c2Hi c3Hi c0Hq c1Hq c2Hq c3Hq
  have k6 := bst k5 hb6 (Nat.le_refl _)
  replace H0 := Lib.hid (H0.out.below hb6 H0.out.lt)
  replace H1 := Lib.hid (H1.out.below hb6 H1.out.lt)
  replace Hi := Lib.hid (Hi.out.below hb6 Hi.out.lt)
  replace Hq := Lib.hid (Hq.out.below hb6 Hq.out.lt)
  replace NI := Lib.hid (NI.out.next hb6)
  replace NQ := Lib.hid (NQ.out.next hb6)
  clear k5
  clear hb6
  obtain ⟨c0H0, c1H0, c2H0, c3H0, -, -, -, -⟩ := H0.out.four
  obtain ⟨c0H1, c1H1, c2H1, c3H1, -, -, -, -⟩ := H1.out.four
  obtain ⟨c0Hi, c1Hi, c2Hi, c3Hi, -, -, -, -⟩ := Hi.out.four
  obtain ⟨c0Hq, c1Hq, c2Hq, c3Hq, -, -, -, -⟩ := Hq.out.four
  go_wp2_with fail
  refine (NI.out.nsame).mono ?_
  rintro e w7 ⟨rfl, hb7⟩
  clear c0H0 c1H0 c2H0 c3H0 c0H1 c1H1 c2H1 c3H1 c0Hi c1Hi c2Hi c3Hi c0Hq c1Hq c2Hq c3Hq
  have k7 := bst k6 hb7 (Nat.le_refl _)
  replace H0 := Lib.hid (H0.out.below hb7 H0.out.lt)
  replace H1 := Lib.hid (H1.out.below hb7 H1.out.lt)
  replace Hi := Lib.hid (Hi.out.below hb7 Hi.out.lt)
  replace Hq := Lib.hid (Hq.out.below hb7 Hq.out.lt)
  replace NI := Lib.hid (NI.out.next hb7)
  replace NQ := Lib.hid (NQ.out.next hb7)
  clear k6
  clear hb7
  obtain ⟨c0H0, c1H0, c2H0, c3H0, -, -, -, -⟩ := H0.out.four
  obtain ⟨c0H1, c1H1, c2H1, c3H1, -, -, -, -⟩ := H1.out.four
  obtain ⟨c0Hi, c1Hi, c2Hi, c3Hi, -, -, -, -⟩ := Hi.out.four
  obtain ⟨c0Hq, c1Hq, c2Hq, c3Hq, -, -, -, -⟩ := Hq.out.four
  go_wp2_with fail
  refine ((may_yes (FA.out.next k7) dy (by omega))).mono ?_
  rintro e w8 ⟨rfl, hb8⟩
  clear c0H0 c1H0 c2H0 c3H0 c0H1 c1H1 c2H1 c3H1 c0Hi c1Hi c2Hi c3Hi c0Hq c1Hq c2Hq c3Hq
  have k8 := bst k7 hb8 (Nat.le_refl _)
  replace H0 := Lib.hid (H0.out.below hb8 H0.out.lt)
  replace H1 := Lib.hid (H1.out.below hb8 H1.out.lt)
  replace Hi := Lib.hid (Hi.out.below hb8 Hi.out.lt)
  replace Hq := Lib.hid (Hq.out.below hb8 Hq.out.lt)
  replace NI := Lib.hid (NI.out.next hb8)
  replace NQ := Lib.hid (NQ.out.next hb8)
  clear k7
  clear hb8
  obtain ⟨c0H0, c1H0, c2H0, c3H0, -, -, -, -⟩ := H0.out.four
  obtain ⟨c0H1, c1H1, c2H1, c3H1, -, -, -, -⟩ := H1.out.four
  obtain ⟨c0Hi, c1Hi, c2Hi, c3Hi, -, -, -, -⟩ := Hi.out.four
  obtain ⟨c0Hq, c1Hq, c2Hq, c3Hq, -, -, -, -⟩ := Hq.out.four
  go_wp2_with fail
  refine ((may_yes (FC.out.next k8) dv (by omega))).mono ?_
  rintro e w9 ⟨rfl, hb9⟩
  clear c0H0 c1H0 c2H0 c3H0 c0H1 c1H1 c2H1 c3H1 c0Hi c1Hi c2Hi c3Hi c0Hq c1Hq c2Hq c3Hq
  have k9 := bst k8 hb9 (Nat.le_refl _)
  replace H0 := Lib.hid (H0.out.below hb9 H0.out.lt)
  replace H1 := Lib.hid (H1.out.below hb9 H1.out.lt)
  replace Hi := Lib.hid (Hi.out.below hb9 Hi.out.lt)
  replace Hq := Lib.hid (Hq.out.below hb9 Hq.out.lt)
  replace NI := Lib.hid (NI.out.next hb9)
  replace NQ := Lib.hid (NQ.out.next hb9)
  clear k8
  clear hb9
  obtain ⟨c0H0, c1H0, c2H0, c3H0, -, -, -, -⟩ := H0.out.four
  obtain ⟨c0H1, c1H1, c2H1, c3H1, -, -, -, -⟩ := H1.out.four
  obtain ⟨c0Hi, c1Hi, c2Hi, c3Hi, -, -, -, -⟩ := Hi.out.four
  obtain ⟨c0Hq, c1Hq, c2Hq, c3Hq, -, -, -, -⟩ := Hq.out.four
  go_wp2_with fail
  refine ((sgn_to ((QC.out.next k9).rqsign (by omega)) SGR.out)).mono ?_
  rintro e w10 ⟨rfl, hb10⟩
  clear c0H0 c1H0 c2H0 c3H0 c0H1 c1H1 c2H1 c3H1 c0Hi c1Hi c2Hi c3Hi c0Hq c1Hq c2Hq c3Hq
  have k10 := bst k9 hb10 (Nat.le_refl _)
  replace H0 := Lib.hid (H0.out.below hb10 H0.out.lt)
  replace H1 := Lib.hid (H1.out.below hb10 H1.out.lt)
  replace Hi := Lib.hid (Hi.out.below hb10 Hi.out.lt)
  replace Hq := Lib.hid (Hq.out.below hb10 Hq.out.lt)
  replace NI := Lib.hid (NI.out.next hb10)
  replace NQ := Lib.hid (NQ.out.next hb10)
  clear k9
  clear hb10
  obtain ⟨c0H0, c1H0, c2H0, c3H0, -, -, -, -⟩ := H0.out.four
  obtain ⟨c0H1, c1H1, c2H1, c3H1, -, -, -, -⟩ := H1.out.four
  obtain ⟨c0Hi, c1Hi, c2Hi, c3Hi, -, -, -, -⟩ := Hi.out.four
  obtain ⟨c0Hq, c1Hq, c2Hq, c3Hq, -, -, -, -⟩ := Hq.out.four
  go_upto_region 15 with fail
  have HV8 := Lib.hid (qb_quo QA.out.qb QC.out.qb HR.out)
  go_region_held3 (fun W => W.cell? ⟨w.heap.size, 0, none⟩ = some a0 ∧ W.cell? ⟨w.heap.size, 1, none⟩ = some a1 ∧ W.cell? ⟨w.heap.size, 2, none⟩ = some a2 ∧ W.cell? ⟨w.heap.size, 3, none⟩ = some a3 ∧ W.cell? ⟨w.heap.size + 1, 0, none⟩ = some b0 ∧ W.cell? ⟨w.heap.size + 1, 1, none⟩ = some b1 ∧ W.cell? ⟨w.heap.size + 1, 2, none⟩ = some b2 ∧ W.cell? ⟨w.heap.size + 1, 3, none⟩ = some b3 ∧ W.cell? ⟨gq, 0, none⟩ = some (.bool t0) ∧ W.cell? ⟨gq, 1, none⟩ = some (.slice t1 t2 t3) ∧ W.cell? ⟨gq, 2, none⟩ = some (.bool t4) ∧ W.cell? ⟨gq, 3, none⟩ = some (.slice t5 t6 t7)) (go_keep) (first
    | (go_at_call 39; (with_reducible refine ((QA.out.next (bst k10 (by repeat (first | exact Below.refl _ _ | apply bdw | (refine bdn ?_ _) | (refine bal ?_ (Nat.le_refl _) _))) (Nat.le_refl _))).rqquo (QC.out.next (bst k10 (by repeat (first | exact Below.refl _ _ | apply bdw | (refine bdn ?_ _) | (refine bal ?_ (Nat.le_refl _) _))) (Nat.le_refl _))) (by omega) HR.out).mono ?_); rintro e wo ⟨u0, u1, u2, u3, u4, u5, u6, u7, rfl, no, hbo⟩; have mo : Below w10.heap.size w10 wo := bst (by repeat (first | exact Below.refl _ _ | apply bdw | (refine bdn ?_ _) | (refine bal ?_ (Nat.le_refl _) _))) hbo (Nat.le_refl _); obtain ⟨x0o, y0o, z0o, v0o, f0o, g0o, h0o, j0o⟩ := (H0.out.below mo H0.out.lt).four; obtain ⟨x1o, y1o, z1o, v1o, f1o, g1o, h1o, j1o⟩ := (H1.out.below mo H1.out.lt).four; obtain ⟨x2o, y2o, z2o, v2o, f2o, g2o, h2o, j2o⟩ := (Hi.out.below mo Hi.out.lt).four; obtain ⟨x3o, y3o, z3o, v3o, f3o, g3o, h3o, j3o⟩ := (Hq.out.below mo Hq.out.lt).four)
    | (go_at_call 19; (with_reducible refine ((NQ.out.next (by repeat (first | exact Below.refl _ _ | exact mo | apply bdw | (refine bdn ?_ _) | (refine bal ?_ (Nat.le_refl _) _)))).qsame (no.next (by repeat (first | exact Below.refl _ _ | apply bdw | (refine bdn ?_ _) | (refine bal ?_ (Nat.le_refl _) _)))) HV8.out (by omega)).mono ?_); rintro e wp ⟨rfl, hbp⟩; have mp : Below w10.heap.size w10 wp := bst (by repeat (first | exact Below.refl _ _ | exact mo | apply bdw | (refine bdn ?_ _) | (refine bal ?_ (Nat.le_refl _) _))) hbp (Nat.le_refl _); have iop : Below wo.heap.size wo wp := bst (by repeat (first | exact Below.refl _ _ | apply bdw | (refine bdn ?_ _) | (refine bal ?_ (Nat.le_refl _) _))) hbp (Nat.le_refl _); obtain ⟨x0p, y0p, z0p, v0p, f0p, g0p, h0p, j0p⟩ := (H0.out.below mp H0.out.lt).four; obtain ⟨x1p, y1p, z1p, v1p, f1p, g1p, h1p, j1p⟩ := (H1.out.below mp H1.out.lt).four; obtain ⟨x2p, y2p, z2p, v2p, f2p, g2p, h2p, j2p⟩ := (Hi.out.below mp Hi.out.lt).four; obtain ⟨x3p, y3p, z3p, v3p, f3p, g3p, h3p, j3p⟩ := (Hq.out.below mp Hq.out.lt).four)
    | (go_at_call 25; (with_reducible refine (lives05 (TT.out.next (bst k10 (by repeat (first | exact Below.refl _ _ | exact mo | exact mp | apply bdw | (refine bdn ?_ _) | (refine bal ?_ (Nat.le_refl _) _))) (Nat.le_refl _)))).mono ?_); rintro e wl ⟨rfl, hbl⟩; have ml : Below w10.heap.size w10 wl := bst (by repeat (first | exact Below.refl _ _ | exact mo | exact mp | apply bdw | (refine bdn ?_ _) | (refine bal ?_ (Nat.le_refl _) _))) hbl (Nat.le_refl _); have iol : Below wo.heap.size wo wl := bst (by repeat (first | exact Below.refl _ _ | exact iop | apply bdw | (refine bdn ?_ _) | (refine bal ?_ (Nat.le_refl _) _))) hbl (Nat.le_refl _); have ipl : Below wp.heap.size wp wl := bst (by repeat (first | exact Below.refl _ _ | apply bdw | (refine bdn ?_ _) | (refine bal ?_ (Nat.le_refl _) _))) hbl (Nat.le_refl _); obtain ⟨x0l, y0l, z0l, v0l, f0l, g0l, h0l, j0l⟩ := (H0.out.below ml H0.out.lt).four; obtain ⟨x1l, y1l, z1l, v1l, f1l, g1l, h1l, j1l⟩ := (H1.out.below ml H1.out.lt).four; obtain ⟨x2l, y2l, z2l, v2l, f2l, g2l, h2l, j2l⟩ := (Hi.out.below ml Hi.out.lt).four; obtain ⟨x3l, y3l, z3l, v3l, f3l, g3l, h3l, j3l⟩ := (Hq.out.below ml Hq.out.lt).four))
  all_goals
    go_wp2_with fail
    go_ret
    exact ⟨rfl, bst k10 ml (Nat.le_refl _)⟩
set_option maxHeartbeats 12800000 in
set_option maxRecDepth 20000 in
theorem quot_nz_bad (N : Nat) (hN : N ≤ 1048576) (hN1 : 1 ≤ N) (hT : Tb w) (h : QV B w a0 a1 a2 a3 q N) (hq : q ≠ 0) (h' : FV B2 w b0 b1 b2 b3 x 0 N) : Calls Tryz.prog 5 #[.agg #[a0, a1, a2, a3], .agg #[b0, b1, b2, b3]] w fun e w' => e = .returned (.bool true) ∧ Below w.heap.size w w' := by
  have QA := Lib.hid h
  obtain ⟨z, y, h9, hy, -⟩ := h
  have FA := Lib.hid h9
  have dy : decide (y ≠ 0) = true := decide_eq_true hy
  clear h9 hy
  have FC := Lib.hid h'
  clear h'
  have sq := num_sign_ne hq
  obtain ⟨sg, hsg⟩ : ∃ s, s = q.num.sign := ⟨_, rfl⟩
  rw [← hsg] at sq
  have HQ := Lib.hid hq
  have SGQ := Lib.hid hsg
  clear hq hsg
  have TT := Lib.hid hT
  clear hT
  obtain ⟨b0', b1'⟩ := blk_rr w a0 a1 a2 a3 b0 b1 b2 b3
  have k0 := bel_two w (.cells #[a0, a1, a2, a3] 27) (.cells #[b0, b1, b2, b3] 27)
  go_enter Tryz.func5, Tryz.ntmps5
  go_upto_region 1 with fail
  obtain ⟨w0, hw0⟩ : ∃ v, v = (w.alloc (.cells #[a0, a1, a2, a3] 27)).alloc (.cells #[b0, b1, b2, b3] 27) := ⟨_, rfl⟩
  rw [← hw0] at k0 b0' b1' ⊢
  clear hw0
  have H0 := Lib.hid b0'
  have H1 := Lib.hid b1'
  clear b0' b1'
  obtain ⟨c0H0, c1H0, c2H0, c3H0, -, -, -, -⟩ := H0.out.four
  obtain ⟨c0H1, c1H1, c2H1, c3H1, -, -, -, -⟩ := H1.out.four
  go_wp2_with fail
  refine ((QA.out.next k0).qinv HQ.out hN1 (by omega) (TT.out.next k0)).mono ?_
  rintro e w1 ⟨s0, s1, s2, s3, s4, s5, s6, s7, rfl, nn, hb1⟩
  clear c0H0 c1H0 c2H0 c3H0 c0H1 c1H1 c2H1 c3H1
  have k1 := bst k0 hb1 (Nat.le_refl _)
  replace H0 := Lib.hid (H0.out.below hb1 H0.out.lt)
  replace H1 := Lib.hid (H1.out.below hb1 H1.out.lt)
  clear k0
  clear hb1
  have NI := Lib.hid nn
  clear nn
  go_upto_region 2 with fail
  obtain ⟨v2, hv⟩ : ∃ v, v = w1.alloc (.cells #[.bool s0, .slice s1 s2 s3, .bool s4, .slice s5 s6 s7] 27) := ⟨_, rfl⟩
  rw [← hv]
  have bn : Blk v2 w1.heap.size 27 [.bool s0, .slice s1 s2 s3, .bool s4, .slice s5 s6 s7] := by rw [hv]; exact Blk.new_ rfl
  have jn : Below w1.heap.size w1 v2 := by rw [hv]; exact bel_one _ _
  obtain ⟨gi, hg⟩ : ∃ g, g = w1.heap.size := ⟨_, rfl⟩
  rw [← hg] at bn ⊢
  clear hg hv
  have Hi := Lib.hid bn
  clear bn
  have k2 := bst k1 jn (Nat.le_refl _)
  replace H0 := Lib.hid (H0.out.below jn H0.out.lt)
  replace H1 := Lib.hid (H1.out.below jn H1.out.lt)
  replace NI := Lib.hid (NI.out.next jn)
  clear k1
  clear jn
  obtain ⟨c0H0, c1H0, c2H0, c3H0, -, -, -, -⟩ := H0.out.four
  obtain ⟨c0H1, c1H1, c2H1, c3H1, -, -, -, -⟩ := H1.out.four
  obtain ⟨c0Hi, c1Hi, c2Hi, c3Hi, -, -, -, -⟩ := Hi.out.four
  go_wp2_with fail
  refine ((FA.out.next k2).quo_bad (FC.out.next k2) (by omega) (Or.inr rfl)).mono ?_
  rintro e w3 ⟨t0, t1, t2, t3, t4, t5, t6, t7, rfl, nn, hb3⟩
  clear c0H0 c1H0 c2H0 c3H0 c0H1 c1H1 c2H1 c3H1 c0Hi c1Hi c2Hi c3Hi
  have k3 := bst k2 hb3 (Nat.le_refl _)
  replace H0 := Lib.hid (H0.out.below hb3 H0.out.lt)
  replace H1 := Lib.hid (H1.out.below hb3 H1.out.lt)
  replace Hi := Lib.hid (Hi.out.below hb3 Hi.out.lt)
  replace NI := Lib.hid (NI.out.next hb3)
  clear k2
  clear hb3
  have NQ := Lib.hid nn
  clear nn
  go_upto_region 3 with fail
  obtain ⟨v4, hv⟩ : ∃ v, v = w3.alloc (.cells #[.bool t0, .slice t1 t2 t3, .bool t4, .slice t5 t6 t7] 27) := ⟨_, rfl⟩
  rw [← hv]
  have bn : Blk v4 w3.heap.size 27 [.bool t0, .slice t1 t2 t3, .bool t4, .slice t5 t6 t7] := by rw [hv]; exact Blk.new_ rfl
  have jn : Below w3.heap.size w3 v4 := by rw [hv]; exact bel_one _ _
  obtain ⟨gq, hg⟩ : ∃ g, g = w3.heap.size := ⟨_, rfl⟩
  rw [← hg] at bn ⊢
  clear hg hv
  have Hq := Lib.hid bn
  clear bn
  have k4 := bst k3 jn (Nat.le_refl _)
  replace H0 := Lib.hid (H0.out.below jn H0.out.lt)
  replace H1 := Lib.hid (H1.out.below jn H1.out.lt)
  replace Hi := Lib.hid (Hi.out.below jn Hi.out.lt)
  replace NI := Lib.hid (NI.out.next jn)
  replace NQ := Lib.hid (NQ.out.next jn)
  clear k3
  clear jn
  obtain ⟨c0H0, c1H0, c2H0, c3H0, -, -, -, -⟩ := H0.out.four
  obtain ⟨c0H1, c1H1, c2H1, c3H1, -, -, -, -⟩ := H1.out.four
  obtain ⟨c0Hi, c1Hi, c2Hi, c3Hi, -, -, -, -⟩ := Hi.out.four
  obtain ⟨c0Hq, c1Hq, c2Hq, c3Hq, -, -, -, -⟩ := Hq.out.four
  go_wp2_with fail
  refine ((may_yes (FA.out.next k4) dy (by omega))).mono ?_
  rintro e w5 ⟨rfl, hb5⟩
  clear c0H0 c1H0 c2H0 c3H0 c0H1 c1H1 c2H1 c3H1 c0Hi c1Hi c2Hi c3Hi c0Hq c1Hq c2Hq c3Hq
  have k5 := bst k4 hb5 (Nat.le_refl _)
  replace H0 := Lib.hid (H0.out.below hb5 H0.out.lt)
  replace H1 := Lib.hid (H1.out.below hb5 H1.out.lt)
  replace Hi := Lib.hid (Hi.out.below hb5 Hi.out.lt)
  replace Hq := Lib.hid (Hq.out.below hb5 Hq.out.lt)
  replace NI := Lib.hid (NI.out.next hb5)
  replace NQ := Lib.hid (NQ.out.next hb5)
  clear k4
  clear hb5
  obtain ⟨c0H0, c1H0, c2H0, c3H0, -, -, -, -⟩ := H0.out.four
  obtain ⟨c0H1, c1H1, c2H1, c3H1, -, -, -, -⟩ := H1.out.four
  obtain ⟨c0Hi, c1Hi, c2Hi, c3Hi, -, -, -, -⟩ := Hi.out.four
  obtain ⟨c0Hq, c1Hq, c2Hq, c3Hq, -, -, -, -⟩ := Hq.out.four
  go_wp2_with fail
  refine ((sgn_to ((QA.out.next k5).rqsign (by omega)) SGQ.out)).mono ?_
  rintro e w6 ⟨rfl, hb6⟩
  clear c0H0 c1H0 c2H0 c3H0 c0H1 c1H1 c2H1 c3H1 c0Hi c1Hi c2Hi c3Hi c0Hq c1Hq c2Hq c3Hq
  have k6 := bst k5 hb6 (Nat.le_refl _)
  replace H0 := Lib.hid (H0.out.below hb6 H0.out.lt)
  replace H1 := Lib.hid (H1.out.below hb6 H1.out.lt)
  replace Hi := Lib.hid (Hi.out.below hb6 Hi.out.lt)
  replace Hq := Lib.hid (Hq.out.below hb6 Hq.out.lt)
  replace NI := Lib.hid (NI.out.next hb6)
  replace NQ := Lib.hid (NQ.out.next hb6)
  clear k5
  clear hb6
  obtain ⟨c0H0, c1H0, c2H0, c3H0, -, -, -, -⟩ := H0.out.four
  obtain ⟨c0H1, c1H1, c2H1, c3H1, -, -, -, -⟩ := H1.out.four
  obtain ⟨c0Hi, c1Hi, c2Hi, c3Hi, -, -, -, -⟩ := Hi.out.four
  obtain ⟨c0Hq, c1Hq, c2Hq, c3Hq, -, -, -, -⟩ := Hq.out.four
  go_wp2_with fail
  refine ((may_yes (FA.out.next k6) dy (by omega))).mono ?_
  rintro e w7 ⟨rfl, hb7⟩
  clear c0H0 c1H0 c2H0 c3H0 c0H1 c1H1 c2H1 c3H1 c0Hi c1Hi c2Hi c3Hi c0Hq c1Hq c2Hq c3Hq
  have k7 := bst k6 hb7 (Nat.le_refl _)
  replace H0 := Lib.hid (H0.out.below hb7 H0.out.lt)
  replace H1 := Lib.hid (H1.out.below hb7 H1.out.lt)
  replace Hi := Lib.hid (Hi.out.below hb7 Hi.out.lt)
  replace Hq := Lib.hid (Hq.out.below hb7 Hq.out.lt)
  replace NI := Lib.hid (NI.out.next hb7)
  replace NQ := Lib.hid (NQ.out.next hb7)
  clear k6
  clear hb7
  obtain ⟨c0H0, c1H0, c2H0, c3H0, -, -, -, -⟩ := H0.out.four
  obtain ⟨c0H1, c1H1, c2H1, c3H1, -, -, -, -⟩ := H1.out.four
  obtain ⟨c0Hi, c1Hi, c2Hi, c3Hi, -, -, -, -⟩ := Hi.out.four
  obtain ⟨c0Hq, c1Hq, c2Hq, c3Hq, -, -, -, -⟩ := Hq.out.four
  go_upto_region 9 with fail
  have HV9 := Lib.hid QA.out.qb
  go_cut [54] (fun u W => u = .bool false ∧ Below w7.heap.size w7 W)
  case first =>
    go_region_held3 (fun W => W.cell? ⟨w.heap.size, 0, none⟩ = some a0 ∧ W.cell? ⟨w.heap.size, 1, none⟩ = some a1 ∧ W.cell? ⟨w.heap.size, 2, none⟩ = some a2 ∧ W.cell? ⟨w.heap.size, 3, none⟩ = some a3 ∧ W.cell? ⟨gi, 0, none⟩ = some (.bool s0) ∧ W.cell? ⟨gi, 1, none⟩ = some (.slice s1 s2 s3) ∧ W.cell? ⟨gi, 2, none⟩ = some (.bool s4) ∧ W.cell? ⟨gi, 3, none⟩ = some (.slice s5 s6 s7)) (go_keep) (first
      | (go_at_call 38; (with_reducible refine ((QA.out.next (bst k7 (by repeat (first | exact Below.refl _ _ | apply bdw | (refine bdn ?_ _) | (refine bal ?_ (Nat.le_refl _) _))) (Nat.le_refl _))).rqinv (by omega) HQ.out).mono ?_); rintro e wo ⟨u0, u1, u2, u3, u4, u5, u6, u7, rfl, no, hbo⟩; have mo : Below w7.heap.size w7 wo := bst (by repeat (first | exact Below.refl _ _ | apply bdw | (refine bdn ?_ _) | (refine bal ?_ (Nat.le_refl _) _))) hbo (Nat.le_refl _); obtain ⟨x0o, y0o, z0o, v0o, f0o, g0o, h0o, j0o⟩ := (H0.out.below mo H0.out.lt).four; obtain ⟨x1o, y1o, z1o, v1o, f1o, g1o, h1o, j1o⟩ := (H1.out.below mo H1.out.lt).four; obtain ⟨x2o, y2o, z2o, v2o, f2o, g2o, h2o, j2o⟩ := (Hi.out.below mo Hi.out.lt).four; obtain ⟨x3o, y3o, z3o, v3o, f3o, g3o, h3o, j3o⟩ := (Hq.out.below mo Hq.out.lt).four)
      | (go_at_call 19; (with_reducible refine ((NI.out.next (by repeat (first | exact Below.refl _ _ | exact mo | apply bdw | (refine bdn ?_ _) | (refine bal ?_ (Nat.le_refl _) _)))).qsame (no.next (by repeat (first | exact Below.refl _ _ | apply bdw | (refine bdn ?_ _) | (refine bal ?_ (Nat.le_refl _) _)))) (HV9.out.inv HQ.out) (by omega)).mono ?_); rintro e wp ⟨rfl, hbp⟩; have mp : Below w7.heap.size w7 wp := bst (by repeat (first | exact Below.refl _ _ | exact mo | apply bdw | (refine bdn ?_ _) | (refine bal ?_ (Nat.le_refl _) _))) hbp (Nat.le_refl _); have iop : Below wo.heap.size wo wp := bst (by repeat (first | exact Below.refl _ _ | apply bdw | (refine bdn ?_ _) | (refine bal ?_ (Nat.le_refl _) _))) hbp (Nat.le_refl _); obtain ⟨x0p, y0p, z0p, v0p, f0p, g0p, h0p, j0p⟩ := (H0.out.below mp H0.out.lt).four; obtain ⟨x1p, y1p, z1p, v1p, f1p, g1p, h1p, j1p⟩ := (H1.out.below mp H1.out.lt).four; obtain ⟨x2p, y2p, z2p, v2p, f2p, g2p, h2p, j2p⟩ := (Hi.out.below mp Hi.out.lt).four; obtain ⟨x3p, y3p, z3p, v3p, f3p, g3p, h3p, j3p⟩ := (Hq.out.below mp Hq.out.lt).four))
    all_goals
      go_wp2_with fail
      go_meet
      exact ⟨rfl, mp⟩
  case rest =>
    clear c0H0 c1H0 c2H0 c3H0 c0H1 c1H1 c2H1 c3H1 c0Hi c1Hi c2Hi c3Hi c0Hq c1Hq c2Hq c3Hq
    obtain ⟨rfl, hbc⟩ := hcut
    obtain ⟨w8, rfl⟩ : ∃ W : World, W = wc := ⟨_, rfl⟩
    have k8 := bst k7 hbc (Nat.le_refl _)
    replace H0 := Lib.hid (H0.out.below hbc H0.out.lt)
    replace H1 := Lib.hid (H1.out.below hbc H1.out.lt)
    replace Hi := Lib.hid (Hi.out.below hbc Hi.out.lt)
    replace Hq := Lib.hid (Hq.out.below hbc Hq.out.lt)
    replace NI := Lib.hid (NI.out.next hbc)
    replace NQ := Lib.hid (NQ.out.next hbc)
    clear k7
    clear hbc HV9
    obtain ⟨c0H0, c1H0, c2H0, c3H0, -, -, -, -⟩ := H0.out.four
    obtain ⟨c0H1, c1H1, c2H1, c3H1, -, -, -, -⟩ := H1.out.four
    obtain ⟨c0Hi, c1Hi, c2Hi, c3Hi, -, -, -, -⟩ := Hi.out.four
    obtain ⟨c0Hq, c1Hq, c2Hq, c3Hq, -, -, -, -⟩ := Hq.out.four
    go_wp2_with fail
    refine ((may_yes (FA.out.next k8) dy (by omega))).mono ?_
    rintro e w9 ⟨rfl, hb9⟩
    clear c0H0 c1H0 c2H0 c3H0 c0H1 c1H1 c2H1 c3H1 c0Hi c1Hi c2Hi c3Hi c0Hq c1Hq c2Hq c3Hq
    have k9 := bst k8 hb9 (Nat.le_refl _)
    replace H0 := Lib.hid (H0.out.below hb9 H0.out.lt)
    replace H1 := Lib.hid (H1.out.below hb9 H1.out.lt)
    replace Hi := Lib.hid (Hi.out.below hb9 Hi.out.lt)
    replace Hq := Lib.hid (Hq.out.below hb9 Hq.out.lt)
    replace NI := Lib.hid (NI.out.next hb9)
    replace NQ := Lib.hid (NQ.out.next hb9)
    clear k8
    clear hb9
    obtain ⟨c0H0, c1H0, c2H0, c3H0, -, -, -, -⟩ := H0.out.four
    obtain ⟨c0H1, c1H1, c2H1, c3H1, -, -, -, -⟩ := H1.out.four
    obtain ⟨c0Hi, c1Hi, c2Hi, c3Hi, -, -, -, -⟩ := Hi.out.four
    obtain ⟨c0Hq, c1Hq, c2Hq, c3Hq, -, -, -, -⟩ := Hq.out.four
    go_wp2_with fail
    refine (((FC.out.next k9).rmay (by omega))).mono ?_
    rintro e w10 ⟨rfl, hb10⟩
    clear c0H0 c1H0 c2H0 c3H0 c0H1 c1H1 c2H1 c3H1 c0Hi c1Hi c2Hi c3Hi c0Hq c1Hq c2Hq c3Hq
    have k10 := bst k9 hb10 (Nat.le_refl _)
    replace H0 := Lib.hid (H0.out.below hb10 H0.out.lt)
    replace H1 := Lib.hid (H1.out.below hb10 H1.out.lt)
    replace Hi := Lib.hid (Hi.out.below hb10 Hi.out.lt)
    replace Hq := Lib.hid (Hq.out.below hb10 Hq.out.lt)
    replace NI := Lib.hid (NI.out.next hb10)
    replace NQ := Lib.hid (NQ.out.next hb10)
    clear k9
    clear hb10
    obtain ⟨c0H0, c1H0, c2H0, c3H0, -, -, -, -⟩ := H0.out.four
    obtain ⟨c0H1, c1H1, c2H1, c3H1, -, -, -, -⟩ := H1.out.four
    obtain ⟨c0Hi, c1Hi, c2Hi, c3Hi, -, -, -, -⟩ := Hi.out.four
    obtain ⟨c0Hq, c1Hq, c2Hq, c3Hq, -, -, -, -⟩ := Hq.out.four
    go_wp2_with fail
    refine (NQ.out.nsame).mono ?_
    rintro e w11 ⟨rfl, hb11⟩
    clear c0H0 c1H0 c2H0 c3H0 c0H1 c1H1 c2H1 c3H1 c0Hi c1Hi c2Hi c3Hi c0Hq c1Hq c2Hq c3Hq
    have k11 := bst k10 hb11 (Nat.le_refl _)
    replace H0 := Lib.hid (H0.out.below hb11 H0.out.lt)
    replace H1 := Lib.hid (H1.out.below hb11 H1.out.lt)
    replace Hi := Lib.hid (Hi.out.below hb11 Hi.out.lt)
    replace Hq := Lib.hid (Hq.out.below hb11 Hq.out.lt)
    replace NI := Lib.hid (NI.out.next hb11)
    replace NQ := Lib.hid (NQ.out.next hb11)
    clear k10
    clear hb11
    obtain ⟨c0H0, c1H0, c2H0, c3H0, -, -, -, -⟩ := H0.out.four
    obtain ⟨c0H1, c1H1, c2H1, c3H1, -, -, -, -⟩ := H1.out.four
    obtain ⟨c0Hi, c1Hi, c2Hi, c3Hi, -, -, -, -⟩ := Hi.out.four
    obtain ⟨c0Hq, c1Hq, c2Hq, c3Hq, -, -, -, -⟩ := Hq.out.four
    go_wp2_with fail
    refine (lives05 (TT.out.next k11)).mono ?_
    rintro e w12 ⟨rfl, hb12⟩
    clear c0H0 c1H0 c2H0 c3H0 c0H1 c1H1 c2H1 c3H1 c0Hi c1Hi c2Hi c3Hi c0Hq c1Hq c2Hq c3Hq
    have k12 := bst k11 hb12 (Nat.le_refl _)
    replace H0 := Lib.hid (H0.out.below hb12 H0.out.lt)
    replace H1 := Lib.hid (H1.out.below hb12 H1.out.lt)
    replace Hi := Lib.hid (Hi.out.below hb12 Hi.out.lt)
    replace Hq := Lib.hid (Hq.out.below hb12 Hq.out.lt)
    replace NI := Lib.hid (NI.out.next hb12)
    replace NQ := Lib.hid (NQ.out.next hb12)
    clear k11
    clear hb12
    obtain ⟨c0H0, c1H0, c2H0, c3H0, -, -, -, -⟩ := H0.out.four
    obtain ⟨c0H1, c1H1, c2H1, c3H1, -, -, -, -⟩ := H1.out.four
    obtain ⟨c0Hi, c1Hi, c2Hi, c3Hi, -, -, -, -⟩ := Hi.out.four
    obtain ⟨c0Hq, c1Hq, c2Hq, c3Hq, -, -, -, -⟩ := Hq.out.four
    go_wp2_with fail
    go_ret
    exact ⟨rfl, k12⟩
set_option maxHeartbeats 12800000 in
set_option maxRecDepth 20000 in
theorem quot_nz_zero (N : Nat) (hN : N ≤ 1048576) (hN1 : 1 ≤ N) (hT : Tb w) (h : QV B w a0 a1 a2 a3 q N) (hq : q ≠ 0) (h' : QV B2 w b0 b1 b2 b3 0 N) : Calls Tryz.prog 5 #[.agg #[a0, a1, a2, a3], .agg #[b0, b1, b2, b3]] w fun e w' => e = .returned (.bool true) ∧ Below w.heap.size w w' := by
  have QA := Lib.hid h
  obtain ⟨z, y, h9, hy, -⟩ := h
  have FA := Lib.hid h9
  have dy : decide (y ≠ 0) = true := decide_eq_true hy
  clear h9 hy
  have QC := Lib.hid h'
  obtain ⟨x, v, h9, hv, -⟩ := h'
  have FC := Lib.hid h9
  have dv : decide (v ≠ 0) = true := decide_eq_true hv
  clear h9 hv
  have sq := num_sign_ne hq
  obtain ⟨sg, hsg⟩ : ∃ s, s = q.num.sign := ⟨_, rfl⟩
  rw [← hsg] at sq
  have HQ := Lib.hid hq
  have SGQ := Lib.hid hsg
  clear hq hsg
  have TT := Lib.hid hT
  clear hT
  obtain ⟨b0', b1'⟩ := blk_rr w a0 a1 a2 a3 b0 b1 b2 b3
  have k0 := bel_two w (.cells #[a0, a1, a2, a3] 27) (.cells #[b0, b1, b2, b3] 27)
  go_enter Tryz.func5, Tryz.ntmps5
  go_upto_region 1 with fail
  obtain ⟨w0, hw0⟩ : ∃ v, v = (w.alloc (.cells #[a0, a1, a2, a3] 27)).alloc (.cells #[b0, b1, b2, b3] 27) := ⟨_, rfl⟩
  rw [← hw0] at k0 b0' b1' ⊢
  clear hw0
  have H0 := Lib.hid b0'
  have H1 := Lib.hid b1'
  clear b0' b1'
  obtain ⟨c0H0, c1H0, c2H0, c3H0, -, -, -, -⟩ := H0.out.four
  obtain ⟨c0H1, c1H1, c2H1, c3H1, -, -, -, -⟩ := H1.out.four
  go_wp2_with fail
  refine ((QA.out.next k0).qinv HQ.out hN1 (by omega) (TT.out.next k0)).mono ?_
  rintro e w1 ⟨s0, s1, s2, s3, s4, s5, s6, s7, rfl, nn, hb1⟩
  clear c0H0 c1H0 c2H0 c3H0 c0H1 c1H1 c2H1 c3H1
  have k1 := bst k0 hb1 (Nat.le_refl _)
  replace H0 := Lib.hid (H0.out.below hb1 H0.out.lt)
  replace H1 := Lib.hid (H1.out.below hb1 H1.out.lt)
  clear k0
  clear hb1
  have NI := Lib.hid nn
  clear nn
  go_upto_region 2 with fail
  obtain ⟨v2, hv⟩ : ∃ v, v = w1.alloc (.cells #[.bool s0, .slice s1 s2 s3, .bool s4, .slice s5 s6 s7] 27) := ⟨_, rfl⟩
  rw [← hv]
  have bn : Blk v2 w1.heap.size 27 [.bool s0, .slice s1 s2 s3, .bool s4, .slice s5 s6 s7] := by rw [hv]; exact Blk.new_ rfl
  have jn : Below w1.heap.size w1 v2 := by rw [hv]; exact bel_one _ _
  obtain ⟨gi, hg⟩ : ∃ g, g = w1.heap.size := ⟨_, rfl⟩
  rw [← hg] at bn ⊢
  clear hg hv
  have Hi := Lib.hid bn
  clear bn
  have k2 := bst k1 jn (Nat.le_refl _)
  replace H0 := Lib.hid (H0.out.below jn H0.out.lt)
  replace H1 := Lib.hid (H1.out.below jn H1.out.lt)
  replace NI := Lib.hid (NI.out.next jn)
  clear k1
  clear jn
  obtain ⟨c0H0, c1H0, c2H0, c3H0, -, -, -, -⟩ := H0.out.four
  obtain ⟨c0H1, c1H1, c2H1, c3H1, -, -, -, -⟩ := H1.out.four
  obtain ⟨c0Hi, c1Hi, c2Hi, c3Hi, -, -, -, -⟩ := Hi.out.four
  go_wp2_with fail
  refine ((QA.out.next k2).quo0 (QC.out.next k2) (by omega)).mono ?_
  rintro e w3 ⟨t0, t1, t2, t3, t4, t5, t6, t7, rfl, nn, hb3⟩
  clear c0H0 c1H0 c2H0 c3H0 c0H1 c1H1 c2H1 c3H1 c0Hi c1Hi c2Hi c3Hi
  have k3 := bst k2 hb3 (Nat.le_refl _)
  replace H0 := Lib.hid (H0.out.below hb3 H0.out.lt)
  replace H1 := Lib.hid (H1.out.below hb3 H1.out.lt)
  replace Hi := Lib.hid (Hi.out.below hb3 Hi.out.lt)
  replace NI := Lib.hid (NI.out.next hb3)
  clear k2
  clear hb3
  have NQ := Lib.hid nn
  clear nn
  go_upto_region 3 with fail
  obtain ⟨v4, hv⟩ : ∃ v, v = w3.alloc (.cells #[.bool t0, .slice t1 t2 t3, .bool t4, .slice t5 t6 t7] 27) := ⟨_, rfl⟩
  rw [← hv]
  have bn : Blk v4 w3.heap.size 27 [.bool t0, .slice t1 t2 t3, .bool t4, .slice t5 t6 t7] := by rw [hv]; exact Blk.new_ rfl
  have jn : Below w3.heap.size w3 v4 := by rw [hv]; exact bel_one _ _
  obtain ⟨gq, hg⟩ : ∃ g, g = w3.heap.size := ⟨_, rfl⟩
  rw [← hg] at bn ⊢
  clear hg hv
  have Hq := Lib.hid bn
  clear bn
  have k4 := bst k3 jn (Nat.le_refl _)
  replace H0 := Lib.hid (H0.out.below jn H0.out.lt)
  replace H1 := Lib.hid (H1.out.below jn H1.out.lt)
  replace Hi := Lib.hid (Hi.out.below jn Hi.out.lt)
  replace NI := Lib.hid (NI.out.next jn)
  replace NQ := Lib.hid (NQ.out.next jn)
  clear k3
  clear jn
  obtain ⟨c0H0, c1H0, c2H0, c3H0, -, -, -, -⟩ := H0.out.four
  obtain ⟨c0H1, c1H1, c2H1, c3H1, -, -, -, -⟩ := H1.out.four
  obtain ⟨c0Hi, c1Hi, c2Hi, c3Hi, -, -, -, -⟩ := Hi.out.four
  obtain ⟨c0Hq, c1Hq, c2Hq, c3Hq, -, -, -, -⟩ := Hq.out.four
  go_wp2_with fail
  refine ((may_yes (FA.out.next k4) dy (by omega))).mono ?_
  rintro e w5 ⟨rfl, hb5⟩
  clear c0H0 c1H0 c2H0 c3H0 c0H1 c1H1 c2H1 c3H1 c0Hi c1Hi c2Hi c3Hi c0Hq c1Hq c2Hq c3Hq
  have k5 := bst k4 hb5 (Nat.le_refl _)
  replace H0 := Lib.hid (H0.out.below hb5 H0.out.lt)
  replace H1 := Lib.hid (H1.out.below hb5 H1.out.lt)
  replace Hi := Lib.hid (Hi.out.below hb5 Hi.out.lt)
  replace Hq := Lib.hid (Hq.out.below hb5 Hq.out.lt)
  replace NI := Lib.hid (NI.out.next hb5)
  replace NQ := Lib.hid (NQ.out.next hb5)
  clear k4
  clear hb5
  obtain ⟨c0H0, c1H0, c2H0, c3H0, -, -, -, -⟩ := H0.out.four
  obtain ⟨c0H1, c1H1, c2H1, c3H1, -, -, -, -⟩ := H1.out.four
  obtain ⟨c0Hi, c1Hi, c2Hi, c3Hi, -, -, -, -⟩ := Hi.out.four
  obtain ⟨c0Hq, c1Hq, c2Hq, c3Hq, -, -, -, -⟩ := Hq.out.four
  go_wp2_with fail
  refine ((sgn_to ((QA.out.next k5).rqsign (by omega)) SGQ.out)).mono ?_
  rintro e w6 ⟨rfl, hb6⟩
  clear c0H0 c1H0 c2H0 c3H0 c0H1 c1H1 c2H1 c3H1 c0Hi c1Hi c2Hi c3Hi c0Hq c1Hq c2Hq c3Hq
  have k6 := bst k5 hb6 (Nat.le_refl _)
  replace H0 := Lib.hid (H0.out.below hb6 H0.out.lt)
  replace H1 := Lib.hid (H1.out.below hb6 H1.out.lt)
  replace Hi := Lib.hid (Hi.out.below hb6 Hi.out.lt)
  replace Hq := Lib.hid (Hq.out.below hb6 Hq.out.lt)
  replace NI := Lib.hid (NI.out.next hb6)
  replace NQ := Lib.hid (NQ.out.next hb6)
  clear k5
  clear hb6
  obtain ⟨c0H0, c1H0, c2H0, c3H0, -, -, -, -⟩ := H0.out.four
  obtain ⟨c0H1, c1H1, c2H1, c3H1, -, -, -, -⟩ := H1.out.four
  obtain ⟨c0Hi, c1Hi, c2Hi, c3Hi, -, -, -, -⟩ := Hi.out.four
  obtain ⟨c0Hq, c1Hq, c2Hq, c3Hq, -, -, -, -⟩ := Hq.out.four
  go_wp2_with fail
  refine ((may_yes (FA.out.next k6) dy (by omega))).mono ?_
  rintro e w7 ⟨rfl, hb7⟩
  clear c0H0 c1H0 c2H0 c3H0 c0H1 c1H1 c2H1 c3H1 c0Hi c1Hi c2Hi c3Hi c0Hq c1Hq c2Hq c3Hq
  have k7 := bst k6 hb7 (Nat.le_refl _)
  replace H0 := Lib.hid (H0.out.below hb7 H0.out.lt)
  replace H1 := Lib.hid (H1.out.below hb7 H1.out.lt)
  replace Hi := Lib.hid (Hi.out.below hb7 Hi.out.lt)
  replace Hq := Lib.hid (Hq.out.below hb7 Hq.out.lt)
  replace NI := Lib.hid (NI.out.next hb7)
  replace NQ := Lib.hid (NQ.out.next hb7)
  clear k6
  clear hb7
  obtain ⟨c0H0, c1H0, c2H0, c3H0, -, -, -, -⟩ := H0.out.four
  obtain ⟨c0H1, c1H1, c2H1, c3H1, -, -, -, -⟩ := H1.out.four
  obtain ⟨c0Hi, c1Hi, c2Hi, c3Hi, -, -, -, -⟩ := Hi.out.four
  obtain ⟨c0Hq, c1Hq, c2Hq, c3Hq, -, -, -, -⟩ := Hq.out.four
  go_upto_region 9 with fail
  have HV9 := Lib.hid QA.out.qb
  go_cut [54] (fun u W => u = .bool false ∧ Below w7.heap.size w7 W)
  case first =>
    go_region_held3 (fun W => W.cell? ⟨w.heap.size, 0, none⟩ = some a0 ∧ W.cell? ⟨w.heap.size, 1, none⟩ = some a1 ∧ W.cell? ⟨w.heap.size, 2, none⟩ = some a2 ∧ W.cell? ⟨w.heap.size, 3, none⟩ = some a3 ∧ W.cell? ⟨gi, 0, none⟩ = some (.bool s0) ∧ W.cell? ⟨gi, 1, none⟩ = some (.slice s1 s2 s3) ∧ W.cell? ⟨gi, 2, none⟩ = some (.bool s4) ∧ W.cell? ⟨gi, 3, none⟩ = some (.slice s5 s6 s7)) (go_keep) (first
      | (go_at_call 38; (with_reducible refine ((QA.out.next (bst k7 (by repeat (first | exact Below.refl _ _ | apply bdw | (refine bdn ?_ _) | (refine bal ?_ (Nat.le_refl _) _))) (Nat.le_refl _))).rqinv (by omega) HQ.out).mono ?_); rintro e wo ⟨u0, u1, u2, u3, u4, u5, u6, u7, rfl, no, hbo⟩; have mo : Below w7.heap.size w7 wo := bst (by repeat (first | exact Below.refl _ _ | apply bdw | (refine bdn ?_ _) | (refine bal ?_ (Nat.le_refl _) _))) hbo (Nat.le_refl _); obtain ⟨x0o, y0o, z0o, v0o, f0o, g0o, h0o, j0o⟩ := (H0.out.below mo H0.out.lt).four; obtain ⟨x1o, y1o, z1o, v1o, f1o, g1o, h1o, j1o⟩ := (H1.out.below mo H1.out.lt).four; obtain ⟨x2o, y2o, z2o, v2o, f2o, g2o, h2o, j2o⟩ := (Hi.out.below mo Hi.out.lt).four; obtain ⟨x3o, y3o, z3o, v3o, f3o, g3o, h3o, j3o⟩ := (Hq.out.below mo Hq.out.lt).four)
      | (go_at_call 19; (with_reducible refine ((NI.out.next (by repeat (first | exact Below.refl _ _ | exact mo | apply bdw | (refine bdn ?_ _) | (refine bal ?_ (Nat.le_refl _) _)))).qsame (no.next (by repeat (first | exact Below.refl _ _ | apply bdw | (refine bdn ?_ _) | (refine bal ?_ (Nat.le_refl _) _)))) (HV9.out.inv HQ.out) (by omega)).mono ?_); rintro e wp ⟨rfl, hbp⟩; have mp : Below w7.heap.size w7 wp := bst (by repeat (first | exact Below.refl _ _ | exact mo | apply bdw | (refine bdn ?_ _) | (refine bal ?_ (Nat.le_refl _) _))) hbp (Nat.le_refl _); have iop : Below wo.heap.size wo wp := bst (by repeat (first | exact Below.refl _ _ | apply bdw | (refine bdn ?_ _) | (refine bal ?_ (Nat.le_refl _) _))) hbp (Nat.le_refl _); obtain ⟨x0p, y0p, z0p, v0p, f0p, g0p, h0p, j0p⟩ := (H0.out.below mp H0.out.lt).four; obtain ⟨x1p, y1p, z1p, v1p, f1p, g1p, h1p, j1p⟩ := (H1.out.below mp H1.out.lt).four; obtain ⟨x2p, y2p, z2p, v2p, f2p, g2p, h2p, j2p⟩ := (Hi.out.below mp Hi.out.lt).four; obtain ⟨x3p, y3p, z3p, v3p, f3p, g3p, h3p, j3p⟩ := (Hq.out.below mp Hq.out.lt).four))
    all_goals
      go_wp2_with fail
      go_meet
      exact ⟨rfl, mp⟩
  case rest =>
    clear c0H0 c1H0 c2H0 c3H0 c0H1 c1H1 c2H1 c3H1 c0Hi c1Hi c2Hi c3Hi c0Hq c1Hq c2Hq c3Hq
    obtain ⟨rfl, hbc⟩ := hcut
    obtain ⟨w8, rfl⟩ : ∃ W : World, W = wc := ⟨_, rfl⟩
    have k8 := bst k7 hbc (Nat.le_refl _)
    replace H0 := Lib.hid (H0.out.below hbc H0.out.lt)
    replace H1 := Lib.hid (H1.out.below hbc H1.out.lt)
    replace Hi := Lib.hid (Hi.out.below hbc Hi.out.lt)
    replace Hq := Lib.hid (Hq.out.below hbc Hq.out.lt)
    replace NI := Lib.hid (NI.out.next hbc)
    replace NQ := Lib.hid (NQ.out.next hbc)
    clear k7
    clear hbc HV9
    obtain ⟨c0H0, c1H0, c2H0, c3H0, -, -, -, -⟩ := H0.out.four
    obtain ⟨c0H1, c1H1, c2H1, c3H1, -, -, -, -⟩ := H1.out.four
    obtain ⟨c0Hi, c1Hi, c2Hi, c3Hi, -, -, -, -⟩ := Hi.out.four
    obtain ⟨c0Hq, c1Hq, c2Hq, c3Hq, -, -, -, -⟩ := Hq.out.four
    go_wp2_with fail
    refine ((may_yes (FA.out.next k8) dy (by omega))).mono ?_
    rintro e w9 ⟨rfl, hb9⟩
    clear c0H0 c1H0 c2H0 c3H0 c0H1 c1H1 c2H1 c3H1 c0Hi c1Hi c2Hi c3Hi c0Hq c1Hq c2Hq c3Hq
    have k9 := bst k8 hb9 (Nat.le_refl _)
    replace H0 := Lib.hid (H0.out.below hb9 H0.out.lt)
    replace H1 := Lib.hid (H1.out.below hb9 H1.out.lt)
    replace Hi := Lib.hid (Hi.out.below hb9 Hi.out.lt)
    replace Hq := Lib.hid (Hq.out.below hb9 Hq.out.lt)
    replace NI := Lib.hid (NI.out.next hb9)
    replace NQ := Lib.hid (NQ.out.next hb9)
    clear k8
    clear hb9
    obtain ⟨c0H0, c1H0, c2H0, c3H0, -, -, -, -⟩ := H0.out.four
    obtain ⟨c0H1, c1H1, c2H1, c3H1, -, -, -, -⟩ := H1.out.four
    obtain ⟨c0Hi, c1Hi, c2Hi, c3Hi, -, -, -, -⟩ := Hi.out.four
    obtain ⟨c0Hq, c1Hq, c2Hq, c3Hq, -, -, -, -⟩ := Hq.out.four
    go_wp2_with fail
    refine ((may_yes (FC.out.next k9) dv (by omega))).mono ?_
    rintro e w10 ⟨rfl, hb10⟩
    clear c0H0 c1H0 c2H0 c3H0 c0H1 c1H1 c2H1 c3H1 c0Hi c1Hi c2Hi c3Hi c0Hq c1Hq c2Hq c3Hq
    have k10 := bst k9 hb10 (Nat.le_refl _)
    replace H0 := Lib.hid (H0.out.below hb10 H0.out.lt)
    replace H1 := Lib.hid (H1.out.below hb10 H1.out.lt)
    replace Hi := Lib.hid (Hi.out.below hb10 Hi.out.lt)
    replace Hq := Lib.hid (Hq.out.below hb10 Hq.out.lt)
    replace NI := Lib.hid (NI.out.next hb10)
    replace NQ := Lib.hid (NQ.out.next hb10)
    clear k9
    clear hb10
    obtain ⟨c0H0, c1H0, c2H0, c3H0, -, -, -, -⟩ := H0.out.four
    obtain ⟨c0H1, c1H1, c2H1, c3H1, -, -, -, -⟩ := H1.out.four
    obtain ⟨c0Hi, c1Hi, c2Hi, c3Hi, -, -, -, -⟩ := Hi.out.four
    obtain ⟨c0Hq, c1Hq, c2Hq, c3Hq, -, -, -, -⟩ := Hq.out.four
    go_wp2_with fail
    refine ((QC.out.next k10).rqsign (by omega)).mono ?_
    rintro e w11 ⟨rfl, hb11⟩
    clear c0H0 c1H0 c2H0 c3H0 c0H1 c1H1 c2H1 c3H1 c0Hi c1Hi c2Hi c3Hi c0Hq c1Hq c2Hq c3Hq
    have k11 := bst k10 hb11 (Nat.le_refl _)
    replace H0 := Lib.hid (H0.out.below hb11 H0.out.lt)
    replace H1 := Lib.hid (H1.out.below hb11 H1.out.lt)
    replace Hi := Lib.hid (Hi.out.below hb11 Hi.out.lt)
    replace Hq := Lib.hid (Hq.out.below hb11 Hq.out.lt)
    replace NI := Lib.hid (NI.out.next hb11)
    replace NQ := Lib.hid (NQ.out.next hb11)
    clear k10
    clear hb11
    obtain ⟨c0H0, c1H0, c2H0, c3H0, -, -, -, -⟩ := H0.out.four
    obtain ⟨c0H1, c1H1, c2H1, c3H1, -, -, -, -⟩ := H1.out.four
    obtain ⟨c0Hi, c1Hi, c2Hi, c3Hi, -, -, -, -⟩ := Hi.out.four
    obtain ⟨c0Hq, c1Hq, c2Hq, c3Hq, -, -, -, -⟩ := Hq.out.four
    go_wp2_with fail
    refine (NQ.out.nsame).mono ?_
    rintro e w12 ⟨rfl, hb12⟩
    clear c0H0 c1H0 c2H0 c3H0 c0H1 c1H1 c2H1 c3H1 c0Hi c1Hi c2Hi c3Hi c0Hq c1Hq c2Hq c3Hq
    have k12 := bst k11 hb12 (Nat.le_refl _)
    replace H0 := Lib.hid (H0.out.below hb12 H0.out.lt)
    replace H1 := Lib.hid (H1.out.below hb12 H1.out.lt)
    replace Hi := Lib.hid (Hi.out.below hb12 Hi.out.lt)
    replace Hq := Lib.hid (Hq.out.below hb12 Hq.out.lt)
    replace NI := Lib.hid (NI.out.next hb12)
    replace NQ := Lib.hid (NQ.out.next hb12)
    clear k11
    clear hb12
    obtain ⟨c0H0, c1H0, c2H0, c3H0, -, -, -, -⟩ := H0.out.four
    obtain ⟨c0H1, c1H1, c2H1, c3H1, -, -, -, -⟩ := H1.out.four
    obtain ⟨c0Hi, c1Hi, c2Hi, c3Hi, -, -, -, -⟩ := Hi.out.four
    obtain ⟨c0Hq, c1Hq, c2Hq, c3Hq, -, -, -, -⟩ := Hq.out.four
    go_wp2_with fail
    refine (lives05 (TT.out.next k12)).mono ?_
    rintro e w13 ⟨rfl, hb13⟩
    clear c0H0 c1H0 c2H0 c3H0 c0H1 c1H1 c2H1 c3H1 c0Hi c1Hi c2Hi c3Hi c0Hq c1Hq c2Hq c3Hq
    have k13 := bst k12 hb13 (Nat.le_refl _)
    replace H0 := Lib.hid (H0.out.below hb13 H0.out.lt)
    replace H1 := Lib.hid (H1.out.below hb13 H1.out.lt)
    replace Hi := Lib.hid (Hi.out.below hb13 Hi.out.lt)
    replace Hq := Lib.hid (Hq.out.below hb13 Hq.out.lt)
    replace NI := Lib.hid (NI.out.next hb13)
    replace NQ := Lib.hid (NQ.out.next hb13)
    clear k12
    clear hb13
    obtain ⟨c0H0, c1H0, c2H0, c3H0, -, -, -, -⟩ := H0.out.four
    obtain ⟨c0H1, c1H1, c2H1, c3H1, -, -, -, -⟩ := H1.out.four
    obtain ⟨c0Hi, c1Hi, c2Hi, c3Hi, -, -, -, -⟩ := Hi.out.four
    obtain ⟨c0Hq, c1Hq, c2Hq, c3Hq, -, -, -, -⟩ := Hq.out.four
    go_wp2_with fail
    go_ret
    exact ⟨rfl, k13⟩
set_option maxHeartbeats 12800000 in
set_option maxRecDepth 20000 in
theorem quot_nz_nz (N : Nat) (hN : N ≤ 1048576) (hN1 : 1 ≤ N) (hT : Tb w) (h : QV B w a0 a1 a2 a3 q N) (hq : q ≠ 0) (h' : QV B2 w b0 b1 b2 b3 r N) (hr : r ≠ 0) : Calls Tryz.prog 5 #[.agg #[a0, a1, a2, a3], .agg #[b0, b1, b2, b3]] w fun e w' => e = .returned (.bool true) ∧ Below w.heap.size w w' := by
  have QA := Lib.hid h
  obtain ⟨z, y, h9, hy, -⟩ := h
  have FA := Lib.hid h9
  have dy : decide (y ≠ 0) = true := decide_eq_true hy
  clear h9 hy
  have QC := Lib.hid h'
  obtain ⟨x, v, h9, hv, -⟩ := h'
  have FC := Lib.hid h9
  have dv : decide (v ≠ 0) = true := decide_eq_true hv
  clear h9 hv
  have sq := num_sign_ne hq
  obtain ⟨sg, hsg⟩ : ∃ s, s = q.num.sign := ⟨_, rfl⟩
  rw [← hsg] at sq
  have HQ := Lib.hid hq
  have SGQ := Lib.hid hsg
  clear hq hsg
  have sr := num_sign_ne hr
  obtain ⟨sh, hsh⟩ : ∃ s, s = r.num.sign := ⟨_, rfl⟩
  rw [← hsh] at sr
  have HR := Lib.hid hr
  have SGR := Lib.hid hsh
  clear hr hsh
  have TT := Lib.hid hT
  clear hT
  obtain ⟨b0', b1'⟩ := blk_rr w a0 a1 a2 a3 b0 b1 b2 b3
  have k0 := bel_two w (.cells #[a0, a1, a2, a3] 27) (.cells #[b0, b1, b2, b3] 27)
  go_enter Tryz.func5, Tryz.ntmps5
  go_upto_region 1 with fail
  obtain ⟨w0, hw0⟩ : ∃ v, v = (w.alloc (.cells #[a0, a1, a2, a3] 27)).alloc (.cells #[b0, b1, b2, b3] 27) := ⟨_, rfl⟩
  rw [← hw0] at k0 b0' b1' ⊢
  clear hw0
  have H0 := Lib.hid b0'
  have H1 := Lib.hid b1'
  clear b0' b1'
  obtain ⟨c0H0, c1H0, c2H0, c3H0, -, -, -, -⟩ := H0.out.four
  obtain ⟨c0H1, c1H1, c2H1, c3H1, -, -, -, -⟩ := H1.out.four
  go_wp2_with fail
  refine ((QA.out.next k0).qinv HQ.out hN1 (by omega) (TT.out.next k0)).mono ?_
  rintro e w1 ⟨s0, s1, s2, s3, s4, s5, s6, s7, rfl, nn, hb1⟩
  clear c0H0 c1H0 c2H0 c3H0 c0H1 c1H1 c2H1 c3H1
  have k1 := bst k0 hb1 (Nat.le_refl _)
  replace H0 := Lib.hid (H0.out.below hb1 H0.out.lt)
  replace H1 := Lib.hid (H1.out.below hb1 H1.out.lt)
  clear k0
  clear hb1
  have NI := Lib.hid nn
  clear nn
  go_upto_region 2 with fail
  obtain ⟨v2, hv⟩ : ∃ v, v = w1.alloc (.cells #[.bool s0, .slice s1 s2 s3, .bool s4, .slice s5 s6 s7] 27) := ⟨_, rfl⟩
  rw [← hv]
  have bn : Blk v2 w1.heap.size 27 [.bool s0, .slice s1 s2 s3, .bool s4, .slice s5 s6 s7] := by rw [hv]; exact Blk.new_ rfl
  have jn : Below w1.heap.size w1 v2 := by rw [hv]; exact bel_one _ _
  obtain ⟨gi, hg⟩ : ∃ g, g = w1.heap.size := ⟨_, rfl⟩
  rw [← hg] at bn ⊢
  clear hg hv
  have Hi := Lib.hid bn
  clear bn
  have k2 := bst k1 jn (Nat.le_refl _)
  replace H0 := Lib.hid (H0.out.below jn H0.out.lt)
  replace H1 := Lib.hid (H1.out.below jn H1.out.lt)
  replace NI := Lib.hid (NI.out.next jn)
  clear k1
  clear jn
  obtain ⟨c0H0, c1H0, c2H0, c3H0, -, -, -, -⟩ := H0.out.four
  obtain ⟨c0H1, c1H1, c2H1, c3H1, -, -, -, -⟩ := H1.out.four
  obtain ⟨c0Hi, c1Hi, c2Hi, c3Hi, -, -, -, -⟩ := Hi.out.four
  go_wp2_with fail
  refine ((QA.out.next k2).qquo (QC.out.next k2) HR.out (by omega) (TT.out.next k2)).mono ?_
  rintro e w3 ⟨t0, t1, t2, t3, t4, t5, t6, t7, rfl, nn, hb3⟩
  clear c0H0 c1H0 c2H0 c3H0 c0H1 c1H1 c2H1 c3H1 c0Hi c1Hi c2Hi c3Hi
  have k3 := bst k2 hb3 (Nat.le_refl _)
  replace H0 := Lib.hid (H0.out.below hb3 H0.out.lt)
  replace H1 := Lib.hid (H1.out.below hb3 H1.out.lt)
  replace Hi := Lib.hid (Hi.out.below hb3 Hi.out.lt)
  replace NI := Lib.hid (NI.out.next hb3)
  clear k2
  clear hb3
  have NQ := Lib.hid nn
  clear nn
  go_upto_region 3 with fail
  obtain ⟨v4, hv⟩ : ∃ v, v = w3.alloc (.cells #[.bool t0, .slice t1 t2 t3, .bool t4, .slice t5 t6 t7] 27) := ⟨_, rfl⟩
  rw [← hv]
  have bn : Blk v4 w3.heap.size 27 [.bool t0, .slice t1 t2 t3, .bool t4, .slice t5 t6 t7] := by rw [hv]; exact Blk.new_ rfl
  have jn : Below w3.heap.size w3 v4 := by rw [hv]; exact bel_one _ _
  obtain ⟨gq, hg⟩ : ∃ g, g = w3.heap.size := ⟨_, rfl⟩
  rw [← hg] at bn ⊢
  clear hg hv
  have Hq := Lib.hid bn
  clear bn
  have k4 := bst k3 jn (Nat.le_refl _)
  replace H0 := Lib.hid (H0.out.below jn H0.out.lt)
  replace H1 := Lib.hid (H1.out.below jn H1.out.lt)
  replace Hi := Lib.hid (Hi.out.below jn Hi.out.lt)
  replace NI := Lib.hid (NI.out.next jn)
  replace NQ := Lib.hid (NQ.out.next jn)
  clear k3
  clear jn
  obtain ⟨c0H0, c1H0, c2H0, c3H0, -, -, -, -⟩ := H0.out.four
  obtain ⟨c0H1, c1H1, c2H1, c3H1, -, -, -, -⟩ := H1.out.four
  obtain ⟨c0Hi, c1Hi, c2Hi, c3Hi, -, -, -, -⟩ := Hi.out.four
  obtain ⟨c0Hq, c1Hq, c2Hq, c3Hq, -, -, -, -⟩ := Hq.out.four
  go_wp2_with fail
  refine ((may_yes (FA.out.next k4) dy (by omega))).mono ?_
  rintro e w5 ⟨rfl, hb5⟩
  clear c0H0 c1H0 c2H0 c3H0 c0H1 c1H1 c2H1 c3H1 c0Hi c1Hi c2Hi c3Hi c0Hq c1Hq c2Hq c3Hq
  have k5 := bst k4 hb5 (Nat.le_refl _)
  replace H0 := Lib.hid (H0.out.below hb5 H0.out.lt)
  replace H1 := Lib.hid (H1.out.below hb5 H1.out.lt)
  replace Hi := Lib.hid (Hi.out.below hb5 Hi.out.lt)
  replace Hq := Lib.hid (Hq.out.below hb5 Hq.out.lt)
  replace NI := Lib.hid (NI.out.next hb5)
  replace NQ := Lib.hid (NQ.out.next hb5)
  clear k4
  clear hb5
  obtain ⟨c0H0, c1H0, c2H0, c3H0, -, -, -, -⟩ := H0.out.four
  obtain ⟨c0H1, c1H1, c2H1, c3H1, -, -, -, -⟩ := H1.out.four
  obtain ⟨c0Hi, c1Hi, c2Hi, c3Hi, -, -, -, -⟩ := Hi.out.four
  obtain ⟨c0Hq, c1Hq, c2Hq, c3Hq, -, -, -, -⟩ := Hq.out.four
  go_wp2_with fail
  refine ((sgn_to ((QA.out.next k5).rqsign (by omega)) SGQ.out)).mono ?_
  rintro e w6 ⟨rfl, hb6⟩
  clear c0H0 c1H0 c2H0 c3H0 c0H1 c1H1 c2H1 c3H1 c0Hi c1Hi c2Hi c3Hi c0Hq c1Hq c2Hq c3Hq
  have k6 := bst k5 hb6 (Nat.le_refl _)
  replace H0 := Lib.hid (H0.out.below hb6 H0.out.lt)
  replace H1 := Lib.hid (H1.out.below hb6 H1.out.lt)
  replace Hi := Lib.hid (Hi.out.below hb6 Hi.out.lt)
  replace Hq := Lib.hid (Hq.out.below hb6 Hq.out.lt)
  replace NI := Lib.hid (NI.out.next hb6)
  replace NQ := Lib.hid (NQ.out.next hb6)
  clear k5
  clear hb6
  obtain ⟨c0H0, c1H0, c2H0, c3H0, -, -, -, -⟩ := H0.out.four
  obtain ⟨c0H1, c1H1, c2H1, c3H1, -, -, -, -⟩ := H1.out.four
  obtain ⟨c0Hi, c1Hi, c2Hi, c3Hi, -, -, -, -⟩ := Hi.out.four
  obtain ⟨c0Hq, c1Hq, c2Hq, c3Hq, -, -, -, -⟩ := Hq.out.four
  go_wp2_with fail
  refine ((may_yes (FA.out.next k6) dy (by omega))).mono ?_
  rintro e w7 ⟨rfl, hb7⟩
  clear c0H0 c1H0 c2H0 c3H0 c0H1 c1H1 c2H1 c3H1 c0Hi c1Hi c2Hi c3Hi c0Hq c1Hq c2Hq c3Hq
  have k7 := bst k6 hb7 (Nat.le_refl _)
  replace H0 := Lib.hid (H0.out.below hb7 H0.out.lt)
  replace H1 := Lib.hid (H1.out.below hb7 H1.out.lt)
  replace Hi := Lib.hid (Hi.out.below hb7 Hi.out.lt)
  replace Hq := Lib.hid (Hq.out.below hb7 Hq.out.lt)
  replace NI := Lib.hid (NI.out.next hb7)
  replace NQ := Lib.hid (NQ.out.next hb7)
  clear k6
  clear hb7
  obtain ⟨c0H0, c1H0, c2H0, c3H0, -, -, -, -⟩ := H0.out.four
  obtain ⟨c0H1, c1H1, c2H1, c3H1, -, -, -, -⟩ := H1.out.four
  obtain ⟨c0Hi, c1Hi, c2Hi, c3Hi, -, -, -, -⟩ := Hi.out.four
  obtain ⟨c0Hq, c1Hq, c2Hq, c3Hq, -, -, -, -⟩ := Hq.out.four
  go_upto_region 9 with fail
  have HV9 := Lib.hid QA.out.qb
  go_cut [54] (fun u W => u = .bool false ∧ Below w7.heap.size w7 W)
  case first =>
    go_region_held3 (fun W => W.cell? ⟨w.heap.size, 0, none⟩ = some a0 ∧ W.cell? ⟨w.heap.size, 1, none⟩ = some a1 ∧ W.cell? ⟨w.heap.size, 2, none⟩ = some a2 ∧ W.cell? ⟨w.heap.size, 3, none⟩ = some a3 ∧ W.cell? ⟨gi, 0, none⟩ = some (.bool s0) ∧ W.cell? ⟨gi, 1, none⟩ = some (.slice s1 s2 s3) ∧ W.cell? ⟨gi, 2, none⟩ = some (.bool s4) ∧ W.cell? ⟨gi, 3, none⟩ = some (.slice s5 s6 s7)) (go_keep) (first
      | (go_at_call 38; (with_reducible refine ((QA.out.next (bst k7 (by repeat (first | exact Below.refl _ _ | apply bdw | (refine bdn ?_ _) | (refine bal ?_ (Nat.le_refl _) _))) (Nat.le_refl _))).rqinv (by omega) HQ.out).mono ?_); rintro e wo ⟨u0, u1, u2, u3, u4, u5, u6, u7, rfl, no, hbo⟩; have mo : Below w7.heap.size w7 wo := bst (by repeat (first | exact Below.refl _ _ | apply bdw | (refine bdn ?_ _) | (refine bal ?_ (Nat.le_refl _) _))) hbo (Nat.le_refl _); obtain ⟨x0o, y0o, z0o, v0o, f0o, g0o, h0o, j0o⟩ := (H0.out.below mo H0.out.lt).four; obtain ⟨x1o, y1o, z1o, v1o, f1o, g1o, h1o, j1o⟩ := (H1.out.below mo H1.out.lt).four; obtain ⟨x2o, y2o, z2o, v2o, f2o, g2o, h2o, j2o⟩ := (Hi.out.below mo Hi.out.lt).four; obtain ⟨x3o, y3o, z3o, v3o, f3o, g3o, h3o, j3o⟩ := (Hq.out.below mo Hq.out.lt).four)
      | (go_at_call 19; (with_reducible refine ((NI.out.next (by repeat (first | exact Below.refl _ _ | exact mo | apply bdw | (refine bdn ?_ _) | (refine bal ?_ (Nat.le_refl _) _)))).qsame (no.next (by repeat (first | exact Below.refl _ _ | apply bdw | (refine bdn ?_ _) | (refine bal ?_ (Nat.le_refl _) _)))) (HV9.out.inv HQ.out) (by omega)).mono ?_); rintro e wp ⟨rfl, hbp⟩; have mp : Below w7.heap.size w7 wp := bst (by repeat (first | exact Below.refl _ _ | exact mo | apply bdw | (refine bdn ?_ _) | (refine bal ?_ (Nat.le_refl _) _))) hbp (Nat.le_refl _); have iop : Below wo.heap.size wo wp := bst (by repeat (first | exact Below.refl _ _ | apply bdw | (refine bdn ?_ _) | (refine bal ?_ (Nat.le_refl _) _))) hbp (Nat.le_refl _); obtain ⟨x0p, y0p, z0p, v0p, f0p, g0p, h0p, j0p⟩ := (H0.out.below mp H0.out.lt).four; obtain ⟨x1p, y1p, z1p, v1p, f1p, g1p, h1p, j1p⟩ := (H1.out.below mp H1.out.lt).four; obtain ⟨x2p, y2p, z2p, v2p, f2p, g2p, h2p, j2p⟩ := (Hi.out.below mp Hi.out.lt).four; obtain ⟨x3p, y3p, z3p, v3p, f3p, g3p, h3p, j3p⟩ := (Hq.out.below mp Hq.out.lt).four))
    all_goals
      go_wp2_with fail
      go_meet
      exact ⟨rfl, mp⟩
  case rest =>
    clear c0H0 c1H0 c2H0 c3H0 c0H1 c1H1 c2H1 c3H1 c0Hi c1Hi c2Hi c3Hi c0Hq c1Hq c2Hq c3Hq
    obtain ⟨rfl, hbc⟩ := hcut
    obtain ⟨w8, rfl⟩ : ∃ W : World, W = wc := ⟨_, rfl⟩
    have k8 := bst k7 hbc (Nat.le_refl _)
    replace H0 := Lib.hid (H0.out.below hbc H0.out.lt)
    replace H1 := Lib.hid (H1.out.below hbc H1.out.lt)
    replace Hi := Lib.hid (Hi.out.below hbc Hi.out.lt)
    replace Hq := Lib.hid (Hq.out.below hbc Hq.out.lt)
    replace NI := Lib.hid (NI.out.next hbc)
    replace NQ := Lib.hid (NQ.out.next hbc)
    clear k7
    clear hbc HV9
    obtain ⟨c0H0, c1H0, c2H0, c3H0, -, -, -, -⟩ := H0.out.four
    obtain ⟨c0H1, c1H1, c2H1, c3H1, -, -, -, -⟩ := H1.out.four
    obtain ⟨c0Hi, c1Hi, c2Hi, c3Hi, -, -, -, -⟩ := Hi.out.four
    obtain ⟨c0Hq, c1Hq, c2Hq, c3Hq, -, -, -, -⟩ := Hq.out.four
    go_wp2_with fail
    refine ((may_yes (FA.out.next k8) dy (by omega))).mono ?_
    rintro e w9 ⟨rfl, hb9⟩
    clear c0H0 c1H0 c2H0 c3H0 c0H1 c1H1 c2H1 c3H1 c0Hi c1Hi c2Hi c3Hi c0Hq c1Hq c2Hq c3Hq
    have k9 := bst k8 hb9 (Nat.le_refl _)
    replace H0 := Lib.hid (H0.out.below hb9 H0.out.lt)
    replace H1 := Lib.hid (H1.out.below hb9 H1.out.lt)
    replace Hi := Lib.hid (Hi.out.below hb9 Hi.out.lt)
    replace Hq := Lib.hid (Hq.out.below hb9 Hq.out.lt)
    replace NI := Lib.hid (NI.out.next hb9)
    replace NQ := Lib.hid (NQ.out.next hb9)
    clear k8
    clear hb9
    obtain ⟨c0H0, c1H0, c2H0, c3H0, -, -, -, -⟩ := H0.out.four
    obtain ⟨c0H1, c1H1, c2H1, c3H1, -, -, -, -⟩ := H1.out.four
    obtain ⟨c0Hi, c1Hi, c2Hi, c3Hi, -, -, -, -⟩ := Hi.out.four
    obtain ⟨c0Hq, c1Hq, c2Hq, c3Hq, -, -, -, -⟩ := Hq.out.four
    go_wp2_with fail
    refine ((may_yes (FC.out.next k9) dv (by omega))).mono ?_
    rintro e w10 ⟨rfl, hb10⟩
    clear c0H0 c1H0 c2H0 c3H0 c0H1 c1H1 c2H1 c3H1 c0Hi c1Hi c2Hi c3Hi c0Hq c1Hq c2Hq c3Hq
    have k10 := bst k9 hb10 (Nat.le_refl _)
    replace H0 := Lib.hid (H0.out.below hb10 H0.out.lt)
    replace H1 := Lib.hid (H1.out.below hb10 H1.out.lt)
    replace Hi := Lib.hid (Hi.out.below hb10 Hi.out.lt)
    replace Hq := Lib.hid (Hq.out.below hb10 Hq.out.lt)
    replace NI := Lib.hid (NI.out.next hb10)
    replace NQ := Lib.hid (NQ.out.next hb10)
    clear k9
    clear hb10
    obtain ⟨c0H0, c1H0, c2H0, c3H0, -, -, -, -⟩ := H0.out.four
    obtain ⟨c0H1, c1H1, c2H1, c3H1, -, -, -, -⟩ := H1.out.four
    obtain ⟨c0Hi, c1Hi, c2Hi, c3Hi, -, -, -, -⟩ := Hi.out.four
    obtain ⟨c0Hq, c1Hq, c2Hq, c3Hq, -, -, -, -⟩ := Hq.out.four
    go_wp2_with fail
    refine ((sgn_to ((QC.out.next k10).rqsign (by omega)) SGR.out)).mono ?_
    rintro e w11 ⟨rfl, hb11⟩
    clear c0H0 c1H0 c2H0 c3H0 c0H1 c1H1 c2H1 c3H1 c0Hi c1Hi c2Hi c3Hi c0Hq c1Hq c2Hq c3Hq
    have k11 := bst k10 hb11 (Nat.le_refl _)
    replace H0 := Lib.hid (H0.out.below hb11 H0.out.lt)
    replace H1 := Lib.hid (H1.out.below hb11 H1.out.lt)
    replace Hi := Lib.hid (Hi.out.below hb11 Hi.out.lt)
    replace Hq := Lib.hid (Hq.out.below hb11 Hq.out.lt)
    replace NI := Lib.hid (NI.out.next hb11)
    replace NQ := Lib.hid (NQ.out.next hb11)
    clear k10
    clear hb11
    obtain ⟨c0H0, c1H0, c2H0, c3H0, -, -, -, -⟩ := H0.out.four
    obtain ⟨c0H1, c1H1, c2H1, c3H1, -, -, -, -⟩ := H1.out.four
    obtain ⟨c0Hi, c1Hi, c2Hi, c3Hi, -, -, -, -⟩ := Hi.out.four
    obtain ⟨c0Hq, c1Hq, c2Hq, c3Hq, -, -, -, -⟩ := Hq.out.four
    go_upto_region 15 with fail
    have HV8 := Lib.hid (qb_quo QA.out.qb QC.out.qb HR.out)
    go_region_held3 (fun W => W.cell? ⟨w.heap.size, 0, none⟩ = some a0 ∧ W.cell? ⟨w.heap.size, 1, none⟩ = some a1 ∧ W.cell? ⟨w.heap.size, 2, none⟩ = some a2 ∧ W.cell? ⟨w.heap.size, 3, none⟩ = some a3 ∧ W.cell? ⟨w.heap.size + 1, 0, none⟩ = some b0 ∧ W.cell? ⟨w.heap.size + 1, 1, none⟩ = some b1 ∧ W.cell? ⟨w.heap.size + 1, 2, none⟩ = some b2 ∧ W.cell? ⟨w.heap.size + 1, 3, none⟩ = some b3 ∧ W.cell? ⟨gq, 0, none⟩ = some (.bool t0) ∧ W.cell? ⟨gq, 1, none⟩ = some (.slice t1 t2 t3) ∧ W.cell? ⟨gq, 2, none⟩ = some (.bool t4) ∧ W.cell? ⟨gq, 3, none⟩ = some (.slice t5 t6 t7)) (go_keep) (first
      | (go_at_call 39; (with_reducible refine ((QA.out.next (bst k11 (by repeat (first | exact Below.refl _ _ | apply bdw | (refine bdn ?_ _) | (refine bal ?_ (Nat.le_refl _) _))) (Nat.le_refl _))).rqquo (QC.out.next (bst k11 (by repeat (first | exact Below.refl _ _ | apply bdw | (refine bdn ?_ _) | (refine bal ?_ (Nat.le_refl _) _))) (Nat.le_refl _))) (by omega) HR.out).mono ?_); rintro e wo ⟨u0, u1, u2, u3, u4, u5, u6, u7, rfl, no, hbo⟩; have mo : Below w11.heap.size w11 wo := bst (by repeat (first | exact Below.refl _ _ | apply bdw | (refine bdn ?_ _) | (refine bal ?_ (Nat.le_refl _) _))) hbo (Nat.le_refl _); obtain ⟨x0o, y0o, z0o, v0o, f0o, g0o, h0o, j0o⟩ := (H0.out.below mo H0.out.lt).four; obtain ⟨x1o, y1o, z1o, v1o, f1o, g1o, h1o, j1o⟩ := (H1.out.below mo H1.out.lt).four; obtain ⟨x2o, y2o, z2o, v2o, f2o, g2o, h2o, j2o⟩ := (Hi.out.below mo Hi.out.lt).four; obtain ⟨x3o, y3o, z3o, v3o, f3o, g3o, h3o, j3o⟩ := (Hq.out.below mo Hq.out.lt).four)
      | (go_at_call 19; (with_reducible refine ((NQ.out.next (by repeat (first | exact Below.refl _ _ | exact mo | apply bdw | (refine bdn ?_ _) | (refine bal ?_ (Nat.le_refl _) _)))).qsame (no.next (by repeat (first | exact Below.refl _ _ | apply bdw | (refine bdn ?_ _) | (refine bal ?_ (Nat.le_refl _) _)))) HV8.out (by omega)).mono ?_); rintro e wp ⟨rfl, hbp⟩; have mp : Below w11.heap.size w11 wp := bst (by repeat (first | exact Below.refl _ _ | exact mo | apply bdw | (refine bdn ?_ _) | (refine bal ?_ (Nat.le_refl _) _))) hbp (Nat.le_refl _); have iop : Below wo.heap.size wo wp := bst (by repeat (first | exact Below.refl _ _ | apply bdw | (refine bdn ?_ _) | (refine bal ?_ (Nat.le_refl _) _))) hbp (Nat.le_refl _); obtain ⟨x0p, y0p, z0p, v0p, f0p, g0p, h0p, j0p⟩ := (H0.out.below mp H0.out.lt).four; obtain ⟨x1p, y1p, z1p, v1p, f1p, g1p, h1p, j1p⟩ := (H1.out.below mp H1.out.lt).four; obtain ⟨x2p, y2p, z2p, v2p, f2p, g2p, h2p, j2p⟩ := (Hi.out.below mp Hi.out.lt).four; obtain ⟨x3p, y3p, z3p, v3p, f3p, g3p, h3p, j3p⟩ := (Hq.out.below mp Hq.out.lt).four)
      | (go_at_call 25; (with_reducible refine (lives05 (TT.out.next (bst k11 (by repeat (first | exact Below.refl _ _ | exact mo | exact mp | apply bdw | (refine bdn ?_ _) | (refine bal ?_ (Nat.le_refl _) _))) (Nat.le_refl _)))).mono ?_); rintro e wl ⟨rfl, hbl⟩; have ml : Below w11.heap.size w11 wl := bst (by repeat (first | exact Below.refl _ _ | exact mo | exact mp | apply bdw | (refine bdn ?_ _) | (refine bal ?_ (Nat.le_refl _) _))) hbl (Nat.le_refl _); have iol : Below wo.heap.size wo wl := bst (by repeat (first | exact Below.refl _ _ | exact iop | apply bdw | (refine bdn ?_ _) | (refine bal ?_ (Nat.le_refl _) _))) hbl (Nat.le_refl _); have ipl : Below wp.heap.size wp wl := bst (by repeat (first | exact Below.refl _ _ | apply bdw | (refine bdn ?_ _) | (refine bal ?_ (Nat.le_refl _) _))) hbl (Nat.le_refl _); obtain ⟨x0l, y0l, z0l, v0l, f0l, g0l, h0l, j0l⟩ := (H0.out.below ml H0.out.lt).four; obtain ⟨x1l, y1l, z1l, v1l, f1l, g1l, h1l, j1l⟩ := (H1.out.below ml H1.out.lt).four; obtain ⟨x2l, y2l, z2l, v2l, f2l, g2l, h2l, j2l⟩ := (Hi.out.below ml Hi.out.lt).four; obtain ⟨x3l, y3l, z3l, v3l, f3l, g3l, h3l, j3l⟩ := (Hq.out.below ml Hq.out.lt).four))
    all_goals
      go_wp2_with fail
      go_ret
      exact ⟨rfl, bst k11 ml (Nat.le_refl _)⟩
theorem quotients_walk (N : Nat) (hN : N ≤ 1048576) (hN1 : 1 ≤ N) (hT : Tb w) (h : FV B w a0 a1 a2 a3 z y N) (h' : FV B2 w b0 b1 b2 b3 x v N) : Calls Tryz.prog 5 #[.agg #[a0, a1, a2, a3], .agg #[b0, b1, b2, b3]] w fun e w' => e = .returned (.bool true) ∧ Below w.heap.size w w' := by
  by_cases hy : y = 0
  · subst hy; exact quot_bad_any N hN hN1 hT h h'
  · have qa := h.qv hy
    by_cases hv : v = 0
    · subst hv
      by_cases hz : Rat.divInt z y = 0
      · rw [hz] at qa; exact quot_zero_bad N hN hN1 hT qa h'
      · exact quot_nz_bad N hN hN1 hT qa hz h'
    · have qc := h'.qv hv
      by_cases hz : Rat.divInt z y = 0 <;> by_cases hx : Rat.divInt x v = 0
      · rw [hz] at qa; rw [hx] at qc; exact quot_zero_zero N hN hN1 hT qa qc
      · rw [hz] at qa; exact quot_zero_nz N hN hN1 hT qa qc hx
      · rw [hx] at qc; exact quot_nz_zero N hN hN1 hT qa hz qc
      · exact quot_nz_nz N hN hN1 hT qa hz qc hx
end
end Go.Proofs.YtbcphifjcaobfaaGreatDoor
