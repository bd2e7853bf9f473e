/- The walk of the law RatSums. -/
import Derived.Test.YtbcphifjcaobfaaGreatDoorPkRs39
namespace Go.Proofs.YtbcphifjcaobfaaGreatDoor
open Go.RowKit
section
variable {w : World} {B B2 B3 B4 : Nat} {K N : Nat} {z y x v n m : Int} {q r : Rat} {ga gb gc gd : Bool} {xa xb xc xd : List Nat} {a0 a4 : Bool} {a1 a5 : Option Addr} {a2 a3 a6 a7 : Nat} {b0 b4 : Bool} {b1 b5 : Option Addr} {b2 b3 b6 b7 : Nat}
set_option maxHeartbeats 25600000 in
set_option maxRecDepth 40000 in
theorem sums_good_good (N : Nat) (hN : N ≤ 1048576) (hN1 : 1 ≤ N) (hT : Tb w) (h : FX w.heap.size w (.bool a0) (.slice a1 a2 a3) (.bool a4) (.slice a5 a6 a7) ga xa z gb xb y N) (h' : FX w.heap.size w (.bool b0) (.slice b1 b2 b3) (.bool b4) (.slice b5 b6 b7) gc xc x gd xd v N) (hy : y ≠ 0) (hv : v ≠ 0) : Calls Tryz.prog 4 #[.agg #[.bool a0, .slice a1 a2 a3, .bool a4, .slice a5 a6 a7], .agg #[.bool b0, .slice b1 b2 b3, .bool b4, .slice b5 b6 b7]] w fun e w' => e = .returned (.bool true) ∧ Below w.heap.size w w' := by
 obtain ⟨q, hq⟩ : ∃ q : Rat, q = (Rat.divInt z y) := ⟨_, rfl⟩
 obtain ⟨r, hr⟩ : ∃ q : Rat, q = (Rat.divInt x v) := ⟨_, rfl⟩
 have SQ : Hid (someQ z y = q) := by show _ = _; unfold someQ; rw [hq]; exact if_neg hy
 have SR : Hid (someQ x v = r) := by show _ = _; unfold someQ; rw [hr]; exact if_neg hv
 have HY := hi9 hy
 have HQ := hi9 hq.symm
 have dy : decide (y ≠ 0) = true := decide_eq_true hy
 have HV := hi9 hv
 have HR := hi9 hr.symm
 have dv : decide (v ≠ 0) = true := decide_eq_true hv
 have XA := hi9 h
 have XC := hi9 h'
 have TT := hi9 hT
 clear h h' hT hq hr hy hv
 obtain ⟨b0', b1'⟩ := blk_rr w (.bool a0) (.slice a1 a2 a3) (.bool a4) (.slice a5 a6 a7) (.bool b0) (.slice b1 b2 b3) (.bool b4) (.slice b5 b6 b7)
 have k0 := bel_two w (.cells #[.bool a0, .slice a1 a2 a3, .bool a4, .slice a5 a6 a7] 27) (.cells #[.bool b0, .slice b1 b2 b3, .bool b4, .slice b5 b6 b7] 27)
 go_enter Tryz.func4, Tryz.ntmps4
 go_upto_region 1 with fail
 obtain ⟨w0, hw0⟩ : ∃ v, v = (w.alloc (.cells #[.bool a0, .slice a1 a2 a3, .bool a4, .slice a5 a6 a7] 27)).alloc (.cells #[.bool b0, .slice b1 b2 b3, .bool b4, .slice b5 b6 b7] 27) := ⟨_, rfl⟩
 rw [← hw0] at k0 b0' b1' ⊢
 clear hw0
 have H0 := hi9 b0'
 have H1 := hi9 b1'
 clear b0' b1'
 have lt0 := H0.out.lt
 have lt1 := H1.out.lt
 refine region_facts_tail 6 [SP.is (.agg #[.bool a0, .slice a1 a2 a3, .bool a4, .slice a5 a6 a7]), SP.copy N ga xa z gb xb y, SP.is (.agg #[.bool b0, .slice b1 b2 b3, .bool b4, .slice b5 b6 b7]), SP.copy N gc xc x gd xd v, SP.var w0.heap.size 27 [.bool false, .slice none 0 0, .bool false, .slice none 0 0], SP.var w0.heap.size 27 [.bool false, .slice none 0 0, .bool false, .slice none 0 0]] (by kernel_rfl) (by kernel_rfl) (And.intro ?_ (And.intro ?_ (And.intro ?_ (And.intro ?_ (And.intro ?_ (And.intro ?_ trivial)))))) ?_
 ·intro a W hb hold hdep K hK
  have b2 := tmp_eq (hold 2 rfl)
  obtain ⟨c0, c1, c2, c3, -, -, -, -⟩ := (H0.out.below hb H0.out.lt).four
  refine ob_plain rfl ?_
  go_simp
  exact hK _ W rfl nofun br9
 ·intro a W hb hold hdep K hK
  have e0 := tmp_eq (hdep 0 _ 21 rfl rfl rfl).1
  refine ob_plain rfl ?_
  go_simp
  refine ((XA.out.next (bst k0 hb nl9)).rcopy (by omega)).mono ?_
  rintro e w1 ⟨x0, x1, x2, x3, rfl, f9, hb1⟩
  exact hK _ w1 ⟨x0, x1, x2, x3, rfl, f9⟩ nofun hb1
 ·intro a W hb hold hdep K hK
  have b3 := tmp_eq (hold 3 rfl)
  obtain ⟨c0, c1, c2, c3, -, -, -, -⟩ := (H1.out.below hb H1.out.lt).four
  refine ob_plain rfl ?_
  go_simp
  exact hK _ W rfl nofun br9
 ·intro a W hb hold hdep K hK
  have e2 := tmp_eq (hdep 2 _ 23 rfl rfl rfl).1
  refine ob_plain rfl ?_
  go_simp
  refine ((XC.out.next (bst k0 hb nl9)).rcopy (by omega)).mono ?_
  rintro e w1 ⟨x0, x1, x2, x3, rfl, f9, hb1⟩
  exact hK _ w1 ⟨x0, x1, x2, x3, rfl, f9⟩ nofun hb1
 ·intro a W hb hold hdep K hK
  refine ob_plain rfl ?_
  go_simp
  exact hK _ _ (SP.new hb.size rfl) (fun _ => Nat.le_refl _) (bel_one _ _)
 ·intro a W hb hold hdep K hK
  refine ob_plain rfl ?_
  go_simp
  exact hK _ _ (SP.new hb.size rfl) (fun _ => Nat.le_refl _) (bel_one _ _)
 intro vls u1 hb hf hd
 have e0 : vls 0 = _ := hf 0 (by decide)
 obtain ⟨o1x1_0, o1x1_1, o1x1_2, o1x1_3, e1, f1⟩ := hf 1 (by decide)
 have e2 : vls 2 = _ := hf 2 (by decide)
 obtain ⟨o1x3_0, o1x3_1, o1x3_2, o1x3_3, e3, f3⟩ := hf 3 (by decide)
 obtain ⟨g4, e4, hg4, hk4⟩ := hf 4 (by decide)
 obtain ⟨g5, e5, hg5, hk5⟩ := hf 5 (by decide)
 have n4_5 := hd 4 5 (by decide) (by decide) (by decide) rfl rfl
 rw [e4, e5] at n4_5
 replace n4_5 : g4 ≠ g5 := n4_5
 have n5_4 := Ne.symm n4_5
 clear hf hd
 simp only [List.take_succ_cons, List.take_zero, List.drop_succ_cons, List.drop_zero, foldPut, Act.put, List.setIfInBounds_toArray, List.set_cons_zero, List.set_cons_succ, Nat.reduceAdd, e0, e1, e2, e3, e4, e5]
 clear e0 e1 e2 e3 e4 e5
 have ks := k0.size
 obtain ⟨z0, z1, z2, z3, y0, y1, y2, y3⟩ := hk4.four
 obtain ⟨z4, z5, z6, z7, y4, y5, y6, y7⟩ := hk5.four
 have k1 := bst k0 hb nl9
 replace H0 := hi9 (H0.out.below hb H0.out.lt)
 replace H1 := hi9 (H1.out.below hb H1.out.lt)
 clear k0
 clear hb
 go_upto_region 2 with fail
 obtain ⟨v2, hv⟩ : ∃ V, V = set4 (set4 u1 g4 (.bool ga) (.slice o1x1_0 xa.length o1x1_1) (.bool gb) (.slice o1x1_2 xb.length o1x1_3)) g5 (.bool gc) (.slice o1x3_0 xc.length o1x3_1) (.bool gd) (.slice o1x3_2 xd.length o1x3_3) := ⟨_, rfl⟩
 have hv2 := hv
 unfold set4 at hv2
 rw [← hv2]
 clear hv2 y0 y1 y2 y3 y4 y5 y6 y7 z0 z1 z2 z3 z4 z5 z6 z7
 have q1 := set4_far (set4_same (a := .bool ga) (b := .slice o1x1_0 xa.length o1x1_1) (c := .bool gb) (d := .slice o1x1_2 xb.length o1x1_3) hk4) n4_5 (a := .bool gc) (b := .slice o1x3_0 xc.length o1x3_1) (c := .bool gd) (d := .slice o1x3_2 xd.length o1x3_3)
 have hkf := set4_far hk5 n5_4 (a := .bool ga) (b := .slice o1x1_0 xa.length o1x1_1) (c := .bool gb) (d := .slice o1x1_2 xb.length o1x1_3)
 have q2 := set4_same hkf (a := .bool gc) (b := .slice o1x3_0 xc.length o1x3_1) (c := .bool gd) (d := .slice o1x3_2 xd.length o1x3_3)
 rw [← hv] at q1 q2
 have Hp := hi9 q1
 have Hq := hi9 q2
 have na : w.heap.size ≠ g4 := Nat.ne_of_lt (Nat.lt_of_lt_of_le (lt0) hg4)
 have nb : w.heap.size ≠ g5 := Nat.ne_of_lt (Nat.lt_of_lt_of_le (lt0) hg5)
 have q3 := set4_far (set4_far H0.out na (a := .bool ga) (b := .slice o1x1_0 xa.length o1x1_1) (c := .bool gb) (d := .slice o1x1_2 xb.length o1x1_3)) nb (a := .bool gc) (b := .slice o1x3_0 xc.length o1x3_1) (c := .bool gd) (d := .slice o1x3_2 xd.length o1x3_3)
 rw [← hv] at q3
 replace H0 := hi9 q3
 clear na nb q3
 have na : (w.heap.size + 1) ≠ g4 := Nat.ne_of_lt (Nat.lt_of_lt_of_le (lt1) hg4)
 have nb : (w.heap.size + 1) ≠ g5 := Nat.ne_of_lt (Nat.lt_of_lt_of_le (lt1) hg5)
 have q3 := set4_far (set4_far H1.out na (a := .bool ga) (b := .slice o1x1_0 xa.length o1x1_1) (c := .bool gb) (d := .slice o1x1_2 xb.length o1x1_3)) nb (a := .bool gc) (b := .slice o1x3_0 xc.length o1x3_1) (c := .bool gd) (d := .slice o1x3_2 xd.length o1x3_3)
 rw [← hv] at q3
 replace H1 := hi9 q3
 clear na nb q3
 have k2 : Below w.heap.size w v2 := by rw [hv]; exact set4_below (set4_below k1 (Nat.le_trans ks hg4)) (Nat.le_trans ks hg5)
 have XP : Hid (FX 0 v2 (.bool ga) (.slice o1x1_0 xa.length o1x1_1) (.bool gb) (.slice o1x1_2 xb.length o1x1_3) ga xa z gb xb y N) := by show FX 0 v2 (.bool ga) (.slice o1x1_0 xa.length o1x1_1) (.bool gb) (.slice o1x1_2 xb.length o1x1_3) ga xa z gb xb y N; rw [hv]; exact ((f1.var4 (Nat.zero_le _) hk4 _ _ _ _).var4 (Nat.zero_le _) hkf _ _ _ _)
 have XQ : Hid (FX 0 v2 (.bool gc) (.slice o1x3_0 xc.length o1x3_1) (.bool gd) (.slice o1x3_2 xd.length o1x3_3) gc xc x gd xd v N) := by show FX 0 v2 (.bool gc) (.slice o1x3_0 xc.length o1x3_1) (.bool gd) (.slice o1x3_2 xd.length o1x3_3) gc xc x gd xd v N; rw [hv]; exact ((f3.var4 (Nat.zero_le _) hk4 _ _ _ _).var4 (Nat.zero_le _) hkf _ _ _ _)
 clear hv q1 q2 hkf hk4 hk5 f1 f3 ks k1
 clear lt0 lt1 hg4 hg5 n4_5 n5_4
 obtain ⟨gp, hgp⟩ : ∃ g, g = g4 := ⟨_, rfl⟩
 obtain ⟨gq, hgq⟩ : ∃ g, g = g5 := ⟨_, rfl⟩
 rw [← hgp, ← hgq]
 rw [← hgp] at Hp
 rw [← hgq] at Hq
 clear hgp hgq
 have lt0 := H0.out.lt
 have lt1 := H1.out.lt
 have lt2 := Hp.out.lt
 have lt3 := Hq.out.lt
 refine region_facts_tail 6 [SP.is (.agg #[.bool a0, .slice a1 a2 a3, .bool a4, .slice a5 a6 a7]), SP.qv w.heap.size q N, SP.is (.agg #[.bool b0, .slice b1 b2 b3, .bool b4, .slice b5 b6 b7]), SP.qv w.heap.size r N, SP.var v2.heap.size 27 [.bool false, .slice none 0 0, .bool false, .slice none 0 0], SP.var v2.heap.size 27 [.bool false, .slice none 0 0, .bool false, .slice none 0 0]] (by kernel_rfl) (by kernel_rfl) (And.intro ?_ (And.intro ?_ (And.intro ?_ (And.intro ?_ (And.intro ?_ (And.intro ?_ trivial)))))) ?_
 ·intro a W hb hold hdep K hK
  have b2 := tmp_eq (hold 2 rfl)
  obtain ⟨c0, c1, c2, c3, -, -, -, -⟩ := (H0.out.below hb H0.out.lt).four
  refine ob_plain rfl ?_
  go_simp
  exact hK _ W rfl nofun br9
 ·intro a W hb hold hdep K hK
  have e0 := tmp_eq (hdep 0 _ 25 rfl rfl rfl).1
  refine ob_plain rfl ?_
  go_simp
  refine (some_q ((XA.out.next (bst k2 hb nl9)).fv) hN1 (by omega) SQ.out).mono ?_
  rintro e w1 ⟨x0, x1, x2, x3, x4, x5, x6, x7, rfl, f9, hb1⟩
  exact hK _ w1 ⟨x0, x1, x2, x3, x4, x5, x6, x7, rfl, f9⟩ nofun hb1
 ·intro a W hb hold hdep K hK
  have b3 := tmp_eq (hold 3 rfl)
  obtain ⟨c0, c1, c2, c3, -, -, -, -⟩ := (H1.out.below hb H1.out.lt).four
  refine ob_plain rfl ?_
  go_simp
  exact hK _ W rfl nofun br9
 ·intro a W hb hold hdep K hK
  have e2 := tmp_eq (hdep 2 _ 27 rfl rfl rfl).1
  refine ob_plain rfl ?_
  go_simp
  refine (some_q ((XC.out.next (bst k2 hb nl9)).fv) hN1 (by omega) SR.out).mono ?_
  rintro e w1 ⟨x0, x1, x2, x3, x4, x5, x6, x7, rfl, f9, hb1⟩
  exact hK _ w1 ⟨x0, x1, x2, x3, x4, x5, x6, x7, rfl, f9⟩ nofun hb1
 ·intro a W hb hold hdep K hK
  refine ob_plain rfl ?_
  go_simp
  exact hK _ _ (SP.new hb.size rfl) (fun _ => Nat.le_refl _) (bel_one _ _)
 ·intro a W hb hold hdep K hK
  refine ob_plain rfl ?_
  go_simp
  exact hK _ _ (SP.new hb.size rfl) (fun _ => Nat.le_refl _) (bel_one _ _)
 intro vls u2 hb hf hd
 have e0 : vls 0 = _ := hf 0 (by decide)
 obtain ⟨o2x1_0, o2x1_1, o2x1_2, o2x1_3, o2x1_4, o2x1_5, o2x1_6, o2x1_7, e1, f1⟩ := hf 1 (by decide)
 have e2 : vls 2 = _ := hf 2 (by decide)
 obtain ⟨o2x3_0, o2x3_1, o2x3_2, o2x3_3, o2x3_4, o2x3_5, o2x3_6, o2x3_7, e3, f3⟩ := hf 3 (by decide)
 obtain ⟨g4, e4, hg4, hk4⟩ := hf 4 (by decide)
 obtain ⟨g5, e5, hg5, hk5⟩ := hf 5 (by decide)
 have n4_5 := hd 4 5 (by decide) (by decide) (by decide) rfl rfl
 rw [e4, e5] at n4_5
 replace n4_5 : g4 ≠ g5 := n4_5
 have n5_4 := Ne.symm n4_5
 clear hf hd
 simp only [List.take_succ_cons, List.take_zero, List.drop_succ_cons, List.drop_zero, foldPut, Act.put, List.setIfInBounds_toArray, List.set_cons_zero, List.set_cons_succ, Nat.reduceAdd, e0, e1, e2, e3, e4, e5]
 clear e0 e1 e2 e3 e4 e5
 have ks := k2.size
 obtain ⟨z0, z1, z2, z3, y0, y1, y2, y3⟩ := hk4.four
 obtain ⟨z4, z5, z6, z7, y4, y5, y6, y7⟩ := hk5.four
 have k3 := bst k2 hb nl9
 replace H0 := hi9 (H0.out.below hb H0.out.lt)
 replace H1 := hi9 (H1.out.below hb H1.out.lt)
 replace Hp := hi9 (Hp.out.below hb Hp.out.lt)
 replace Hq := hi9 (Hq.out.below hb Hq.out.lt)
 replace XP := hi9 (XP.out.next hb)
 replace XQ := hi9 (XQ.out.next hb)
 clear k2
 clear hb
 go_upto_region 3 with fail
 obtain ⟨v4, hv⟩ : ∃ V, V = set4 (set4 u2 g4 (.bool o2x1_0) (.slice o2x1_1 o2x1_2 o2x1_3) (.bool o2x1_4) (.slice o2x1_5 o2x1_6 o2x1_7)) g5 (.bool o2x3_0) (.slice o2x3_1 o2x3_2 o2x3_3) (.bool o2x3_4) (.slice o2x3_5 o2x3_6 o2x3_7) := ⟨_, rfl⟩
 have hv2 := hv
 unfold set4 at hv2
 rw [← hv2]
 clear hv2 y0 y1 y2 y3 y4 y5 y6 y7 z0 z1 z2 z3 z4 z5 z6 z7
 have q1 := set4_far (set4_same (a := .bool o2x1_0) (b := .slice o2x1_1 o2x1_2 o2x1_3) (c := .bool o2x1_4) (d := .slice o2x1_5 o2x1_6 o2x1_7) hk4) n4_5 (a := .bool o2x3_0) (b := .slice o2x3_1 o2x3_2 o2x3_3) (c := .bool o2x3_4) (d := .slice o2x3_5 o2x3_6 o2x3_7)
 have hkf := set4_far hk5 n5_4 (a := .bool o2x1_0) (b := .slice o2x1_1 o2x1_2 o2x1_3) (c := .bool o2x1_4) (d := .slice o2x1_5 o2x1_6 o2x1_7)
 have q2 := set4_same hkf (a := .bool o2x3_0) (b := .slice o2x3_1 o2x3_2 o2x3_3) (c := .bool o2x3_4) (d := .slice o2x3_5 o2x3_6 o2x3_7)
 rw [← hv] at q1 q2
 have Hx := hi9 q1
 have Hy := hi9 q2
 have na : w.heap.size ≠ g4 := Nat.ne_of_lt (Nat.lt_of_lt_of_le (lt0) hg4)
 have nb : w.heap.size ≠ g5 := Nat.ne_of_lt (Nat.lt_of_lt_of_le (lt0) hg5)
 have q3 := set4_far (set4_far H0.out na (a := .bool o2x1_0) (b := .slice o2x1_1 o2x1_2 o2x1_3) (c := .bool o2x1_4) (d := .slice o2x1_5 o2x1_6 o2x1_7)) nb (a := .bool o2x3_0) (b := .slice o2x3_1 o2x3_2 o2x3_3) (c := .bool o2x3_4) (d := .slice o2x3_5 o2x3_6 o2x3_7)
 rw [← hv] at q3
 replace H0 := hi9 q3
 clear na nb q3
 have na : (w.heap.size + 1) ≠ g4 := Nat.ne_of_lt (Nat.lt_of_lt_of_le (lt1) hg4)
 have nb : (w.heap.size + 1) ≠ g5 := Nat.ne_of_lt (Nat.lt_of_lt_of_le (lt1) hg5)
 have q3 := set4_far (set4_far H1.out na (a := .bool o2x1_0) (b := .slice o2x1_1 o2x1_2 o2x1_3) (c := .bool o2x1_4) (d := .slice o2x1_5 o2x1_6 o2x1_7)) nb (a := .bool o2x3_0) (b := .slice o2x3_1 o2x3_2 o2x3_3) (c := .bool o2x3_4) (d := .slice o2x3_5 o2x3_6 o2x3_7)
 rw [← hv] at q3
 replace H1 := hi9 q3
 clear na nb q3
 have na : gp ≠ g4 := Nat.ne_of_lt (Nat.lt_of_lt_of_le (lt2) hg4)
 have nb : gp ≠ g5 := Nat.ne_of_lt (Nat.lt_of_lt_of_le (lt2) hg5)
 have q3 := set4_far (set4_far Hp.out na (a := .bool o2x1_0) (b := .slice o2x1_1 o2x1_2 o2x1_3) (c := .bool o2x1_4) (d := .slice o2x1_5 o2x1_6 o2x1_7)) nb (a := .bool o2x3_0) (b := .slice o2x3_1 o2x3_2 o2x3_3) (c := .bool o2x3_4) (d := .slice o2x3_5 o2x3_6 o2x3_7)
 rw [← hv] at q3
 replace Hp := hi9 q3
 clear na nb q3
 have na : gq ≠ g4 := Nat.ne_of_lt (Nat.lt_of_lt_of_le (lt3) hg4)
 have nb : gq ≠ g5 := Nat.ne_of_lt (Nat.lt_of_lt_of_le (lt3) hg5)
 have q3 := set4_far (set4_far Hq.out na (a := .bool o2x1_0) (b := .slice o2x1_1 o2x1_2 o2x1_3) (c := .bool o2x1_4) (d := .slice o2x1_5 o2x1_6 o2x1_7)) nb (a := .bool o2x3_0) (b := .slice o2x3_1 o2x3_2 o2x3_3) (c := .bool o2x3_4) (d := .slice o2x3_5 o2x3_6 o2x3_7)
 rw [← hv] at q3
 replace Hq := hi9 q3
 clear na nb q3
 have k4 : Below w.heap.size w v4 := by rw [hv]; exact set4_below (set4_below k3 (Nat.le_trans ks hg4)) (Nat.le_trans ks hg5)
 have QX : Hid (QV w.heap.size v4 (.bool o2x1_0) (.slice o2x1_1 o2x1_2 o2x1_3) (.bool o2x1_4) (.slice o2x1_5 o2x1_6 o2x1_7) q N) := by show QV w.heap.size v4 (.bool o2x1_0) (.slice o2x1_1 o2x1_2 o2x1_3) (.bool o2x1_4) (.slice o2x1_5 o2x1_6 o2x1_7) q N; rw [hv]; exact ((f1.set4 (Nat.le_trans ks hg4) hk4).set4 (Nat.le_trans ks hg5) hkf)
 have QY : Hid (QV w.heap.size v4 (.bool o2x3_0) (.slice o2x3_1 o2x3_2 o2x3_3) (.bool o2x3_4) (.slice o2x3_5 o2x3_6 o2x3_7) r N) := by show QV w.heap.size v4 (.bool o2x3_0) (.slice o2x3_1 o2x3_2 o2x3_3) (.bool o2x3_4) (.slice o2x3_5 o2x3_6 o2x3_7) r N; rw [hv]; exact ((f3.set4 (Nat.le_trans ks hg4) hk4).set4 (Nat.le_trans ks hg5) hkf)
 replace XP : Hid (FX 0 v4 (.bool ga) (.slice o1x1_0 xa.length o1x1_1) (.bool gb) (.slice o1x1_2 xb.length o1x1_3) ga xa z gb xb y N) := by show FX 0 v4 (.bool ga) (.slice o1x1_0 xa.length o1x1_1) (.bool gb) (.slice o1x1_2 xb.length o1x1_3) ga xa z gb xb y N; rw [hv]; exact ((XP.out.var4 (Nat.zero_le _) hk4 _ _ _ _).var4 (Nat.zero_le _) hkf _ _ _ _)
 replace XQ : Hid (FX 0 v4 (.bool gc) (.slice o1x3_0 xc.length o1x3_1) (.bool gd) (.slice o1x3_2 xd.length o1x3_3) gc xc x gd xd v N) := by show FX 0 v4 (.bool gc) (.slice o1x3_0 xc.length o1x3_1) (.bool gd) (.slice o1x3_2 xd.length o1x3_3) gc xc x gd xd v N; rw [hv]; exact ((XQ.out.var4 (Nat.zero_le _) hk4 _ _ _ _).var4 (Nat.zero_le _) hkf _ _ _ _)
 clear hv q1 q2 hkf hk4 hk5 f1 f3 ks k3
 clear lt0 lt1 lt2 lt3 hg4 hg5 n4_5 n5_4
 obtain ⟨gx, hgx⟩ : ∃ g, g = g4 := ⟨_, rfl⟩
 obtain ⟨gy, hgy⟩ : ∃ g, g = g5 := ⟨_, rfl⟩
 rw [← hgx, ← hgy]
 rw [← hgx] at Hx
 rw [← hgy] at Hy
 clear hgx hgy
 refine region_facts [SP.is (.agg #[.bool a0, .slice a1 a2 a3, .bool a4, .slice a5 a6 a7]), SP.is (.bool true), SP.is (.agg #[.bool a0, .slice a1 a2 a3, .bool a4, .slice a5 a6 a7]), SP.is (.bool true), SP.is (.bool true), SP.is (.agg #[.bool b0, .slice b1 b2 b3, .bool b4, .slice b5 b6 b7]), SP.is (.bool true), SP.is (.bool true), SP.is (.bool true), SP.is (.bool true)] (by kernel_rfl) (by kernel_rfl) (And.intro ?_ (And.intro ?_ (And.intro ?_ (And.intro ?_ (And.intro ?_ (And.intro ?_ (And.intro ?_ (And.intro ?_ (And.intro ?_ (And.intro ?_ trivial)))))))))) ?_
 ·intro a W hb hold hdep K hK
  have b2 := tmp_eq (hold 2 rfl)
  obtain ⟨c0, c1, c2, c3, -, -, -, -⟩ := (H0.out.below hb H0.out.lt).four
  refine ob_plain rfl ?_
  go_simp
  exact hK _ W rfl nofun br9
 ·intro a W hb hold hdep K hK
  have e0 := tmp_eq (hdep 0 _ 29 rfl rfl rfl).1
  refine ob_plain rfl ?_
  go_simp
  refine ((may_yes ((XA.out.next (bst k4 hb nl9)).fv) dy (by omega))).mono ?_
  rintro e w1 ⟨rfl, hb1⟩
  exact hK _ w1 rfl nofun hb1
 ·intro a W hb hold hdep K hK
  have b2 := tmp_eq (hold 2 rfl)
  obtain ⟨c0, c1, c2, c3, -, -, -, -⟩ := (H0.out.below hb H0.out.lt).four
  refine ob_plain rfl ?_
  go_simp
  exact hK _ W rfl nofun br9
 ·intro a W hb hold hdep K hK
  have e2 := tmp_eq (hdep 2 _ 31 rfl rfl rfl).1
  refine ob_plain rfl ?_
  go_simp
  refine ((may_yes ((XA.out.next (bst k4 hb nl9)).fv) dy (by omega))).mono ?_
  rintro e w1 ⟨rfl, hb1⟩
  exact hK _ w1 rfl nofun hb1
 ·intro a W hb hold hdep K hK
  have e3 := tmp_eq (hdep 3 _ 32 rfl rfl rfl).1
  refine ob_plain rfl ?_
  go_simp
  exact hK _ W rfl nofun br9
 ·intro a W hb hold hdep K hK
  have b3 := tmp_eq (hold 3 rfl)
  obtain ⟨c0, c1, c2, c3, -, -, -, -⟩ := (H1.out.below hb H1.out.lt).four
  refine ob_guard (j := 4) rfl rfl rfl (hdep 4 _ 33 rfl rfl rfl) ?_
  go_simp
  exact hK _ W rfl nofun br9
 ·intro a W hb hold hdep K hK
  have e5 := tmp_eq (hdep 5 _ 34 rfl rfl rfl).1
  refine ob_guard (j := 4) rfl rfl rfl (hdep 4 _ 33 rfl rfl rfl) ?_
  go_simp
  refine ((may_yes ((XC.out.next (bst k4 hb nl9)).fv) dv (by omega))).mono ?_
  rintro e w1 ⟨rfl, hb1⟩
  exact hK _ w1 rfl nofun hb1
 ·intro a W hb hold hdep K hK
  have e4 := tmp_eq (hdep 4 _ 33 rfl rfl rfl).1
  have e6 := tmp_eq (hdep 6 _ 35 rfl rfl rfl).1
  refine ob_plain rfl ?_
  go_simp
  exact hK _ W rfl nofun br9
 ·intro a W hb hold hdep K hK
  have e1 := tmp_eq (hdep 1 _ 30 rfl rfl rfl).1
  refine ob_plain rfl ?_
  go_simp
  exact hK _ W rfl nofun br9
 ·intro a W hb hold hdep K hK
  have e7 := tmp_eq (hdep 7 _ 36 rfl rfl rfl).1
  refine ob_plain rfl ?_
  go_simp
  exact hK _ W rfl nofun br9
 intro vls u3 hb hf hd
 have e0 : vls 0 = _ := hf 0 (by decide)
 have e1 : vls 1 = _ := hf 1 (by decide)
 have e2 : vls 2 = _ := hf 2 (by decide)
 have e3 : vls 3 = _ := hf 3 (by decide)
 have e4 : vls 4 = _ := hf 4 (by decide)
 have e5 : vls 5 = _ := hf 5 (by decide)
 have e6 : vls 6 = _ := hf 6 (by decide)
 have e7 : vls 7 = _ := hf 7 (by decide)
 have e8 : vls 8 = _ := hf 8 (by decide)
 have e9 : vls 9 = _ := hf 9 (by decide)
 clear hf hd
 simp only [foldPut, Act.put, List.setIfInBounds_toArray, List.set_cons_zero, List.set_cons_succ, Nat.reduceAdd, e0, e1, e2, e3, e4, e5, e6, e7, e8, e9]
 clear e0 e1 e2 e3 e4 e5 e6 e7 e8 e9
 have k5 := bst k4 hb nl9
 replace H0 := hi9 (H0.out.below hb H0.out.lt)
 replace H1 := hi9 (H1.out.below hb H1.out.lt)
 replace Hp := hi9 (Hp.out.below hb Hp.out.lt)
 replace Hq := hi9 (Hq.out.below hb Hq.out.lt)
 replace Hx := hi9 (Hx.out.below hb Hx.out.lt)
 replace Hy := hi9 (Hy.out.below hb Hy.out.lt)
 replace XP := hi9 (XP.out.next hb)
 replace XQ := hi9 (XQ.out.next hb)
 replace QX := hi9 (QX.out.next hb)
 replace QY := hi9 (QY.out.next hb)
 clear k4
 clear hb
 obtain ⟨c0H0, c1H0, c2H0, c3H0, -, -, -, -⟩ := H0.out.four
 obtain ⟨c0H1, c1H1, c2H1, c3H1, -, -, -, -⟩ := H1.out.four
 obtain ⟨c0Hp, c1Hp, c2Hp, c3Hp, -, -, -, -⟩ := Hp.out.four
 obtain ⟨c0Hq, c1Hq, c2Hq, c3Hq, -, -, -, -⟩ := Hq.out.four
 obtain ⟨c0Hx, c1Hx, c2Hx, c3Hx, -, -, -, -⟩ := Hx.out.four
 obtain ⟨c0Hy, c1Hy, c2Hy, c3Hy, -, -, -, -⟩ := Hy.out.four
 go_wp2_with fail
 refine ((XP.out.fv.qv HY.out).qneg (by omega) (TT.out.next k5)).mono ?_
 rintro e w6 ⟨n0, n1, n2, n3, n4, n5, n6, n7, rfl, nn, hb6⟩
 clear c0H0 c1H0 c2H0 c3H0 c0H1 c1H1 c2H1 c3H1 c0Hp c1Hp c2Hp c3Hp c0Hq c1Hq c2Hq c3Hq c0Hx c1Hx c2Hx c3Hx c0Hy c1Hy c2Hy c3Hy
 have k6 := bst k5 hb6 nl9
 replace H0 := hi9 (H0.out.below hb6 H0.out.lt)
 replace H1 := hi9 (H1.out.below hb6 H1.out.lt)
 replace Hp := hi9 (Hp.out.below hb6 Hp.out.lt)
 replace Hq := hi9 (Hq.out.below hb6 Hq.out.lt)
 replace Hx := hi9 (Hx.out.below hb6 Hx.out.lt)
 replace Hy := hi9 (Hy.out.below hb6 Hy.out.lt)
 replace XP := hi9 (XP.out.next hb6)
 replace XQ := hi9 (XQ.out.next hb6)
 replace QX := hi9 (QX.out.next hb6)
 replace QY := hi9 (QY.out.next hb6)
 clear k5
 clear hb6
 have NN := hi9 nn
 clear nn
 go_upto_region 5 with fail
 obtain ⟨v7, hv⟩ : ∃ v, v = w6.alloc (.cells #[.bool n0, .slice n1 n2 n3, .bool n4, .slice n5 n6 n7] 27) := ⟨_, rfl⟩
 rw [← hv]
 have bn : Blk v7 w6.heap.size 27 [.bool n0, .slice n1 n2 n3, .bool n4, .slice n5 n6 n7] := by rw [hv]; exact Blk.new_ rfl
 have jn : Below w6.heap.size w6 v7 := by rw [hv]; exact bel_one _ _
 obtain ⟨gn, hg⟩ : ∃ g, g = w6.heap.size := ⟨_, rfl⟩
 rw [← hg] at bn ⊢
 clear hg hv
 have Hn := hi9 bn
 clear bn
 have k7 := bst k6 jn nl9
 replace H0 := hi9 (H0.out.below jn H0.out.lt)
 replace H1 := hi9 (H1.out.below jn H1.out.lt)
 replace Hp := hi9 (Hp.out.below jn Hp.out.lt)
 replace Hq := hi9 (Hq.out.below jn Hq.out.lt)
 replace Hx := hi9 (Hx.out.below jn Hx.out.lt)
 replace Hy := hi9 (Hy.out.below jn Hy.out.lt)
 replace XP := hi9 (XP.out.next jn)
 replace XQ := hi9 (XQ.out.next jn)
 replace QX := hi9 (QX.out.next jn)
 replace QY := hi9 (QY.out.next jn)
 replace NN := hi9 (NN.out.next jn)
 clear k6
 clear jn
 obtain ⟨c0H0, c1H0, c2H0, c3H0, -, -, -, -⟩ := H0.out.four
 obtain ⟨c0H1, c1H1, c2H1, c3H1, -, -, -, -⟩ := H1.out.four
 obtain ⟨c0Hp, c1Hp, c2Hp, c3Hp, -, -, -, -⟩ := Hp.out.four
 obtain ⟨c0Hq, c1Hq, c2Hq, c3Hq, -, -, -, -⟩ := Hq.out.four
 obtain ⟨c0Hx, c1Hx, c2Hx, c3Hx, -, -, -, -⟩ := Hx.out.four
 obtain ⟨c0Hy, c1Hy, c2Hy, c3Hy, -, -, -, -⟩ := Hy.out.four
 obtain ⟨c0Hn, c1Hn, c2Hn, c3Hn, -, -, -, -⟩ := Hn.out.four
 have S0 := H0
 have S1 := H1
 have Sp := Hp
 have Sq := Hq
 have SXP := XP
 have SXQ := XQ
 have JS := Below.refl v7.heap.size v7
 have kS := k7
 go_wp2_with fail
 refine ((XP.out.fv.qv HY.out).qadd (XQ.out.fv.qv HV.out) (by omega) (TT.out.next k7)).mono ?_
 rintro e w8 ⟨s0, s1, s2, s3, s4, s5, s6, s7, rfl, nn, hb8⟩
 have NSB := hi9 (JS.size)
 clear c0H0 c1H0 c2H0 c3H0 c0H1 c1H1 c2H1 c3H1 c0Hp c1Hp c2Hp c3Hp c0Hq c1Hq c2Hq c3Hq c0Hx c1Hx c2Hx c3Hx c0Hy c1Hy c2Hy c3Hy c0Hn c1Hn c2Hn c3Hn
 have k8 := bst k7 hb8 nl9
 replace H0 := hi9 (H0.out.below hb8 H0.out.lt)
 replace H1 := hi9 (H1.out.below hb8 H1.out.lt)
 replace Hp := hi9 (Hp.out.below hb8 Hp.out.lt)
 replace Hq := hi9 (Hq.out.below hb8 Hq.out.lt)
 replace Hx := hi9 (Hx.out.below hb8 Hx.out.lt)
 replace Hy := hi9 (Hy.out.below hb8 Hy.out.lt)
 replace Hn := hi9 (Hn.out.below hb8 Hn.out.lt)
 replace XP := hi9 (XP.out.next hb8)
 replace XQ := hi9 (XQ.out.next hb8)
 replace QX := hi9 (QX.out.next hb8)
 replace QY := hi9 (QY.out.next hb8)
 replace NN := hi9 (NN.out.next hb8)
 clear k7
 replace JS := bst JS hb8 nl9
 clear hb8
 have NS := hi9 nn
 clear nn
 go_upto_region 6 with fail
 obtain ⟨v9, hv⟩ : ∃ v, v = w8.alloc (.cells #[.bool s0, .slice s1 s2 s3, .bool s4, .slice s5 s6 s7] 27) := ⟨_, rfl⟩
 rw [← hv]
 have bn : Blk v9 w8.heap.size 27 [.bool s0, .slice s1 s2 s3, .bool s4, .slice s5 s6 s7] := by rw [hv]; exact Blk.new_ rfl
 have jn : Below w8.heap.size w8 v9 := by rw [hv]; exact bel_one _ _
 obtain ⟨gs, hg⟩ : ∃ g, g = w8.heap.size := ⟨_, rfl⟩
 rw [← hg] at bn ⊢
 clear hg hv
 have Hs := hi9 bn
 clear bn
 have k9 := bst k8 jn nl9
 replace H0 := hi9 (H0.out.below jn H0.out.lt)
 replace H1 := hi9 (H1.out.below jn H1.out.lt)
 replace Hp := hi9 (Hp.out.below jn Hp.out.lt)
 replace Hq := hi9 (Hq.out.below jn Hq.out.lt)
 replace Hx := hi9 (Hx.out.below jn Hx.out.lt)
 replace Hy := hi9 (Hy.out.below jn Hy.out.lt)
 replace Hn := hi9 (Hn.out.below jn Hn.out.lt)
 replace XP := hi9 (XP.out.next jn)
 replace XQ := hi9 (XQ.out.next jn)
 replace QX := hi9 (QX.out.next jn)
 replace QY := hi9 (QY.out.next jn)
 replace NN := hi9 (NN.out.next jn)
 replace NS := hi9 (NS.out.next jn)
 clear k8
 replace JS := bst JS jn nl9
 clear jn
 obtain ⟨c0H0, c1H0, c2H0, c3H0, -, -, -, -⟩ := H0.out.four
 obtain ⟨c0H1, c1H1, c2H1, c3H1, -, -, -, -⟩ := H1.out.four
 obtain ⟨c0Hp, c1Hp, c2Hp, c3Hp, -, -, -, -⟩ := Hp.out.four
 obtain ⟨c0Hq, c1Hq, c2Hq, c3Hq, -, -, -, -⟩ := Hq.out.four
 obtain ⟨c0Hx, c1Hx, c2Hx, c3Hx, -, -, -, -⟩ := Hx.out.four
 obtain ⟨c0Hy, c1Hy, c2Hy, c3Hy, -, -, -, -⟩ := Hy.out.four
 obtain ⟨c0Hn, c1Hn, c2Hn, c3Hn, -, -, -, -⟩ := Hn.out.four
 obtain ⟨c0Hs, c1Hs, c2Hs, c3Hs, -, -, -, -⟩ := Hs.out.four
 go_wp2_with fail
 refine ((XP.out.fv.qv HY.out).qsub (XQ.out.fv.qv HV.out) (by omega) (TT.out.next k9)).mono ?_
 rintro e w10 ⟨d0, d1, d2, d3, d4, d5, d6, d7, rfl, nn, hb10⟩
 clear c0H0 c1H0 c2H0 c3H0 c0H1 c1H1 c2H1 c3H1 c0Hp c1Hp c2Hp c3Hp c0Hq c1Hq c2Hq c3Hq c0Hx c1Hx c2Hx c3Hx c0Hy c1Hy c2Hy c3Hy c0Hn c1Hn c2Hn c3Hn c0Hs c1Hs c2Hs c3Hs
 have k10 := bst k9 hb10 nl9
 replace H0 := hi9 (H0.out.below hb10 H0.out.lt)
 replace H1 := hi9 (H1.out.below hb10 H1.out.lt)
 replace Hp := hi9 (Hp.out.below hb10 Hp.out.lt)
 replace Hq := hi9 (Hq.out.below hb10 Hq.out.lt)
 replace Hx := hi9 (Hx.out.below hb10 Hx.out.lt)
 replace Hy := hi9 (Hy.out.below hb10 Hy.out.lt)
 replace Hn := hi9 (Hn.out.below hb10 Hn.out.lt)
 replace Hs := hi9 (Hs.out.below hb10 Hs.out.lt)
 replace XP := hi9 (XP.out.next hb10)
 replace XQ := hi9 (XQ.out.next hb10)
 replace QX := hi9 (QX.out.next hb10)
 replace QY := hi9 (QY.out.next hb10)
 replace NN := hi9 (NN.out.next hb10)
 replace NS := hi9 (NS.out.next hb10)
 clear k9
 replace JS := bst JS hb10 nl9
 clear hb10
 have ND := hi9 nn
 clear nn
 go_upto_region 7 with fail
 obtain ⟨v11, hv⟩ : ∃ v, v = w10.alloc (.cells #[.bool d0, .slice d1 d2 d3, .bool d4, .slice d5 d6 d7] 27) := ⟨_, rfl⟩
 rw [← hv]
 have bn : Blk v11 w10.heap.size 27 [.bool d0, .slice d1 d2 d3, .bool d4, .slice d5 d6 d7] := by rw [hv]; exact Blk.new_ rfl
 have jn : Below w10.heap.size w10 v11 := by rw [hv]; exact bel_one _ _
 obtain ⟨gd, hg⟩ : ∃ g, g = w10.heap.size := ⟨_, rfl⟩
 rw [← hg] at bn ⊢
 clear hg hv
 have Hd := hi9 bn
 clear bn
 have k11 := bst k10 jn nl9
 replace H0 := hi9 (H0.out.below jn H0.out.lt)
 replace H1 := hi9 (H1.out.below jn H1.out.lt)
 replace Hp := hi9 (Hp.out.below jn Hp.out.lt)
 replace Hq := hi9 (Hq.out.below jn Hq.out.lt)
 replace Hx := hi9 (Hx.out.below jn Hx.out.lt)
 replace Hy := hi9 (Hy.out.below jn Hy.out.lt)
 replace Hn := hi9 (Hn.out.below jn Hn.out.lt)
 replace Hs := hi9 (Hs.out.below jn Hs.out.lt)
 replace XP := hi9 (XP.out.next jn)
 replace XQ := hi9 (XQ.out.next jn)
 replace QX := hi9 (QX.out.next jn)
 replace QY := hi9 (QY.out.next jn)
 replace NN := hi9 (NN.out.next jn)
 replace NS := hi9 (NS.out.next jn)
 replace ND := hi9 (ND.out.next jn)
 clear k10
 replace JS := bst JS jn nl9
 clear jn
 obtain ⟨c0H0, c1H0, c2H0, c3H0, -, -, -, -⟩ := H0.out.four
 obtain ⟨c0H1, c1H1, c2H1, c3H1, -, -, -, -⟩ := H1.out.four
 obtain ⟨c0Hp, c1Hp, c2Hp, c3Hp, -, -, -, -⟩ := Hp.out.four
 obtain ⟨c0Hq, c1Hq, c2Hq, c3Hq, -, -, -, -⟩ := Hq.out.four
 obtain ⟨c0Hx, c1Hx, c2Hx, c3Hx, -, -, -, -⟩ := Hx.out.four
 obtain ⟨c0Hy, c1Hy, c2Hy, c3Hy, -, -, -, -⟩ := Hy.out.four
 obtain ⟨c0Hn, c1Hn, c2Hn, c3Hn, -, -, -, -⟩ := Hn.out.four
 obtain ⟨c0Hs, c1Hs, c2Hs, c3Hs, -, -, -, -⟩ := Hs.out.four
 obtain ⟨c0Hd, c1Hd, c2Hd, c3Hd, -, -, -, -⟩ := Hd.out.four
 go_wp2_with fail
 refine ((XP.out.fv.qv HY.out).qmul (XQ.out.fv.qv HV.out) (by omega) (TT.out.next k11)).mono ?_
 rintro e w12 ⟨m0, m1, m2, m3, m4, m5, m6, m7, rfl, nn, hb12⟩
 clear c0H0 c1H0 c2H0 c3H0 c0H1 c1H1 c2H1 c3H1 c0Hp c1Hp c2Hp c3Hp c0Hq c1Hq c2Hq c3Hq c0Hx c1Hx c2Hx c3Hx c0Hy c1Hy c2Hy c3Hy c0Hn c1Hn c2Hn c3Hn c0Hs c1Hs c2Hs c3Hs c0Hd c1Hd c2Hd c3Hd
 have k12 := bst k11 hb12 nl9
 replace H0 := hi9 (H0.out.below hb12 H0.out.lt)
 replace H1 := hi9 (H1.out.below hb12 H1.out.lt)
 replace Hp := hi9 (Hp.out.below hb12 Hp.out.lt)
 replace Hq := hi9 (Hq.out.below hb12 Hq.out.lt)
 replace Hx := hi9 (Hx.out.below hb12 Hx.out.lt)
 replace Hy := hi9 (Hy.out.below hb12 Hy.out.lt)
 replace Hn := hi9 (Hn.out.below hb12 Hn.out.lt)
 replace Hs := hi9 (Hs.out.below hb12 Hs.out.lt)
 replace Hd := hi9 (Hd.out.below hb12 Hd.out.lt)
 replace XP := hi9 (XP.out.next hb12)
 replace XQ := hi9 (XQ.out.next hb12)
 replace QX := hi9 (QX.out.next hb12)
 replace QY := hi9 (QY.out.next hb12)
 replace NN := hi9 (NN.out.next hb12)
 replace NS := hi9 (NS.out.next hb12)
 replace ND := hi9 (ND.out.next hb12)
 clear k11
 replace JS := bst JS hb12 nl9
 clear hb12
 have NM := hi9 nn
 clear nn
 go_upto_region 8 with fail
 obtain ⟨v13, hv⟩ : ∃ v, v = w12.alloc (.cells #[.bool m0, .slice m1 m2 m3, .bool m4, .slice m5 m6 m7] 27) := ⟨_, rfl⟩
 rw [← hv]
 have bn : Blk v13 w12.heap.size 27 [.bool m0, .slice m1 m2 m3, .bool m4, .slice m5 m6 m7] := by rw [hv]; exact Blk.new_ rfl
 have jn : Below w12.heap.size w12 v13 := by rw [hv]; exact bel_one _ _
 obtain ⟨gm, hg⟩ : ∃ g, g = w12.heap.size := ⟨_, rfl⟩
 rw [← hg] at bn ⊢
 clear hg hv
 have Hm := hi9 bn
 clear bn
 have k13 := bst k12 jn nl9
 replace H0 := hi9 (H0.out.below jn H0.out.lt)
 replace H1 := hi9 (H1.out.below jn H1.out.lt)
 replace Hp := hi9 (Hp.out.below jn Hp.out.lt)
 replace Hq := hi9 (Hq.out.below jn Hq.out.lt)
 replace Hx := hi9 (Hx.out.below jn Hx.out.lt)
 replace Hy := hi9 (Hy.out.below jn Hy.out.lt)
 replace Hn := hi9 (Hn.out.below jn Hn.out.lt)
 replace Hs := hi9 (Hs.out.below jn Hs.out.lt)
 replace Hd := hi9 (Hd.out.below jn Hd.out.lt)
 replace XP := hi9 (XP.out.next jn)
 replace XQ := hi9 (XQ.out.next jn)
 replace QX := hi9 (QX.out.next jn)
 replace QY := hi9 (QY.out.next jn)
 replace NN := hi9 (NN.out.next jn)
 replace NS := hi9 (NS.out.next jn)
 replace ND := hi9 (ND.out.next jn)
 replace NM := hi9 (NM.out.next jn)
 clear k12
 replace JS := bst JS jn nl9
 clear jn
 obtain ⟨c0H0, c1H0, c2H0, c3H0, -, -, -, -⟩ := H0.out.four
 obtain ⟨c0H1, c1H1, c2H1, c3H1, -, -, -, -⟩ := H1.out.four
 obtain ⟨c0Hp, c1Hp, c2Hp, c3Hp, -, -, -, -⟩ := Hp.out.four
 obtain ⟨c0Hq, c1Hq, c2Hq, c3Hq, -, -, -, -⟩ := Hq.out.four
 obtain ⟨c0Hx, c1Hx, c2Hx, c3Hx, -, -, -, -⟩ := Hx.out.four
 obtain ⟨c0Hy, c1Hy, c2Hy, c3Hy, -, -, -, -⟩ := Hy.out.four
 obtain ⟨c0Hn, c1Hn, c2Hn, c3Hn, -, -, -, -⟩ := Hn.out.four
 obtain ⟨c0Hs, c1Hs, c2Hs, c3Hs, -, -, -, -⟩ := Hs.out.four
 obtain ⟨c0Hd, c1Hd, c2Hd, c3Hd, -, -, -, -⟩ := Hd.out.four
 obtain ⟨c0Hm, c1Hm, c2Hm, c3Hm, -, -, -, -⟩ := Hm.out.four
 rw [HQ.out] at NN
 rw [HQ.out, HR.out] at NS ND NM
 have BQ := hi9 QX.out.qb
 have BR := hi9 QY.out.qb
 clear c0H0 c1H0 c2H0 c3H0 c0H1 c1H1 c2H1 c3H1 c0Hp c1Hp c2Hp c3Hp c0Hq c1Hq c2Hq c3Hq c0Hx c1Hx c2Hx c3Hx c0Hy c1Hy c2Hy c3Hy c0Hn c1Hn c2Hn c3Hn c0Hs c1Hs c2Hs c3Hs c0Hd c1Hd c2Hd c3Hd c0Hm c1Hm c2Hm c3Hm
 refine region_facts [SP.is (.bool true), SP.is (.agg #[.bool n0, .slice n1 n2 n3, .bool n4, .slice n5 n6 n7]), SP.is (.int .i64 (0)), SP.is (.agg #[.bool o2x1_0, .slice o2x1_1 o2x1_2 o2x1_3, .bool o2x1_4, .slice o2x1_5 o2x1_6 o2x1_7]), SP.fn 0 ((-q).num) ((-q).den), SP.is (.bool true), SP.is (.bool true), SP.is (.bool true), SP.is (.agg #[.bool s0, .slice s1 s2 s3, .bool s4, .slice s5 s6 s7]), SP.is (.int .i64 (0)), SP.is (.agg #[.bool o2x1_0, .slice o2x1_1 o2x1_2 o2x1_3, .bool o2x1_4, .slice o2x1_5 o2x1_6 o2x1_7]), SP.is (.agg #[.bool o2x3_0, .slice o2x3_1 o2x3_2 o2x3_3, .bool o2x3_4, .slice o2x3_5 o2x3_6 o2x3_7]), SP.fn 0 ((q + r).num) ((q + r).den), SP.is (.bool true), SP.is (.bool true), SP.is (.bool true), SP.is (.bool true), SP.is (.agg #[.bool d0, .slice d1 d2 d3, .bool d4, .slice d5 d6 d7]), SP.is (.int .i64 (0)), SP.is (.agg #[.bool o2x1_0, .slice o2x1_1 o2x1_2 o2x1_3, .bool o2x1_4, .slice o2x1_5 o2x1_6 o2x1_7]), SP.is (.agg #[.bool o2x3_0, .slice o2x3_1 o2x3_2 o2x3_3, .bool o2x3_4, .slice o2x3_5 o2x3_6 o2x3_7]), SP.fn 0 ((q - r).num) ((q - r).den), SP.is (.bool true), SP.is (.bool true), SP.is (.bool true), SP.is (.bool true), SP.is (.agg #[.bool m0, .slice m1 m2 m3, .bool m4, .slice m5 m6 m7]), SP.is (.int .i64 (0)), SP.is (.agg #[.bool o2x1_0, .slice o2x1_1 o2x1_2 o2x1_3, .bool o2x1_4, .slice o2x1_5 o2x1_6 o2x1_7]), SP.is (.agg #[.bool o2x3_0, .slice o2x3_1 o2x3_2 o2x3_3, .bool o2x3_4, .slice o2x3_5 o2x3_6 o2x3_7]), SP.fn 0 ((q * r).num) ((q * r).den), SP.is (.bool true), SP.is (.bool true), SP.is (.bool true)] (by kernel_rfl) (by kernel_rfl) (And.intro ?_ (And.intro ?_ (And.intro ?_ (And.intro ?_ (And.intro ?_ (And.intro ?_ (And.intro ?_ (And.intro ?_ (And.intro ?_ (And.intro ?_ (And.intro ?_ (And.intro ?_ (And.intro ?_ (And.intro ?_ (And.intro ?_ (And.intro ?_ (And.intro ?_ (And.intro ?_ (And.intro ?_ (And.intro ?_ (And.intro ?_ (And.intro ?_ (And.intro ?_ (And.intro ?_ (And.intro ?_ (And.intro ?_ (And.intro ?_ (And.intro ?_ (And.intro ?_ (And.intro ?_ (And.intro ?_ (And.intro ?_ (And.intro ?_ (And.intro ?_ trivial)))))))))))))))))))))))))))))))))) ?_
 ·intro a W hb hold hdep K hK
  have b9 := tmp_eq (hold 9 rfl)
  refine ob_plain rfl ?_
  go_simp
  exact hK _ W rfl nofun br9
 ·intro a W hb hold hdep K hK
  have b11 := tmp_eq (hold 11 rfl)
  obtain ⟨c0, c1, c2, c3, -, -, -, -⟩ := (Hn.out.below hb Hn.out.lt).four
  refine ob_plain rfl ?_
  go_simp
  exact hK _ W rfl nofun br9
 ·intro a W hb hold hdep K hK
  have b12 := tmp_eq (hold 12 rfl)
  refine ob_plain rfl ?_
  go_simp
  exact hK _ W rfl nofun br9
 ·intro a W hb hold hdep K hK
  have b7 := tmp_eq (hold 7 rfl)
  obtain ⟨c0, c1, c2, c3, -, -, -, -⟩ := (Hx.out.below hb Hx.out.lt).four
  refine ob_plain rfl ?_
  go_simp
  exact hK _ W rfl nofun br9
 ·intro a W hb hold hdep K hK
  have e3 := tmp_eq (hdep 3 _ 63 rfl rfl rfl).1
  refine ob_plain rfl ?_
  go_simp
  refine ((ro_zero ((QX.out.next hb).rqneg (by omega)))).mono ?_
  rintro e w1 ⟨x0, x1, x2, x3, x4, x5, x6, x7, rfl, f9, hb1⟩
  exact hK _ w1 ⟨x0, x1, x2, x3, x4, x5, x6, x7, rfl, f9⟩ nofun hb1
 ·intro a W hb hold hdep K hK
  have e0 := tmp_eq (hdep 0 _ 60 rfl rfl rfl).1
  have e1 := tmp_eq (hdep 1 _ 61 rfl rfl rfl).1
  have e2 := tmp_eq (hdep 2 _ 62 rfl rfl rfl).1
  obtain ⟨r4_0, r4_1, r4_2, r4_3, r4_4, r4_5, r4_6, r4_7, e4, f4⟩ := (hdep 4 _ 64 rfl rfl rfl).1
  replace e4 := tmp_eq e4
  refine ob_plain rfl ?_
  go_simp
  refine ((told_ok (NN.out.next hb) f4 (BQ.out.neg).num (by rw [Int.natAbs_natCast]; exact (BQ.out.neg).den) (by omega))).mono ?_
  rintro e w1 ⟨rfl, hb1⟩
  exact hK _ w1 rfl nofun hb1
 ·intro a W hb hold hdep K hK
  have e5 := tmp_eq (hdep 5 _ 65 rfl rfl rfl).1
  refine ob_plain rfl ?_
  go_simp
  exact hK _ W rfl nofun br9
 ·intro a W hb hold hdep K hK
  have b10 := tmp_eq (hold 10 rfl)
  refine ob_guard (j := 6) rfl rfl rfl (hdep 6 _ 66 rfl rfl rfl) ?_
  go_simp
  exact hK _ W rfl nofun br9
 ·intro a W hb hold hdep K hK
  have b13 := tmp_eq (hold 13 rfl)
  obtain ⟨c0, c1, c2, c3, -, -, -, -⟩ := (Hs.out.below hb Hs.out.lt).four
  refine ob_guard (j := 6) rfl rfl rfl (hdep 6 _ 66 rfl rfl rfl) ?_
  go_simp
  exact hK _ W rfl nofun br9
 ·intro a W hb hold hdep K hK
  have b14 := tmp_eq (hold 14 rfl)
  refine ob_guard (j := 6) rfl rfl rfl (hdep 6 _ 66 rfl rfl rfl) ?_
  go_simp
  exact hK _ W rfl nofun br9
 ·intro a W hb hold hdep K hK
  have b7 := tmp_eq (hold 7 rfl)
  obtain ⟨c0, c1, c2, c3, -, -, -, -⟩ := (Hx.out.below hb Hx.out.lt).four
  refine ob_guard (j := 6) rfl rfl rfl (hdep 6 _ 66 rfl rfl rfl) ?_
  go_simp
  exact hK _ W rfl nofun br9
 ·intro a W hb hold hdep K hK
  have b8 := tmp_eq (hold 8 rfl)
  obtain ⟨c0, c1, c2, c3, -, -, -, -⟩ := (Hy.out.below hb Hy.out.lt).four
  refine ob_guard (j := 6) rfl rfl rfl (hdep 6 _ 66 rfl rfl rfl) ?_
  go_simp
  exact hK _ W rfl nofun br9
 ·intro a W hb hold hdep K hK
  have e10 := tmp_eq (hdep 10 _ 70 rfl rfl rfl).1
  have e11 := tmp_eq (hdep 11 _ 71 rfl rfl rfl).1
  refine ob_guard (j := 6) rfl rfl rfl (hdep 6 _ 66 rfl rfl rfl) ?_
  go_simp
  refine ((ro_zero ((QX.out.next hb).rqadd (QY.out.next hb) (by omega)))).mono ?_
  rintro e w1 ⟨x0, x1, x2, x3, x4, x5, x6, x7, rfl, f9, hb1⟩
  exact hK _ w1 ⟨x0, x1, x2, x3, x4, x5, x6, x7, rfl, f9⟩ nofun hb1
 ·intro a W hb hold hdep K hK
  have e7 := tmp_eq (hdep 7 _ 67 rfl rfl rfl).1
  have e8 := tmp_eq (hdep 8 _ 68 rfl rfl rfl).1
  have e9 := tmp_eq (hdep 9 _ 69 rfl rfl rfl).1
  obtain ⟨r12_0, r12_1, r12_2, r12_3, r12_4, r12_5, r12_6, r12_7, e12, f12⟩ := (hdep 12 _ 72 rfl rfl rfl).1
  replace e12 := tmp_eq e12
  refine ob_guard (j := 6) rfl rfl rfl (hdep 6 _ 66 rfl rfl rfl) ?_
  go_simp
  refine ((told_ok (NS.out.next hb) f12 (BQ.out.add BR.out).num (by rw [Int.natAbs_natCast]; exact (BQ.out.add BR.out).den) (by omega))).mono ?_
  rintro e w1 ⟨rfl, hb1⟩
  exact hK _ w1 rfl nofun hb1
 ·intro a W hb hold hdep K hK
  have e6 := tmp_eq (hdep 6 _ 66 rfl rfl rfl).1
  have e13 := tmp_eq (hdep 13 _ 73 rfl rfl rfl).1
  refine ob_plain rfl ?_
  go_simp
  exact hK _ W rfl nofun br9
 ·intro a W hb hold hdep K hK
  have e14 := tmp_eq (hdep 14 _ 74 rfl rfl rfl).1
  refine ob_plain rfl ?_
  go_simp
  exact hK _ W rfl nofun br9
 ·intro a W hb hold hdep K hK
  have b10 := tmp_eq (hold 10 rfl)
  refine ob_guard (j := 15) rfl rfl rfl (hdep 15 _ 75 rfl rfl rfl) ?_
  go_simp
  exact hK _ W rfl nofun br9
 ·intro a W hb hold hdep K hK
  have b15 := tmp_eq (hold 15 rfl)
  obtain ⟨c0, c1, c2, c3, -, -, -, -⟩ := (Hd.out.below hb Hd.out.lt).four
  refine ob_guard (j := 15) rfl rfl rfl (hdep 15 _ 75 rfl rfl rfl) ?_
  go_simp
  exact hK _ W rfl nofun br9
 ·intro a W hb hold hdep K hK
  have b16 := tmp_eq (hold 16 rfl)
  refine ob_guard (j := 15) rfl rfl rfl (hdep 15 _ 75 rfl rfl rfl) ?_
  go_simp
  exact hK _ W rfl nofun br9
 ·intro a W hb hold hdep K hK
  have b7 := tmp_eq (hold 7 rfl)
  obtain ⟨c0, c1, c2, c3, -, -, -, -⟩ := (Hx.out.below hb Hx.out.lt).four
  refine ob_guard (j := 15) rfl rfl rfl (hdep 15 _ 75 rfl rfl rfl) ?_
  go_simp
  exact hK _ W rfl nofun br9
 ·intro a W hb hold hdep K hK
  have b8 := tmp_eq (hold 8 rfl)
  obtain ⟨c0, c1, c2, c3, -, -, -, -⟩ := (Hy.out.below hb Hy.out.lt).four
  refine ob_guard (j := 15) rfl rfl rfl (hdep 15 _ 75 rfl rfl rfl) ?_
  go_simp
  exact hK _ W rfl nofun br9
 ·intro a W hb hold hdep K hK
  have e19 := tmp_eq (hdep 19 _ 79 rfl rfl rfl).1
  have e20 := tmp_eq (hdep 20 _ 80 rfl rfl rfl).1
  refine ob_guard (j := 15) rfl rfl rfl (hdep 15 _ 75 rfl rfl rfl) ?_
  go_simp
  refine ((ro_zero ((QX.out.next hb).rqsub (QY.out.next hb) (by omega)))).mono ?_
  rintro e w1 ⟨x0, x1, x2, x3, x4, x5, x6, x7, rfl, f9, hb1⟩
  exact hK _ w1 ⟨x0, x1, x2, x3, x4, x5, x6, x7, rfl, f9⟩ nofun hb1
 ·intro a W hb hold hdep K hK
  have e16 := tmp_eq (hdep 16 _ 76 rfl rfl rfl).1
  have e17 := tmp_eq (hdep 17 _ 77 rfl rfl rfl).1
  have e18 := tmp_eq (hdep 18 _ 78 rfl rfl rfl).1
  obtain ⟨r21_0, r21_1, r21_2, r21_3, r21_4, r21_5, r21_6, r21_7, e21, f21⟩ := (hdep 21 _ 81 rfl rfl rfl).1
  replace e21 := tmp_eq e21
  refine ob_guard (j := 15) rfl rfl rfl (hdep 15 _ 75 rfl rfl rfl) ?_
  go_simp
  refine ((told_ok (ND.out.next hb) f21 (BQ.out.sub BR.out).num (by rw [Int.natAbs_natCast]; exact (BQ.out.sub BR.out).den) (by omega))).mono ?_
  rintro e w1 ⟨rfl, hb1⟩
  exact hK _ w1 rfl nofun hb1
 ·intro a W hb hold hdep K hK
  have e15 := tmp_eq (hdep 15 _ 75 rfl rfl rfl).1
  have e22 := tmp_eq (hdep 22 _ 82 rfl rfl rfl).1
  refine ob_plain rfl ?_
  go_simp
  exact hK _ W rfl nofun br9
 ·intro a W hb hold hdep K hK
  have e23 := tmp_eq (hdep 23 _ 83 rfl rfl rfl).1
  refine ob_plain rfl ?_
  go_simp
  exact hK _ W rfl nofun br9
 ·intro a W hb hold hdep K hK
  have b10 := tmp_eq (hold 10 rfl)
  refine ob_guard (j := 24) rfl rfl rfl (hdep 24 _ 84 rfl rfl rfl) ?_
  go_simp
  exact hK _ W rfl nofun br9
 ·intro a W hb hold hdep K hK
  have b17 := tmp_eq (hold 17 rfl)
  obtain ⟨c0, c1, c2, c3, -, -, -, -⟩ := (Hm.out.below hb Hm.out.lt).four
  refine ob_guard (j := 24) rfl rfl rfl (hdep 24 _ 84 rfl rfl rfl) ?_
  go_simp
  exact hK _ W rfl nofun br9
 ·intro a W hb hold hdep K hK
  have b18 := tmp_eq (hold 18 rfl)
  refine ob_guard (j := 24) rfl rfl rfl (hdep 24 _ 84 rfl rfl rfl) ?_
  go_simp
  exact hK _ W rfl nofun br9
 ·intro a W hb hold hdep K hK
  have b7 := tmp_eq (hold 7 rfl)
  obtain ⟨c0, c1, c2, c3, -, -, -, -⟩ := (Hx.out.below hb Hx.out.lt).four
  refine ob_guard (j := 24) rfl rfl rfl (hdep 24 _ 84 rfl rfl rfl) ?_
  go_simp
  exact hK _ W rfl nofun br9
 ·intro a W hb hold hdep K hK
  have b8 := tmp_eq (hold 8 rfl)
  obtain ⟨c0, c1, c2, c3, -, -, -, -⟩ := (Hy.out.below hb Hy.out.lt).four
  refine ob_guard (j := 24) rfl rfl rfl (hdep 24 _ 84 rfl rfl rfl) ?_
  go_simp
  exact hK _ W rfl nofun br9
 ·intro a W hb hold hdep K hK
  have e28 := tmp_eq (hdep 28 _ 88 rfl rfl rfl).1
  have e29 := tmp_eq (hdep 29 _ 89 rfl rfl rfl).1
  refine ob_guard (j := 24) rfl rfl rfl (hdep 24 _ 84 rfl rfl rfl) ?_
  go_simp
  refine ((ro_zero ((QX.out.next hb).rqmul (QY.out.next hb) (by omega)))).mono ?_
  rintro e w1 ⟨x0, x1, x2, x3, x4, x5, x6, x7, rfl, f9, hb1⟩
  exact hK _ w1 ⟨x0, x1, x2, x3, x4, x5, x6, x7, rfl, f9⟩ nofun hb1
 ·intro a W hb hold hdep K hK
  have e25 := tmp_eq (hdep 25 _ 85 rfl rfl rfl).1
  have e26 := tmp_eq (hdep 26 _ 86 rfl rfl rfl).1
  have e27 := tmp_eq (hdep 27 _ 87 rfl rfl rfl).1
  obtain ⟨r30_0, r30_1, r30_2, r30_3, r30_4, r30_5, r30_6, r30_7, e30, f30⟩ := (hdep 30 _ 90 rfl rfl rfl).1
  replace e30 := tmp_eq e30
  refine ob_guard (j := 24) rfl rfl rfl (hdep 24 _ 84 rfl rfl rfl) ?_
  go_simp
  refine ((told_ok (NM.out.next hb) f30 (BQ.out.mul BR.out).num (by rw [Int.natAbs_natCast]; exact (BQ.out.mul BR.out).den) (by omega))).mono ?_
  rintro e w1 ⟨rfl, hb1⟩
  exact hK _ w1 rfl nofun hb1
 ·intro a W hb hold hdep K hK
  have e24 := tmp_eq (hdep 24 _ 84 rfl rfl rfl).1
  have e31 := tmp_eq (hdep 31 _ 91 rfl rfl rfl).1
  refine ob_plain rfl ?_
  go_simp
  exact hK _ W rfl nofun br9
 ·intro a W hb hold hdep K hK
  have e32 := tmp_eq (hdep 32 _ 92 rfl rfl rfl).1
  refine ob_plain rfl ?_
  go_simp
  exact hK _ W rfl nofun br9
 intro vls u8 hb hf hd
 have e0 : vls 0 = _ := hf 0 (by decide)
 have e1 : vls 1 = _ := hf 1 (by decide)
 have e2 : vls 2 = _ := hf 2 (by decide)
 have e3 : vls 3 = _ := hf 3 (by decide)
 obtain ⟨o8x4_0, o8x4_1, o8x4_2, o8x4_3, o8x4_4, o8x4_5, o8x4_6, o8x4_7, e4, f4⟩ := hf 4 (by decide)
 have e5 : vls 5 = _ := hf 5 (by decide)
 have e6 : vls 6 = _ := hf 6 (by decide)
 have e7 : vls 7 = _ := hf 7 (by decide)
 have e8 : vls 8 = _ := hf 8 (by decide)
 have e9 : vls 9 = _ := hf 9 (by decide)
 have e10 : vls 10 = _ := hf 10 (by decide)
 have e11 : vls 11 = _ := hf 11 (by decide)
 obtain ⟨o8x12_0, o8x12_1, o8x12_2, o8x12_3, o8x12_4, o8x12_5, o8x12_6, o8x12_7, e12, f12⟩ := hf 12 (by decide)
 have e13 : vls 13 = _ := hf 13 (by decide)
 have e14 : vls 14 = _ := hf 14 (by decide)
 have e15 : vls 15 = _ := hf 15 (by decide)
 have e16 : vls 16 = _ := hf 16 (by decide)
 have e17 : vls 17 = _ := hf 17 (by decide)
 have e18 : vls 18 = _ := hf 18 (by decide)
 have e19 : vls 19 = _ := hf 19 (by decide)
 have e20 : vls 20 = _ := hf 20 (by decide)
 obtain ⟨o8x21_0, o8x21_1, o8x21_2, o8x21_3, o8x21_4, o8x21_5, o8x21_6, o8x21_7, e21, f21⟩ := hf 21 (by decide)
 have e22 : vls 22 = _ := hf 22 (by decide)
 have e23 : vls 23 = _ := hf 23 (by decide)
 have e24 : vls 24 = _ := hf 24 (by decide)
 have e25 : vls 25 = _ := hf 25 (by decide)
 have e26 : vls 26 = _ := hf 26 (by decide)
 have e27 : vls 27 = _ := hf 27 (by decide)
 have e28 : vls 28 = _ := hf 28 (by decide)
 have e29 : vls 29 = _ := hf 29 (by decide)
 obtain ⟨o8x30_0, o8x30_1, o8x30_2, o8x30_3, o8x30_4, o8x30_5, o8x30_6, o8x30_7, e30, f30⟩ := hf 30 (by decide)
 have e31 : vls 31 = _ := hf 31 (by decide)
 have e32 : vls 32 = _ := hf 32 (by decide)
 have e33 : vls 33 = _ := hf 33 (by decide)
 clear hf hd
 simp only [foldPut, Act.put, List.setIfInBounds_toArray, List.set_cons_zero, List.set_cons_succ, Nat.reduceAdd, e0, e1, e2, e3, e4, e5, e6, e7, e8, e9, e10, e11, e12, e13, e14, e15, e16, e17, e18, e19, e20, e21, e22, e23, e24, e25, e26, e27, e28, e29, e30, e31, e32, e33]
 clear e0 e1 e2 e3 e4 e5 e6 e7 e8 e9 e10 e11 e12 e13 e14 e15 e16 e17 e18 e19 e20 e21 e22 e23 e24 e25 e26 e27 e28 e29 e30 e31 e32 e33
 have k14 := bst k13 hb nl9
 replace H0 := hi9 (H0.out.below hb H0.out.lt)
 replace H1 := hi9 (H1.out.below hb H1.out.lt)
 replace Hp := hi9 (Hp.out.below hb Hp.out.lt)
 replace Hq := hi9 (Hq.out.below hb Hq.out.lt)
 replace Hx := hi9 (Hx.out.below hb Hx.out.lt)
 replace Hy := hi9 (Hy.out.below hb Hy.out.lt)
 replace Hn := hi9 (Hn.out.below hb Hn.out.lt)
 replace Hs := hi9 (Hs.out.below hb Hs.out.lt)
 replace Hd := hi9 (Hd.out.below hb Hd.out.lt)
 replace Hm := hi9 (Hm.out.below hb Hm.out.lt)
 replace XP := hi9 (XP.out.next hb)
 replace XQ := hi9 (XQ.out.next hb)
 replace QX := hi9 (QX.out.next hb)
 replace QY := hi9 (QY.out.next hb)
 replace NN := hi9 (NN.out.next hb)
 replace NS := hi9 (NS.out.next hb)
 replace ND := hi9 (ND.out.next hb)
 replace NM := hi9 (NM.out.next hb)
 clear k13
 replace JS := bst JS hb nl9
 clear hb
 obtain ⟨go, hgo, hown, hlen⟩ := (NS.out.num.mono NSB.out).own JS.size
 have HO := hi9 hown
 have HGO := hi9 hgo
 have HS9 := hi9 Hs.out
 clear hown hgo
 obtain ⟨c0H0, c1H0, c2H0, c3H0, -, -, -, -⟩ := H0.out.four
 obtain ⟨c0H1, c1H1, c2H1, c3H1, -, -, -, -⟩ := H1.out.four
 obtain ⟨c0Hp, c1Hp, c2Hp, c3Hp, -, -, -, -⟩ := Hp.out.four
 obtain ⟨c0Hq, c1Hq, c2Hq, c3Hq, -, -, -, -⟩ := Hq.out.four
 obtain ⟨c0Hx, c1Hx, c2Hx, c3Hx, -, -, -, -⟩ := Hx.out.four
 obtain ⟨c0Hy, c1Hy, c2Hy, c3Hy, -, -, -, -⟩ := Hy.out.four
 obtain ⟨c0Hn, c1Hn, c2Hn, c3Hn, -, -, -, -⟩ := Hn.out.four
 obtain ⟨c0Hs, c1Hs, c2Hs, c3Hs, -, -, -, -⟩ := Hs.out.four
 obtain ⟨c0Hd, c1Hd, c2Hd, c3Hd, -, -, -, -⟩ := Hd.out.four
 obtain ⟨c0Hm, c1Hm, c2Hm, c3Hm, -, -, -, -⟩ := Hm.out.four
 go_wp2_with fail
 go_loopw [20, 97] (fun _ iv wr => ∃ k : Nat, k ≤ s2 ∧ iv = .int .i64 k ∧ Hid (0 < s2 → ∃ L, Blk wr go 50 L ∧ s2 ≤ L.length) ∧ Hid (Blk wr gs 27 [.bool s0, .slice s1 s2 s3, .bool s4, .slice s5 s6 s7]) ∧ Hid (Tn go u8 wr)) (fun _ iv _ => s2 - (intOf iv).toNat)
 case atStart => exact ⟨0, by omega, rfl, fun h => (HO.out h).2, HS9.out, Tn.refl _ _⟩
 case round =>
  clear c0H0 c1H0 c2H0 c3H0 c0H1 c1H1 c2H1 c3H1 c0Hp c1Hp c2Hp c3Hp c0Hq c1Hq c2Hq c3Hq c0Hx c1Hx c2Hx c3Hx c0Hy c1Hy c2Hy c3Hy c0Hn c1Hn c2Hn c3Hn c0Hs c1Hs c2Hs c3Hs c0Hd c1Hd c2Hd c3Hd c0Hm c1Hm c2Hm c3Hm
  obtain ⟨k, hk, rfl, HL, HB9, htn⟩ := hrel
  obtain ⟨x0, x1, x2, x3, -, -, -, -⟩ := HB9.out.four
  by_cases hlt : k < s2
  ·have hn : 0 < s2 := by omega
   obtain ⟨rfl, _⟩ := HO.out hn
   obtain ⟨L, hL, hLl⟩ := HL.out hn
   have hkL : k < L.length := by omega
   obtain ⟨vv, hcv⟩ : ∃ vv, wr.cell? ⟨go, k, none⟩ = some vv := ⟨_, (hL.cell k).trans (List.getElem?_eq_getElem hkL)⟩
   have hfv := hL.frozen k
   have hne : gs ≠ go := var_go HB9.out hL
   have HLL := hi9 hL
   clear hL hn
   go_wp2_with fail
   go_roundw
   case rel => exact ⟨k + 1, by omega, by go_num, fun _ => ⟨_, HLL.out.set_ k (.int .u32 5), by simpa using hLl⟩, HB9.out.far (p := ⟨go, k, none⟩) hne _, htn.out.setCell k _⟩
   case measure => simp [intOf]; omega
  ·obtain ⟨w99, rfl⟩ : ∃ V : World, V = wr := ⟨_, rfl⟩
   have J9 : Below v7.heap.size v7 w99 := JS.trans (htn.out.below HGO.out JS.size)
   have k99 := bst kS J9 nl9
   replace H0 := hi9 (S0.out.below J9 S0.out.lt)
   replace H1 := hi9 (S1.out.below J9 S1.out.lt)
   replace Hp := hi9 (Sp.out.below J9 Sp.out.lt)
   replace Hq := hi9 (Sq.out.below J9 Sq.out.lt)
   replace XP := hi9 (SXP.out.next J9)
   replace XQ := hi9 (SXQ.out.next J9)
   clear x0 x1 x2 x3 HL HB9 htn JS J9 HO HGO HS9 S0 S1 Sp Sq SXP SXQ QX QY NN NS ND NM Hx Hy Hn Hs Hd Hm kS
   obtain ⟨c0H0, c1H0, c2H0, c3H0, -, -, -, -⟩ := H0.out.four
   obtain ⟨c0H1, c1H1, c2H1, c3H1, -, -, -, -⟩ := H1.out.four
   obtain ⟨c0Hp, c1Hp, c2Hp, c3Hp, -, -, -, -⟩ := Hp.out.four
   obtain ⟨c0Hq, c1Hq, c2Hq, c3Hq, -, -, -, -⟩ := Hq.out.four
   go_wp2_with fail
   refine ((XP.out.lsame (XA.out.next k99) (by omega))).mono ?_
   rintro e w100 ⟨rfl, hb100⟩
   clear c0H0 c1H0 c2H0 c3H0 c0H1 c1H1 c2H1 c3H1 c0Hp c1Hp c2Hp c3Hp c0Hq c1Hq c2Hq c3Hq
   have k100 := bst k99 hb100 nl9
   replace H0 := hi9 (H0.out.below hb100 H0.out.lt)
   replace H1 := hi9 (H1.out.below hb100 H1.out.lt)
   replace Hp := hi9 (Hp.out.below hb100 Hp.out.lt)
   replace Hq := hi9 (Hq.out.below hb100 Hq.out.lt)
   replace XP := hi9 (XP.out.next hb100)
   replace XQ := hi9 (XQ.out.next hb100)
   clear k99
   clear hb100
   obtain ⟨c0H0, c1H0, c2H0, c3H0, -, -, -, -⟩ := H0.out.four
   obtain ⟨c0H1, c1H1, c2H1, c3H1, -, -, -, -⟩ := H1.out.four
   obtain ⟨c0Hp, c1Hp, c2Hp, c3Hp, -, -, -, -⟩ := Hp.out.four
   obtain ⟨c0Hq, c1Hq, c2Hq, c3Hq, -, -, -, -⟩ := Hq.out.four
   go_wp2_with fail
   refine ((XQ.out.lsame (XC.out.next k100) (by omega))).mono ?_
   rintro e w101 ⟨rfl, hb101⟩
   clear c0H0 c1H0 c2H0 c3H0 c0H1 c1H1 c2H1 c3H1 c0Hp c1Hp c2Hp c3Hp c0Hq c1Hq c2Hq c3Hq
   have k101 := bst k100 hb101 nl9
   replace H0 := hi9 (H0.out.below hb101 H0.out.lt)
   replace H1 := hi9 (H1.out.below hb101 H1.out.lt)
   replace Hp := hi9 (Hp.out.below hb101 Hp.out.lt)
   replace Hq := hi9 (Hq.out.below hb101 Hq.out.lt)
   replace XP := hi9 (XP.out.next hb101)
   replace XQ := hi9 (XQ.out.next hb101)
   clear k100
   clear hb101
   obtain ⟨c0H0, c1H0, c2H0, c3H0, -, -, -, -⟩ := H0.out.four
   obtain ⟨c0H1, c1H1, c2H1, c3H1, -, -, -, -⟩ := H1.out.four
   obtain ⟨c0Hp, c1Hp, c2Hp, c3Hp, -, -, -, -⟩ := Hp.out.four
   obtain ⟨c0Hq, c1Hq, c2Hq, c3Hq, -, -, -, -⟩ := Hq.out.four
   go_wp2_with fail
   refine (lives05 (TT.out.next k101)).mono ?_
   rintro e w102 ⟨rfl, hb102⟩
   clear c0H0 c1H0 c2H0 c3H0 c0H1 c1H1 c2H1 c3H1 c0Hp c1Hp c2Hp c3Hp c0Hq c1Hq c2Hq c3Hq
   have k102 := bst k101 hb102 nl9
   replace H0 := hi9 (H0.out.below hb102 H0.out.lt)
   replace H1 := hi9 (H1.out.below hb102 H1.out.lt)
   replace Hp := hi9 (Hp.out.below hb102 Hp.out.lt)
   replace Hq := hi9 (Hq.out.below hb102 Hq.out.lt)
   replace XP := hi9 (XP.out.next hb102)
   replace XQ := hi9 (XQ.out.next hb102)
   clear k101
   clear hb102
   obtain ⟨c0H0, c1H0, c2H0, c3H0, -, -, -, -⟩ := H0.out.four
   obtain ⟨c0H1, c1H1, c2H1, c3H1, -, -, -, -⟩ := H1.out.four
   obtain ⟨c0Hp, c1Hp, c2Hp, c3Hp, -, -, -, -⟩ := Hp.out.four
   obtain ⟨c0Hq, c1Hq, c2Hq, c3Hq, -, -, -, -⟩ := Hq.out.four
   go_wp2_with fail
   go_ret
   exact ⟨rfl, k102⟩
set_option maxHeartbeats 25600000 in
set_option maxRecDepth 40000 in
theorem sums_good_bad (N : Nat) (hN : N ≤ 1048576) (hN1 : 1 ≤ N) (hT : Tb w) (h : FX w.heap.size w (.bool a0) (.slice a1 a2 a3) (.bool a4) (.slice a5 a6 a7) ga xa z gb xb y N) (h' : FX w.heap.size w (.bool b0) (.slice b1 b2 b3) (.bool b4) (.slice b5 b6 b7) gc xc x gd xd 0 N) (hy : y ≠ 0) : Calls Tryz.prog 4 #[.agg #[.bool a0, .slice a1 a2 a3, .bool a4, .slice a5 a6 a7], .agg #[.bool b0, .slice b1 b2 b3, .bool b4, .slice b5 b6 b7]] w fun e w' => e = .returned (.bool true) ∧ Below w.heap.size w w' := by
 obtain ⟨q, hq⟩ : ∃ q : Rat, q = (Rat.divInt z y) := ⟨_, rfl⟩
 obtain ⟨r, hr⟩ : ∃ q : Rat, q = 1 := ⟨_, rfl⟩
 have SQ : Hid (someQ z y = q) := by show _ = _; unfold someQ; rw [hq]; exact if_neg hy
 have SR : Hid (someQ x 0 = r) := by show _ = _; unfold someQ; rw [hr]; rfl
 have HY := hi9 hy
 have HQ := hi9 hq.symm
 have dy : decide (y ≠ 0) = true := decide_eq_true hy
 have XA := hi9 h
 have XC := hi9 h'
 have TT := hi9 hT
 clear h h' hT hq hr hy
 obtain ⟨b0', b1'⟩ := blk_rr w (.bool a0) (.slice a1 a2 a3) (.bool a4) (.slice a5 a6 a7) (.bool b0) (.slice b1 b2 b3) (.bool b4) (.slice b5 b6 b7)
 have k0 := bel_two w (.cells #[.bool a0, .slice a1 a2 a3, .bool a4, .slice a5 a6 a7] 27) (.cells #[.bool b0, .slice b1 b2 b3, .bool b4, .slice b5 b6 b7] 27)
 go_enter Tryz.func4, Tryz.ntmps4
 go_upto_region 1 with fail
 obtain ⟨w0, hw0⟩ : ∃ v, v = (w.alloc (.cells #[.bool a0, .slice a1 a2 a3, .bool a4, .slice a5 a6 a7] 27)).alloc (.cells #[.bool b0, .slice b1 b2 b3, .bool b4, .slice b5 b6 b7] 27) := ⟨_, rfl⟩
 rw [← hw0] at k0 b0' b1' ⊢
 clear hw0
 have H0 := hi9 b0'
 have H1 := hi9 b1'
 clear b0' b1'
 have lt0 := H0.out.lt
 have lt1 := H1.out.lt
 refine region_facts_tail 6 [SP.is (.agg #[.bool a0, .slice a1 a2 a3, .bool a4, .slice a5 a6 a7]), SP.copy N ga xa z gb xb y, SP.is (.agg #[.bool b0, .slice b1 b2 b3, .bool b4, .slice b5 b6 b7]), SP.copy N gc xc x gd xd 0, SP.var w0.heap.size 27 [.bool false, .slice none 0 0, .bool false, .slice none 0 0], SP.var w0.heap.size 27 [.bool false, .slice none 0 0, .bool false, .slice none 0 0]] (by kernel_rfl) (by kernel_rfl) (And.intro ?_ (And.intro ?_ (And.intro ?_ (And.intro ?_ (And.intro ?_ (And.intro ?_ trivial)))))) ?_
 ·intro a W hb hold hdep K hK
  have b2 := tmp_eq (hold 2 rfl)
  obtain ⟨c0, c1, c2, c3, -, -, -, -⟩ := (H0.out.below hb H0.out.lt).four
  refine ob_plain rfl ?_
  go_simp
  exact hK _ W rfl nofun br9
 ·intro a W hb hold hdep K hK
  have e0 := tmp_eq (hdep 0 _ 21 rfl rfl rfl).1
  refine ob_plain rfl ?_
  go_simp
  refine ((XA.out.next (bst k0 hb nl9)).rcopy (by omega)).mono ?_
  rintro e w1 ⟨x0, x1, x2, x3, rfl, f9, hb1⟩
  exact hK _ w1 ⟨x0, x1, x2, x3, rfl, f9⟩ nofun hb1
 ·intro a W hb hold hdep K hK
  have b3 := tmp_eq (hold 3 rfl)
  obtain ⟨c0, c1, c2, c3, -, -, -, -⟩ := (H1.out.below hb H1.out.lt).four
  refine ob_plain rfl ?_
  go_simp
  exact hK _ W rfl nofun br9
 ·intro a W hb hold hdep K hK
  have e2 := tmp_eq (hdep 2 _ 23 rfl rfl rfl).1
  refine ob_plain rfl ?_
  go_simp
  refine ((XC.out.next (bst k0 hb nl9)).rcopy (by omega)).mono ?_
  rintro e w1 ⟨x0, x1, x2, x3, rfl, f9, hb1⟩
  exact hK _ w1 ⟨x0, x1, x2, x3, rfl, f9⟩ nofun hb1
 ·intro a W hb hold hdep K hK
  refine ob_plain rfl ?_
  go_simp
  exact hK _ _ (SP.new hb.size rfl) (fun _ => Nat.le_refl _) (bel_one _ _)
 ·intro a W hb hold hdep K hK
  refine ob_plain rfl ?_
  go_simp
  exact hK _ _ (SP.new hb.size rfl) (fun _ => Nat.le_refl _) (bel_one _ _)
 intro vls u1 hb hf hd
 have e0 : vls 0 = _ := hf 0 (by decide)
 obtain ⟨o1x1_0, o1x1_1, o1x1_2, o1x1_3, e1, f1⟩ := hf 1 (by decide)
 have e2 : vls 2 = _ := hf 2 (by decide)
 obtain ⟨o1x3_0, o1x3_1, o1x3_2, o1x3_3, e3, f3⟩ := hf 3 (by decide)
 obtain ⟨g4, e4, hg4, hk4⟩ := hf 4 (by decide)
 obtain ⟨g5, e5, hg5, hk5⟩ := hf 5 (by decide)
 have n4_5 := hd 4 5 (by decide) (by decide) (by decide) rfl rfl
 rw [e4, e5] at n4_5
 replace n4_5 : g4 ≠ g5 := n4_5
 have n5_4 := Ne.symm n4_5
 clear hf hd
 simp only [List.take_succ_cons, List.take_zero, List.drop_succ_cons, List.drop_zero, foldPut, Act.put, List.setIfInBounds_toArray, List.set_cons_zero, List.set_cons_succ, Nat.reduceAdd, e0, e1, e2, e3, e4, e5]
 clear e0 e1 e2 e3 e4 e5
 have ks := k0.size
 obtain ⟨z0, z1, z2, z3, y0, y1, y2, y3⟩ := hk4.four
 obtain ⟨z4, z5, z6, z7, y4, y5, y6, y7⟩ := hk5.four
 have k1 := bst k0 hb nl9
 replace H0 := hi9 (H0.out.below hb H0.out.lt)
 replace H1 := hi9 (H1.out.below hb H1.out.lt)
 clear k0
 clear hb
 go_upto_region 2 with fail
 obtain ⟨v2, hv⟩ : ∃ V, V = set4 (set4 u1 g4 (.bool ga) (.slice o1x1_0 xa.length o1x1_1) (.bool gb) (.slice o1x1_2 xb.length o1x1_3)) g5 (.bool gc) (.slice o1x3_0 xc.length o1x3_1) (.bool gd) (.slice o1x3_2 xd.length o1x3_3) := ⟨_, rfl⟩
 have hv2 := hv
 unfold set4 at hv2
 rw [← hv2]
 clear hv2 y0 y1 y2 y3 y4 y5 y6 y7 z0 z1 z2 z3 z4 z5 z6 z7
 have q1 := set4_far (set4_same (a := .bool ga) (b := .slice o1x1_0 xa.length o1x1_1) (c := .bool gb) (d := .slice o1x1_2 xb.length o1x1_3) hk4) n4_5 (a := .bool gc) (b := .slice o1x3_0 xc.length o1x3_1) (c := .bool gd) (d := .slice o1x3_2 xd.length o1x3_3)
 have hkf := set4_far hk5 n5_4 (a := .bool ga) (b := .slice o1x1_0 xa.length o1x1_1) (c := .bool gb) (d := .slice o1x1_2 xb.length o1x1_3)
 have q2 := set4_same hkf (a := .bool gc) (b := .slice o1x3_0 xc.length o1x3_1) (c := .bool gd) (d := .slice o1x3_2 xd.length o1x3_3)
 rw [← hv] at q1 q2
 have Hp := hi9 q1
 have Hq := hi9 q2
 have na : w.heap.size ≠ g4 := Nat.ne_of_lt (Nat.lt_of_lt_of_le (lt0) hg4)
 have nb : w.heap.size ≠ g5 := Nat.ne_of_lt (Nat.lt_of_lt_of_le (lt0) hg5)
 have q3 := set4_far (set4_far H0.out na (a := .bool ga) (b := .slice o1x1_0 xa.length o1x1_1) (c := .bool gb) (d := .slice o1x1_2 xb.length o1x1_3)) nb (a := .bool gc) (b := .slice o1x3_0 xc.length o1x3_1) (c := .bool gd) (d := .slice o1x3_2 xd.length o1x3_3)
 rw [← hv] at q3
 replace H0 := hi9 q3
 clear na nb q3
 have na : (w.heap.size + 1) ≠ g4 := Nat.ne_of_lt (Nat.lt_of_lt_of_le (lt1) hg4)
 have nb : (w.heap.size + 1) ≠ g5 := Nat.ne_of_lt (Nat.lt_of_lt_of_le (lt1) hg5)
 have q3 := set4_far (set4_far H1.out na (a := .bool ga) (b := .slice o1x1_0 xa.length o1x1_1) (c := .bool gb) (d := .slice o1x1_2 xb.length o1x1_3)) nb (a := .bool gc) (b := .slice o1x3_0 xc.length o1x3_1) (c := .bool gd) (d := .slice o1x3_2 xd.length o1x3_3)
 rw [← hv] at q3
 replace H1 := hi9 q3
 clear na nb q3
 have k2 : Below w.heap.size w v2 := by rw [hv]; exact set4_below (set4_below k1 (Nat.le_trans ks hg4)) (Nat.le_trans ks hg5)
 have XP : Hid (FX 0 v2 (.bool ga) (.slice o1x1_0 xa.length o1x1_1) (.bool gb) (.slice o1x1_2 xb.length o1x1_3) ga xa z gb xb y N) := by show FX 0 v2 (.bool ga) (.slice o1x1_0 xa.length o1x1_1) (.bool gb) (.slice o1x1_2 xb.length o1x1_3) ga xa z gb xb y N; rw [hv]; exact ((f1.var4 (Nat.zero_le _) hk4 _ _ _ _).var4 (Nat.zero_le _) hkf _ _ _ _)
 have XQ : Hid (FX 0 v2 (.bool gc) (.slice o1x3_0 xc.length o1x3_1) (.bool gd) (.slice o1x3_2 xd.length o1x3_3) gc xc x gd xd 0 N) := by show FX 0 v2 (.bool gc) (.slice o1x3_0 xc.length o1x3_1) (.bool gd) (.slice o1x3_2 xd.length o1x3_3) gc xc x gd xd 0 N; rw [hv]; exact ((f3.var4 (Nat.zero_le _) hk4 _ _ _ _).var4 (Nat.zero_le _) hkf _ _ _ _)
 clear hv q1 q2 hkf hk4 hk5 f1 f3 ks k1
 clear lt0 lt1 hg4 hg5 n4_5 n5_4
 obtain ⟨gp, hgp⟩ : ∃ g, g = g4 := ⟨_, rfl⟩
 obtain ⟨gq, hgq⟩ : ∃ g, g = g5 := ⟨_, rfl⟩
 rw [← hgp, ← hgq]
 rw [← hgp] at Hp
 rw [← hgq] at Hq
 clear hgp hgq
 have lt0 := H0.out.lt
 have lt1 := H1.out.lt
 have lt2 := Hp.out.lt
 have lt3 := Hq.out.lt
 refine region_facts_tail 6 [SP.is (.agg #[.bool a0, .slice a1 a2 a3, .bool a4, .slice a5 a6 a7]), SP.qv w.heap.size q N, SP.is (.agg #[.bool b0, .slice b1 b2 b3, .bool b4, .slice b5 b6 b7]), SP.qv w.heap.size r N, SP.var v2.heap.size 27 [.bool false, .slice none 0 0, .bool false, .slice none 0 0], SP.var v2.heap.size 27 [.bool false, .slice none 0 0, .bool false, .slice none 0 0]] (by kernel_rfl) (by kernel_rfl) (And.intro ?_ (And.intro ?_ (And.intro ?_ (And.intro ?_ (And.intro ?_ (And.intro ?_ trivial)))))) ?_
 ·intro a W hb hold hdep K hK
  have b2 := tmp_eq (hold 2 rfl)
  obtain ⟨c0, c1, c2, c3, -, -, -, -⟩ := (H0.out.below hb H0.out.lt).four
  refine ob_plain rfl ?_
  go_simp
  exact hK _ W rfl nofun br9
 ·intro a W hb hold hdep K hK
  have e0 := tmp_eq (hdep 0 _ 25 rfl rfl rfl).1
  refine ob_plain rfl ?_
  go_simp
  refine (some_q ((XA.out.next (bst k2 hb nl9)).fv) hN1 (by omega) SQ.out).mono ?_
  rintro e w1 ⟨x0, x1, x2, x3, x4, x5, x6, x7, rfl, f9, hb1⟩
  exact hK _ w1 ⟨x0, x1, x2, x3, x4, x5, x6, x7, rfl, f9⟩ nofun hb1
 ·intro a W hb hold hdep K hK
  have b3 := tmp_eq (hold 3 rfl)
  obtain ⟨c0, c1, c2, c3, -, -, -, -⟩ := (H1.out.below hb H1.out.lt).four
  refine ob_plain rfl ?_
  go_simp
  exact hK _ W rfl nofun br9
 ·intro a W hb hold hdep K hK
  have e2 := tmp_eq (hdep 2 _ 27 rfl rfl rfl).1
  refine ob_plain rfl ?_
  go_simp
  refine (some_q ((XC.out.next (bst k2 hb nl9)).fv) hN1 (by omega) SR.out).mono ?_
  rintro e w1 ⟨x0, x1, x2, x3, x4, x5, x6, x7, rfl, f9, hb1⟩
  exact hK _ w1 ⟨x0, x1, x2, x3, x4, x5, x6, x7, rfl, f9⟩ nofun hb1
 ·intro a W hb hold hdep K hK
  refine ob_plain rfl ?_
  go_simp
  exact hK _ _ (SP.new hb.size rfl) (fun _ => Nat.le_refl _) (bel_one _ _)
 ·intro a W hb hold hdep K hK
  refine ob_plain rfl ?_
  go_simp
  exact hK _ _ (SP.new hb.size rfl) (fun _ => Nat.le_refl _) (bel_one _ _)
 intro vls u2 hb hf hd
 have e0 : vls 0 = _ := hf 0 (by decide)
 obtain ⟨o2x1_0, o2x1_1, o2x1_2, o2x1_3, o2x1_4, o2x1_5, o2x1_6, o2x1_7, e1, f1⟩ := hf 1 (by decide)
 have e2 : vls 2 = _ := hf 2 (by decide)
 obtain ⟨o2x3_0, o2x3_1, o2x3_2, o2x3_3, o2x3_4, o2x3_5, o2x3_6, o2x3_7, e3, f3⟩ := hf 3 (by decide)
 obtain ⟨g4, e4, hg4, hk4⟩ := hf 4 (by decide)
 obtain ⟨g5, e5, hg5, hk5⟩ := hf 5 (by decide)
 have n4_5 := hd 4 5 (by decide) (by decide) (by decide) rfl rfl
 rw [e4, e5] at n4_5
 replace n4_5 : g4 ≠ g5 := n4_5
 have n5_4 := Ne.symm n4_5
 clear hf hd
 simp only [List.take_succ_cons, List.take_zero, List.drop_succ_cons, List.drop_zero, foldPut, Act.put, List.setIfInBounds_toArray, List.set_cons_zero, List.set_cons_succ, Nat.reduceAdd, e0, e1, e2, e3, e4, e5]
 clear e0 e1 e2 e3 e4 e5
 have ks := k2.size
 obtain ⟨z0, z1, z2, z3, y0, y1, y2, y3⟩ := hk4.four
 obtain ⟨z4, z5, z6, z7, y4, y5, y6, y7⟩ := hk5.four
 have k3 := bst k2 hb nl9
 replace H0 := hi9 (H0.out.below hb H0.out.lt)
 replace H1 := hi9 (H1.out.below hb H1.out.lt)
 replace Hp := hi9 (Hp.out.below hb Hp.out.lt)
 replace Hq := hi9 (Hq.out.below hb Hq.out.lt)
 replace XP := hi9 (XP.out.next hb)
 replace XQ := hi9 (XQ.out.next hb)
 clear k2
 clear hb
 go_upto_region 3 with fail
 obtain ⟨v4, hv⟩ : ∃ V, V = set4 (set4 u2 g4 (.bool o2x1_0) (.slice o2x1_1 o2x1_2 o2x1_3) (.bool o2x1_4) (.slice o2x1_5 o2x1_6 o2x1_7)) g5 (.bool o2x3_0) (.slice o2x3_1 o2x3_2 o2x3_3) (.bool o2x3_4) (.slice o2x3_5 o2x3_6 o2x3_7) := ⟨_, rfl⟩
 have hv2 := hv
 unfold set4 at hv2
 rw [← hv2]
 clear hv2 y0 y1 y2 y3 y4 y5 y6 y7 z0 z1 z2 z3 z4 z5 z6 z7
 have q1 := set4_far (set4_same (a := .bool o2x1_0) (b := .slice o2x1_1 o2x1_2 o2x1_3) (c := .bool o2x1_4) (d := .slice o2x1_5 o2x1_6 o2x1_7) hk4) n4_5 (a := .bool o2x3_0) (b := .slice o2x3_1 o2x3_2 o2x3_3) (c := .bool o2x3_4) (d := .slice o2x3_5 o2x3_6 o2x3_7)
 have hkf := set4_far hk5 n5_4 (a := .bool o2x1_0) (b := .slice o2x1_1 o2x1_2 o2x1_3) (c := .bool o2x1_4) (d := .slice o2x1_5 o2x1_6 o2x1_7)
 have q2 := set4_same hkf (a := .bool o2x3_0) (b := .slice o2x3_1 o2x3_2 o2x3_3) (c := .bool o2x3_4) (d := .slice o2x3_5 o2x3_6 o2x3_7)
 rw [← hv] at q1 q2
 have Hx := hi9 q1
 have Hy := hi9 q2
 have na : w.heap.size ≠ g4 := Nat.ne_of_lt (Nat.lt_of_lt_of_le (lt0) hg4)
 have nb : w.heap.size ≠ g5 := Nat.ne_of_lt (Nat.lt_of_lt_of_le (lt0) hg5)
 have q3 := set4_far (set4_far H0.out na (a := .bool o2x1_0) (b := .slice o2x1_1 o2x1_2 o2x1_3) (c := .bool o2x1_4) (d := .slice o2x1_5 o2x1_6 o2x1_7)) nb (a := .bool o2x3_0) (b := .slice o2x3_1 o2x3_2 o2x3_3) (c := .bool o2x3_4) (d := .slice o2x3_5 o2x3_6 o2x3_7)
 rw [← hv] at q3
 replace H0 := hi9 q3
 clear na nb q3
 have na : (w.heap.size + 1) ≠ g4 := Nat.ne_of_lt (Nat.lt_of_lt_of_le (lt1) hg4)
 have nb : (w.heap.size + 1) ≠ g5 := Nat.ne_of_lt (Nat.lt_of_lt_of_le (lt1) hg5)
 have q3 := set4_far (set4_far H1.out na (a := .bool o2x1_0) (b := .slice o2x1_1 o2x1_2 o2x1_3) (c := .bool o2x1_4) (d := .slice o2x1_5 o2x1_6 o2x1_7)) nb (a := .bool o2x3_0) (b := .slice o2x3_1 o2x3_2 o2x3_3) (c := .bool o2x3_4) (d := .slice o2x3_5 o2x3_6 o2x3_7)
 rw [← hv] at q3
 replace H1 := hi9 q3
 clear na nb q3
 have na : gp ≠ g4 := Nat.ne_of_lt (Nat.lt_of_lt_of_le (lt2) hg4)
 have nb : gp ≠ g5 := Nat.ne_of_lt (Nat.lt_of_lt_of_le (lt2) hg5)
 have q3 := set4_far (set4_far Hp.out na (a := .bool o2x1_0) (b := .slice o2x1_1 o2x1_2 o2x1_3) (c := .bool o2x1_4) (d := .slice o2x1_5 o2x1_6 o2x1_7)) nb (a := .bool o2x3_0) (b := .slice o2x3_1 o2x3_2 o2x3_3) (c := .bool o2x3_4) (d := .slice o2x3_5 o2x3_6 o2x3_7)
 rw [← hv] at q3
 replace Hp := hi9 q3
 clear na nb q3
 have na : gq ≠ g4 := Nat.ne_of_lt (Nat.lt_of_lt_of_le (lt3) hg4)
 have nb : gq ≠ g5 := Nat.ne_of_lt (Nat.lt_of_lt_of_le (lt3) hg5)
 have q3 := set4_far (set4_far Hq.out na (a := .bool o2x1_0) (b := .slice o2x1_1 o2x1_2 o2x1_3) (c := .bool o2x1_4) (d := .slice o2x1_5 o2x1_6 o2x1_7)) nb (a := .bool o2x3_0) (b := .slice o2x3_1 o2x3_2 o2x3_3) (c := .bool o2x3_4) (d := .slice o2x3_5 o2x3_6 o2x3_7)
 rw [← hv] at q3
 replace Hq := hi9 q3
 clear na nb q3
 have k4 : Below w.heap.size w v4 := by rw [hv]; exact set4_below (set4_below k3 (Nat.le_trans ks hg4)) (Nat.le_trans ks hg5)
 have QX : Hid (QV w.heap.size v4 (.bool o2x1_0) (.slice o2x1_1 o2x1_2 o2x1_3) (.bool o2x1_4) (.slice o2x1_5 o2x1_6 o2x1_7) q N) := by show QV w.heap.size v4 (.bool o2x1_0) (.slice o2x1_1 o2x1_2 o2x1_3) (.bool o2x1_4) (.slice o2x1_5 o2x1_6 o2x1_7) q N; rw [hv]; exact ((f1.set4 (Nat.le_trans ks hg4) hk4).set4 (Nat.le_trans ks hg5) hkf)
 have QY : Hid (QV w.heap.size v4 (.bool o2x3_0) (.slice o2x3_1 o2x3_2 o2x3_3) (.bool o2x3_4) (.slice o2x3_5 o2x3_6 o2x3_7) r N) := by show QV w.heap.size v4 (.bool o2x3_0) (.slice o2x3_1 o2x3_2 o2x3_3) (.bool o2x3_4) (.slice o2x3_5 o2x3_6 o2x3_7) r N; rw [hv]; exact ((f3.set4 (Nat.le_trans ks hg4) hk4).set4 (Nat.le_trans ks hg5) hkf)
 replace XP : Hid (FX 0 v4 (.bool ga) (.slice o1x1_0 xa.length o1x1_1) (.bool gb) (.slice o1x1_2 xb.length o1x1_3) ga xa z gb xb y N) := by show FX 0 v4 (.bool ga) (.slice o1x1_0 xa.length o1x1_1) (.bool gb) (.slice o1x1_2 xb.length o1x1_3) ga xa z gb xb y N; rw [hv]; exact ((XP.out.var4 (Nat.zero_le _) hk4 _ _ _ _).var4 (Nat.zero_le _) hkf _ _ _ _)
 replace XQ : Hid (FX 0 v4 (.bool gc) (.slice o1x3_0 xc.length o1x3_1) (.bool gd) (.slice o1x3_2 xd.length o1x3_3) gc xc x gd xd 0 N) := by show FX 0 v4 (.bool gc) (.slice o1x3_0 xc.length o1x3_1) (.bool gd) (.slice o1x3_2 xd.length o1x3_3) gc xc x gd xd 0 N; rw [hv]; exact ((XQ.out.var4 (Nat.zero_le _) hk4 _ _ _ _).var4 (Nat.zero_le _) hkf _ _ _ _)
 clear hv q1 q2 hkf hk4 hk5 f1 f3 ks k3
 clear lt0 lt1 lt2 lt3 hg4 hg5 n4_5 n5_4
 obtain ⟨gx, hgx⟩ : ∃ g, g = g4 := ⟨_, rfl⟩
 obtain ⟨gy, hgy⟩ : ∃ g, g = g5 := ⟨_, rfl⟩
 rw [← hgx, ← hgy]
 rw [← hgx] at Hx
 rw [← hgy] at Hy
 clear hgx hgy
 refine region_facts [SP.is (.agg #[.bool a0, .slice a1 a2 a3, .bool a4, .slice a5 a6 a7]), SP.is (.bool true), SP.is (.agg #[.bool a0, .slice a1 a2 a3, .bool a4, .slice a5 a6 a7]), SP.is (.bool true), SP.is (.bool true), SP.is (.agg #[.bool b0, .slice b1 b2 b3, .bool b4, .slice b5 b6 b7]), SP.is (.bool false), SP.is (.bool false), SP.is (.bool true), SP.is (.bool false)] (by kernel_rfl) (by kernel_rfl) (And.intro ?_ (And.intro ?_ (And.intro ?_ (And.intro ?_ (And.intro ?_ (And.intro ?_ (And.intro ?_ (And.intro ?_ (And.intro ?_ (And.intro ?_ trivial)))))))))) ?_
 ·intro a W hb hold hdep K hK
  have b2 := tmp_eq (hold 2 rfl)
  obtain ⟨c0, c1, c2, c3, -, -, -, -⟩ := (H0.out.below hb H0.out.lt).four
  refine ob_plain rfl ?_
  go_simp
  exact hK _ W rfl nofun br9
 ·intro a W hb hold hdep K hK
  have e0 := tmp_eq (hdep 0 _ 29 rfl rfl rfl).1
  refine ob_plain rfl ?_
  go_simp
  refine ((may_yes ((XA.out.next (bst k4 hb nl9)).fv) dy (by omega))).mono ?_
  rintro e w1 ⟨rfl, hb1⟩
  exact hK _ w1 rfl nofun hb1
 ·intro a W hb hold hdep K hK
  have b2 := tmp_eq (hold 2 rfl)
  obtain ⟨c0, c1, c2, c3, -, -, -, -⟩ := (H0.out.below hb H0.out.lt).four
  refine ob_plain rfl ?_
  go_simp
  exact hK _ W rfl nofun br9
 ·intro a W hb hold hdep K hK
  have e2 := tmp_eq (hdep 2 _ 31 rfl rfl rfl).1
  refine ob_plain rfl ?_
  go_simp
  refine ((may_yes ((XA.out.next (bst k4 hb nl9)).fv) dy (by omega))).mono ?_
  rintro e w1 ⟨rfl, hb1⟩
  exact hK _ w1 rfl nofun hb1
 ·intro a W hb hold hdep K hK
  have e3 := tmp_eq (hdep 3 _ 32 rfl rfl rfl).1
  refine ob_plain rfl ?_
  go_simp
  exact hK _ W rfl nofun br9
 ·intro a W hb hold hdep K hK
  have b3 := tmp_eq (hold 3 rfl)
  obtain ⟨c0, c1, c2, c3, -, -, -, -⟩ := (H1.out.below hb H1.out.lt).four
  refine ob_guard (j := 4) rfl rfl rfl (hdep 4 _ 33 rfl rfl rfl) ?_
  go_simp
  exact hK _ W rfl nofun br9
 ·intro a W hb hold hdep K hK
  have e5 := tmp_eq (hdep 5 _ 34 rfl rfl rfl).1
  refine ob_guard (j := 4) rfl rfl rfl (hdep 4 _ 33 rfl rfl rfl) ?_
  go_simp
  refine ((((XC.out.next (bst k4 hb nl9)).fv).rmay (by omega))).mono ?_
  rintro e w1 ⟨rfl, hb1⟩
  exact hK _ w1 rfl nofun hb1
 ·intro a W hb hold hdep K hK
  have e4 := tmp_eq (hdep 4 _ 33 rfl rfl rfl).1
  have e6 := tmp_eq (hdep 6 _ 35 rfl rfl rfl).1
  refine ob_plain rfl ?_
  go_simp
  exact hK _ W rfl nofun br9
 ·intro a W hb hold hdep K hK
  have e1 := tmp_eq (hdep 1 _ 30 rfl rfl rfl).1
  refine ob_plain rfl ?_
  go_simp
  exact hK _ W rfl nofun br9
 ·intro a W hb hold hdep K hK
  have e7 := tmp_eq (hdep 7 _ 36 rfl rfl rfl).1
  refine ob_plain rfl ?_
  go_simp
  exact hK _ W rfl nofun br9
 intro vls u3 hb hf hd
 have e0 : vls 0 = _ := hf 0 (by decide)
 have e1 : vls 1 = _ := hf 1 (by decide)
 have e2 : vls 2 = _ := hf 2 (by decide)
 have e3 : vls 3 = _ := hf 3 (by decide)
 have e4 : vls 4 = _ := hf 4 (by decide)
 have e5 : vls 5 = _ := hf 5 (by decide)
 have e6 : vls 6 = _ := hf 6 (by decide)
 have e7 : vls 7 = _ := hf 7 (by decide)
 have e8 : vls 8 = _ := hf 8 (by decide)
 have e9 : vls 9 = _ := hf 9 (by decide)
 clear hf hd
 simp only [foldPut, Act.put, List.setIfInBounds_toArray, List.set_cons_zero, List.set_cons_succ, Nat.reduceAdd, e0, e1, e2, e3, e4, e5, e6, e7, e8, e9]
 clear e0 e1 e2 e3 e4 e5 e6 e7 e8 e9
 have k5 := bst k4 hb nl9
 replace H0 := hi9 (H0.out.below hb H0.out.lt)
 replace H1 := hi9 (H1.out.below hb H1.out.lt)
 replace Hp := hi9 (Hp.out.below hb Hp.out.lt)
 replace Hq := hi9 (Hq.out.below hb Hq.out.lt)
 replace Hx := hi9 (Hx.out.below hb Hx.out.lt)
 replace Hy := hi9 (Hy.out.below hb Hy.out.lt)
 replace XP := hi9 (XP.out.next hb)
 replace XQ := hi9 (XQ.out.next hb)
 replace QX := hi9 (QX.out.next hb)
 replace QY := hi9 (QY.out.next hb)
 clear k4
 clear hb
 obtain ⟨c0H0, c1H0, c2H0, c3H0, -, -, -, -⟩ := H0.out.four
 obtain ⟨c0H1, c1H1, c2H1, c3H1, -, -, -, -⟩ := H1.out.four
 obtain ⟨c0Hp, c1Hp, c2Hp, c3Hp, -, -, -, -⟩ := Hp.out.four
 obtain ⟨c0Hq, c1Hq, c2Hq, c3Hq, -, -, -, -⟩ := Hq.out.four
 obtain ⟨c0Hx, c1Hx, c2Hx, c3Hx, -, -, -, -⟩ := Hx.out.four
 obtain ⟨c0Hy, c1Hy, c2Hy, c3Hy, -, -, -, -⟩ := Hy.out.four
 go_wp2_with fail
 refine ((XP.out.fv.qv HY.out).qneg (by omega) (TT.out.next k5)).mono ?_
 rintro e w6 ⟨n0, n1, n2, n3, n4, n5, n6, n7, rfl, nn, hb6⟩
 clear c0H0 c1H0 c2H0 c3H0 c0H1 c1H1 c2H1 c3H1 c0Hp c1Hp c2Hp c3Hp c0Hq c1Hq c2Hq c3Hq c0Hx c1Hx c2Hx c3Hx c0Hy c1Hy c2Hy c3Hy
 have k6 := bst k5 hb6 nl9
 replace H0 := hi9 (H0.out.below hb6 H0.out.lt)
 replace H1 := hi9 (H1.out.below hb6 H1.out.lt)
 replace Hp := hi9 (Hp.out.below hb6 Hp.out.lt)
 replace Hq := hi9 (Hq.out.below hb6 Hq.out.lt)
 replace Hx := hi9 (Hx.out.below hb6 Hx.out.lt)
 replace Hy := hi9 (Hy.out.below hb6 Hy.out.lt)
 replace XP := hi9 (XP.out.next hb6)
 replace XQ := hi9 (XQ.out.next hb6)
 replace QX := hi9 (QX.out.next hb6)
 replace QY := hi9 (QY.out.next hb6)
 clear k5
 clear hb6
 have NN := hi9 nn
 clear nn
 go_upto_region 5 with fail
 obtain ⟨v7, hv⟩ : ∃ v, v = w6.alloc (.cells #[.bool n0, .slice n1 n2 n3, .bool n4, .slice n5 n6 n7] 27) := ⟨_, rfl⟩
 rw [← hv]
 have bn : Blk v7 w6.heap.size 27 [.bool n0, .slice n1 n2 n3, .bool n4, .slice n5 n6 n7] := by rw [hv]; exact Blk.new_ rfl
 have jn : Below w6.heap.size w6 v7 := by rw [hv]; exact bel_one _ _
 obtain ⟨gn, hg⟩ : ∃ g, g = w6.heap.size := ⟨_, rfl⟩
 rw [← hg] at bn ⊢
 clear hg hv
 have Hn := hi9 bn
 clear bn
 have k7 := bst k6 jn nl9
 replace H0 := hi9 (H0.out.below jn H0.out.lt)
 replace H1 := hi9 (H1.out.below jn H1.out.lt)
 replace Hp := hi9 (Hp.out.below jn Hp.out.lt)
 replace Hq := hi9 (Hq.out.below jn Hq.out.lt)
 replace Hx := hi9 (Hx.out.below jn Hx.out.lt)
 replace Hy := hi9 (Hy.out.below jn Hy.out.lt)
 replace XP := hi9 (XP.out.next jn)
 replace XQ := hi9 (XQ.out.next jn)
 replace QX := hi9 (QX.out.next jn)
 replace QY := hi9 (QY.out.next jn)
 replace NN := hi9 (NN.out.next jn)
 clear k6
 clear jn
 obtain ⟨c0H0, c1H0, c2H0, c3H0, -, -, -, -⟩ := H0.out.four
 obtain ⟨c0H1, c1H1, c2H1, c3H1, -, -, -, -⟩ := H1.out.four
 obtain ⟨c0Hp, c1Hp, c2Hp, c3Hp, -, -, -, -⟩ := Hp.out.four
 obtain ⟨c0Hq, c1Hq, c2Hq, c3Hq, -, -, -, -⟩ := Hq.out.four
 obtain ⟨c0Hx, c1Hx, c2Hx, c3Hx, -, -, -, -⟩ := Hx.out.four
 obtain ⟨c0Hy, c1Hy, c2Hy, c3Hy, -, -, -, -⟩ := Hy.out.four
 obtain ⟨c0Hn, c1Hn, c2Hn, c3Hn, -, -, -, -⟩ := Hn.out.four
 have S0 := H0
 have S1 := H1
 have Sp := Hp
 have Sq := Hq
 have SXP := XP
 have SXQ := XQ
 have JS := Below.refl v7.heap.size v7
 have kS := k7
 go_wp2_with fail
 refine (XP.out.fv.add_bad XQ.out.fv (by omega) (Or.inr rfl)).mono ?_
 rintro e w8 ⟨s0, s1, s2, s3, s4, s5, s6, s7, rfl, nn, hb8⟩
 have NSB := hi9 (JS.size)
 clear c0H0 c1H0 c2H0 c3H0 c0H1 c1H1 c2H1 c3H1 c0Hp c1Hp c2Hp c3Hp c0Hq c1Hq c2Hq c3Hq c0Hx c1Hx c2Hx c3Hx c0Hy c1Hy c2Hy c3Hy c0Hn c1Hn c2Hn c3Hn
 have k8 := bst k7 hb8 nl9
 replace H0 := hi9 (H0.out.below hb8 H0.out.lt)
 replace H1 := hi9 (H1.out.below hb8 H1.out.lt)
 replace Hp := hi9 (Hp.out.below hb8 Hp.out.lt)
 replace Hq := hi9 (Hq.out.below hb8 Hq.out.lt)
 replace Hx := hi9 (Hx.out.below hb8 Hx.out.lt)
 replace Hy := hi9 (Hy.out.below hb8 Hy.out.lt)
 replace Hn := hi9 (Hn.out.below hb8 Hn.out.lt)
 replace XP := hi9 (XP.out.next hb8)
 replace XQ := hi9 (XQ.out.next hb8)
 replace QX := hi9 (QX.out.next hb8)
 replace QY := hi9 (QY.out.next hb8)
 replace NN := hi9 (NN.out.next hb8)
 clear k7
 replace JS := bst JS hb8 nl9
 clear hb8
 have NS := hi9 nn
 clear nn
 go_upto_region 6 with fail
 obtain ⟨v9, hv⟩ : ∃ v, v = w8.alloc (.cells #[.bool s0, .slice s1 s2 s3, .bool s4, .slice s5 s6 s7] 27) := ⟨_, rfl⟩
 rw [← hv]
 have bn : Blk v9 w8.heap.size 27 [.bool s0, .slice s1 s2 s3, .bool s4, .slice s5 s6 s7] := by rw [hv]; exact Blk.new_ rfl
 have jn : Below w8.heap.size w8 v9 := by rw [hv]; exact bel_one _ _
 obtain ⟨gs, hg⟩ : ∃ g, g = w8.heap.size := ⟨_, rfl⟩
 rw [← hg] at bn ⊢
 clear hg hv
 have Hs := hi9 bn
 clear bn
 have k9 := bst k8 jn nl9
 replace H0 := hi9 (H0.out.below jn H0.out.lt)
 replace H1 := hi9 (H1.out.below jn H1.out.lt)
 replace Hp := hi9 (Hp.out.below jn Hp.out.lt)
 replace Hq := hi9 (Hq.out.below jn Hq.out.lt)
 replace Hx := hi9 (Hx.out.below jn Hx.out.lt)
 replace Hy := hi9 (Hy.out.below jn Hy.out.lt)
 replace Hn := hi9 (Hn.out.below jn Hn.out.lt)
 replace XP := hi9 (XP.out.next jn)
 replace XQ := hi9 (XQ.out.next jn)
 replace QX := hi9 (QX.out.next jn)
 replace QY := hi9 (QY.out.next jn)
 replace NN := hi9 (NN.out.next jn)
 replace NS := hi9 (NS.out.next jn)
 clear k8
 replace JS := bst JS jn nl9
 clear jn
 obtain ⟨c0H0, c1H0, c2H0, c3H0, -, -, -, -⟩ := H0.out.four
 obtain ⟨c0H1, c1H1, c2H1, c3H1, -, -, -, -⟩ := H1.out.four
 obtain ⟨c0Hp, c1Hp, c2Hp, c3Hp, -, -, -, -⟩ := Hp.out.four
 obtain ⟨c0Hq, c1Hq, c2Hq, c3Hq, -, -, -, -⟩ := Hq.out.four
 obtain ⟨c0Hx, c1Hx, c2Hx, c3Hx, -, -, -, -⟩ := Hx.out.four
 obtain ⟨c0Hy, c1Hy, c2Hy, c3Hy, -, -, -, -⟩ := Hy.out.four
 obtain ⟨c0Hn, c1Hn, c2Hn, c3Hn, -, -, -, -⟩ := Hn.out.four
 obtain ⟨c0Hs, c1Hs, c2Hs, c3Hs, -, -, -, -⟩ := Hs.out.four
 go_wp2_with fail
 refine (XP.out.fv.sub_bad XQ.out.fv (by omega) (Or.inr rfl)).mono ?_
 rintro e w10 ⟨d0, d1, d2, d3, d4, d5, d6, d7, rfl, nn, hb10⟩
 clear c0H0 c1H0 c2H0 c3H0 c0H1 c1H1 c2H1 c3H1 c0Hp c1Hp c2Hp c3Hp c0Hq c1Hq c2Hq c3Hq c0Hx c1Hx c2Hx c3Hx c0Hy c1Hy c2Hy c3Hy c0Hn c1Hn c2Hn c3Hn c0Hs c1Hs c2Hs c3Hs
 have k10 := bst k9 hb10 nl9
 replace H0 := hi9 (H0.out.below hb10 H0.out.lt)
 replace H1 := hi9 (H1.out.below hb10 H1.out.lt)
 replace Hp := hi9 (Hp.out.below hb10 Hp.out.lt)
 replace Hq := hi9 (Hq.out.below hb10 Hq.out.lt)
 replace Hx := hi9 (Hx.out.below hb10 Hx.out.lt)
 replace Hy := hi9 (Hy.out.below hb10 Hy.out.lt)
 replace Hn := hi9 (Hn.out.below hb10 Hn.out.lt)
 replace Hs := hi9 (Hs.out.below hb10 Hs.out.lt)
 replace XP := hi9 (XP.out.next hb10)
 replace XQ := hi9 (XQ.out.next hb10)
 replace QX := hi9 (QX.out.next hb10)
 replace QY := hi9 (QY.out.next hb10)
 replace NN := hi9 (NN.out.next hb10)
 replace NS := hi9 (NS.out.next hb10)
 clear k9
 replace JS := bst JS hb10 nl9
 clear hb10
 have ND := hi9 nn
 clear nn
 go_upto_region 7 with fail
 obtain ⟨v11, hv⟩ : ∃ v, v = w10.alloc (.cells #[.bool d0, .slice d1 d2 d3, .bool d4, .slice d5 d6 d7] 27) := ⟨_, rfl⟩
 rw [← hv]
 have bn : Blk v11 w10.heap.size 27 [.bool d0, .slice d1 d2 d3, .bool d4, .slice d5 d6 d7] := by rw [hv]; exact Blk.new_ rfl
 have jn : Below w10.heap.size w10 v11 := by rw [hv]; exact bel_one _ _
 obtain ⟨gd, hg⟩ : ∃ g, g = w10.heap.size := ⟨_, rfl⟩
 rw [← hg] at bn ⊢
 clear hg hv
 have Hd := hi9 bn
 clear bn
 have k11 := bst k10 jn nl9
 replace H0 := hi9 (H0.out.below jn H0.out.lt)
 replace H1 := hi9 (H1.out.below jn H1.out.lt)
 replace Hp := hi9 (Hp.out.below jn Hp.out.lt)
 replace Hq := hi9 (Hq.out.below jn Hq.out.lt)
 replace Hx := hi9 (Hx.out.below jn Hx.out.lt)
 replace Hy := hi9 (Hy.out.below jn Hy.out.lt)
 replace Hn := hi9 (Hn.out.below jn Hn.out.lt)
 replace Hs := hi9 (Hs.out.below jn Hs.out.lt)
 replace XP := hi9 (XP.out.next jn)
 replace XQ := hi9 (XQ.out.next jn)
 replace QX := hi9 (QX.out.next jn)
 replace QY := hi9 (QY.out.next jn)
 replace NN := hi9 (NN.out.next jn)
 replace NS := hi9 (NS.out.next jn)
 replace ND := hi9 (ND.out.next jn)
 clear k10
 replace JS := bst JS jn nl9
 clear jn
 obtain ⟨c0H0, c1H0, c2H0, c3H0, -, -, -, -⟩ := H0.out.four
 obtain ⟨c0H1, c1H1, c2H1, c3H1, -, -, -, -⟩ := H1.out.four
 obtain ⟨c0Hp, c1Hp, c2Hp, c3Hp, -, -, -, -⟩ := Hp.out.four
 obtain ⟨c0Hq, c1Hq, c2Hq, c3Hq, -, -, -, -⟩ := Hq.out.four
 obtain ⟨c0Hx, c1Hx, c2Hx, c3Hx, -, -, -, -⟩ := Hx.out.four
 obtain ⟨c0Hy, c1Hy, c2Hy, c3Hy, -, -, -, -⟩ := Hy.out.four
 obtain ⟨c0Hn, c1Hn, c2Hn, c3Hn, -, -, -, -⟩ := Hn.out.four
 obtain ⟨c0Hs, c1Hs, c2Hs, c3Hs, -, -, -, -⟩ := Hs.out.four
 obtain ⟨c0Hd, c1Hd, c2Hd, c3Hd, -, -, -, -⟩ := Hd.out.four
 go_wp2_with fail
 refine (XP.out.fv.mul_bad XQ.out.fv (by omega) (Or.inr rfl)).mono ?_
 rintro e w12 ⟨m0, m1, m2, m3, m4, m5, m6, m7, rfl, nn, hb12⟩
 clear c0H0 c1H0 c2H0 c3H0 c0H1 c1H1 c2H1 c3H1 c0Hp c1Hp c2Hp c3Hp c0Hq c1Hq c2Hq c3Hq c0Hx c1Hx c2Hx c3Hx c0Hy c1Hy c2Hy c3Hy c0Hn c1Hn c2Hn c3Hn c0Hs c1Hs c2Hs c3Hs c0Hd c1Hd c2Hd c3Hd
 have k12 := bst k11 hb12 nl9
 replace H0 := hi9 (H0.out.below hb12 H0.out.lt)
 replace H1 := hi9 (H1.out.below hb12 H1.out.lt)
 replace Hp := hi9 (Hp.out.below hb12 Hp.out.lt)
 replace Hq := hi9 (Hq.out.below hb12 Hq.out.lt)
 replace Hx := hi9 (Hx.out.below hb12 Hx.out.lt)
 replace Hy := hi9 (Hy.out.below hb12 Hy.out.lt)
 replace Hn := hi9 (Hn.out.below hb12 Hn.out.lt)
 replace Hs := hi9 (Hs.out.below hb12 Hs.out.lt)
 replace Hd := hi9 (Hd.out.below hb12 Hd.out.lt)
 replace XP := hi9 (XP.out.next hb12)
 replace XQ := hi9 (XQ.out.next hb12)
 replace QX := hi9 (QX.out.next hb12)
 replace QY := hi9 (QY.out.next hb12)
 replace NN := hi9 (NN.out.next hb12)
 replace NS := hi9 (NS.out.next hb12)
 replace ND := hi9 (ND.out.next hb12)
 clear k11
 replace JS := bst JS hb12 nl9
 clear hb12
 have NM := hi9 nn
 clear nn
 go_upto_region 8 with fail
 obtain ⟨v13, hv⟩ : ∃ v, v = w12.alloc (.cells #[.bool m0, .slice m1 m2 m3, .bool m4, .slice m5 m6 m7] 27) := ⟨_, rfl⟩
 rw [← hv]
 have bn : Blk v13 w12.heap.size 27 [.bool m0, .slice m1 m2 m3, .bool m4, .slice m5 m6 m7] := by rw [hv]; exact Blk.new_ rfl
 have jn : Below w12.heap.size w12 v13 := by rw [hv]; exact bel_one _ _
 obtain ⟨gm, hg⟩ : ∃ g, g = w12.heap.size := ⟨_, rfl⟩
 rw [← hg] at bn ⊢
 clear hg hv
 have Hm := hi9 bn
 clear bn
 have k13 := bst k12 jn nl9
 replace H0 := hi9 (H0.out.below jn H0.out.lt)
 replace H1 := hi9 (H1.out.below jn H1.out.lt)
 replace Hp := hi9 (Hp.out.below jn Hp.out.lt)
 replace Hq := hi9 (Hq.out.below jn Hq.out.lt)
 replace Hx := hi9 (Hx.out.below jn Hx.out.lt)
 replace Hy := hi9 (Hy.out.below jn Hy.out.lt)
 replace Hn := hi9 (Hn.out.below jn Hn.out.lt)
 replace Hs := hi9 (Hs.out.below jn Hs.out.lt)
 replace Hd := hi9 (Hd.out.below jn Hd.out.lt)
 replace XP := hi9 (XP.out.next jn)
 replace XQ := hi9 (XQ.out.next jn)
 replace QX := hi9 (QX.out.next jn)
 replace QY := hi9 (QY.out.next jn)
 replace NN := hi9 (NN.out.next jn)
 replace NS := hi9 (NS.out.next jn)
 replace ND := hi9 (ND.out.next jn)
 replace NM := hi9 (NM.out.next jn)
 clear k12
 replace JS := bst JS jn nl9
 clear jn
 obtain ⟨c0H0, c1H0, c2H0, c3H0, -, -, -, -⟩ := H0.out.four
 obtain ⟨c0H1, c1H1, c2H1, c3H1, -, -, -, -⟩ := H1.out.four
 obtain ⟨c0Hp, c1Hp, c2Hp, c3Hp, -, -, -, -⟩ := Hp.out.four
 obtain ⟨c0Hq, c1Hq, c2Hq, c3Hq, -, -, -, -⟩ := Hq.out.four
 obtain ⟨c0Hx, c1Hx, c2Hx, c3Hx, -, -, -, -⟩ := Hx.out.four
 obtain ⟨c0Hy, c1Hy, c2Hy, c3Hy, -, -, -, -⟩ := Hy.out.four
 obtain ⟨c0Hn, c1Hn, c2Hn, c3Hn, -, -, -, -⟩ := Hn.out.four
 obtain ⟨c0Hs, c1Hs, c2Hs, c3Hs, -, -, -, -⟩ := Hs.out.four
 obtain ⟨c0Hd, c1Hd, c2Hd, c3Hd, -, -, -, -⟩ := Hd.out.four
 obtain ⟨c0Hm, c1Hm, c2Hm, c3Hm, -, -, -, -⟩ := Hm.out.four
 rw [HQ.out] at NN
 have BQ := hi9 QX.out.qb
 have BR := hi9 QY.out.qb
 clear c0H0 c1H0 c2H0 c3H0 c0H1 c1H1 c2H1 c3H1 c0Hp c1Hp c2Hp c3Hp c0Hq c1Hq c2Hq c3Hq c0Hx c1Hx c2Hx c3Hx c0Hy c1Hy c2Hy c3Hy c0Hn c1Hn c2Hn c3Hn c0Hs c1Hs c2Hs c3Hs c0Hd c1Hd c2Hd c3Hd c0Hm c1Hm c2Hm c3Hm
 refine region_facts [SP.is (.bool true), SP.is (.agg #[.bool n0, .slice n1 n2 n3, .bool n4, .slice n5 n6 n7]), SP.is (.int .i64 (0)), SP.is (.agg #[.bool o2x1_0, .slice o2x1_1 o2x1_2 o2x1_3, .bool o2x1_4, .slice o2x1_5 o2x1_6 o2x1_7]), SP.fn 0 ((-q).num) ((-q).den), SP.is (.bool true), SP.is (.bool true), SP.is (.bool false), SP.is (.agg #[.bool s0, .slice s1 s2 s3, .bool s4, .slice s5 s6 s7]), SP.is (.int .i64 (6)), SP.is (.agg #[.bool o2x1_0, .slice o2x1_1 o2x1_2 o2x1_3, .bool o2x1_4, .slice o2x1_5 o2x1_6 o2x1_7]), SP.is (.agg #[.bool o2x3_0, .slice o2x3_1 o2x3_2 o2x3_3, .bool o2x3_4, .slice o2x3_5 o2x3_6 o2x3_7]), SP.fn 0 ((q + r).num) ((q + r).den), SP.is (.bool true), SP.is (.bool true), SP.is (.bool true), SP.is (.bool false), SP.is (.agg #[.bool d0, .slice d1 d2 d3, .bool d4, .slice d5 d6 d7]), SP.is (.int .i64 (6)), SP.is (.agg #[.bool o2x1_0, .slice o2x1_1 o2x1_2 o2x1_3, .bool o2x1_4, .slice o2x1_5 o2x1_6 o2x1_7]), SP.is (.agg #[.bool o2x3_0, .slice o2x3_1 o2x3_2 o2x3_3, .bool o2x3_4, .slice o2x3_5 o2x3_6 o2x3_7]), SP.fn 0 ((q - r).num) ((q - r).den), SP.is (.bool true), SP.is (.bool true), SP.is (.bool true), SP.is (.bool false), SP.is (.agg #[.bool m0, .slice m1 m2 m3, .bool m4, .slice m5 m6 m7]), SP.is (.int .i64 (6)), SP.is (.agg #[.bool o2x1_0, .slice o2x1_1 o2x1_2 o2x1_3, .bool o2x1_4, .slice o2x1_5 o2x1_6 o2x1_7]), SP.is (.agg #[.bool o2x3_0, .slice o2x3_1 o2x3_2 o2x3_3, .bool o2x3_4, .slice o2x3_5 o2x3_6 o2x3_7]), SP.fn 0 ((q * r).num) ((q * r).den), SP.is (.bool true), SP.is (.bool true), SP.is (.bool true)] (by kernel_rfl) (by kernel_rfl) (And.intro ?_ (And.intro ?_ (And.intro ?_ (And.intro ?_ (And.intro ?_ (And.intro ?_ (And.intro ?_ (And.intro ?_ (And.intro ?_ (And.intro ?_ (And.intro ?_ (And.intro ?_ (And.intro ?_ (And.intro ?_ (And.intro ?_ (And.intro ?_ (And.intro ?_ (And.intro ?_ (And.intro ?_ (And.intro ?_ (And.intro ?_ (And.intro ?_ (And.intro ?_ (And.intro ?_ (And.intro ?_ (And.intro ?_ (And.intro ?_ (And.intro ?_ (And.intro ?_ (And.intro ?_ (And.intro ?_ (And.intro ?_ (And.intro ?_ (And.intro ?_ trivial)))))))))))))))))))))))))))))))))) ?_
 ·intro a W hb hold hdep K hK
  have b9 := tmp_eq (hold 9 rfl)
  refine ob_plain rfl ?_
  go_simp
  exact hK _ W rfl nofun br9
 ·intro a W hb hold hdep K hK
  have b11 := tmp_eq (hold 11 rfl)
  obtain ⟨c0, c1, c2, c3, -, -, -, -⟩ := (Hn.out.below hb Hn.out.lt).four
  refine ob_plain rfl ?_
  go_simp
  exact hK _ W rfl nofun br9
 ·intro a W hb hold hdep K hK
  have b12 := tmp_eq (hold 12 rfl)
  refine ob_plain rfl ?_
  go_simp
  exact hK _ W rfl nofun br9
 ·intro a W hb hold hdep K hK
  have b7 := tmp_eq (hold 7 rfl)
  obtain ⟨c0, c1, c2, c3, -, -, -, -⟩ := (Hx.out.below hb Hx.out.lt).four
  refine ob_plain rfl ?_
  go_simp
  exact hK _ W rfl nofun br9
 ·intro a W hb hold hdep K hK
  have e3 := tmp_eq (hdep 3 _ 63 rfl rfl rfl).1
  refine ob_plain rfl ?_
  go_simp
  refine ((ro_zero ((QX.out.next hb).rqneg (by omega)))).mono ?_
  rintro e w1 ⟨x0, x1, x2, x3, x4, x5, x6, x7, rfl, f9, hb1⟩
  exact hK _ w1 ⟨x0, x1, x2, x3, x4, x5, x6, x7, rfl, f9⟩ nofun hb1
 ·intro a W hb hold hdep K hK
  have e0 := tmp_eq (hdep 0 _ 60 rfl rfl rfl).1
  have e1 := tmp_eq (hdep 1 _ 61 rfl rfl rfl).1
  have e2 := tmp_eq (hdep 2 _ 62 rfl rfl rfl).1
  obtain ⟨r4_0, r4_1, r4_2, r4_3, r4_4, r4_5, r4_6, r4_7, e4, f4⟩ := (hdep 4 _ 64 rfl rfl rfl).1
  replace e4 := tmp_eq e4
  refine ob_plain rfl ?_
  go_simp
  refine ((told_ok (NN.out.next hb) f4 (BQ.out.neg).num (by rw [Int.natAbs_natCast]; exact (BQ.out.neg).den) (by omega))).mono ?_
  rintro e w1 ⟨rfl, hb1⟩
  exact hK _ w1 rfl nofun hb1
 ·intro a W hb hold hdep K hK
  have e5 := tmp_eq (hdep 5 _ 65 rfl rfl rfl).1
  refine ob_plain rfl ?_
  go_simp
  exact hK _ W rfl nofun br9
 ·intro a W hb hold hdep K hK
  have b10 := tmp_eq (hold 10 rfl)
  refine ob_guard (j := 6) rfl rfl rfl (hdep 6 _ 66 rfl rfl rfl) ?_
  go_simp
  exact hK _ W rfl nofun br9
 ·intro a W hb hold hdep K hK
  have b13 := tmp_eq (hold 13 rfl)
  obtain ⟨c0, c1, c2, c3, -, -, -, -⟩ := (Hs.out.below hb Hs.out.lt).four
  refine ob_guard (j := 6) rfl rfl rfl (hdep 6 _ 66 rfl rfl rfl) ?_
  go_simp
  exact hK _ W rfl nofun br9
 ·intro a W hb hold hdep K hK
  have b14 := tmp_eq (hold 14 rfl)
  refine ob_guard (j := 6) rfl rfl rfl (hdep 6 _ 66 rfl rfl rfl) ?_
  go_simp
  exact hK _ W rfl nofun br9
 ·intro a W hb hold hdep K hK
  have b7 := tmp_eq (hold 7 rfl)
  obtain ⟨c0, c1, c2, c3, -, -, -, -⟩ := (Hx.out.below hb Hx.out.lt).four
  refine ob_guard (j := 6) rfl rfl rfl (hdep 6 _ 66 rfl rfl rfl) ?_
  go_simp
  exact hK _ W rfl nofun br9
 ·intro a W hb hold hdep K hK
  have b8 := tmp_eq (hold 8 rfl)
  obtain ⟨c0, c1, c2, c3, -, -, -, -⟩ := (Hy.out.below hb Hy.out.lt).four
  refine ob_guard (j := 6) rfl rfl rfl (hdep 6 _ 66 rfl rfl rfl) ?_
  go_simp
  exact hK _ W rfl nofun br9
 ·intro a W hb hold hdep K hK
  have e10 := tmp_eq (hdep 10 _ 70 rfl rfl rfl).1
  have e11 := tmp_eq (hdep 11 _ 71 rfl rfl rfl).1
  refine ob_guard (j := 6) rfl rfl rfl (hdep 6 _ 66 rfl rfl rfl) ?_
  go_simp
  refine ((ro_zero ((QX.out.next hb).rqadd (QY.out.next hb) (by omega)))).mono ?_
  rintro e w1 ⟨x0, x1, x2, x3, x4, x5, x6, x7, rfl, f9, hb1⟩
  exact hK _ w1 ⟨x0, x1, x2, x3, x4, x5, x6, x7, rfl, f9⟩ nofun hb1
 ·intro a W hb hold hdep K hK
  have e7 := tmp_eq (hdep 7 _ 67 rfl rfl rfl).1
  have e8 := tmp_eq (hdep 8 _ 68 rfl rfl rfl).1
  have e9 := tmp_eq (hdep 9 _ 69 rfl rfl rfl).1
  obtain ⟨r12_0, r12_1, r12_2, r12_3, r12_4, r12_5, r12_6, r12_7, e12, f12⟩ := (hdep 12 _ 72 rfl rfl rfl).1
  replace e12 := tmp_eq e12
  refine ob_guard (j := 6) rfl rfl rfl (hdep 6 _ 66 rfl rfl rfl) ?_
  go_simp
  refine ((told_bad (NS.out.next hb))).mono ?_
  rintro e w1 ⟨rfl, hb1⟩
  exact hK _ w1 rfl nofun hb1
 ·intro a W hb hold hdep K hK
  have e6 := tmp_eq (hdep 6 _ 66 rfl rfl rfl).1
  have e13 := tmp_eq (hdep 13 _ 73 rfl rfl rfl).1
  refine ob_plain rfl ?_
  go_simp
  exact hK _ W rfl nofun br9
 ·intro a W hb hold hdep K hK
  have e14 := tmp_eq (hdep 14 _ 74 rfl rfl rfl).1
  refine ob_plain rfl ?_
  go_simp
  exact hK _ W rfl nofun br9
 ·intro a W hb hold hdep K hK
  have b10 := tmp_eq (hold 10 rfl)
  refine ob_guard (j := 15) rfl rfl rfl (hdep 15 _ 75 rfl rfl rfl) ?_
  go_simp
  exact hK _ W rfl nofun br9
 ·intro a W hb hold hdep K hK
  have b15 := tmp_eq (hold 15 rfl)
  obtain ⟨c0, c1, c2, c3, -, -, -, -⟩ := (Hd.out.below hb Hd.out.lt).four
  refine ob_guard (j := 15) rfl rfl rfl (hdep 15 _ 75 rfl rfl rfl) ?_
  go_simp
  exact hK _ W rfl nofun br9
 ·intro a W hb hold hdep K hK
  have b16 := tmp_eq (hold 16 rfl)
  refine ob_guard (j := 15) rfl rfl rfl (hdep 15 _ 75 rfl rfl rfl) ?_
  go_simp
  exact hK _ W rfl nofun br9
 ·intro a W hb hold hdep K hK
  have b7 := tmp_eq (hold 7 rfl)
  obtain ⟨c0, c1, c2, c3, -, -, -, -⟩ := (Hx.out.below hb Hx.out.lt).four
  refine ob_guard (j := 15) rfl rfl rfl (hdep 15 _ 75 rfl rfl rfl) ?_
  go_simp
  exact hK _ W rfl nofun br9
 ·intro a W hb hold hdep K hK
  have b8 := tmp_eq (hold 8 rfl)
  obtain ⟨c0, c1, c2, c3, -, -, -, -⟩ := (Hy.out.below hb Hy.out.lt).four
  refine ob_guard (j := 15) rfl rfl rfl (hdep 15 _ 75 rfl rfl rfl) ?_
  go_simp
  exact hK _ W rfl nofun br9
 ·intro a W hb hold hdep K hK
  have e19 := tmp_eq (hdep 19 _ 79 rfl rfl rfl).1
  have e20 := tmp_eq (hdep 20 _ 80 rfl rfl rfl).1
  refine ob_guard (j := 15) rfl rfl rfl (hdep 15 _ 75 rfl rfl rfl) ?_
  go_simp
  refine ((ro_zero ((QX.out.next hb).rqsub (QY.out.next hb) (by omega)))).mono ?_
  rintro e w1 ⟨x0, x1, x2, x3, x4, x5, x6, x7, rfl, f9, hb1⟩
  exact hK _ w1 ⟨x0, x1, x2, x3, x4, x5, x6, x7, rfl, f9⟩ nofun hb1
 ·intro a W hb hold hdep K hK
  have e16 := tmp_eq (hdep 16 _ 76 rfl rfl rfl).1
  have e17 := tmp_eq (hdep 17 _ 77 rfl rfl rfl).1
  have e18 := tmp_eq (hdep 18 _ 78 rfl rfl rfl).1
  obtain ⟨r21_0, r21_1, r21_2, r21_3, r21_4, r21_5, r21_6, r21_7, e21, f21⟩ := (hdep 21 _ 81 rfl rfl rfl).1
  replace e21 := tmp_eq e21
  refine ob_guard (j := 15) rfl rfl rfl (hdep 15 _ 75 rfl rfl rfl) ?_
  go_simp
  refine ((told_bad (ND.out.next hb))).mono ?_
  rintro e w1 ⟨rfl, hb1⟩
  exact hK _ w1 rfl nofun hb1
 ·intro a W hb hold hdep K hK
  have e15 := tmp_eq (hdep 15 _ 75 rfl rfl rfl).1
  have e22 := tmp_eq (hdep 22 _ 82 rfl rfl rfl).1
  refine ob_plain rfl ?_
  go_simp
  exact hK _ W rfl nofun br9
 ·intro a W hb hold hdep K hK
  have e23 := tmp_eq (hdep 23 _ 83 rfl rfl rfl).1
  refine ob_plain rfl ?_
  go_simp
  exact hK _ W rfl nofun br9
 ·intro a W hb hold hdep K hK
  have b10 := tmp_eq (hold 10 rfl)
  refine ob_guard (j := 24) rfl rfl rfl (hdep 24 _ 84 rfl rfl rfl) ?_
  go_simp
  exact hK _ W rfl nofun br9
 ·intro a W hb hold hdep K hK
  have b17 := tmp_eq (hold 17 rfl)
  obtain ⟨c0, c1, c2, c3, -, -, -, -⟩ := (Hm.out.below hb Hm.out.lt).four
  refine ob_guard (j := 24) rfl rfl rfl (hdep 24 _ 84 rfl rfl rfl) ?_
  go_simp
  exact hK _ W rfl nofun br9
 ·intro a W hb hold hdep K hK
  have b18 := tmp_eq (hold 18 rfl)
  refine ob_guard (j := 24) rfl rfl rfl (hdep 24 _ 84 rfl rfl rfl) ?_
  go_simp
  exact hK _ W rfl nofun br9
 ·intro a W hb hold hdep K hK
  have b7 := tmp_eq (hold 7 rfl)
  obtain ⟨c0, c1, c2, c3, -, -, -, -⟩ := (Hx.out.below hb Hx.out.lt).four
  refine ob_guard (j := 24) rfl rfl rfl (hdep 24 _ 84 rfl rfl rfl) ?_
  go_simp
  exact hK _ W rfl nofun br9
 ·intro a W hb hold hdep K hK
  have b8 := tmp_eq (hold 8 rfl)
  obtain ⟨c0, c1, c2, c3, -, -, -, -⟩ := (Hy.out.below hb Hy.out.lt).four
  refine ob_guard (j := 24) rfl rfl rfl (hdep 24 _ 84 rfl rfl rfl) ?_
  go_simp
  exact hK _ W rfl nofun br9
 ·intro a W hb hold hdep K hK
  have e28 := tmp_eq (hdep 28 _ 88 rfl rfl rfl).1
  have e29 := tmp_eq (hdep 29 _ 89 rfl rfl rfl).1
  refine ob_guard (j := 24) rfl rfl rfl (hdep 24 _ 84 rfl rfl rfl) ?_
  go_simp
  refine ((ro_zero ((QX.out.next hb).rqmul (QY.out.next hb) (by omega)))).mono ?_
  rintro e w1 ⟨x0, x1, x2, x3, x4, x5, x6, x7, rfl, f9, hb1⟩
  exact hK _ w1 ⟨x0, x1, x2, x3, x4, x5, x6, x7, rfl, f9⟩ nofun hb1
 ·intro a W hb hold hdep K hK
  have e25 := tmp_eq (hdep 25 _ 85 rfl rfl rfl).1
  have e26 := tmp_eq (hdep 26 _ 86 rfl rfl rfl).1
  have e27 := tmp_eq (hdep 27 _ 87 rfl rfl rfl).1
  obtain ⟨r30_0, r30_1, r30_2, r30_3, r30_4, r30_5, r30_6, r30_7, e30, f30⟩ := (hdep 30 _ 90 rfl rfl rfl).1
  replace e30 := tmp_eq e30
  refine ob_guard (j := 24) rfl rfl rfl (hdep 24 _ 84 rfl rfl rfl) ?_
  go_simp
  refine ((told_bad (NM.out.next hb))).mono ?_
  rintro e w1 ⟨rfl, hb1⟩
  exact hK _ w1 rfl nofun hb1
 ·intro a W hb hold hdep K hK
  have e24 := tmp_eq (hdep 24 _ 84 rfl rfl rfl).1
  have e31 := tmp_eq (hdep 31 _ 91 rfl rfl rfl).1
  refine ob_plain rfl ?_
  go_simp
  exact hK _ W rfl nofun br9
 ·intro a W hb hold hdep K hK
  have e32 := tmp_eq (hdep 32 _ 92 rfl rfl rfl).1
  refine ob_plain rfl ?_
  go_simp
  exact hK _ W rfl nofun br9
 intro vls u8 hb hf hd
 have e0 : vls 0 = _ := hf 0 (by decide)
 have e1 : vls 1 = _ := hf 1 (by decide)
 have e2 : vls 2 = _ := hf 2 (by decide)
 have e3 : vls 3 = _ := hf 3 (by decide)
 obtain ⟨o8x4_0, o8x4_1, o8x4_2, o8x4_3, o8x4_4, o8x4_5, o8x4_6, o8x4_7, e4, f4⟩ := hf 4 (by decide)
 have e5 : vls 5 = _ := hf 5 (by decide)
 have e6 : vls 6 = _ := hf 6 (by decide)
 have e7 : vls 7 = _ := hf 7 (by decide)
 have e8 : vls 8 = _ := hf 8 (by decide)
 have e9 : vls 9 = _ := hf 9 (by decide)
 have e10 : vls 10 = _ := hf 10 (by decide)
 have e11 : vls 11 = _ := hf 11 (by decide)
 obtain ⟨o8x12_0, o8x12_1, o8x12_2, o8x12_3, o8x12_4, o8x12_5, o8x12_6, o8x12_7, e12, f12⟩ := hf 12 (by decide)
 have e13 : vls 13 = _ := hf 13 (by decide)
 have e14 : vls 14 = _ := hf 14 (by decide)
 have e15 : vls 15 = _ := hf 15 (by decide)
 have e16 : vls 16 = _ := hf 16 (by decide)
 have e17 : vls 17 = _ := hf 17 (by decide)
 have e18 : vls 18 = _ := hf 18 (by decide)
 have e19 : vls 19 = _ := hf 19 (by decide)
 have e20 : vls 20 = _ := hf 20 (by decide)
 obtain ⟨o8x21_0, o8x21_1, o8x21_2, o8x21_3, o8x21_4, o8x21_5, o8x21_6, o8x21_7, e21, f21⟩ := hf 21 (by decide)
 have e22 : vls 22 = _ := hf 22 (by decide)
 have e23 : vls 23 = _ := hf 23 (by decide)
 have e24 : vls 24 = _ := hf 24 (by decide)
 have e25 : vls 25 = _ := hf 25 (by decide)
 have e26 : vls 26 = _ := hf 26 (by decide)
 have e27 : vls 27 = _ := hf 27 (by decide)
 have e28 : vls 28 = _ := hf 28 (by decide)
 have e29 : vls 29 = _ := hf 29 (by decide)
 obtain ⟨o8x30_0, o8x30_1, o8x30_2, o8x30_3, o8x30_4, o8x30_5, o8x30_6, o8x30_7, e30, f30⟩ := hf 30 (by decide)
 have e31 : vls 31 = _ := hf 31 (by decide)
 have e32 : vls 32 = _ := hf 32 (by decide)
 have e33 : vls 33 = _ := hf 33 (by decide)
 clear hf hd
 simp only [foldPut, Act.put, List.setIfInBounds_toArray, List.set_cons_zero, List.set_cons_succ, Nat.reduceAdd, e0, e1, e2, e3, e4, e5, e6, e7, e8, e9, e10, e11, e12, e13, e14, e15, e16, e17, e18, e19, e20, e21, e22, e23, e24, e25, e26, e27, e28, e29, e30, e31, e32, e33]
 clear e0 e1 e2 e3 e4 e5 e6 e7 e8 e9 e10 e11 e12 e13 e14 e15 e16 e17 e18 e19 e20 e21 e22 e23 e24 e25 e26 e27 e28 e29 e30 e31 e32 e33
 have k14 := bst k13 hb nl9
 replace H0 := hi9 (H0.out.below hb H0.out.lt)
 replace H1 := hi9 (H1.out.below hb H1.out.lt)
 replace Hp := hi9 (Hp.out.below hb Hp.out.lt)
 replace Hq := hi9 (Hq.out.below hb Hq.out.lt)
 replace Hx := hi9 (Hx.out.below hb Hx.out.lt)
 replace Hy := hi9 (Hy.out.below hb Hy.out.lt)
 replace Hn := hi9 (Hn.out.below hb Hn.out.lt)
 replace Hs := hi9 (Hs.out.below hb Hs.out.lt)
 replace Hd := hi9 (Hd.out.below hb Hd.out.lt)
 replace Hm := hi9 (Hm.out.below hb Hm.out.lt)
 replace XP := hi9 (XP.out.next hb)
 replace XQ := hi9 (XQ.out.next hb)
 replace QX := hi9 (QX.out.next hb)
 replace QY := hi9 (QY.out.next hb)
 replace NN := hi9 (NN.out.next hb)
 replace NS := hi9 (NS.out.next hb)
 replace ND := hi9 (ND.out.next hb)
 replace NM := hi9 (NM.out.next hb)
 clear k13
 replace JS := bst JS hb nl9
 clear hb
 obtain ⟨go, hgo, hown, hlen⟩ := (NS.out.num.mono NSB.out).own JS.size
 have HO := hi9 hown
 have HGO := hi9 hgo
 have HS9 := hi9 Hs.out
 clear hown hgo
 obtain ⟨c0H0, c1H0, c2H0, c3H0, -, -, -, -⟩ := H0.out.four
 obtain ⟨c0H1, c1H1, c2H1, c3H1, -, -, -, -⟩ := H1.out.four
 obtain ⟨c0Hp, c1Hp, c2Hp, c3Hp, -, -, -, -⟩ := Hp.out.four
 obtain ⟨c0Hq, c1Hq, c2Hq, c3Hq, -, -, -, -⟩ := Hq.out.four
 obtain ⟨c0Hx, c1Hx, c2Hx, c3Hx, -, -, -, -⟩ := Hx.out.four
 obtain ⟨c0Hy, c1Hy, c2Hy, c3Hy, -, -, -, -⟩ := Hy.out.four
 obtain ⟨c0Hn, c1Hn, c2Hn, c3Hn, -, -, -, -⟩ := Hn.out.four
 obtain ⟨c0Hs, c1Hs, c2Hs, c3Hs, -, -, -, -⟩ := Hs.out.four
 obtain ⟨c0Hd, c1Hd, c2Hd, c3Hd, -, -, -, -⟩ := Hd.out.four
 obtain ⟨c0Hm, c1Hm, c2Hm, c3Hm, -, -, -, -⟩ := Hm.out.four
 go_wp2_with fail
 go_loopw [20, 97] (fun _ iv wr => ∃ k : Nat, k ≤ s2 ∧ iv = .int .i64 k ∧ Hid (0 < s2 → ∃ L, Blk wr go 50 L ∧ s2 ≤ L.length) ∧ Hid (Blk wr gs 27 [.bool s0, .slice s1 s2 s3, .bool s4, .slice s5 s6 s7]) ∧ Hid (Tn go u8 wr)) (fun _ iv _ => s2 - (intOf iv).toNat)
 case atStart => exact ⟨0, by omega, rfl, fun h => (HO.out h).2, HS9.out, Tn.refl _ _⟩
 case round =>
  clear c0H0 c1H0 c2H0 c3H0 c0H1 c1H1 c2H1 c3H1 c0Hp c1Hp c2Hp c3Hp c0Hq c1Hq c2Hq c3Hq c0Hx c1Hx c2Hx c3Hx c0Hy c1Hy c2Hy c3Hy c0Hn c1Hn c2Hn c3Hn c0Hs c1Hs c2Hs c3Hs c0Hd c1Hd c2Hd c3Hd c0Hm c1Hm c2Hm c3Hm
  obtain ⟨k, hk, rfl, HL, HB9, htn⟩ := hrel
  obtain ⟨x0, x1, x2, x3, -, -, -, -⟩ := HB9.out.four
  by_cases hlt : k < s2
  ·have hn : 0 < s2 := by omega
   obtain ⟨rfl, _⟩ := HO.out hn
   obtain ⟨L, hL, hLl⟩ := HL.out hn
   have hkL : k < L.length := by omega
   obtain ⟨vv, hcv⟩ : ∃ vv, wr.cell? ⟨go, k, none⟩ = some vv := ⟨_, (hL.cell k).trans (List.getElem?_eq_getElem hkL)⟩
   have hfv := hL.frozen k
   have hne : gs ≠ go := var_go HB9.out hL
   have HLL := hi9 hL
   clear hL hn
   go_wp2_with fail
   go_roundw
   case rel => exact ⟨k + 1, by omega, by go_num, fun _ => ⟨_, HLL.out.set_ k (.int .u32 5), by simpa using hLl⟩, HB9.out.far (p := ⟨go, k, none⟩) hne _, htn.out.setCell k _⟩
   case measure => simp [intOf]; omega
  ·obtain ⟨w99, rfl⟩ : ∃ V : World, V = wr := ⟨_, rfl⟩
   have J9 : Below v7.heap.size v7 w99 := JS.trans (htn.out.below HGO.out JS.size)
   have k99 := bst kS J9 nl9
   replace H0 := hi9 (S0.out.below J9 S0.out.lt)
   replace H1 := hi9 (S1.out.below J9 S1.out.lt)
   replace Hp := hi9 (Sp.out.below J9 Sp.out.lt)
   replace Hq := hi9 (Sq.out.below J9 Sq.out.lt)
   replace XP := hi9 (SXP.out.next J9)
   replace XQ := hi9 (SXQ.out.next J9)
   clear x0 x1 x2 x3 HL HB9 htn JS J9 HO HGO HS9 S0 S1 Sp Sq SXP SXQ QX QY NN NS ND NM Hx Hy Hn Hs Hd Hm kS
   obtain ⟨c0H0, c1H0, c2H0, c3H0, -, -, -, -⟩ := H0.out.four
   obtain ⟨c0H1, c1H1, c2H1, c3H1, -, -, -, -⟩ := H1.out.four
   obtain ⟨c0Hp, c1Hp, c2Hp, c3Hp, -, -, -, -⟩ := Hp.out.four
   obtain ⟨c0Hq, c1Hq, c2Hq, c3Hq, -, -, -, -⟩ := Hq.out.four
   go_wp2_with fail
   refine ((XP.out.lsame (XA.out.next k99) (by omega))).mono ?_
   rintro e w100 ⟨rfl, hb100⟩
   clear c0H0 c1H0 c2H0 c3H0 c0H1 c1H1 c2H1 c3H1 c0Hp c1Hp c2Hp c3Hp c0Hq c1Hq c2Hq c3Hq
   have k100 := bst k99 hb100 nl9
   replace H0 := hi9 (H0.out.below hb100 H0.out.lt)
   replace H1 := hi9 (H1.out.below hb100 H1.out.lt)
   replace Hp := hi9 (Hp.out.below hb100 Hp.out.lt)
   replace Hq := hi9 (Hq.out.below hb100 Hq.out.lt)
   replace XP := hi9 (XP.out.next hb100)
   replace XQ := hi9 (XQ.out.next hb100)
   clear k99
   clear hb100
   obtain ⟨c0H0, c1H0, c2H0, c3H0, -, -, -, -⟩ := H0.out.four
   obtain ⟨c0H1, c1H1, c2H1, c3H1, -, -, -, -⟩ := H1.out.four
   obtain ⟨c0Hp, c1Hp, c2Hp, c3Hp, -, -, -, -⟩ := Hp.out.four
   obtain ⟨c0Hq, c1Hq, c2Hq, c3Hq, -, -, -, -⟩ := Hq.out.four
   go_wp2_with fail
   refine ((XQ.out.lsame (XC.out.next k100) (by omega))).mono ?_
   rintro e w101 ⟨rfl, hb101⟩
   clear c0H0 c1H0 c2H0 c3H0 c0H1 c1H1 c2H1 c3H1 c0Hp c1Hp c2Hp c3Hp c0Hq c1Hq c2Hq c3Hq
   have k101 := bst k100 hb101 nl9
   replace H0 := hi9 (H0.out.below hb101 H0.out.lt)
   replace H1 := hi9 (H1.out.below hb101 H1.out.lt)
   replace Hp := hi9 (Hp.out.below hb101 Hp.out.lt)
   replace Hq := hi9 (Hq.out.below hb101 Hq.out.lt)
   replace XP := hi9 (XP.out.next hb101)
   replace XQ := hi9 (XQ.out.next hb101)
   clear k100
   clear hb101
   obtain ⟨c0H0, c1H0, c2H0, c3H0, -, -, -, -⟩ := H0.out.four
   obtain ⟨c0H1, c1H1, c2H1, c3H1, -, -, -, -⟩ := H1.out.four
   obtain ⟨c0Hp, c1Hp, c2Hp, c3Hp, -, -, -, -⟩ := Hp.out.four
   obtain ⟨c0Hq, c1Hq, c2Hq, c3Hq, -, -, -, -⟩ := Hq.out.four
   go_wp2_with fail
   refine (lives05 (TT.out.next k101)).mono ?_
   rintro e w102 ⟨rfl, hb102⟩
   clear c0H0 c1H0 c2H0 c3H0 c0H1 c1H1 c2H1 c3H1 c0Hp c1Hp c2Hp c3Hp c0Hq c1Hq c2Hq c3Hq
   have k102 := bst k101 hb102 nl9
   replace H0 := hi9 (H0.out.below hb102 H0.out.lt)
   replace H1 := hi9 (H1.out.below hb102 H1.out.lt)
   replace Hp := hi9 (Hp.out.below hb102 Hp.out.lt)
   replace Hq := hi9 (Hq.out.below hb102 Hq.out.lt)
   replace XP := hi9 (XP.out.next hb102)
   replace XQ := hi9 (XQ.out.next hb102)
   clear k101
   clear hb102
   obtain ⟨c0H0, c1H0, c2H0, c3H0, -, -, -, -⟩ := H0.out.four
   obtain ⟨c0H1, c1H1, c2H1, c3H1, -, -, -, -⟩ := H1.out.four
   obtain ⟨c0Hp, c1Hp, c2Hp, c3Hp, -, -, -, -⟩ := Hp.out.four
   obtain ⟨c0Hq, c1Hq, c2Hq, c3Hq, -, -, -, -⟩ := Hq.out.four
   go_wp2_with fail
   go_ret
   exact ⟨rfl, k102⟩
set_option maxHeartbeats 25600000 in
set_option maxRecDepth 40000 in
theorem sums_bad_any (N : Nat) (hN : N ≤ 1048576) (hN1 : 1 ≤ N) (hT : Tb w) (h : FX w.heap.size w (.bool a0) (.slice a1 a2 a3) (.bool a4) (.slice a5 a6 a7) ga xa z gb xb 0 N) (h' : FX w.heap.size w (.bool b0) (.slice b1 b2 b3) (.bool b4) (.slice b5 b6 b7) gc xc x gd xd v N) : Calls Tryz.prog 4 #[.agg #[.bool a0, .slice a1 a2 a3, .bool a4, .slice a5 a6 a7], .agg #[.bool b0, .slice b1 b2 b3, .bool b4, .slice b5 b6 b7]] w fun e w' => e = .returned (.bool true) ∧ Below w.heap.size w w' := by
 obtain ⟨q, hq⟩ : ∃ q : Rat, q = 1 := ⟨_, rfl⟩
 obtain ⟨r, hr⟩ : ∃ q : Rat, q = (someQ x v) := ⟨_, rfl⟩
 have SQ : Hid (someQ z 0 = q) := by show _ = _; unfold someQ; rw [hq]; rfl
 have SR : Hid (someQ x v = r) := by show _ = _; exact hr.symm
 have XA := hi9 h
 have XC := hi9 h'
 have TT := hi9 hT
 clear h h' hT hq hr
 obtain ⟨b0', b1'⟩ := blk_rr w (.bool a0) (.slice a1 a2 a3) (.bool a4) (.slice a5 a6 a7) (.bool b0) (.slice b1 b2 b3) (.bool b4) (.slice b5 b6 b7)
 have k0 := bel_two w (.cells #[.bool a0, .slice a1 a2 a3, .bool a4, .slice a5 a6 a7] 27) (.cells #[.bool b0, .slice b1 b2 b3, .bool b4, .slice b5 b6 b7] 27)
 go_enter Tryz.func4, Tryz.ntmps4
 go_upto_region 1 with fail
 obtain ⟨w0, hw0⟩ : ∃ v, v = (w.alloc (.cells #[.bool a0, .slice a1 a2 a3, .bool a4, .slice a5 a6 a7] 27)).alloc (.cells #[.bool b0, .slice b1 b2 b3, .bool b4, .slice b5 b6 b7] 27) := ⟨_, rfl⟩
 rw [← hw0] at k0 b0' b1' ⊢
 clear hw0
 have H0 := hi9 b0'
 have H1 := hi9 b1'
 clear b0' b1'
 have lt0 := H0.out.lt
 have lt1 := H1.out.lt
 refine region_facts_tail 6 [SP.is (.agg #[.bool a0, .slice a1 a2 a3, .bool a4, .slice a5 a6 a7]), SP.copy N ga xa z gb xb 0, SP.is (.agg #[.bool b0, .slice b1 b2 b3, .bool b4, .slice b5 b6 b7]), SP.copy N gc xc x gd xd v, SP.var w0.heap.size 27 [.bool false, .slice none 0 0, .bool false, .slice none 0 0], SP.var w0.heap.size 27 [.bool false, .slice none 0 0, .bool false, .slice none 0 0]] (by kernel_rfl) (by kernel_rfl) (And.intro ?_ (And.intro ?_ (And.intro ?_ (And.intro ?_ (And.intro ?_ (And.intro ?_ trivial)))))) ?_
 ·intro a W hb hold hdep K hK
  have b2 := tmp_eq (hold 2 rfl)
  obtain ⟨c0, c1, c2, c3, -, -, -, -⟩ := (H0.out.below hb H0.out.lt).four
  refine ob_plain rfl ?_
  go_simp
  exact hK _ W rfl nofun br9
 ·intro a W hb hold hdep K hK
  have e0 := tmp_eq (hdep 0 _ 21 rfl rfl rfl).1
  refine ob_plain rfl ?_
  go_simp
  refine ((XA.out.next (bst k0 hb nl9)).rcopy (by omega)).mono ?_
  rintro e w1 ⟨x0, x1, x2, x3, rfl, f9, hb1⟩
  exact hK _ w1 ⟨x0, x1, x2, x3, rfl, f9⟩ nofun hb1
 ·intro a W hb hold hdep K hK
  have b3 := tmp_eq (hold 3 rfl)
  obtain ⟨c0, c1, c2, c3, -, -, -, -⟩ := (H1.out.below hb H1.out.lt).four
  refine ob_plain rfl ?_
  go_simp
  exact hK _ W rfl nofun br9
 ·intro a W hb hold hdep K hK
  have e2 := tmp_eq (hdep 2 _ 23 rfl rfl rfl).1
  refine ob_plain rfl ?_
  go_simp
  refine ((XC.out.next (bst k0 hb nl9)).rcopy (by omega)).mono ?_
  rintro e w1 ⟨x0, x1, x2, x3, rfl, f9, hb1⟩
  exact hK _ w1 ⟨x0, x1, x2, x3, rfl, f9⟩ nofun hb1
 ·intro a W hb hold hdep K hK
  refine ob_plain rfl ?_
  go_simp
  exact hK _ _ (SP.new hb.size rfl) (fun _ => Nat.le_refl _) (bel_one _ _)
 ·intro a W hb hold hdep K hK
  refine ob_plain rfl ?_
  go_simp
  exact hK _ _ (SP.new hb.size rfl) (fun _ => Nat.le_refl _) (bel_one _ _)
 intro vls u1 hb hf hd
 have e0 : vls 0 = _ := hf 0 (by decide)
 obtain ⟨o1x1_0, o1x1_1, o1x1_2, o1x1_3, e1, f1⟩ := hf 1 (by decide)
 have e2 : vls 2 = _ := hf 2 (by decide)
 obtain ⟨o1x3_0, o1x3_1, o1x3_2, o1x3_3, e3, f3⟩ := hf 3 (by decide)
 obtain ⟨g4, e4, hg4, hk4⟩ := hf 4 (by decide)
 obtain ⟨g5, e5, hg5, hk5⟩ := hf 5 (by decide)
 have n4_5 := hd 4 5 (by decide) (by decide) (by decide) rfl rfl
 rw [e4, e5] at n4_5
 replace n4_5 : g4 ≠ g5 := n4_5
 have n5_4 := Ne.symm n4_5
 clear hf hd
 simp only [List.take_succ_cons, List.take_zero, List.drop_succ_cons, List.drop_zero, foldPut, Act.put, List.setIfInBounds_toArray, List.set_cons_zero, List.set_cons_succ, Nat.reduceAdd, e0, e1, e2, e3, e4, e5]
 clear e0 e1 e2 e3 e4 e5
 have ks := k0.size
 obtain ⟨z0, z1, z2, z3, y0, y1, y2, y3⟩ := hk4.four
 obtain ⟨z4, z5, z6, z7, y4, y5, y6, y7⟩ := hk5.four
 have k1 := bst k0 hb nl9
 replace H0 := hi9 (H0.out.below hb H0.out.lt)
 replace H1 := hi9 (H1.out.below hb H1.out.lt)
 clear k0
 clear hb
 go_upto_region 2 with fail
 obtain ⟨v2, hv⟩ : ∃ V, V = set4 (set4 u1 g4 (.bool ga) (.slice o1x1_0 xa.length o1x1_1) (.bool gb) (.slice o1x1_2 xb.length o1x1_3)) g5 (.bool gc) (.slice o1x3_0 xc.length o1x3_1) (.bool gd) (.slice o1x3_2 xd.length o1x3_3) := ⟨_, rfl⟩
 have hv2 := hv
 unfold set4 at hv2
 rw [← hv2]
 clear hv2 y0 y1 y2 y3 y4 y5 y6 y7 z0 z1 z2 z3 z4 z5 z6 z7
 have q1 := set4_far (set4_same (a := .bool ga) (b := .slice o1x1_0 xa.length o1x1_1) (c := .bool gb) (d := .slice o1x1_2 xb.length o1x1_3) hk4) n4_5 (a := .bool gc) (b := .slice o1x3_0 xc.length o1x3_1) (c := .bool gd) (d := .slice o1x3_2 xd.length o1x3_3)
 have hkf := set4_far hk5 n5_4 (a := .bool ga) (b := .slice o1x1_0 xa.length o1x1_1) (c := .bool gb) (d := .slice o1x1_2 xb.length o1x1_3)
 have q2 := set4_same hkf (a := .bool gc) (b := .slice o1x3_0 xc.length o1x3_1) (c := .bool gd) (d := .slice o1x3_2 xd.length o1x3_3)
 rw [← hv] at q1 q2
 have Hp := hi9 q1
 have Hq := hi9 q2
 have na : w.heap.size ≠ g4 := Nat.ne_of_lt (Nat.lt_of_lt_of_le (lt0) hg4)
 have nb : w.heap.size ≠ g5 := Nat.ne_of_lt (Nat.lt_of_lt_of_le (lt0) hg5)
 have q3 := set4_far (set4_far H0.out na (a := .bool ga) (b := .slice o1x1_0 xa.length o1x1_1) (c := .bool gb) (d := .slice o1x1_2 xb.length o1x1_3)) nb (a := .bool gc) (b := .slice o1x3_0 xc.length o1x3_1) (c := .bool gd) (d := .slice o1x3_2 xd.length o1x3_3)
 rw [← hv] at q3
 replace H0 := hi9 q3
 clear na nb q3
 have na : (w.heap.size + 1) ≠ g4 := Nat.ne_of_lt (Nat.lt_of_lt_of_le (lt1) hg4)
 have nb : (w.heap.size + 1) ≠ g5 := Nat.ne_of_lt (Nat.lt_of_lt_of_le (lt1) hg5)
 have q3 := set4_far (set4_far H1.out na (a := .bool ga) (b := .slice o1x1_0 xa.length o1x1_1) (c := .bool gb) (d := .slice o1x1_2 xb.length o1x1_3)) nb (a := .bool gc) (b := .slice o1x3_0 xc.length o1x3_1) (c := .bool gd) (d := .slice o1x3_2 xd.length o1x3_3)
 rw [← hv] at q3
 replace H1 := hi9 q3
 clear na nb q3
 have k2 : Below w.heap.size w v2 := by rw [hv]; exact set4_below (set4_below k1 (Nat.le_trans ks hg4)) (Nat.le_trans ks hg5)
 have XP : Hid (FX 0 v2 (.bool ga) (.slice o1x1_0 xa.length o1x1_1) (.bool gb) (.slice o1x1_2 xb.length o1x1_3) ga xa z gb xb 0 N) := by show FX 0 v2 (.bool ga) (.slice o1x1_0 xa.length o1x1_1) (.bool gb) (.slice o1x1_2 xb.length o1x1_3) ga xa z gb xb 0 N; rw [hv]; exact ((f1.var4 (Nat.zero_le _) hk4 _ _ _ _).var4 (Nat.zero_le _) hkf _ _ _ _)
 have XQ : Hid (FX 0 v2 (.bool gc) (.slice o1x3_0 xc.length o1x3_1) (.bool gd) (.slice o1x3_2 xd.length o1x3_3) gc xc x gd xd v N) := by show FX 0 v2 (.bool gc) (.slice o1x3_0 xc.length o1x3_1) (.bool gd) (.slice o1x3_2 xd.length o1x3_3) gc xc x gd xd v N; rw [hv]; exact ((f3.var4 (Nat.zero_le _) hk4 _ _ _ _).var4 (Nat.zero_le _) hkf _ _ _ _)
 clear hv q1 q2 hkf hk4 hk5 f1 f3 ks k1
 clear lt0 lt1 hg4 hg5 n4_5 n5_4
 obtain ⟨gp, hgp⟩ : ∃ g, g = g4 := ⟨_, rfl⟩
 obtain ⟨gq, hgq⟩ : ∃ g, g = g5 := ⟨_, rfl⟩
 rw [← hgp, ← hgq]
 rw [← hgp] at Hp
 rw [← hgq] at Hq
 clear hgp hgq
 have lt0 := H0.out.lt
 have lt1 := H1.out.lt
 have lt2 := Hp.out.lt
 have lt3 := Hq.out.lt
 refine region_facts_tail 6 [SP.is (.agg #[.bool a0, .slice a1 a2 a3, .bool a4, .slice a5 a6 a7]), SP.qv w.heap.size q N, SP.is (.agg #[.bool b0, .slice b1 b2 b3, .bool b4, .slice b5 b6 b7]), SP.qv w.heap.size r N, SP.var v2.heap.size 27 [.bool false, .slice none 0 0, .bool false, .slice none 0 0], SP.var v2.heap.size 27 [.bool false, .slice none 0 0, .bool false, .slice none 0 0]] (by kernel_rfl) (by kernel_rfl) (And.intro ?_ (And.intro ?_ (And.intro ?_ (And.intro ?_ (And.intro ?_ (And.intro ?_ trivial)))))) ?_
 ·intro a W hb hold hdep K hK
  have b2 := tmp_eq (hold 2 rfl)
  obtain ⟨c0, c1, c2, c3, -, -, -, -⟩ := (H0.out.below hb H0.out.lt).four
  refine ob_plain rfl ?_
  go_simp
  exact hK _ W rfl nofun br9
 ·intro a W hb hold hdep K hK
  have e0 := tmp_eq (hdep 0 _ 25 rfl rfl rfl).1
  refine ob_plain rfl ?_
  go_simp
  refine (some_q ((XA.out.next (bst k2 hb nl9)).fv) hN1 (by omega) SQ.out).mono ?_
  rintro e w1 ⟨x0, x1, x2, x3, x4, x5, x6, x7, rfl, f9, hb1⟩
  exact hK _ w1 ⟨x0, x1, x2, x3, x4, x5, x6, x7, rfl, f9⟩ nofun hb1
 ·intro a W hb hold hdep K hK
  have b3 := tmp_eq (hold 3 rfl)
  obtain ⟨c0, c1, c2, c3, -, -, -, -⟩ := (H1.out.below hb H1.out.lt).four
  refine ob_plain rfl ?_
  go_simp
  exact hK _ W rfl nofun br9
 ·intro a W hb hold hdep K hK
  have e2 := tmp_eq (hdep 2 _ 27 rfl rfl rfl).1
  refine ob_plain rfl ?_
  go_simp
  refine (some_q ((XC.out.next (bst k2 hb nl9)).fv) hN1 (by omega) SR.out).mono ?_
  rintro e w1 ⟨x0, x1, x2, x3, x4, x5, x6, x7, rfl, f9, hb1⟩
  exact hK _ w1 ⟨x0, x1, x2, x3, x4, x5, x6, x7, rfl, f9⟩ nofun hb1
 ·intro a W hb hold hdep K hK
  refine ob_plain rfl ?_
  go_simp
  exact hK _ _ (SP.new hb.size rfl) (fun _ => Nat.le_refl _) (bel_one _ _)
 ·intro a W hb hold hdep K hK
  refine ob_plain rfl ?_
  go_simp
  exact hK _ _ (SP.new hb.size rfl) (fun _ => Nat.le_refl _) (bel_one _ _)
 intro vls u2 hb hf hd
 have e0 : vls 0 = _ := hf 0 (by decide)
 obtain ⟨o2x1_0, o2x1_1, o2x1_2, o2x1_3, o2x1_4, o2x1_5, o2x1_6, o2x1_7, e1, f1⟩ := hf 1 (by decide)
 have e2 : vls 2 = _ := hf 2 (by decide)
 obtain ⟨o2x3_0, o2x3_1, o2x3_2, o2x3_3, o2x3_4, o2x3_5, o2x3_6, o2x3_7, e3, f3⟩ := hf 3 (by decide)
 obtain ⟨g4, e4, hg4, hk4⟩ := hf 4 (by decide)
 obtain ⟨g5, e5, hg5, hk5⟩ := hf 5 (by decide)
 have n4_5 := hd 4 5 (by decide) (by decide) (by decide) rfl rfl
 rw [e4, e5] at n4_5
 replace n4_5 : g4 ≠ g5 := n4_5
 have n5_4 := Ne.symm n4_5
 clear hf hd
 simp only [List.take_succ_cons, List.take_zero, List.drop_succ_cons, List.drop_zero, foldPut, Act.put, List.setIfInBounds_toArray, List.set_cons_zero, List.set_cons_succ, Nat.reduceAdd, e0, e1, e2, e3, e4, e5]
 clear e0 e1 e2 e3 e4 e5
 have ks := k2.size
 obtain ⟨z0, z1, z2, z3, y0, y1, y2, y3⟩ := hk4.four
 obtain ⟨z4, z5, z6, z7, y4, y5, y6, y7⟩ := hk5.four
 have k3 := bst k2 hb nl9
 replace H0 := hi9 (H0.out.below hb H0.out.lt)
 replace H1 := hi9 (H1.out.below hb H1.out.lt)
 replace Hp := hi9 (Hp.out.below hb Hp.out.lt)
 replace Hq := hi9 (Hq.out.below hb Hq.out.lt)
 replace XP := hi9 (XP.out.next hb)
 replace XQ := hi9 (XQ.out.next hb)
 clear k2
 clear hb
 go_upto_region 3 with fail
 obtain ⟨v4, hv⟩ : ∃ V, V = set4 (set4 u2 g4 (.bool o2x1_0) (.slice o2x1_1 o2x1_2 o2x1_3) (.bool o2x1_4) (.slice o2x1_5 o2x1_6 o2x1_7)) g5 (.bool o2x3_0) (.slice o2x3_1 o2x3_2 o2x3_3) (.bool o2x3_4) (.slice o2x3_5 o2x3_6 o2x3_7) := ⟨_, rfl⟩
 have hv2 := hv
 unfold set4 at hv2
 rw [← hv2]
 clear hv2 y0 y1 y2 y3 y4 y5 y6 y7 z0 z1 z2 z3 z4 z5 z6 z7
 have q1 := set4_far (set4_same (a := .bool o2x1_0) (b := .slice o2x1_1 o2x1_2 o2x1_3) (c := .bool o2x1_4) (d := .slice o2x1_5 o2x1_6 o2x1_7) hk4) n4_5 (a := .bool o2x3_0) (b := .slice o2x3_1 o2x3_2 o2x3_3) (c := .bool o2x3_4) (d := .slice o2x3_5 o2x3_6 o2x3_7)
 have hkf := set4_far hk5 n5_4 (a := .bool o2x1_0) (b := .slice o2x1_1 o2x1_2 o2x1_3) (c := .bool o2x1_4) (d := .slice o2x1_5 o2x1_6 o2x1_7)
 have q2 := set4_same hkf (a := .bool o2x3_0) (b := .slice o2x3_1 o2x3_2 o2x3_3) (c := .bool o2x3_4) (d := .slice o2x3_5 o2x3_6 o2x3_7)
 rw [← hv] at q1 q2
 have Hx := hi9 q1
 have Hy := hi9 q2
 have na : w.heap.size ≠ g4 := Nat.ne_of_lt (Nat.lt_of_lt_of_le (lt0) hg4)
 have nb : w.heap.size ≠ g5 := Nat.ne_of_lt (Nat.lt_of_lt_of_le (lt0) hg5)
 have q3 := set4_far (set4_far H0.out na (a := .bool o2x1_0) (b := .slice o2x1_1 o2x1_2 o2x1_3) (c := .bool o2x1_4) (d := .slice o2x1_5 o2x1_6 o2x1_7)) nb (a := .bool o2x3_0) (b := .slice o2x3_1 o2x3_2 o2x3_3) (c := .bool o2x3_4) (d := .slice o2x3_5 o2x3_6 o2x3_7)
 rw [← hv] at q3
 replace H0 := hi9 q3
 clear na nb q3
 have na : (w.heap.size + 1) ≠ g4 := Nat.ne_of_lt (Nat.lt_of_lt_of_le (lt1) hg4)
 have nb : (w.heap.size + 1) ≠ g5 := Nat.ne_of_lt (Nat.lt_of_lt_of_le (lt1) hg5)
 have q3 := set4_far (set4_far H1.out na (a := .bool o2x1_0) (b := .slice o2x1_1 o2x1_2 o2x1_3) (c := .bool o2x1_4) (d := .slice o2x1_5 o2x1_6 o2x1_7)) nb (a := .bool o2x3_0) (b := .slice o2x3_1 o2x3_2 o2x3_3) (c := .bool o2x3_4) (d := .slice o2x3_5 o2x3_6 o2x3_7)
 rw [← hv] at q3
 replace H1 := hi9 q3
 clear na nb q3
 have na : gp ≠ g4 := Nat.ne_of_lt (Nat.lt_of_lt_of_le (lt2) hg4)
 have nb : gp ≠ g5 := Nat.ne_of_lt (Nat.lt_of_lt_of_le (lt2) hg5)
 have q3 := set4_far (set4_far Hp.out na (a := .bool o2x1_0) (b := .slice o2x1_1 o2x1_2 o2x1_3) (c := .bool o2x1_4) (d := .slice o2x1_5 o2x1_6 o2x1_7)) nb (a := .bool o2x3_0) (b := .slice o2x3_1 o2x3_2 o2x3_3) (c := .bool o2x3_4) (d := .slice o2x3_5 o2x3_6 o2x3_7)
 rw [← hv] at q3
 replace Hp := hi9 q3
 clear na nb q3
 have na : gq ≠ g4 := Nat.ne_of_lt (Nat.lt_of_lt_of_le (lt3) hg4)
 have nb : gq ≠ g5 := Nat.ne_of_lt (Nat.lt_of_lt_of_le (lt3) hg5)
 have q3 := set4_far (set4_far Hq.out na (a := .bool o2x1_0) (b := .slice o2x1_1 o2x1_2 o2x1_3) (c := .bool o2x1_4) (d := .slice o2x1_5 o2x1_6 o2x1_7)) nb (a := .bool o2x3_0) (b := .slice o2x3_1 o2x3_2 o2x3_3) (c := .bool o2x3_4) (d := .slice o2x3_5 o2x3_6 o2x3_7)
 rw [← hv] at q3
 replace Hq := hi9 q3
 clear na nb q3
 have k4 : Below w.heap.size w v4 := by rw [hv]; exact set4_below (set4_below k3 (Nat.le_trans ks hg4)) (Nat.le_trans ks hg5)
 have QX : Hid (QV w.heap.size v4 (.bool o2x1_0) (.slice o2x1_1 o2x1_2 o2x1_3) (.bool o2x1_4) (.slice o2x1_5 o2x1_6 o2x1_7) q N) := by show QV w.heap.size v4 (.bool o2x1_0) (.slice o2x1_1 o2x1_2 o2x1_3) (.bool o2x1_4) (.slice o2x1_5 o2x1_6 o2x1_7) q N; rw [hv]; exact ((f1.set4 (Nat.le_trans ks hg4) hk4).set4 (Nat.le_trans ks hg5) hkf)
 have QY : Hid (QV w.heap.size v4 (.bool o2x3_0) (.slice o2x3_1 o2x3_2 o2x3_3) (.bool o2x3_4) (.slice o2x3_5 o2x3_6 o2x3_7) r N) := by show QV w.heap.size v4 (.bool o2x3_0) (.slice o2x3_1 o2x3_2 o2x3_3) (.bool o2x3_4) (.slice o2x3_5 o2x3_6 o2x3_7) r N; rw [hv]; exact ((f3.set4 (Nat.le_trans ks hg4) hk4).set4 (Nat.le_trans ks hg5) hkf)
 replace XP : Hid (FX 0 v4 (.bool ga) (.slice o1x1_0 xa.length o1x1_1) (.bool gb) (.slice o1x1_2 xb.length o1x1_3) ga xa z gb xb 0 N) := by show FX 0 v4 (.bool ga) (.slice o1x1_0 xa.length o1x1_1) (.bool gb) (.slice o1x1_2 xb.length o1x1_3) ga xa z gb xb 0 N; rw [hv]; exact ((XP.out.var4 (Nat.zero_le _) hk4 _ _ _ _).var4 (Nat.zero_le _) hkf _ _ _ _)
 replace XQ : Hid (FX 0 v4 (.bool gc) (.slice o1x3_0 xc.length o1x3_1) (.bool gd) (.slice o1x3_2 xd.length o1x3_3) gc xc x gd xd v N) := by show FX 0 v4 (.bool gc) (.slice o1x3_0 xc.length o1x3_1) (.bool gd) (.slice o1x3_2 xd.length o1x3_3) gc xc x gd xd v N; rw [hv]; exact ((XQ.out.var4 (Nat.zero_le _) hk4 _ _ _ _).var4 (Nat.zero_le _) hkf _ _ _ _)
 clear hv q1 q2 hkf hk4 hk5 f1 f3 ks k3
 clear lt0 lt1 lt2 lt3 hg4 hg5 n4_5 n5_4
 obtain ⟨gx, hgx⟩ : ∃ g, g = g4 := ⟨_, rfl⟩
 obtain ⟨gy, hgy⟩ : ∃ g, g = g5 := ⟨_, rfl⟩
 rw [← hgx, ← hgy]
 rw [← hgx] at Hx
 rw [← hgy] at Hy
 clear hgx hgy
 refine region_facts [SP.is (.agg #[.bool a0, .slice a1 a2 a3, .bool a4, .slice a5 a6 a7]), SP.is (.bool false), SP.is (.agg #[.bool a0, .slice a1 a2 a3, .bool a4, .slice a5 a6 a7]), SP.is (.bool false), SP.is (.bool false), SP.is (undef), SP.is (undef), SP.is (.bool false), SP.is (.bool false), SP.is (.bool false)] (by kernel_rfl) (by kernel_rfl) (And.intro ?_ (And.intro ?_ (And.intro ?_ (And.intro ?_ (And.intro ?_ (And.intro ?_ (And.intro ?_ (And.intro ?_ (And.intro ?_ (And.intro ?_ trivial)))))))))) ?_
 ·intro a W hb hold hdep K hK
  have b2 := tmp_eq (hold 2 rfl)
  obtain ⟨c0, c1, c2, c3, -, -, -, -⟩ := (H0.out.below hb H0.out.lt).four
  refine ob_plain rfl ?_
  go_simp
  exact hK _ W rfl nofun br9
 ·intro a W hb hold hdep K hK
  have e0 := tmp_eq (hdep 0 _ 29 rfl rfl rfl).1
  refine ob_plain rfl ?_
  go_simp
  refine ((((XA.out.next (bst k4 hb nl9)).fv).rmay (by omega))).mono ?_
  rintro e w1 ⟨rfl, hb1⟩
  exact hK _ w1 rfl nofun hb1
 ·intro a W hb hold hdep K hK
  have b2 := tmp_eq (hold 2 rfl)
  obtain ⟨c0, c1, c2, c3, -, -, -, -⟩ := (H0.out.below hb H0.out.lt).four
  refine ob_plain rfl ?_
  go_simp
  exact hK _ W rfl nofun br9
 ·intro a W hb hold hdep K hK
  have e2 := tmp_eq (hdep 2 _ 31 rfl rfl rfl).1
  refine ob_plain rfl ?_
  go_simp
  refine ((((XA.out.next (bst k4 hb nl9)).fv).rmay (by omega))).mono ?_
  rintro e w1 ⟨rfl, hb1⟩
  exact hK _ w1 rfl nofun hb1
 ·intro a W hb hold hdep K hK
  have e3 := tmp_eq (hdep 3 _ 32 rfl rfl rfl).1
  refine ob_plain rfl ?_
  go_simp
  exact hK _ W rfl nofun br9
 ·intro a W hb hold hdep K hK
  refine ob_skip (j := 4) rfl rfl rfl (hdep 4 _ 33 rfl rfl rfl) ?_
  exact hK undef W rfl nofun br9
 ·intro a W hb hold hdep K hK
  refine ob_skip (j := 4) rfl rfl rfl (hdep 4 _ 33 rfl rfl rfl) ?_
  exact hK undef W rfl nofun br9
 ·intro a W hb hold hdep K hK
  have e4 := tmp_eq (hdep 4 _ 33 rfl rfl rfl).1
  have e6 := tmp_eq (hdep 6 _ 35 rfl rfl rfl).1
  refine ob_plain rfl ?_
  go_simp
  exact hK _ W rfl nofun br9
 ·intro a W hb hold hdep K hK
  have e1 := tmp_eq (hdep 1 _ 30 rfl rfl rfl).1
  refine ob_plain rfl ?_
  go_simp
  exact hK _ W rfl nofun br9
 ·intro a W hb hold hdep K hK
  have e7 := tmp_eq (hdep 7 _ 36 rfl rfl rfl).1
  refine ob_plain rfl ?_
  go_simp
  exact hK _ W rfl nofun br9
 intro vls u3 hb hf hd
 have e0 : vls 0 = _ := hf 0 (by decide)
 have e1 : vls 1 = _ := hf 1 (by decide)
 have e2 : vls 2 = _ := hf 2 (by decide)
 have e3 : vls 3 = _ := hf 3 (by decide)
 have e4 : vls 4 = _ := hf 4 (by decide)
 have e5 : vls 5 = _ := hf 5 (by decide)
 have e6 : vls 6 = _ := hf 6 (by decide)
 have e7 : vls 7 = _ := hf 7 (by decide)
 have e8 : vls 8 = _ := hf 8 (by decide)
 have e9 : vls 9 = _ := hf 9 (by decide)
 clear hf hd
 simp only [foldPut, Act.put, List.setIfInBounds_toArray, List.set_cons_zero, List.set_cons_succ, Nat.reduceAdd, e0, e1, e2, e3, e4, e5, e6, e7, e8, e9]
 clear e0 e1 e2 e3 e4 e5 e6 e7 e8 e9
 have k5 := bst k4 hb nl9
 replace H0 := hi9 (H0.out.below hb H0.out.lt)
 replace H1 := hi9 (H1.out.below hb H1.out.lt)
 replace Hp := hi9 (Hp.out.below hb Hp.out.lt)
 replace Hq := hi9 (Hq.out.below hb Hq.out.lt)
 replace Hx := hi9 (Hx.out.below hb Hx.out.lt)
 replace Hy := hi9 (Hy.out.below hb Hy.out.lt)
 replace XP := hi9 (XP.out.next hb)
 replace XQ := hi9 (XQ.out.next hb)
 replace QX := hi9 (QX.out.next hb)
 replace QY := hi9 (QY.out.next hb)
 clear k4
 clear hb
 obtain ⟨c0H0, c1H0, c2H0, c3H0, -, -, -, -⟩ := H0.out.four
 obtain ⟨c0H1, c1H1, c2H1, c3H1, -, -, -, -⟩ := H1.out.four
 obtain ⟨c0Hp, c1Hp, c2Hp, c3Hp, -, -, -, -⟩ := Hp.out.four
 obtain ⟨c0Hq, c1Hq, c2Hq, c3Hq, -, -, -, -⟩ := Hq.out.four
 obtain ⟨c0Hx, c1Hx, c2Hx, c3Hx, -, -, -, -⟩ := Hx.out.four
 obtain ⟨c0Hy, c1Hy, c2Hy, c3Hy, -, -, -, -⟩ := Hy.out.four
 go_wp2_with fail
 refine (XP.out.fv.neg_bad (by omega)).mono ?_
 rintro e w6 ⟨n0, n1, n2, n3, n4, n5, n6, n7, rfl, nn, hb6⟩
 clear c0H0 c1H0 c2H0 c3H0 c0H1 c1H1 c2H1 c3H1 c0Hp c1Hp c2Hp c3Hp c0Hq c1Hq c2Hq c3Hq c0Hx c1Hx c2Hx c3Hx c0Hy c1Hy c2Hy c3Hy
 have k6 := bst k5 hb6 nl9
 replace H0 := hi9 (H0.out.below hb6 H0.out.lt)
 replace H1 := hi9 (H1.out.below hb6 H1.out.lt)
 replace Hp := hi9 (Hp.out.below hb6 Hp.out.lt)
 replace Hq := hi9 (Hq.out.below hb6 Hq.out.lt)
 replace Hx := hi9 (Hx.out.below hb6 Hx.out.lt)
 replace Hy := hi9 (Hy.out.below hb6 Hy.out.lt)
 replace XP := hi9 (XP.out.next hb6)
 replace XQ := hi9 (XQ.out.next hb6)
 replace QX := hi9 (QX.out.next hb6)
 replace QY := hi9 (QY.out.next hb6)
 clear k5
 clear hb6
 have NN := hi9 nn
 clear nn
 go_upto_region 5 with fail
 obtain ⟨v7, hv⟩ : ∃ v, v = w6.alloc (.cells #[.bool n0, .slice n1 n2 n3, .bool n4, .slice n5 n6 n7] 27) := ⟨_, rfl⟩
 rw [← hv]
 have bn : Blk v7 w6.heap.size 27 [.bool n0, .slice n1 n2 n3, .bool n4, .slice n5 n6 n7] := by rw [hv]; exact Blk.new_ rfl
 have jn : Below w6.heap.size w6 v7 := by rw [hv]; exact bel_one _ _
 obtain ⟨gn, hg⟩ : ∃ g, g = w6.heap.size := ⟨_, rfl⟩
 rw [← hg] at bn ⊢
 clear hg hv
 have Hn := hi9 bn
 clear bn
 have k7 := bst k6 jn nl9
 replace H0 := hi9 (H0.out.below jn H0.out.lt)
 replace H1 := hi9 (H1.out.below jn H1.out.lt)
 replace Hp := hi9 (Hp.out.below jn Hp.out.lt)
 replace Hq := hi9 (Hq.out.below jn Hq.out.lt)
 replace Hx := hi9 (Hx.out.below jn Hx.out.lt)
 replace Hy := hi9 (Hy.out.below jn Hy.out.lt)
 replace XP := hi9 (XP.out.next jn)
 replace XQ := hi9 (XQ.out.next jn)
 replace QX := hi9 (QX.out.next jn)
 replace QY := hi9 (QY.out.next jn)
 replace NN := hi9 (NN.out.next jn)
 clear k6
 clear jn
 obtain ⟨c0H0, c1H0, c2H0, c3H0, -, -, -, -⟩ := H0.out.four
 obtain ⟨c0H1, c1H1, c2H1, c3H1, -, -, -, -⟩ := H1.out.four
 obtain ⟨c0Hp, c1Hp, c2Hp, c3Hp, -, -, -, -⟩ := Hp.out.four
 obtain ⟨c0Hq, c1Hq, c2Hq, c3Hq, -, -, -, -⟩ := Hq.out.four
 obtain ⟨c0Hx, c1Hx, c2Hx, c3Hx, -, -, -, -⟩ := Hx.out.four
 obtain ⟨c0Hy, c1Hy, c2Hy, c3Hy, -, -, -, -⟩ := Hy.out.four
 obtain ⟨c0Hn, c1Hn, c2Hn, c3Hn, -, -, -, -⟩ := Hn.out.four
 have S0 := H0
 have S1 := H1
 have Sp := Hp
 have Sq := Hq
 have SXP := XP
 have SXQ := XQ
 have JS := Below.refl v7.heap.size v7
 have kS := k7
 go_wp2_with fail
 refine (XP.out.fv.add_bad XQ.out.fv (by omega) (Or.inl rfl)).mono ?_
 rintro e w8 ⟨s0, s1, s2, s3, s4, s5, s6, s7, rfl, nn, hb8⟩
 have NSB := hi9 (JS.size)
 clear c0H0 c1H0 c2H0 c3H0 c0H1 c1H1 c2H1 c3H1 c0Hp c1Hp c2Hp c3Hp c0Hq c1Hq c2Hq c3Hq c0Hx c1Hx c2Hx c3Hx c0Hy c1Hy c2Hy c3Hy c0Hn c1Hn c2Hn c3Hn
 have k8 := bst k7 hb8 nl9
 replace H0 := hi9 (H0.out.below hb8 H0.out.lt)
 replace H1 := hi9 (H1.out.below hb8 H1.out.lt)
 replace Hp := hi9 (Hp.out.below hb8 Hp.out.lt)
 replace Hq := hi9 (Hq.out.below hb8 Hq.out.lt)
 replace Hx := hi9 (Hx.out.below hb8 Hx.out.lt)
 replace Hy := hi9 (Hy.out.below hb8 Hy.out.lt)
 replace Hn := hi9 (Hn.out.below hb8 Hn.out.lt)
 replace XP := hi9 (XP.out.next hb8)
 replace XQ := hi9 (XQ.out.next hb8)
 replace QX := hi9 (QX.out.next hb8)
 replace QY := hi9 (QY.out.next hb8)
 replace NN := hi9 (NN.out.next hb8)
 clear k7
 replace JS := bst JS hb8 nl9
 clear hb8
 have NS := hi9 nn
 clear nn
 go_upto_region 6 with fail
 obtain ⟨v9, hv⟩ : ∃ v, v = w8.alloc (.cells #[.bool s0, .slice s1 s2 s3, .bool s4, .slice s5 s6 s7] 27) := ⟨_, rfl⟩
 rw [← hv]
 have bn : Blk v9 w8.heap.size 27 [.bool s0, .slice s1 s2 s3, .bool s4, .slice s5 s6 s7] := by rw [hv]; exact Blk.new_ rfl
 have jn : Below w8.heap.size w8 v9 := by rw [hv]; exact bel_one _ _
 obtain ⟨gs, hg⟩ : ∃ g, g = w8.heap.size := ⟨_, rfl⟩
 rw [← hg] at bn ⊢
 clear hg hv
 have Hs := hi9 bn
 clear bn
 have k9 := bst k8 jn nl9
 replace H0 := hi9 (H0.out.below jn H0.out.lt)
 replace H1 := hi9 (H1.out.below jn H1.out.lt)
 replace Hp := hi9 (Hp.out.below jn Hp.out.lt)
 replace Hq := hi9 (Hq.out.below jn Hq.out.lt)
 replace Hx := hi9 (Hx.out.below jn Hx.out.lt)
 replace Hy := hi9 (Hy.out.below jn Hy.out.lt)
 replace Hn := hi9 (Hn.out.below jn Hn.out.lt)
 replace XP := hi9 (XP.out.next jn)
 replace XQ := hi9 (XQ.out.next jn)
 replace QX := hi9 (QX.out.next jn)
 replace QY := hi9 (QY.out.next jn)
 replace NN := hi9 (NN.out.next jn)
 replace NS := hi9 (NS.out.next jn)
 clear k8
 replace JS := bst JS jn nl9
 clear jn
 obtain ⟨c0H0, c1H0, c2H0, c3H0, -, -, -, -⟩ := H0.out.four
 obtain ⟨c0H1, c1H1, c2H1, c3H1, -, -, -, -⟩ := H1.out.four
 obtain ⟨c0Hp, c1Hp, c2Hp, c3Hp, -, -, -, -⟩ := Hp.out.four
 obtain ⟨c0Hq, c1Hq, c2Hq, c3Hq, -, -, -, -⟩ := Hq.out.four
 obtain ⟨c0Hx, c1Hx, c2Hx, c3Hx, -, -, -, -⟩ := Hx.out.four
 obtain ⟨c0Hy, c1Hy, c2Hy, c3Hy, -, -, -, -⟩ := Hy.out.four
 obtain ⟨c0Hn, c1Hn, c2Hn, c3Hn, -, -, -, -⟩ := Hn.out.four
 obtain ⟨c0Hs, c1Hs, c2Hs, c3Hs, -, -, -, -⟩ := Hs.out.four
 go_wp2_with fail
 refine (XP.out.fv.sub_bad XQ.out.fv (by omega) (Or.inl rfl)).mono ?_
 rintro e w10 ⟨d0, d1, d2, d3, d4, d5, d6, d7, rfl, nn, hb10⟩
 clear c0H0 c1H0 c2H0 c3H0 c0H1 c1H1 c2H1 c3H1 c0Hp c1Hp c2Hp c3Hp c0Hq c1Hq c2Hq c3Hq c0Hx c1Hx c2Hx c3Hx c0Hy c1Hy c2Hy c3Hy c0Hn c1Hn c2Hn c3Hn c0Hs c1Hs c2Hs c3Hs
 have k10 := bst k9 hb10 nl9
 replace H0 := hi9 (H0.out.below hb10 H0.out.lt)
 replace H1 := hi9 (H1.out.below hb10 H1.out.lt)
 replace Hp := hi9 (Hp.out.below hb10 Hp.out.lt)
 replace Hq := hi9 (Hq.out.below hb10 Hq.out.lt)
 replace Hx := hi9 (Hx.out.below hb10 Hx.out.lt)
 replace Hy := hi9 (Hy.out.below hb10 Hy.out.lt)
 replace Hn := hi9 (Hn.out.below hb10 Hn.out.lt)
 replace Hs := hi9 (Hs.out.below hb10 Hs.out.lt)
 replace XP := hi9 (XP.out.next hb10)
 replace XQ := hi9 (XQ.out.next hb10)
 replace QX := hi9 (QX.out.next hb10)
 replace QY := hi9 (QY.out.next hb10)
 replace NN := hi9 (NN.out.next hb10)
 replace NS := hi9 (NS.out.next hb10)
 clear k9
 replace JS := bst JS hb10 nl9
 clear hb10
 have ND := hi9 nn
 clear nn
 go_upto_region 7 with fail
 obtain ⟨v11, hv⟩ : ∃ v, v = w10.alloc (.cells #[.bool d0, .slice d1 d2 d3, .bool d4, .slice d5 d6 d7] 27) := ⟨_, rfl⟩
 rw [← hv]
 have bn : Blk v11 w10.heap.size 27 [.bool d0, .slice d1 d2 d3, .bool d4, .slice d5 d6 d7] := by rw [hv]; exact Blk.new_ rfl
 have jn : Below w10.heap.size w10 v11 := by rw [hv]; exact bel_one _ _
 obtain ⟨gd, hg⟩ : ∃ g, g = w10.heap.size := ⟨_, rfl⟩
 rw [← hg] at bn ⊢
 clear hg hv
 have Hd := hi9 bn
 clear bn
 have k11 := bst k10 jn nl9
 replace H0 := hi9 (H0.out.below jn H0.out.lt)
 replace H1 := hi9 (H1.out.below jn H1.out.lt)
 replace Hp := hi9 (Hp.out.below jn Hp.out.lt)
 replace Hq := hi9 (Hq.out.below jn Hq.out.lt)
 replace Hx := hi9 (Hx.out.below jn Hx.out.lt)
 replace Hy := hi9 (Hy.out.below jn Hy.out.lt)
 replace Hn := hi9 (Hn.out.below jn Hn.out.lt)
 replace Hs := hi9 (Hs.out.below jn Hs.out.lt)
 replace XP := hi9 (XP.out.next jn)
 replace XQ := hi9 (XQ.out.next jn)
 replace QX := hi9 (QX.out.next jn)
 replace QY := hi9 (QY.out.next jn)
 replace NN := hi9 (NN.out.next jn)
 replace NS := hi9 (NS.out.next jn)
 replace ND := hi9 (ND.out.next jn)
 clear k10
 replace JS := bst JS jn nl9
 clear jn
 obtain ⟨c0H0, c1H0, c2H0, c3H0, -, -, -, -⟩ := H0.out.four
 obtain ⟨c0H1, c1H1, c2H1, c3H1, -, -, -, -⟩ := H1.out.four
 obtain ⟨c0Hp, c1Hp, c2Hp, c3Hp, -, -, -, -⟩ := Hp.out.four
 obtain ⟨c0Hq, c1Hq, c2Hq, c3Hq, -, -, -, -⟩ := Hq.out.four
 obtain ⟨c0Hx, c1Hx, c2Hx, c3Hx, -, -, -, -⟩ := Hx.out.four
 obtain ⟨c0Hy, c1Hy, c2Hy, c3Hy, -, -, -, -⟩ := Hy.out.four
 obtain ⟨c0Hn, c1Hn, c2Hn, c3Hn, -, -, -, -⟩ := Hn.out.four
 obtain ⟨c0Hs, c1Hs, c2Hs, c3Hs, -, -, -, -⟩ := Hs.out.four
 obtain ⟨c0Hd, c1Hd, c2Hd, c3Hd, -, -, -, -⟩ := Hd.out.four
 go_wp2_with fail
 refine (XP.out.fv.mul_bad XQ.out.fv (by omega) (Or.inl rfl)).mono ?_
 rintro e w12 ⟨m0, m1, m2, m3, m4, m5, m6, m7, rfl, nn, hb12⟩
 clear c0H0 c1H0 c2H0 c3H0 c0H1 c1H1 c2H1 c3H1 c0Hp c1Hp c2Hp c3Hp c0Hq c1Hq c2Hq c3Hq c0Hx c1Hx c2Hx c3Hx c0Hy c1Hy c2Hy c3Hy c0Hn c1Hn c2Hn c3Hn c0Hs c1Hs c2Hs c3Hs c0Hd c1Hd c2Hd c3Hd
 have k12 := bst k11 hb12 nl9
 replace H0 := hi9 (H0.out.below hb12 H0.out.lt)
 replace H1 := hi9 (H1.out.below hb12 H1.out.lt)
 replace Hp := hi9 (Hp.out.below hb12 Hp.out.lt)
 replace Hq := hi9 (Hq.out.below hb12 Hq.out.lt)
 replace Hx := hi9 (Hx.out.below hb12 Hx.out.lt)
 replace Hy := hi9 (Hy.out.below hb12 Hy.out.lt)
 replace Hn := hi9 (Hn.out.below hb12 Hn.out.lt)
 replace Hs := hi9 (Hs.out.below hb12 Hs.out.lt)
 replace Hd := hi9 (Hd.out.below hb12 Hd.out.lt)
 replace XP := hi9 (XP.out.next hb12)
 replace XQ := hi9 (XQ.out.next hb12)
 replace QX := hi9 (QX.out.next hb12)
 replace QY := hi9 (QY.out.next hb12)
 replace NN := hi9 (NN.out.next hb12)
 replace NS := hi9 (NS.out.next hb12)
 replace ND := hi9 (ND.out.next hb12)
 clear k11
 replace JS := bst JS hb12 nl9
 clear hb12
 have NM := hi9 nn
 clear nn
 go_upto_region 8 with fail
 obtain ⟨v13, hv⟩ : ∃ v, v = w12.alloc (.cells #[.bool m0, .slice m1 m2 m3, .bool m4, .slice m5 m6 m7] 27) := ⟨_, rfl⟩
 rw [← hv]
 have bn : Blk v13 w12.heap.size 27 [.bool m0, .slice m1 m2 m3, .bool m4, .slice m5 m6 m7] := by rw [hv]; exact Blk.new_ rfl
 have jn : Below w12.heap.size w12 v13 := by rw [hv]; exact bel_one _ _
 obtain ⟨gm, hg⟩ : ∃ g, g = w12.heap.size := ⟨_, rfl⟩
 rw [← hg] at bn ⊢
 clear hg hv
 have Hm := hi9 bn
 clear bn
 have k13 := bst k12 jn nl9
 replace H0 := hi9 (H0.out.below jn H0.out.lt)
 replace H1 := hi9 (H1.out.below jn H1.out.lt)
 replace Hp := hi9 (Hp.out.below jn Hp.out.lt)
 replace Hq := hi9 (Hq.out.below jn Hq.out.lt)
 replace Hx := hi9 (Hx.out.below jn Hx.out.lt)
 replace Hy := hi9 (Hy.out.below jn Hy.out.lt)
 replace Hn := hi9 (Hn.out.below jn Hn.out.lt)
 replace Hs := hi9 (Hs.out.below jn Hs.out.lt)
 replace Hd := hi9 (Hd.out.below jn Hd.out.lt)
 replace XP := hi9 (XP.out.next jn)
 replace XQ := hi9 (XQ.out.next jn)
 replace QX := hi9 (QX.out.next jn)
 replace QY := hi9 (QY.out.next jn)
 replace NN := hi9 (NN.out.next jn)
 replace NS := hi9 (NS.out.next jn)
 replace ND := hi9 (ND.out.next jn)
 replace NM := hi9 (NM.out.next jn)
 clear k12
 replace JS := bst JS jn nl9
 clear jn
 obtain ⟨c0H0, c1H0, c2H0, c3H0, -, -, -, -⟩ := H0.out.four
 obtain ⟨c0H1, c1H1, c2H1, c3H1, -, -, -, -⟩ := H1.out.four
 obtain ⟨c0Hp, c1Hp, c2Hp, c3Hp, -, -, -, -⟩ := Hp.out.four
 obtain ⟨c0Hq, c1Hq, c2Hq, c3Hq, -, -, -, -⟩ := Hq.out.four
 obtain ⟨c0Hx, c1Hx, c2Hx, c3Hx, -, -, -, -⟩ := Hx.out.four
 obtain ⟨c0Hy, c1Hy, c2Hy, c3Hy, -, -, -, -⟩ := Hy.out.four
 obtain ⟨c0Hn, c1Hn, c2Hn, c3Hn, -, -, -, -⟩ := Hn.out.four
 obtain ⟨c0Hs, c1Hs, c2Hs, c3Hs, -, -, -, -⟩ := Hs.out.four
 obtain ⟨c0Hd, c1Hd, c2Hd, c3Hd, -, -, -, -⟩ := Hd.out.four
 obtain ⟨c0Hm, c1Hm, c2Hm, c3Hm, -, -, -, -⟩ := Hm.out.four
 have BQ := hi9 QX.out.qb
 have BR := hi9 QY.out.qb
 clear c0H0 c1H0 c2H0 c3H0 c0H1 c1H1 c2H1 c3H1 c0Hp c1Hp c2Hp c3Hp c0Hq c1Hq c2Hq c3Hq c0Hx c1Hx c2Hx c3Hx c0Hy c1Hy c2Hy c3Hy c0Hn c1Hn c2Hn c3Hn c0Hs c1Hs c2Hs c3Hs c0Hd c1Hd c2Hd c3Hd c0Hm c1Hm c2Hm c3Hm
 refine region_facts [SP.is (.bool false), SP.is (.agg #[.bool n0, .slice n1 n2 n3, .bool n4, .slice n5 n6 n7]), SP.is (.int .i64 (6)), SP.is (.agg #[.bool o2x1_0, .slice o2x1_1 o2x1_2 o2x1_3, .bool o2x1_4, .slice o2x1_5 o2x1_6 o2x1_7]), SP.fn 0 ((-q).num) ((-q).den), SP.is (.bool true), SP.is (.bool true), SP.is (.bool false), SP.is (.agg #[.bool s0, .slice s1 s2 s3, .bool s4, .slice s5 s6 s7]), SP.is (.int .i64 (6)), SP.is (.agg #[.bool o2x1_0, .slice o2x1_1 o2x1_2 o2x1_3, .bool o2x1_4, .slice o2x1_5 o2x1_6 o2x1_7]), SP.is (.agg #[.bool o2x3_0, .slice o2x3_1 o2x3_2 o2x3_3, .bool o2x3_4, .slice o2x3_5 o2x3_6 o2x3_7]), SP.fn 0 ((q + r).num) ((q + r).den), SP.is (.bool true), SP.is (.bool true), SP.is (.bool true), SP.is (.bool false), SP.is (.agg #[.bool d0, .slice d1 d2 d3, .bool d4, .slice d5 d6 d7]), SP.is (.int .i64 (6)), SP.is (.agg #[.bool o2x1_0, .slice o2x1_1 o2x1_2 o2x1_3, .bool o2x1_4, .slice o2x1_5 o2x1_6 o2x1_7]), SP.is (.agg #[.bool o2x3_0, .slice o2x3_1 o2x3_2 o2x3_3, .bool o2x3_4, .slice o2x3_5 o2x3_6 o2x3_7]), SP.fn 0 ((q - r).num) ((q - r).den), SP.is (.bool true), SP.is (.bool true), SP.is (.bool true), SP.is (.bool false), SP.is (.agg #[.bool m0, .slice m1 m2 m3, .bool m4, .slice m5 m6 m7]), SP.is (.int .i64 (6)), SP.is (.agg #[.bool o2x1_0, .slice o2x1_1 o2x1_2 o2x1_3, .bool o2x1_4, .slice o2x1_5 o2x1_6 o2x1_7]), SP.is (.agg #[.bool o2x3_0, .slice o2x3_1 o2x3_2 o2x3_3, .bool o2x3_4, .slice o2x3_5 o2x3_6 o2x3_7]), SP.fn 0 ((q * r).num) ((q * r).den), SP.is (.bool true), SP.is (.bool true), SP.is (.bool true)] (by kernel_rfl) (by kernel_rfl) (And.intro ?_ (And.intro ?_ (And.intro ?_ (And.intro ?_ (And.intro ?_ (And.intro ?_ (And.intro ?_ (And.intro ?_ (And.intro ?_ (And.intro ?_ (And.intro ?_ (And.intro ?_ (And.intro ?_ (And.intro ?_ (And.intro ?_ (And.intro ?_ (And.intro ?_ (And.intro ?_ (And.intro ?_ (And.intro ?_ (And.intro ?_ (And.intro ?_ (And.intro ?_ (And.intro ?_ (And.intro ?_ (And.intro ?_ (And.intro ?_ (And.intro ?_ (And.intro ?_ (And.intro ?_ (And.intro ?_ (And.intro ?_ (And.intro ?_ (And.intro ?_ trivial)))))))))))))))))))))))))))))))))) ?_
 ·intro a W hb hold hdep K hK
  have b9 := tmp_eq (hold 9 rfl)
  refine ob_plain rfl ?_
  go_simp
  exact hK _ W rfl nofun br9
 ·intro a W hb hold hdep K hK
  have b11 := tmp_eq (hold 11 rfl)
  obtain ⟨c0, c1, c2, c3, -, -, -, -⟩ := (Hn.out.below hb Hn.out.lt).four
  refine ob_plain rfl ?_
  go_simp
  exact hK _ W rfl nofun br9
 ·intro a W hb hold hdep K hK
  have b12 := tmp_eq (hold 12 rfl)
  refine ob_plain rfl ?_
  go_simp
  exact hK _ W rfl nofun br9
 ·intro a W hb hold hdep K hK
  have b7 := tmp_eq (hold 7 rfl)
  obtain ⟨c0, c1, c2, c3, -, -, -, -⟩ := (Hx.out.below hb Hx.out.lt).four
  refine ob_plain rfl ?_
  go_simp
  exact hK _ W rfl nofun br9
 ·intro a W hb hold hdep K hK
  have e3 := tmp_eq (hdep 3 _ 63 rfl rfl rfl).1
  refine ob_plain rfl ?_
  go_simp
  refine ((ro_zero ((QX.out.next hb).rqneg (by omega)))).mono ?_
  rintro e w1 ⟨x0, x1, x2, x3, x4, x5, x6, x7, rfl, f9, hb1⟩
  exact hK _ w1 ⟨x0, x1, x2, x3, x4, x5, x6, x7, rfl, f9⟩ nofun hb1
 ·intro a W hb hold hdep K hK
  have e0 := tmp_eq (hdep 0 _ 60 rfl rfl rfl).1
  have e1 := tmp_eq (hdep 1 _ 61 rfl rfl rfl).1
  have e2 := tmp_eq (hdep 2 _ 62 rfl rfl rfl).1
  obtain ⟨r4_0, r4_1, r4_2, r4_3, r4_4, r4_5, r4_6, r4_7, e4, f4⟩ := (hdep 4 _ 64 rfl rfl rfl).1
  replace e4 := tmp_eq e4
  refine ob_plain rfl ?_
  go_simp
  refine ((told_bad (NN.out.next hb))).mono ?_
  rintro e w1 ⟨rfl, hb1⟩
  exact hK _ w1 rfl nofun hb1
 ·intro a W hb hold hdep K hK
  have e5 := tmp_eq (hdep 5 _ 65 rfl rfl rfl).1
  refine ob_plain rfl ?_
  go_simp
  exact hK _ W rfl nofun br9
 ·intro a W hb hold hdep K hK
  have b10 := tmp_eq (hold 10 rfl)
  refine ob_guard (j := 6) rfl rfl rfl (hdep 6 _ 66 rfl rfl rfl) ?_
  go_simp
  exact hK _ W rfl nofun br9
 ·intro a W hb hold hdep K hK
  have b13 := tmp_eq (hold 13 rfl)
  obtain ⟨c0, c1, c2, c3, -, -, -, -⟩ := (Hs.out.below hb Hs.out.lt).four
  refine ob_guard (j := 6) rfl rfl rfl (hdep 6 _ 66 rfl rfl rfl) ?_
  go_simp
  exact hK _ W rfl nofun br9
 ·intro a W hb hold hdep K hK
  have b14 := tmp_eq (hold 14 rfl)
  refine ob_guard (j := 6) rfl rfl rfl (hdep 6 _ 66 rfl rfl rfl) ?_
  go_simp
  exact hK _ W rfl nofun br9
 ·intro a W hb hold hdep K hK
  have b7 := tmp_eq (hold 7 rfl)
  obtain ⟨c0, c1, c2, c3, -, -, -, -⟩ := (Hx.out.below hb Hx.out.lt).four
  refine ob_guard (j := 6) rfl rfl rfl (hdep 6 _ 66 rfl rfl rfl) ?_
  go_simp
  exact hK _ W rfl nofun br9
 ·intro a W hb hold hdep K hK
  have b8 := tmp_eq (hold 8 rfl)
  obtain ⟨c0, c1, c2, c3, -, -, -, -⟩ := (Hy.out.below hb Hy.out.lt).four
  refine ob_guard (j := 6) rfl rfl rfl (hdep 6 _ 66 rfl rfl rfl) ?_
  go_simp
  exact hK _ W rfl nofun br9
 ·intro a W hb hold hdep K hK
  have e10 := tmp_eq (hdep 10 _ 70 rfl rfl rfl).1
  have e11 := tmp_eq (hdep 11 _ 71 rfl rfl rfl).1
  refine ob_guard (j := 6) rfl rfl rfl (hdep 6 _ 66 rfl rfl rfl) ?_
  go_simp
  refine ((ro_zero ((QX.out.next hb).rqadd (QY.out.next hb) (by omega)))).mono ?_
  rintro e w1 ⟨x0, x1, x2, x3, x4, x5, x6, x7, rfl, f9, hb1⟩
  exact hK _ w1 ⟨x0, x1, x2, x3, x4, x5, x6, x7, rfl, f9⟩ nofun hb1
 ·intro a W hb hold hdep K hK
  have e7 := tmp_eq (hdep 7 _ 67 rfl rfl rfl).1
  have e8 := tmp_eq (hdep 8 _ 68 rfl rfl rfl).1
  have e9 := tmp_eq (hdep 9 _ 69 rfl rfl rfl).1
  obtain ⟨r12_0, r12_1, r12_2, r12_3, r12_4, r12_5, r12_6, r12_7, e12, f12⟩ := (hdep 12 _ 72 rfl rfl rfl).1
  replace e12 := tmp_eq e12
  refine ob_guard (j := 6) rfl rfl rfl (hdep 6 _ 66 rfl rfl rfl) ?_
  go_simp
  refine ((told_bad (NS.out.next hb))).mono ?_
  rintro e w1 ⟨rfl, hb1⟩
  exact hK _ w1 rfl nofun hb1
 ·intro a W hb hold hdep K hK
  have e6 := tmp_eq (hdep 6 _ 66 rfl rfl rfl).1
  have e13 := tmp_eq (hdep 13 _ 73 rfl rfl rfl).1
  refine ob_plain rfl ?_
  go_simp
  exact hK _ W rfl nofun br9
 ·intro a W hb hold hdep K hK
  have e14 := tmp_eq (hdep 14 _ 74 rfl rfl rfl).1
  refine ob_plain rfl ?_
  go_simp
  exact hK _ W rfl nofun br9
 ·intro a W hb hold hdep K hK
  have b10 := tmp_eq (hold 10 rfl)
  refine ob_guard (j := 15) rfl rfl rfl (hdep 15 _ 75 rfl rfl rfl) ?_
  go_simp
  exact hK _ W rfl nofun br9
 ·intro a W hb hold hdep K hK
  have b15 := tmp_eq (hold 15 rfl)
  obtain ⟨c0, c1, c2, c3, -, -, -, -⟩ := (Hd.out.below hb Hd.out.lt).four
  refine ob_guard (j := 15) rfl rfl rfl (hdep 15 _ 75 rfl rfl rfl) ?_
  go_simp
  exact hK _ W rfl nofun br9
 ·intro a W hb hold hdep K hK
  have b16 := tmp_eq (hold 16 rfl)
  refine ob_guard (j := 15) rfl rfl rfl (hdep 15 _ 75 rfl rfl rfl) ?_
  go_simp
  exact hK _ W rfl nofun br9
 ·intro a W hb hold hdep K hK
  have b7 := tmp_eq (hold 7 rfl)
  obtain ⟨c0, c1, c2, c3, -, -, -, -⟩ := (Hx.out.below hb Hx.out.lt).four
  refine ob_guard (j := 15) rfl rfl rfl (hdep 15 _ 75 rfl rfl rfl) ?_
  go_simp
  exact hK _ W rfl nofun br9
 ·intro a W hb hold hdep K hK
  have b8 := tmp_eq (hold 8 rfl)
  obtain ⟨c0, c1, c2, c3, -, -, -, -⟩ := (Hy.out.below hb Hy.out.lt).four
  refine ob_guard (j := 15) rfl rfl rfl (hdep 15 _ 75 rfl rfl rfl) ?_
  go_simp
  exact hK _ W rfl nofun br9
 ·intro a W hb hold hdep K hK
  have e19 := tmp_eq (hdep 19 _ 79 rfl rfl rfl).1
  have e20 := tmp_eq (hdep 20 _ 80 rfl rfl rfl).1
  refine ob_guard (j := 15) rfl rfl rfl (hdep 15 _ 75 rfl rfl rfl) ?_
  go_simp
  refine ((ro_zero ((QX.out.next hb).rqsub (QY.out.next hb) (by omega)))).mono ?_
  rintro e w1 ⟨x0, x1, x2, x3, x4, x5, x6, x7, rfl, f9, hb1⟩
  exact hK _ w1 ⟨x0, x1, x2, x3, x4, x5, x6, x7, rfl, f9⟩ nofun hb1
 ·intro a W hb hold hdep K hK
  have e16 := tmp_eq (hdep 16 _ 76 rfl rfl rfl).1
  have e17 := tmp_eq (hdep 17 _ 77 rfl rfl rfl).1
  have e18 := tmp_eq (hdep 18 _ 78 rfl rfl rfl).1
  obtain ⟨r21_0, r21_1, r21_2, r21_3, r21_4, r21_5, r21_6, r21_7, e21, f21⟩ := (hdep 21 _ 81 rfl rfl rfl).1
  replace e21 := tmp_eq e21
  refine ob_guard (j := 15) rfl rfl rfl (hdep 15 _ 75 rfl rfl rfl) ?_
  go_simp
  refine ((told_bad (ND.out.next hb))).mono ?_
  rintro e w1 ⟨rfl, hb1⟩
  exact hK _ w1 rfl nofun hb1
 ·intro a W hb hold hdep K hK
  have e15 := tmp_eq (hdep 15 _ 75 rfl rfl rfl).1
  have e22 := tmp_eq (hdep 22 _ 82 rfl rfl rfl).1
  refine ob_plain rfl ?_
  go_simp
  exact hK _ W rfl nofun br9
 ·intro a W hb hold hdep K hK
  have e23 := tmp_eq (hdep 23 _ 83 rfl rfl rfl).1
  refine ob_plain rfl ?_
  go_simp
  exact hK _ W rfl nofun br9
 ·intro a W hb hold hdep K hK
  have b10 := tmp_eq (hold 10 rfl)
  refine ob_guard (j := 24) rfl rfl rfl (hdep 24 _ 84 rfl rfl rfl) ?_
  go_simp
  exact hK _ W rfl nofun br9
 ·intro a W hb hold hdep K hK
  have b17 := tmp_eq (hold 17 rfl)
  obtain ⟨c0, c1, c2, c3, -, -, -, -⟩ := (Hm.out.below hb Hm.out.lt).four
  refine ob_guard (j := 24) rfl rfl rfl (hdep 24 _ 84 rfl rfl rfl) ?_
  go_simp
  exact hK _ W rfl nofun br9
 ·intro a W hb hold hdep K hK
  have b18 := tmp_eq (hold 18 rfl)
  refine ob_guard (j := 24) rfl rfl rfl (hdep 24 _ 84 rfl rfl rfl) ?_
  go_simp
  exact hK _ W rfl nofun br9
 ·intro a W hb hold hdep K hK
  have b7 := tmp_eq (hold 7 rfl)
  obtain ⟨c0, c1, c2, c3, -, -, -, -⟩ := (Hx.out.below hb Hx.out.lt).four
  refine ob_guard (j := 24) rfl rfl rfl (hdep 24 _ 84 rfl rfl rfl) ?_
  go_simp
  exact hK _ W rfl nofun br9
 ·intro a W hb hold hdep K hK
  have b8 := tmp_eq (hold 8 rfl)
  obtain ⟨c0, c1, c2, c3, -, -, -, -⟩ := (Hy.out.below hb Hy.out.lt).four
  refine ob_guard (j := 24) rfl rfl rfl (hdep 24 _ 84 rfl rfl rfl) ?_
  go_simp
  exact hK _ W rfl nofun br9
 ·intro a W hb hold hdep K hK
  have e28 := tmp_eq (hdep 28 _ 88 rfl rfl rfl).1
  have e29 := tmp_eq (hdep 29 _ 89 rfl rfl rfl).1
  refine ob_guard (j := 24) rfl rfl rfl (hdep 24 _ 84 rfl rfl rfl) ?_
  go_simp
  refine ((ro_zero ((QX.out.next hb).rqmul (QY.out.next hb) (by omega)))).mono ?_
  rintro e w1 ⟨x0, x1, x2, x3, x4, x5, x6, x7, rfl, f9, hb1⟩
  exact hK _ w1 ⟨x0, x1, x2, x3, x4, x5, x6, x7, rfl, f9⟩ nofun hb1
 ·intro a W hb hold hdep K hK
  have e25 := tmp_eq (hdep 25 _ 85 rfl rfl rfl).1
  have e26 := tmp_eq (hdep 26 _ 86 rfl rfl rfl).1
  have e27 := tmp_eq (hdep 27 _ 87 rfl rfl rfl).1
  obtain ⟨r30_0, r30_1, r30_2, r30_3, r30_4, r30_5, r30_6, r30_7, e30, f30⟩ := (hdep 30 _ 90 rfl rfl rfl).1
  replace e30 := tmp_eq e30
  refine ob_guard (j := 24) rfl rfl rfl (hdep 24 _ 84 rfl rfl rfl) ?_
  go_simp
  refine ((told_bad (NM.out.next hb))).mono ?_
  rintro e w1 ⟨rfl, hb1⟩
  exact hK _ w1 rfl nofun hb1
 ·intro a W hb hold hdep K hK
  have e24 := tmp_eq (hdep 24 _ 84 rfl rfl rfl).1
  have e31 := tmp_eq (hdep 31 _ 91 rfl rfl rfl).1
  refine ob_plain rfl ?_
  go_simp
  exact hK _ W rfl nofun br9
 ·intro a W hb hold hdep K hK
  have e32 := tmp_eq (hdep 32 _ 92 rfl rfl rfl).1
  refine ob_plain rfl ?_
  go_simp
  exact hK _ W rfl nofun br9
 intro vls u8 hb hf hd
 have e0 : vls 0 = _ := hf 0 (by decide)
 have e1 : vls 1 = _ := hf 1 (by decide)
 have e2 : vls 2 = _ := hf 2 (by decide)
 have e3 : vls 3 = _ := hf 3 (by decide)
 obtain ⟨o8x4_0, o8x4_1, o8x4_2, o8x4_3, o8x4_4, o8x4_5, o8x4_6, o8x4_7, e4, f4⟩ := hf 4 (by decide)
 have e5 : vls 5 = _ := hf 5 (by decide)
 have e6 : vls 6 = _ := hf 6 (by decide)
 have e7 : vls 7 = _ := hf 7 (by decide)
 have e8 : vls 8 = _ := hf 8 (by decide)
 have e9 : vls 9 = _ := hf 9 (by decide)
 have e10 : vls 10 = _ := hf 10 (by decide)
 have e11 : vls 11 = _ := hf 11 (by decide)
 obtain ⟨o8x12_0, o8x12_1, o8x12_2, o8x12_3, o8x12_4, o8x12_5, o8x12_6, o8x12_7, e12, f12⟩ := hf 12 (by decide)
 have e13 : vls 13 = _ := hf 13 (by decide)
 have e14 : vls 14 = _ := hf 14 (by decide)
 have e15 : vls 15 = _ := hf 15 (by decide)
 have e16 : vls 16 = _ := hf 16 (by decide)
 have e17 : vls 17 = _ := hf 17 (by decide)
 have e18 : vls 18 = _ := hf 18 (by decide)
 have e19 : vls 19 = _ := hf 19 (by decide)
 have e20 : vls 20 = _ := hf 20 (by decide)
 obtain ⟨o8x21_0, o8x21_1, o8x21_2, o8x21_3, o8x21_4, o8x21_5, o8x21_6, o8x21_7, e21, f21⟩ := hf 21 (by decide)
 have e22 : vls 22 = _ := hf 22 (by decide)
 have e23 : vls 23 = _ := hf 23 (by decide)
 have e24 : vls 24 = _ := hf 24 (by decide)
 have e25 : vls 25 = _ := hf 25 (by decide)
 have e26 : vls 26 = _ := hf 26 (by decide)
 have e27 : vls 27 = _ := hf 27 (by decide)
 have e28 : vls 28 = _ := hf 28 (by decide)
 have e29 : vls 29 = _ := hf 29 (by decide)
 obtain ⟨o8x30_0, o8x30_1, o8x30_2, o8x30_3, o8x30_4, o8x30_5, o8x30_6, o8x30_7, e30, f30⟩ := hf 30 (by decide)
 have e31 : vls 31 = _ := hf 31 (by decide)
 have e32 : vls 32 = _ := hf 32 (by decide)
 have e33 : vls 33 = _ := hf 33 (by decide)
 clear hf hd
 simp only [foldPut, Act.put, List.setIfInBounds_toArray, List.set_cons_zero, List.set_cons_succ, Nat.reduceAdd, e0, e1, e2, e3, e4, e5, e6, e7, e8, e9, e10, e11, e12, e13, e14, e15, e16, e17, e18, e19, e20, e21, e22, e23, e24, e25, e26, e27, e28, e29, e30, e31, e32, e33]
 clear e0 e1 e2 e3 e4 e5 e6 e7 e8 e9 e10 e11 e12 e13 e14 e15 e16 e17 e18 e19 e20 e21 e22 e23 e24 e25 e26 e27 e28 e29 e30 e31 e32 e33
 have k14 := bst k13 hb nl9
 replace H0 := hi9 (H0.out.below hb H0.out.lt)
 replace H1 := hi9 (H1.out.below hb H1.out.lt)
 replace Hp := hi9 (Hp.out.below hb Hp.out.lt)
 replace Hq := hi9 (Hq.out.below hb Hq.out.lt)
 replace Hx := hi9 (Hx.out.below hb Hx.out.lt)
 replace Hy := hi9 (Hy.out.below hb Hy.out.lt)
 replace Hn := hi9 (Hn.out.below hb Hn.out.lt)
 replace Hs := hi9 (Hs.out.below hb Hs.out.lt)
 replace Hd := hi9 (Hd.out.below hb Hd.out.lt)
 replace Hm := hi9 (Hm.out.below hb Hm.out.lt)
 replace XP := hi9 (XP.out.next hb)
 replace XQ := hi9 (XQ.out.next hb)
 replace QX := hi9 (QX.out.next hb)
 replace QY := hi9 (QY.out.next hb)
 replace NN := hi9 (NN.out.next hb)
 replace NS := hi9 (NS.out.next hb)
 replace ND := hi9 (ND.out.next hb)
 replace NM := hi9 (NM.out.next hb)
 clear k13
 replace JS := bst JS hb nl9
 clear hb
 obtain ⟨go, hgo, hown, hlen⟩ := (NS.out.num.mono NSB.out).own JS.size
 have HO := hi9 hown
 have HGO := hi9 hgo
 have HS9 := hi9 Hs.out
 clear hown hgo
 obtain ⟨c0H0, c1H0, c2H0, c3H0, -, -, -, -⟩ := H0.out.four
 obtain ⟨c0H1, c1H1, c2H1, c3H1, -, -, -, -⟩ := H1.out.four
 obtain ⟨c0Hp, c1Hp, c2Hp, c3Hp, -, -, -, -⟩ := Hp.out.four
 obtain ⟨c0Hq, c1Hq, c2Hq, c3Hq, -, -, -, -⟩ := Hq.out.four
 obtain ⟨c0Hx, c1Hx, c2Hx, c3Hx, -, -, -, -⟩ := Hx.out.four
 obtain ⟨c0Hy, c1Hy, c2Hy, c3Hy, -, -, -, -⟩ := Hy.out.four
 obtain ⟨c0Hn, c1Hn, c2Hn, c3Hn, -, -, -, -⟩ := Hn.out.four
 obtain ⟨c0Hs, c1Hs, c2Hs, c3Hs, -, -, -, -⟩ := Hs.out.four
 obtain ⟨c0Hd, c1Hd, c2Hd, c3Hd, -, -, -, -⟩ := Hd.out.four
 obtain ⟨c0Hm, c1Hm, c2Hm, c3Hm, -, -, -, -⟩ := Hm.out.four
 go_wp2_with fail
 go_loopw [20, 97] (fun _ iv wr => ∃ k : Nat, k ≤ s2 ∧ iv = .int .i64 k ∧ Hid (0 < s2 → ∃ L, Blk wr go 50 L ∧ s2 ≤ L.length) ∧ Hid (Blk wr gs 27 [.bool s0, .slice s1 s2 s3, .bool s4, .slice s5 s6 s7]) ∧ Hid (Tn go u8 wr)) (fun _ iv _ => s2 - (intOf iv).toNat)
 case atStart => exact ⟨0, by omega, rfl, fun h => (HO.out h).2, HS9.out, Tn.refl _ _⟩
 case round =>
  clear c0H0 c1H0 c2H0 c3H0 c0H1 c1H1 c2H1 c3H1 c0Hp c1Hp c2Hp c3Hp c0Hq c1Hq c2Hq c3Hq c0Hx c1Hx c2Hx c3Hx c0Hy c1Hy c2Hy c3Hy c0Hn c1Hn c2Hn c3Hn c0Hs c1Hs c2Hs c3Hs c0Hd c1Hd c2Hd c3Hd c0Hm c1Hm c2Hm c3Hm
  obtain ⟨k, hk, rfl, HL, HB9, htn⟩ := hrel
  obtain ⟨x0, x1, x2, x3, -, -, -, -⟩ := HB9.out.four
  by_cases hlt : k < s2
  ·have hn : 0 < s2 := by omega
   obtain ⟨rfl, _⟩ := HO.out hn
   obtain ⟨L, hL, hLl⟩ := HL.out hn
   have hkL : k < L.length := by omega
   obtain ⟨vv, hcv⟩ : ∃ vv, wr.cell? ⟨go, k, none⟩ = some vv := ⟨_, (hL.cell k).trans (List.getElem?_eq_getElem hkL)⟩
   have hfv := hL.frozen k
   have hne : gs ≠ go := var_go HB9.out hL
   have HLL := hi9 hL
   clear hL hn
   go_wp2_with fail
   go_roundw
   case rel => exact ⟨k + 1, by omega, by go_num, fun _ => ⟨_, HLL.out.set_ k (.int .u32 5), by simpa using hLl⟩, HB9.out.far (p := ⟨go, k, none⟩) hne _, htn.out.setCell k _⟩
   case measure => simp [intOf]; omega
  ·obtain ⟨w99, rfl⟩ : ∃ V : World, V = wr := ⟨_, rfl⟩
   have J9 : Below v7.heap.size v7 w99 := JS.trans (htn.out.below HGO.out JS.size)
   have k99 := bst kS J9 nl9
   replace H0 := hi9 (S0.out.below J9 S0.out.lt)
   replace H1 := hi9 (S1.out.below J9 S1.out.lt)
   replace Hp := hi9 (Sp.out.below J9 Sp.out.lt)
   replace Hq := hi9 (Sq.out.below J9 Sq.out.lt)
   replace XP := hi9 (SXP.out.next J9)
   replace XQ := hi9 (SXQ.out.next J9)
   clear x0 x1 x2 x3 HL HB9 htn JS J9 HO HGO HS9 S0 S1 Sp Sq SXP SXQ QX QY NN NS ND NM Hx Hy Hn Hs Hd Hm kS
   obtain ⟨c0H0, c1H0, c2H0, c3H0, -, -, -, -⟩ := H0.out.four
   obtain ⟨c0H1, c1H1, c2H1, c3H1, -, -, -, -⟩ := H1.out.four
   obtain ⟨c0Hp, c1Hp, c2Hp, c3Hp, -, -, -, -⟩ := Hp.out.four
   obtain ⟨c0Hq, c1Hq, c2Hq, c3Hq, -, -, -, -⟩ := Hq.out.four
   go_wp2_with fail
   refine ((XP.out.lsame (XA.out.next k99) (by omega))).mono ?_
   rintro e w100 ⟨rfl, hb100⟩
   clear c0H0 c1H0 c2H0 c3H0 c0H1 c1H1 c2H1 c3H1 c0Hp c1Hp c2Hp c3Hp c0Hq c1Hq c2Hq c3Hq
   have k100 := bst k99 hb100 nl9
   replace H0 := hi9 (H0.out.below hb100 H0.out.lt)
   replace H1 := hi9 (H1.out.below hb100 H1.out.lt)
   replace Hp := hi9 (Hp.out.below hb100 Hp.out.lt)
   replace Hq := hi9 (Hq.out.below hb100 Hq.out.lt)
   replace XP := hi9 (XP.out.next hb100)
   replace XQ := hi9 (XQ.out.next hb100)
   clear k99
   clear hb100
   obtain ⟨c0H0, c1H0, c2H0, c3H0, -, -, -, -⟩ := H0.out.four
   obtain ⟨c0H1, c1H1, c2H1, c3H1, -, -, -, -⟩ := H1.out.four
   obtain ⟨c0Hp, c1Hp, c2Hp, c3Hp, -, -, -, -⟩ := Hp.out.four
   obtain ⟨c0Hq, c1Hq, c2Hq, c3Hq, -, -, -, -⟩ := Hq.out.four
   go_wp2_with fail
   refine ((XQ.out.lsame (XC.out.next k100) (by omega))).mono ?_
   rintro e w101 ⟨rfl, hb101⟩
   clear c0H0 c1H0 c2H0 c3H0 c0H1 c1H1 c2H1 c3H1 c0Hp c1Hp c2Hp c3Hp c0Hq c1Hq c2Hq c3Hq
   have k101 := bst k100 hb101 nl9
   replace H0 := hi9 (H0.out.below hb101 H0.out.lt)
   replace H1 := hi9 (H1.out.below hb101 H1.out.lt)
   replace Hp := hi9 (Hp.out.below hb101 Hp.out.lt)
   replace Hq := hi9 (Hq.out.below hb101 Hq.out.lt)
   replace XP := hi9 (XP.out.next hb101)
   replace XQ := hi9 (XQ.out.next hb101)
   clear k100
   clear hb101
   obtain ⟨c0H0, c1H0, c2H0, c3H0, -, -, -, -⟩ := H0.out.four
   obtain ⟨c0H1, c1H1, c2H1, c3H1, -, -, -, -⟩ := H1.out.four
   obtain ⟨c0Hp, c1Hp, c2Hp, c3Hp, -, -, -, -⟩ := Hp.out.four
   obtain ⟨c0Hq, c1Hq, c2Hq, c3Hq, -, -, -, -⟩ := Hq.out.four
   go_wp2_with fail
   refine (lives05 (TT.out.next k101)).mono ?_
   rintro e w102 ⟨rfl, hb102⟩
   clear c0H0 c1H0 c2H0 c3H0 c0H1 c1H1 c2H1 c3H1 c0Hp c1Hp c2Hp c3Hp c0Hq c1Hq c2Hq c3Hq
   have k102 := bst k101 hb102 nl9
   replace H0 := hi9 (H0.out.below hb102 H0.out.lt)
   replace H1 := hi9 (H1.out.below hb102 H1.out.lt)
   replace Hp := hi9 (Hp.out.below hb102 Hp.out.lt)
   replace Hq := hi9 (Hq.out.below hb102 Hq.out.lt)
   replace XP := hi9 (XP.out.next hb102)
   replace XQ := hi9 (XQ.out.next hb102)
   clear k101
   clear hb102
   obtain ⟨c0H0, c1H0, c2H0, c3H0, -, -, -, -⟩ := H0.out.four
   obtain ⟨c0H1, c1H1, c2H1, c3H1, -, -, -, -⟩ := H1.out.four
   obtain ⟨c0Hp, c1Hp, c2Hp, c3Hp, -, -, -, -⟩ := Hp.out.four
   obtain ⟨c0Hq, c1Hq, c2Hq, c3Hq, -, -, -, -⟩ := Hq.out.four
   go_wp2_with fail
   go_ret
   exact ⟨rfl, k102⟩
theorem sums_walk5 (N : Nat) (hN : N ≤ 1048576) (hN1 : 1 ≤ N) (hT : Tb w) (h : FX w.heap.size w (.bool a0) (.slice a1 a2 a3) (.bool a4) (.slice a5 a6 a7) ga xa z gb xb y N) (h' : FX w.heap.size w (.bool b0) (.slice b1 b2 b3) (.bool b4) (.slice b5 b6 b7) gc xc x gd xd v N) : Calls Tryz.prog 4 #[.agg #[.bool a0, .slice a1 a2 a3, .bool a4, .slice a5 a6 a7], .agg #[.bool b0, .slice b1 b2 b3, .bool b4, .slice b5 b6 b7]] w fun e w' => e = .returned (.bool true) ∧ Below w.heap.size w w' := by
 by_cases hy : y = 0
 ·subst hy; exact sums_bad_any N hN hN1 hT h h'
 ·by_cases hv : v = 0
  ·subst hv; exact sums_good_bad N hN hN1 hT h h' hy
  ·exact sums_good_good N hN hN1 hT h h' hy hv
end
end Go.Proofs.YtbcphifjcaobfaaGreatDoor
