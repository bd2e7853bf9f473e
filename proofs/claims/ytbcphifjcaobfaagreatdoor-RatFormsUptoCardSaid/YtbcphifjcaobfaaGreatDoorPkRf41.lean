/- The walk of the law RatForms. -/
import Derived.Test.YtbcphifjcaobfaaGreatDoorPkRf40
namespace Go.Proofs.YtbcphifjcaobfaaGreatDoor
open Go.RowKit
section
variable {w : World} {B B2 B3 B4 : Nat} {K N : Nat} {z y x v n m : Int} {q r : Rat} {p p2 q1 q2 : Value} {a0 a4 : Bool} {a1 a5 : Option Addr} {a2 a3 a6 a7 : Nat} {b0 b4 : Bool} {b1 b5 : Option Addr} {b2 b3 b6 b7 : Nat}
theorem IN.rsame (h : IN w B3 p q1 z) (h' : IN w B4 p2 q2 z) (hz : z.natAbs < 4294967296 ^ K) (hK : K ≤ 281474976710656) : Calls Tryz.prog 22 #[.agg #[p, q1], .agg #[p2, q2]] w fun e w' => e = .returned (.bool true) ∧ Below w.heap.size w w' := (h.ix (B2 := 0) hz).rsame (h'.ix (B2 := 0) hz) hK
theorem floor_lt (hq : QB q K) : (q.num / q.den).natAbs < 4294967296 ^ K := Nat.lt_of_le_of_lt (Int.natAbs_ediv_le_natAbs _ _) hq.num
theorem word_lt (h1 : -9223372036854775808 ≤ n) (h2 : n ≤ 9223372036854775807) : n.natAbs < 4294967296 ^ 2 := by
 have e : (4294967296 : Nat) ^ 2 = 18446744073709551616 := by decide
 rw [e]; omega
theorem eq_self (s : Int) : (s == s) = true := beq_self_eq_true s
theorem make_q (h : QV B w (.bool a0) (.slice a1 a2 a3) (.bool a4) (.slice a5 a6 a7) q K) (hK : K ≤ 33554431) (hT : Tb w) : Calls Tryz.prog 11 #[.agg #[.bool a0, .slice a1 a2 a3], .agg #[.bool a4, .slice a5 a6 a7]] w fun e w' => RE w w' q.num q.den 0 e := make_via (hi9 fun _ hW => (h.next hW).qnorm hK (hT.next hW))
theorem make_bad (h : FV B w (.bool a0) (.slice a1 a2 a3) (.bool a4) (.slice a5 a6 a7) z 0 K) (hK : K ≤ 33554431) : Calls Tryz.prog 11 #[.agg #[.bool a0, .slice a1 a2 a3], .agg #[.bool a4, .slice a5 a6 a7]] w fun e w' => RE w w' 0 0 6 e := make_via (hi9 fun _ hW => (h.next hW).norm_bad hK)
theorem sgn2_to {P : FuncId} {aa : Array Value} {s t er : Int} (h : Calls Tryz.prog P aa w fun e w' => e = .returned (.tuple #[.int .i64 s, .int .i64 er]) ∧ Below w.heap.size w w') (e : t = s) : Calls Tryz.prog P aa w fun e w' => e = .returned (.tuple #[.int .i64 t, .int .i64 er]) ∧ Below w.heap.size w w' := e ▸ h
theorem io_to {P : FuncId} {aa : Array Value} {s t : Int} (h : Calls Tryz.prog P aa w fun e w' => IOz w w' s e) (e : t = s) : Calls Tryz.prog P aa w fun e w' => IOz w w' t e := e ▸ h
set_option maxHeartbeats 25600000 in
set_option maxRecDepth 40000 in
theorem forms_good_good (N : Nat) (hN : N ≤ 1048576) (hN1 : 1 ≤ N) (hT : Tb w) (h : FV w.heap.size w (.bool a0) (.slice a1 a2 a3) (.bool a4) (.slice a5 a6 a7) z y N) (h' : FV w.heap.size w (.bool b0) (.slice b1 b2 b3) (.bool b4) (.slice b5 b6 b7) x v N) (h1 : -9223372036854775808 ≤ n) (h2 : n ≤ 9223372036854775807) (hy : y ≠ 0) (hv : v ≠ 0) : Calls Tryz.prog 3 #[.agg #[.bool a0, .slice a1 a2 a3, .bool a4, .slice a5 a6 a7], .agg #[.bool b0, .slice b1 b2 b3, .bool b4, .slice b5 b6 b7], .int .i64 n] w fun e w' => e = .returned (.bool true) ∧ Below w.heap.size w w' := by
 obtain ⟨q, hq⟩ : ∃ q : Rat, q = (Rat.divInt z y) := ⟨_, rfl⟩
 obtain ⟨r, hr⟩ : ∃ q : Rat, q = (Rat.divInt x v) := ⟨_, rfl⟩
 have SQ : Hid (someQ z y = q) := by show _ = _; unfold someQ; rw [hq]; exact if_neg hy
 have SR : Hid (someQ x v = r) := by show _ = _; unfold someQ; rw [hr]; exact if_neg hv
 have H1N := hi9 h1
 have H2N := hi9 h2
 have HY := hi9 hy
 have HQ := hi9 hq.symm
 have dy : decide (y ≠ 0) = true := decide_eq_true hy
 have QA : Hid (QV w.heap.size w (.bool a0) (.slice a1 a2 a3) (.bool a4) (.slice a5 a6 a7) q N) := by rw [hq]; exact h.qv hy
 obtain ⟨sg, hsg⟩ : ∃ s, s = q.num.sign := ⟨_, rfl⟩
 have SG := hi9 hsg
 obtain ⟨fl, hfl⟩ : ∃ f, f = q.num / q.den := ⟨_, rfl⟩
 have FL := hi9 hfl
 clear hsg hfl
 have HV := hi9 hv
 have HR := hi9 hr.symm
 have dv : decide (v ≠ 0) = true := decide_eq_true hv
 have QC : Hid (QV w.heap.size w (.bool b0) (.slice b1 b2 b3) (.bool b4) (.slice b5 b6 b7) r N) := by rw [hr]; exact h'.qv hv
 obtain ⟨cm, hcm⟩ : ∃ s, s = (q - r).num.sign := ⟨_, rfl⟩
 have CM := hi9 hcm
 clear hcm
 have XA := hi9 h
 have XC := hi9 h'
 have TT := hi9 hT
 clear h h' hT hq hr h1 h2 hy hv
 obtain ⟨b0', b1'⟩ := blk_rr w (.bool a0) (.slice a1 a2 a3) (.bool a4) (.slice a5 a6 a7) (.bool b0) (.slice b1 b2 b3) (.bool b4) (.slice b5 b6 b7)
 have k0 := bel_two w (.cells #[.bool a0, .slice a1 a2 a3, .bool a4, .slice a5 a6 a7] 27) (.cells #[.bool b0, .slice b1 b2 b3, .bool b4, .slice b5 b6 b7] 27)
 go_enter Tryz.func3, Tryz.ntmps3
 go_upto_region 1 with fail
 obtain ⟨w0, hw0⟩ : ∃ v, v = (w.alloc (.cells #[.bool a0, .slice a1 a2 a3, .bool a4, .slice a5 a6 a7] 27)).alloc (.cells #[.bool b0, .slice b1 b2 b3, .bool b4, .slice b5 b6 b7] 27) := ⟨_, rfl⟩
 rw [← hw0] at k0 b0' b1' ⊢
 clear hw0
 have H0 := hi9 b0'
 have H1 := hi9 b1'
 clear b0' b1'
 have lt0 := H0.out.lt
 have lt1 := H1.out.lt
 refine region_facts_tail 6 [SP.is (.agg #[.bool a0, .slice a1 a2 a3, .bool a4, .slice a5 a6 a7]), SP.qv w.heap.size q N, SP.is (.agg #[.bool b0, .slice b1 b2 b3, .bool b4, .slice b5 b6 b7]), SP.qv w.heap.size r N, SP.var w0.heap.size 27 [.bool false, .slice none 0 0, .bool false, .slice none 0 0], SP.var w0.heap.size 27 [.bool false, .slice none 0 0, .bool false, .slice none 0 0]] (by kernel_rfl) (by kernel_rfl) (And.intro ?_ (And.intro ?_ (And.intro ?_ (And.intro ?_ (And.intro ?_ (And.intro ?_ trivial)))))) ?_
 ·intro a W hb hold hdep K hK
  have b3 := tmp_eq (hold 3 rfl)
  obtain ⟨c0, c1, c2, c3, -, -, -, -⟩ := (H0.out.below hb H0.out.lt).four
  refine ob_plain rfl ?_
  go_simp
  exact hK _ W rfl nofun br9
 ·intro a W hb hold hdep K hK
  have e0 := tmp_eq (hdep 0 _ 21 rfl rfl rfl).1
  refine ob_plain rfl ?_
  go_simp
  refine (some_q (XA.out.next (bst k0 hb nl9)) hN1 (by omega) SQ.out).mono ?_
  rintro e w1 ⟨x0, x1, x2, x3, x4, x5, x6, x7, rfl, f9, hb1⟩
  exact hK _ w1 ⟨x0, x1, x2, x3, x4, x5, x6, x7, rfl, f9⟩ nofun hb1
 ·intro a W hb hold hdep K hK
  have b4 := tmp_eq (hold 4 rfl)
  obtain ⟨c0, c1, c2, c3, -, -, -, -⟩ := (H1.out.below hb H1.out.lt).four
  refine ob_plain rfl ?_
  go_simp
  exact hK _ W rfl nofun br9
 ·intro a W hb hold hdep K hK
  have e2 := tmp_eq (hdep 2 _ 23 rfl rfl rfl).1
  refine ob_plain rfl ?_
  go_simp
  refine (some_q (XC.out.next (bst k0 hb nl9)) hN1 (by omega) SR.out).mono ?_
  rintro e w1 ⟨x0, x1, x2, x3, x4, x5, x6, x7, rfl, f9, hb1⟩
  exact hK _ w1 ⟨x0, x1, x2, x3, x4, x5, x6, x7, rfl, f9⟩ nofun hb1
 ·intro a W hb hold hdep K hK
  refine ob_plain rfl ?_
  go_simp
  exact hK _ _ (SP.new hb.size rfl) (fun _ => Nat.le_refl _) (bel_one _ _)
 ·intro a W hb hold hdep K hK
  refine ob_plain rfl ?_
  go_simp
  exact hK _ _ (SP.new hb.size rfl) (fun _ => Nat.le_refl _) (bel_one _ _)
 intro vls u1 hb hf hd
 have e0 : vls 0 = _ := hf 0 (by decide)
 obtain ⟨o1x1_0, o1x1_1, o1x1_2, o1x1_3, o1x1_4, o1x1_5, o1x1_6, o1x1_7, e1, f1⟩ := hf 1 (by decide)
 have e2 : vls 2 = _ := hf 2 (by decide)
 obtain ⟨o1x3_0, o1x3_1, o1x3_2, o1x3_3, o1x3_4, o1x3_5, o1x3_6, o1x3_7, e3, f3⟩ := hf 3 (by decide)
 obtain ⟨g4, e4, hg4, hk4⟩ := hf 4 (by decide)
 obtain ⟨g5, e5, hg5, hk5⟩ := hf 5 (by decide)
 have n4_5 := hd 4 5 (by decide) (by decide) (by decide) rfl rfl
 rw [e4, e5] at n4_5
 replace n4_5 : g4 ≠ g5 := n4_5
 have n5_4 := Ne.symm n4_5
 clear hf hd
 simp only [List.take_succ_cons, List.take_zero, List.drop_succ_cons, List.drop_zero, foldPut, Act.put, List.setIfInBounds_toArray, List.set_cons_zero, List.set_cons_succ, Nat.reduceAdd, e0, e1, e2, e3, e4, e5]
 clear e0 e1 e2 e3 e4 e5
 have ks := k0.size
 obtain ⟨z0, z1, z2, z3, y0, y1, y2, y3⟩ := hk4.four
 obtain ⟨z4, z5, z6, z7, y4, y5, y6, y7⟩ := hk5.four
 have k1 := bst k0 hb nl9
 replace H0 := hi9 (H0.out.below hb H0.out.lt)
 replace H1 := hi9 (H1.out.below hb H1.out.lt)
 clear k0
 clear hb
 go_upto_region 2 with fail
 obtain ⟨v2, hv⟩ : ∃ V, V = set4 (set4 u1 g4 (.bool o1x1_0) (.slice o1x1_1 o1x1_2 o1x1_3) (.bool o1x1_4) (.slice o1x1_5 o1x1_6 o1x1_7)) g5 (.bool o1x3_0) (.slice o1x3_1 o1x3_2 o1x3_3) (.bool o1x3_4) (.slice o1x3_5 o1x3_6 o1x3_7) := ⟨_, rfl⟩
 have hv2 := hv
 unfold set4 at hv2
 rw [← hv2]
 clear hv2 y0 y1 y2 y3 y4 y5 y6 y7 z0 z1 z2 z3 z4 z5 z6 z7
 have q1 := set4_far (set4_same (a := .bool o1x1_0) (b := .slice o1x1_1 o1x1_2 o1x1_3) (c := .bool o1x1_4) (d := .slice o1x1_5 o1x1_6 o1x1_7) hk4) n4_5 (a := .bool o1x3_0) (b := .slice o1x3_1 o1x3_2 o1x3_3) (c := .bool o1x3_4) (d := .slice o1x3_5 o1x3_6 o1x3_7)
 have hkf := set4_far hk5 n5_4 (a := .bool o1x1_0) (b := .slice o1x1_1 o1x1_2 o1x1_3) (c := .bool o1x1_4) (d := .slice o1x1_5 o1x1_6 o1x1_7)
 have q2 := set4_same hkf (a := .bool o1x3_0) (b := .slice o1x3_1 o1x3_2 o1x3_3) (c := .bool o1x3_4) (d := .slice o1x3_5 o1x3_6 o1x3_7)
 rw [← hv] at q1 q2
 have Hx := hi9 q1
 have Hy := hi9 q2
 have na : w.heap.size ≠ g4 := Nat.ne_of_lt (Nat.lt_of_lt_of_le (lt0) hg4)
 have nb : w.heap.size ≠ g5 := Nat.ne_of_lt (Nat.lt_of_lt_of_le (lt0) hg5)
 have q3 := set4_far (set4_far H0.out na (a := .bool o1x1_0) (b := .slice o1x1_1 o1x1_2 o1x1_3) (c := .bool o1x1_4) (d := .slice o1x1_5 o1x1_6 o1x1_7)) nb (a := .bool o1x3_0) (b := .slice o1x3_1 o1x3_2 o1x3_3) (c := .bool o1x3_4) (d := .slice o1x3_5 o1x3_6 o1x3_7)
 rw [← hv] at q3
 replace H0 := hi9 q3
 clear na nb q3
 have na : (w.heap.size + 1) ≠ g4 := Nat.ne_of_lt (Nat.lt_of_lt_of_le (lt1) hg4)
 have nb : (w.heap.size + 1) ≠ g5 := Nat.ne_of_lt (Nat.lt_of_lt_of_le (lt1) hg5)
 have q3 := set4_far (set4_far H1.out na (a := .bool o1x1_0) (b := .slice o1x1_1 o1x1_2 o1x1_3) (c := .bool o1x1_4) (d := .slice o1x1_5 o1x1_6 o1x1_7)) nb (a := .bool o1x3_0) (b := .slice o1x3_1 o1x3_2 o1x3_3) (c := .bool o1x3_4) (d := .slice o1x3_5 o1x3_6 o1x3_7)
 rw [← hv] at q3
 replace H1 := hi9 q3
 clear na nb q3
 have k2 : Below w.heap.size w v2 := by rw [hv]; exact set4_below (set4_below k1 (Nat.le_trans ks hg4)) (Nat.le_trans ks hg5)
 have QX : Hid (QV w.heap.size v2 (.bool o1x1_0) (.slice o1x1_1 o1x1_2 o1x1_3) (.bool o1x1_4) (.slice o1x1_5 o1x1_6 o1x1_7) q N) := by show QV w.heap.size v2 (.bool o1x1_0) (.slice o1x1_1 o1x1_2 o1x1_3) (.bool o1x1_4) (.slice o1x1_5 o1x1_6 o1x1_7) q N; rw [hv]; exact ((f1.set4 (Nat.le_trans ks hg4) hk4).set4 (Nat.le_trans ks hg5) hkf)
 have QY : Hid (QV w.heap.size v2 (.bool o1x3_0) (.slice o1x3_1 o1x3_2 o1x3_3) (.bool o1x3_4) (.slice o1x3_5 o1x3_6 o1x3_7) r N) := by show QV w.heap.size v2 (.bool o1x3_0) (.slice o1x3_1 o1x3_2 o1x3_3) (.bool o1x3_4) (.slice o1x3_5 o1x3_6 o1x3_7) r N; rw [hv]; exact ((f3.set4 (Nat.le_trans ks hg4) hk4).set4 (Nat.le_trans ks hg5) hkf)
 clear hv q1 q2 hkf hk4 hk5 f1 f3 ks k1
 clear lt0 lt1 hg4 hg5 n4_5 n5_4
 obtain ⟨gx, hgx⟩ : ∃ g, g = g4 := ⟨_, rfl⟩
 obtain ⟨gy, hgy⟩ : ∃ g, g = g5 := ⟨_, rfl⟩
 rw [← hgx, ← hgy]
 rw [← hgx] at Hx
 rw [← hgy] at Hy
 clear hgx hgy
 obtain ⟨c0H0, c1H0, c2H0, c3H0, -, -, -, -⟩ := H0.out.four
 obtain ⟨c0H1, c1H1, c2H1, c3H1, -, -, -, -⟩ := H1.out.four
 go_wp2_with fail
 refine (make_q (QA.out.next k2) (by omega) (TT.out.next k2)).mono ?_
 rintro e w3 ⟨m0, m1, m2, m3, m4, m5, m6, m7, rfl, nn, hb3⟩
 clear c0H0 c1H0 c2H0 c3H0 c0H1 c1H1 c2H1 c3H1
 have k3 := bst k2 hb3 nl9
 replace H0 := hi9 (H0.out.below hb3 H0.out.lt)
 replace H1 := hi9 (H1.out.below hb3 H1.out.lt)
 replace Hx := hi9 (Hx.out.below hb3 Hx.out.lt)
 replace Hy := hi9 (Hy.out.below hb3 Hy.out.lt)
 replace QX := hi9 (QX.out.next hb3)
 replace QY := hi9 (QY.out.next hb3)
 clear k2
 clear hb3
 have NM := hi9 nn
 clear nn
 go_upto_region 3 with fail
 obtain ⟨v4, hv⟩ : ∃ v, v = w3.alloc (.cells #[.bool m0, .slice m1 m2 m3, .bool m4, .slice m5 m6 m7] 27) := ⟨_, rfl⟩
 rw [← hv]
 have bn : Blk v4 w3.heap.size 27 [.bool m0, .slice m1 m2 m3, .bool m4, .slice m5 m6 m7] := by rw [hv]; exact Blk.new_ rfl
 have jn : Below w3.heap.size w3 v4 := by rw [hv]; exact bel_one _ _
 obtain ⟨gm, hg⟩ : ∃ g, g = w3.heap.size := ⟨_, rfl⟩
 rw [← hg] at bn ⊢
 clear hg hv
 have Hm := hi9 bn
 clear bn
 have k4 := bst k3 jn nl9
 replace H0 := hi9 (H0.out.below jn H0.out.lt)
 replace H1 := hi9 (H1.out.below jn H1.out.lt)
 replace Hx := hi9 (Hx.out.below jn Hx.out.lt)
 replace Hy := hi9 (Hy.out.below jn Hy.out.lt)
 replace QX := hi9 (QX.out.next jn)
 replace QY := hi9 (QY.out.next jn)
 replace NM := hi9 (NM.out.next jn)
 clear k3
 clear jn
 obtain ⟨c0H0, c1H0, c2H0, c3H0, -, -, -, -⟩ := H0.out.four
 obtain ⟨c0H1, c1H1, c2H1, c3H1, -, -, -, -⟩ := H1.out.four
 go_wp2_with fail
 refine ((QA.out.next k4).qnorm (by omega) (TT.out.next k4)).mono ?_
 rintro e w5 ⟨kk0, kk1, kk2, kk3, kk4, kk5, kk6, kk7, rfl, nn, hb5⟩
 clear c0H0 c1H0 c2H0 c3H0 c0H1 c1H1 c2H1 c3H1
 have k5 := bst k4 hb5 nl9
 replace H0 := hi9 (H0.out.below hb5 H0.out.lt)
 replace H1 := hi9 (H1.out.below hb5 H1.out.lt)
 replace Hx := hi9 (Hx.out.below hb5 Hx.out.lt)
 replace Hy := hi9 (Hy.out.below hb5 Hy.out.lt)
 replace Hm := hi9 (Hm.out.below hb5 Hm.out.lt)
 replace QX := hi9 (QX.out.next hb5)
 replace QY := hi9 (QY.out.next hb5)
 replace NM := hi9 (NM.out.next hb5)
 clear k4
 clear hb5
 have NK := hi9 nn
 clear nn
 go_upto_region 4 with fail
 obtain ⟨v6, hv⟩ : ∃ v, v = w5.alloc (.cells #[.bool kk0, .slice kk1 kk2 kk3, .bool kk4, .slice kk5 kk6 kk7] 27) := ⟨_, rfl⟩
 rw [← hv]
 have bn : Blk v6 w5.heap.size 27 [.bool kk0, .slice kk1 kk2 kk3, .bool kk4, .slice kk5 kk6 kk7] := by rw [hv]; exact Blk.new_ rfl
 have jn : Below w5.heap.size w5 v6 := by rw [hv]; exact bel_one _ _
 obtain ⟨gk, hg⟩ : ∃ g, g = w5.heap.size := ⟨_, rfl⟩
 rw [← hg] at bn ⊢
 clear hg hv
 have Hk := hi9 bn
 clear bn
 have k6 := bst k5 jn nl9
 replace H0 := hi9 (H0.out.below jn H0.out.lt)
 replace H1 := hi9 (H1.out.below jn H1.out.lt)
 replace Hx := hi9 (Hx.out.below jn Hx.out.lt)
 replace Hy := hi9 (Hy.out.below jn Hy.out.lt)
 replace Hm := hi9 (Hm.out.below jn Hm.out.lt)
 replace QX := hi9 (QX.out.next jn)
 replace QY := hi9 (QY.out.next jn)
 replace NM := hi9 (NM.out.next jn)
 replace NK := hi9 (NK.out.next jn)
 clear k5
 clear jn
 obtain ⟨c0H0, c1H0, c2H0, c3H0, -, -, -, -⟩ := H0.out.four
 obtain ⟨c0H1, c1H1, c2H1, c3H1, -, -, -, -⟩ := H1.out.four
 go_wp2_with fail
 refine ((sgn2_to ((QA.out.next k6).qsign (by omega)) SG.out)).mono ?_
 rintro e w7 ⟨rfl, hb7⟩
 clear c0H0 c1H0 c2H0 c3H0 c0H1 c1H1 c2H1 c3H1
 have k7 := bst k6 hb7 nl9
 replace H0 := hi9 (H0.out.below hb7 H0.out.lt)
 replace H1 := hi9 (H1.out.below hb7 H1.out.lt)
 replace Hx := hi9 (Hx.out.below hb7 Hx.out.lt)
 replace Hy := hi9 (Hy.out.below hb7 Hy.out.lt)
 replace Hm := hi9 (Hm.out.below hb7 Hm.out.lt)
 replace Hk := hi9 (Hk.out.below hb7 Hk.out.lt)
 replace QX := hi9 (QX.out.next hb7)
 replace QY := hi9 (QY.out.next hb7)
 replace NM := hi9 (NM.out.next hb7)
 replace NK := hi9 (NK.out.next hb7)
 clear k6
 clear hb7
 obtain ⟨c0H0, c1H0, c2H0, c3H0, -, -, -, -⟩ := H0.out.four
 obtain ⟨c0H1, c1H1, c2H1, c3H1, -, -, -, -⟩ := H1.out.four
 go_wp2_with fail
 refine ((sgn2_to ((QA.out.next k7).qcmp (QC.out.next k7) (by omega)) CM.out)).mono ?_
 rintro e w8 ⟨rfl, hb8⟩
 clear c0H0 c1H0 c2H0 c3H0 c0H1 c1H1 c2H1 c3H1
 have k8 := bst k7 hb8 nl9
 replace H0 := hi9 (H0.out.below hb8 H0.out.lt)
 replace H1 := hi9 (H1.out.below hb8 H1.out.lt)
 replace Hx := hi9 (Hx.out.below hb8 Hx.out.lt)
 replace Hy := hi9 (Hy.out.below hb8 Hy.out.lt)
 replace Hm := hi9 (Hm.out.below hb8 Hm.out.lt)
 replace Hk := hi9 (Hk.out.below hb8 Hk.out.lt)
 replace QX := hi9 (QX.out.next hb8)
 replace QY := hi9 (QY.out.next hb8)
 replace NM := hi9 (NM.out.next hb8)
 replace NK := hi9 (NK.out.next hb8)
 clear k7
 clear hb8
 obtain ⟨c0H0, c1H0, c2H0, c3H0, -, -, -, -⟩ := H0.out.four
 obtain ⟨c0H1, c1H1, c2H1, c3H1, -, -, -, -⟩ := H1.out.four
 go_wp2_with fail
 refine ((QA.out.next k8).qfloor (by omega)).mono ?_
 rintro e w9 ⟨d0, d1, d2, d3, rfl, nn, hb9⟩
 clear c0H0 c1H0 c2H0 c3H0 c0H1 c1H1 c2H1 c3H1
 have k9 := bst k8 hb9 nl9
 replace H0 := hi9 (H0.out.below hb9 H0.out.lt)
 replace H1 := hi9 (H1.out.below hb9 H1.out.lt)
 replace Hx := hi9 (Hx.out.below hb9 Hx.out.lt)
 replace Hy := hi9 (Hy.out.below hb9 Hy.out.lt)
 replace Hm := hi9 (Hm.out.below hb9 Hm.out.lt)
 replace Hk := hi9 (Hk.out.below hb9 Hk.out.lt)
 replace QX := hi9 (QX.out.next hb9)
 replace QY := hi9 (QY.out.next hb9)
 replace NM := hi9 (NM.out.next hb9)
 replace NK := hi9 (NK.out.next hb9)
 clear k8
 clear hb9
 have ND := hi9 nn
 clear nn
 go_upto_region 7 with fail
 obtain ⟨v10, hv⟩ : ∃ v, v = w9.alloc (.cells #[.bool d0, .slice d1 d2 d3] 25) := ⟨_, rfl⟩
 rw [← hv]
 have bn : Blk v10 w9.heap.size 25 [.bool d0, .slice d1 d2 d3] := by rw [hv]; exact Blk.new_ rfl
 have jn : Below w9.heap.size w9 v10 := by rw [hv]; exact bel_one _ _
 obtain ⟨gd, hg⟩ : ∃ g, g = w9.heap.size := ⟨_, rfl⟩
 rw [← hg] at bn ⊢
 clear hg hv
 have Hd := hi9 bn
 clear bn
 have k10 := bst k9 jn nl9
 replace H0 := hi9 (H0.out.below jn H0.out.lt)
 replace H1 := hi9 (H1.out.below jn H1.out.lt)
 replace Hx := hi9 (Hx.out.below jn Hx.out.lt)
 replace Hy := hi9 (Hy.out.below jn Hy.out.lt)
 replace Hm := hi9 (Hm.out.below jn Hm.out.lt)
 replace Hk := hi9 (Hk.out.below jn Hk.out.lt)
 replace QX := hi9 (QX.out.next jn)
 replace QY := hi9 (QY.out.next jn)
 replace NM := hi9 (NM.out.next jn)
 replace NK := hi9 (NK.out.next jn)
 replace ND := hi9 (ND.out.next jn)
 clear k9
 clear jn
 obtain ⟨c0H0, c1H0, c2H0, c3H0, -, -, -, -⟩ := H0.out.four
 obtain ⟨c0H1, c1H1, c2H1, c3H1, -, -, -, -⟩ := H1.out.four
 rw [← FL.out] at ND
 clear c0H0 c1H0 c2H0 c3H0 c0H1 c1H1 c2H1 c3H1
 refine region_facts [SP.is (.agg #[.bool a0, .slice a1 a2 a3, .bool a4, .slice a5 a6 a7]), SP.is (.bool true), SP.is (.agg #[.bool a0, .slice a1 a2 a3, .bool a4, .slice a5 a6 a7]), SP.is (.bool true), SP.is (.bool true), SP.is (.agg #[.bool b0, .slice b1 b2 b3, .bool b4, .slice b5 b6 b7]), SP.is (.bool true), SP.is (.bool true), SP.is (.bool true), SP.is (.bool true)] (by kernel_rfl) (by kernel_rfl) (And.intro ?_ (And.intro ?_ (And.intro ?_ (And.intro ?_ (And.intro ?_ (And.intro ?_ (And.intro ?_ (And.intro ?_ (And.intro ?_ (And.intro ?_ trivial)))))))))) ?_
 ·intro a W hb hold hdep K hK
  have b3 := tmp_eq (hold 3 rfl)
  obtain ⟨c0, c1, c2, c3, -, -, -, -⟩ := (H0.out.below hb H0.out.lt).four
  refine ob_plain rfl ?_
  go_simp
  exact hK _ W rfl nofun br9
 ·intro a W hb hold hdep K hK
  have e0 := tmp_eq (hdep 0 _ 54 rfl rfl rfl).1
  refine ob_plain rfl ?_
  go_simp
  refine ((may_yes ((XA.out.next (bst k10 hb nl9))) dy (by omega))).mono ?_
  rintro e w1 ⟨rfl, hb1⟩
  exact hK _ w1 rfl nofun hb1
 ·intro a W hb hold hdep K hK
  have b3 := tmp_eq (hold 3 rfl)
  obtain ⟨c0, c1, c2, c3, -, -, -, -⟩ := (H0.out.below hb H0.out.lt).four
  refine ob_plain rfl ?_
  go_simp
  exact hK _ W rfl nofun br9
 ·intro a W hb hold hdep K hK
  have e2 := tmp_eq (hdep 2 _ 56 rfl rfl rfl).1
  refine ob_plain rfl ?_
  go_simp
  refine ((may_yes ((XA.out.next (bst k10 hb nl9))) dy (by omega))).mono ?_
  rintro e w1 ⟨rfl, hb1⟩
  exact hK _ w1 rfl nofun hb1
 ·intro a W hb hold hdep K hK
  have e3 := tmp_eq (hdep 3 _ 57 rfl rfl rfl).1
  refine ob_plain rfl ?_
  go_simp
  exact hK _ W rfl nofun br9
 ·intro a W hb hold hdep K hK
  have b4 := tmp_eq (hold 4 rfl)
  obtain ⟨c0, c1, c2, c3, -, -, -, -⟩ := (H1.out.below hb H1.out.lt).four
  refine ob_guard (j := 4) rfl rfl rfl (hdep 4 _ 58 rfl rfl rfl) ?_
  go_simp
  exact hK _ W rfl nofun br9
 ·intro a W hb hold hdep K hK
  have e5 := tmp_eq (hdep 5 _ 59 rfl rfl rfl).1
  refine ob_guard (j := 4) rfl rfl rfl (hdep 4 _ 58 rfl rfl rfl) ?_
  go_simp
  refine ((may_yes ((XC.out.next (bst k10 hb nl9))) dv (by omega))).mono ?_
  rintro e w1 ⟨rfl, hb1⟩
  exact hK _ w1 rfl nofun hb1
 ·intro a W hb hold hdep K hK
  have e4 := tmp_eq (hdep 4 _ 58 rfl rfl rfl).1
  have e6 := tmp_eq (hdep 6 _ 60 rfl rfl rfl).1
  refine ob_plain rfl ?_
  go_simp
  exact hK _ W rfl nofun br9
 ·intro a W hb hold hdep K hK
  have e1 := tmp_eq (hdep 1 _ 55 rfl rfl rfl).1
  refine ob_plain rfl ?_
  go_simp
  exact hK _ W rfl nofun br9
 ·intro a W hb hold hdep K hK
  have e7 := tmp_eq (hdep 7 _ 61 rfl rfl rfl).1
  refine ob_plain rfl ?_
  go_simp
  exact hK _ W rfl nofun br9
 intro vls u7 hb hf hd
 have e0 : vls 0 = _ := hf 0 (by decide)
 have e1 : vls 1 = _ := hf 1 (by decide)
 have e2 : vls 2 = _ := hf 2 (by decide)
 have e3 : vls 3 = _ := hf 3 (by decide)
 have e4 : vls 4 = _ := hf 4 (by decide)
 have e5 : vls 5 = _ := hf 5 (by decide)
 have e6 : vls 6 = _ := hf 6 (by decide)
 have e7 : vls 7 = _ := hf 7 (by decide)
 have e8 : vls 8 = _ := hf 8 (by decide)
 have e9 : vls 9 = _ := hf 9 (by decide)
 clear hf hd
 simp only [foldPut, Act.put, List.setIfInBounds_toArray, List.set_cons_zero, List.set_cons_succ, Nat.reduceAdd, e0, e1, e2, e3, e4, e5, e6, e7, e8, e9]
 clear e0 e1 e2 e3 e4 e5 e6 e7 e8 e9
 have k11 := bst k10 hb nl9
 replace H0 := hi9 (H0.out.below hb H0.out.lt)
 replace H1 := hi9 (H1.out.below hb H1.out.lt)
 replace Hx := hi9 (Hx.out.below hb Hx.out.lt)
 replace Hy := hi9 (Hy.out.below hb Hy.out.lt)
 replace Hm := hi9 (Hm.out.below hb Hm.out.lt)
 replace Hk := hi9 (Hk.out.below hb Hk.out.lt)
 replace Hd := hi9 (Hd.out.below hb Hd.out.lt)
 replace QX := hi9 (QX.out.next hb)
 replace QY := hi9 (QY.out.next hb)
 replace NM := hi9 (NM.out.next hb)
 replace NK := hi9 (NK.out.next hb)
 replace ND := hi9 (ND.out.next hb)
 clear k10
 clear hb
 have BQ := hi9 QX.out.qb
 go_upto_region 8 with fail
 refine region_facts [SP.is (.bool true), SP.is (.agg #[.bool m0, .slice m1 m2 m3, .bool m4, .slice m5 m6 m7]), SP.is (.int .i64 (0)), SP.is (.agg #[.bool o1x1_0, .slice o1x1_1 o1x1_2 o1x1_3, .bool o1x1_4, .slice o1x1_5 o1x1_6 o1x1_7]), SP.fn 0 (q.num) (q.den), SP.is (.bool true), SP.is (.bool false), SP.is (.bool false), SP.is (.bool true), SP.is (.agg #[.bool kk0, .slice kk1 kk2 kk3, .bool kk4, .slice kk5 kk6 kk7]), SP.is (.int .i64 (0)), SP.is (.agg #[.bool o1x1_0, .slice o1x1_1 o1x1_2 o1x1_3, .bool o1x1_4, .slice o1x1_5 o1x1_6 o1x1_7]), SP.fn 0 (q.num) (q.den), SP.is (.bool true), SP.is (.bool false), SP.is (.bool false), SP.is (.bool false), SP.is (.int .i64 n), SP.fn 0 (n) (1), SP.is (.int .i64 n), SP.fn 0 (n) (1), SP.is (.bool true), SP.is (.bool false), SP.is (.bool false)] (by kernel_rfl) (by kernel_rfl) (And.intro ?_ (And.intro ?_ (And.intro ?_ (And.intro ?_ (And.intro ?_ (And.intro ?_ (And.intro ?_ (And.intro ?_ (And.intro ?_ (And.intro ?_ (And.intro ?_ (And.intro ?_ (And.intro ?_ (And.intro ?_ (And.intro ?_ (And.intro ?_ (And.intro ?_ (And.intro ?_ (And.intro ?_ (And.intro ?_ (And.intro ?_ (And.intro ?_ (And.intro ?_ (And.intro ?_ trivial)))))))))))))))))))))))) ?_
 ·intro a W hb hold hdep K hK
  have b19 := tmp_eq (hold 19 rfl)
  refine ob_plain rfl ?_
  go_simp
  exact hK _ W rfl nofun br9
 ·intro a W hb hold hdep K hK
  have b9 := tmp_eq (hold 9 rfl)
  obtain ⟨c0, c1, c2, c3, -, -, -, -⟩ := (Hm.out.below hb Hm.out.lt).four
  refine ob_plain rfl ?_
  go_simp
  exact hK _ W rfl nofun br9
 ·intro a W hb hold hdep K hK
  have b10 := tmp_eq (hold 10 rfl)
  refine ob_plain rfl ?_
  go_simp
  exact hK _ W rfl nofun br9
 ·intro a W hb hold hdep K hK
  have b7 := tmp_eq (hold 7 rfl)
  obtain ⟨c0, c1, c2, c3, -, -, -, -⟩ := (Hx.out.below hb Hx.out.lt).four
  refine ob_plain rfl ?_
  go_simp
  exact hK _ W rfl nofun br9
 ·intro a W hb hold hdep K hK
  have e3 := tmp_eq (hdep 3 _ 65 rfl rfl rfl).1
  refine ob_plain rfl ?_
  go_simp
  refine ((ro_zero ((QX.out.next hb).rqnorm (by omega)))).mono ?_
  rintro e w1 ⟨x0, x1, x2, x3, x4, x5, x6, x7, rfl, f9, hb1⟩
  exact hK _ w1 ⟨x0, x1, x2, x3, x4, x5, x6, x7, rfl, f9⟩ nofun hb1
 ·intro a W hb hold hdep K hK
  have e0 := tmp_eq (hdep 0 _ 62 rfl rfl rfl).1
  have e1 := tmp_eq (hdep 1 _ 63 rfl rfl rfl).1
  have e2 := tmp_eq (hdep 2 _ 64 rfl rfl rfl).1
  obtain ⟨r4_0, r4_1, r4_2, r4_3, r4_4, r4_5, r4_6, r4_7, e4, f4⟩ := (hdep 4 _ 66 rfl rfl rfl).1
  replace e4 := tmp_eq e4
  refine ob_plain rfl ?_
  go_simp
  refine ((told_ok (NM.out.next hb) f4 BQ.out.num (by rw [Int.natAbs_natCast]; exact BQ.out.den) (by omega))).mono ?_
  rintro e w1 ⟨rfl, hb1⟩
  exact hK _ w1 rfl nofun hb1
 ·intro a W hb hold hdep K hK
  have e5 := tmp_eq (hdep 5 _ 67 rfl rfl rfl).1
  refine ob_plain rfl ?_
  go_simp
  exact hK _ W rfl nofun br9
 ·intro a W hb hold hdep K hK
  have e6 := tmp_eq (hdep 6 _ 68 rfl rfl rfl).1
  refine ob_plain rfl ?_
  go_simp
  exact hK _ W rfl nofun br9
 ·intro a W hb hold hdep K hK
  have b19 := tmp_eq (hold 19 rfl)
  refine ob_guard (j := 7) rfl rfl rfl (hdep 7 _ 69 rfl rfl rfl) ?_
  go_simp
  exact hK _ W rfl nofun br9
 ·intro a W hb hold hdep K hK
  have b11 := tmp_eq (hold 11 rfl)
  obtain ⟨c0, c1, c2, c3, -, -, -, -⟩ := (Hk.out.below hb Hk.out.lt).four
  refine ob_guard (j := 7) rfl rfl rfl (hdep 7 _ 69 rfl rfl rfl) ?_
  go_simp
  exact hK _ W rfl nofun br9
 ·intro a W hb hold hdep K hK
  have b12 := tmp_eq (hold 12 rfl)
  refine ob_guard (j := 7) rfl rfl rfl (hdep 7 _ 69 rfl rfl rfl) ?_
  go_simp
  exact hK _ W rfl nofun br9
 ·intro a W hb hold hdep K hK
  have b7 := tmp_eq (hold 7 rfl)
  obtain ⟨c0, c1, c2, c3, -, -, -, -⟩ := (Hx.out.below hb Hx.out.lt).four
  refine ob_guard (j := 7) rfl rfl rfl (hdep 7 _ 69 rfl rfl rfl) ?_
  go_simp
  exact hK _ W rfl nofun br9
 ·intro a W hb hold hdep K hK
  have e11 := tmp_eq (hdep 11 _ 73 rfl rfl rfl).1
  refine ob_guard (j := 7) rfl rfl rfl (hdep 7 _ 69 rfl rfl rfl) ?_
  go_simp
  refine ((ro_zero ((QX.out.next hb).rqnorm (by omega)))).mono ?_
  rintro e w1 ⟨x0, x1, x2, x3, x4, x5, x6, x7, rfl, f9, hb1⟩
  exact hK _ w1 ⟨x0, x1, x2, x3, x4, x5, x6, x7, rfl, f9⟩ nofun hb1
 ·intro a W hb hold hdep K hK
  have e8 := tmp_eq (hdep 8 _ 70 rfl rfl rfl).1
  have e9 := tmp_eq (hdep 9 _ 71 rfl rfl rfl).1
  have e10 := tmp_eq (hdep 10 _ 72 rfl rfl rfl).1
  obtain ⟨r12_0, r12_1, r12_2, r12_3, r12_4, r12_5, r12_6, r12_7, e12, f12⟩ := (hdep 12 _ 74 rfl rfl rfl).1
  replace e12 := tmp_eq e12
  refine ob_guard (j := 7) rfl rfl rfl (hdep 7 _ 69 rfl rfl rfl) ?_
  go_simp
  refine ((told_ok (NK.out.next hb) f12 BQ.out.num (by rw [Int.natAbs_natCast]; exact BQ.out.den) (by omega))).mono ?_
  rintro e w1 ⟨rfl, hb1⟩
  exact hK _ w1 rfl nofun hb1
 ·intro a W hb hold hdep K hK
  have e13 := tmp_eq (hdep 13 _ 75 rfl rfl rfl).1
  refine ob_guard (j := 7) rfl rfl rfl (hdep 7 _ 69 rfl rfl rfl) ?_
  go_simp
  exact hK _ W rfl nofun br9
 ·intro a W hb hold hdep K hK
  have e7 := tmp_eq (hdep 7 _ 69 rfl rfl rfl).1
  have e14 := tmp_eq (hdep 14 _ 76 rfl rfl rfl).1
  refine ob_plain rfl ?_
  go_simp
  exact hK _ W rfl nofun br9
 ·intro a W hb hold hdep K hK
  have e15 := tmp_eq (hdep 15 _ 77 rfl rfl rfl).1
  refine ob_plain rfl ?_
  go_simp
  exact hK _ W rfl nofun br9
 ·intro a W hb hold hdep K hK
  have b2 := tmp_eq (hold 2 rfl)
  refine ob_guard (j := 16) rfl rfl rfl (hdep 16 _ 78 rfl rfl rfl) ?_
  go_simp
  exact hK _ W rfl nofun br9
 ·intro a W hb hold hdep K hK
  have e17 := tmp_eq (hdep 17 _ 79 rfl rfl rfl).1
  refine ob_guard (j := 16) rfl rfl rfl (hdep 16 _ 78 rfl rfl rfl) ?_
  go_simp
  refine ((ro_zero (of05_any n H1N.out H2N.out))).mono ?_
  rintro e w1 ⟨x0, x1, x2, x3, x4, x5, x6, x7, rfl, f9, hb1⟩
  exact hK _ w1 ⟨x0, x1, x2, x3, x4, x5, x6, x7, rfl, f9⟩ nofun hb1
 ·intro a W hb hold hdep K hK
  have b2 := tmp_eq (hold 2 rfl)
  refine ob_guard (j := 16) rfl rfl rfl (hdep 16 _ 78 rfl rfl rfl) ?_
  go_simp
  exact hK _ W rfl nofun br9
 ·intro a W hb hold hdep K hK
  have e19 := tmp_eq (hdep 19 _ 81 rfl rfl rfl).1
  refine ob_guard (j := 16) rfl rfl rfl (hdep 16 _ 78 rfl rfl rfl) ?_
  go_simp
  refine ((ro_zero (rof05_any n H1N.out H2N.out))).mono ?_
  rintro e w1 ⟨x0, x1, x2, x3, x4, x5, x6, x7, rfl, f9, hb1⟩
  exact hK _ w1 ⟨x0, x1, x2, x3, x4, x5, x6, x7, rfl, f9⟩ nofun hb1
 ·intro a W hb hold hdep K hK
  obtain ⟨r18_0, r18_1, r18_2, r18_3, r18_4, r18_5, r18_6, r18_7, e18, f18⟩ := (hdep 18 _ 80 rfl rfl rfl).1
  replace e18 := tmp_eq e18
  obtain ⟨r20_0, r20_1, r20_2, r20_3, r20_4, r20_5, r20_6, r20_7, e20, f20⟩ := (hdep 20 _ 82 rfl rfl rfl).1
  replace e20 := tmp_eq e20
  refine ob_guard (j := 16) rfl rfl rfl (hdep 16 _ 78 rfl rfl rfl) ?_
  go_simp
  refine ((f18.lsame f20 (K := 2) (word_lt H1N.out H2N.out) (by decide) (by decide))).mono ?_
  rintro e w1 ⟨rfl, hb1⟩
  exact hK _ w1 rfl nofun hb1
 ·intro a W hb hold hdep K hK
  have e21 := tmp_eq (hdep 21 _ 83 rfl rfl rfl).1
  refine ob_guard (j := 16) rfl rfl rfl (hdep 16 _ 78 rfl rfl rfl) ?_
  go_simp
  exact hK _ W rfl nofun br9
 ·intro a W hb hold hdep K hK
  have e16 := tmp_eq (hdep 16 _ 78 rfl rfl rfl).1
  have e22 := tmp_eq (hdep 22 _ 84 rfl rfl rfl).1
  refine ob_plain rfl ?_
  go_simp
  exact hK _ W rfl nofun br9
 intro vls u8 hb hf hd
 have e0 : vls 0 = _ := hf 0 (by decide)
 have e1 : vls 1 = _ := hf 1 (by decide)
 have e2 : vls 2 = _ := hf 2 (by decide)
 have e3 : vls 3 = _ := hf 3 (by decide)
 obtain ⟨o8x4_0, o8x4_1, o8x4_2, o8x4_3, o8x4_4, o8x4_5, o8x4_6, o8x4_7, e4, f4⟩ := hf 4 (by decide)
 have e5 : vls 5 = _ := hf 5 (by decide)
 have e6 : vls 6 = _ := hf 6 (by decide)
 have e7 : vls 7 = _ := hf 7 (by decide)
 have e8 : vls 8 = _ := hf 8 (by decide)
 have e9 : vls 9 = _ := hf 9 (by decide)
 have e10 : vls 10 = _ := hf 10 (by decide)
 have e11 : vls 11 = _ := hf 11 (by decide)
 obtain ⟨o8x12_0, o8x12_1, o8x12_2, o8x12_3, o8x12_4, o8x12_5, o8x12_6, o8x12_7, e12, f12⟩ := hf 12 (by decide)
 have e13 : vls 13 = _ := hf 13 (by decide)
 have e14 : vls 14 = _ := hf 14 (by decide)
 have e15 : vls 15 = _ := hf 15 (by decide)
 have e16 : vls 16 = _ := hf 16 (by decide)
 have e17 : vls 17 = _ := hf 17 (by decide)
 obtain ⟨o8x18_0, o8x18_1, o8x18_2, o8x18_3, o8x18_4, o8x18_5, o8x18_6, o8x18_7, e18, f18⟩ := hf 18 (by decide)
 have e19 : vls 19 = _ := hf 19 (by decide)
 obtain ⟨o8x20_0, o8x20_1, o8x20_2, o8x20_3, o8x20_4, o8x20_5, o8x20_6, o8x20_7, e20, f20⟩ := hf 20 (by decide)
 have e21 : vls 21 = _ := hf 21 (by decide)
 have e22 : vls 22 = _ := hf 22 (by decide)
 have e23 : vls 23 = _ := hf 23 (by decide)
 clear hf hd
 simp only [foldPut, Act.put, List.setIfInBounds_toArray, List.set_cons_zero, List.set_cons_succ, Nat.reduceAdd, e0, e1, e2, e3, e4, e5, e6, e7, e8, e9, e10, e11, e12, e13, e14, e15, e16, e17, e18, e19, e20, e21, e22, e23]
 clear e0 e1 e2 e3 e4 e5 e6 e7 e8 e9 e10 e11 e12 e13 e14 e15 e16 e17 e18 e19 e20 e21 e22 e23
 have k12 := bst k11 hb nl9
 replace H0 := hi9 (H0.out.below hb H0.out.lt)
 replace H1 := hi9 (H1.out.below hb H1.out.lt)
 replace Hx := hi9 (Hx.out.below hb Hx.out.lt)
 replace Hy := hi9 (Hy.out.below hb Hy.out.lt)
 replace Hm := hi9 (Hm.out.below hb Hm.out.lt)
 replace Hk := hi9 (Hk.out.below hb Hk.out.lt)
 replace Hd := hi9 (Hd.out.below hb Hd.out.lt)
 replace QX := hi9 (QX.out.next hb)
 replace QY := hi9 (QY.out.next hb)
 replace NM := hi9 (NM.out.next hb)
 replace NK := hi9 (NK.out.next hb)
 replace ND := hi9 (ND.out.next hb)
 clear k11
 clear hb
 go_upto_region 10 with fail
 have LFL : Hid (fl.natAbs < 4294967296 ^ N) := by show _ < _; rw [FL.out]; exact floor_lt BQ.out
 refine region_facts [SP.is (.bool true), SP.is (.bool false), SP.is (.bool false), SP.is (undef), SP.is (undef), SP.is (undef), SP.is (undef), SP.is (undef), SP.is (undef), SP.is (undef), SP.is (undef), SP.is (undef), SP.is (undef), SP.is (undef), SP.is (undef), SP.is (undef), SP.is (undef), SP.is (undef), SP.is (undef), SP.is (.bool false), SP.is (.bool false), SP.is (.bool true), SP.is (.bool true), SP.is (.int .i64 (sg)), SP.is (.agg #[.bool o1x1_0, .slice o1x1_1 o1x1_2 o1x1_3, .bool o1x1_4, .slice o1x1_5 o1x1_6 o1x1_7]), SP.is (.int .i64 (sg)), SP.is (.bool false), SP.is (.bool false), SP.is (.int .i64 (0)), SP.is (.bool false), SP.is (.bool false), SP.is (.bool false), SP.is (.int .i64 (0)), SP.is (.bool false), SP.is (.bool false), SP.is (.bool false), SP.is (.agg #[.bool d0, .slice d1 d2 d3]), SP.is (.agg #[.bool o1x1_0, .slice o1x1_1 o1x1_2 o1x1_3, .bool o1x1_4, .slice o1x1_5 o1x1_6 o1x1_7]), SP.in_ 0 fl, SP.is (.bool true), SP.is (.bool false), SP.is (.bool false), SP.is (.bool false), SP.is (.bool false)] (by kernel_rfl) (by kernel_rfl) (And.intro ?_ (And.intro ?_ (And.intro ?_ (And.intro ?_ (And.intro ?_ (And.intro ?_ (And.intro ?_ (And.intro ?_ (And.intro ?_ (And.intro ?_ (And.intro ?_ (And.intro ?_ (And.intro ?_ (And.intro ?_ (And.intro ?_ (And.intro ?_ (And.intro ?_ (And.intro ?_ (And.intro ?_ (And.intro ?_ (And.intro ?_ (And.intro ?_ (And.intro ?_ (And.intro ?_ (And.intro ?_ (And.intro ?_ (And.intro ?_ (And.intro ?_ (And.intro ?_ (And.intro ?_ (And.intro ?_ (And.intro ?_ (And.intro ?_ (And.intro ?_ (And.intro ?_ (And.intro ?_ (And.intro ?_ (And.intro ?_ (And.intro ?_ (And.intro ?_ (And.intro ?_ (And.intro ?_ (And.intro ?_ (And.intro ?_ trivial)))))))))))))))))))))))))))))))))))))))))))) ?_
 ·intro a W hb hold hdep K hK
  have b19 := tmp_eq (hold 19 rfl)
  refine ob_plain rfl ?_
  go_simp
  exact hK _ W rfl nofun br9
 ·intro a W hb hold hdep K hK
  have e0 := tmp_eq (hdep 0 _ 86 rfl rfl rfl).1
  refine ob_plain rfl ?_
  go_simp
  exact hK _ W rfl nofun br9
 ·intro a W hb hold hdep K hK
  have e1 := tmp_eq (hdep 1 _ 87 rfl rfl rfl).1
  refine ob_plain rfl ?_
  go_simp
  exact hK _ W rfl nofun br9
 ·intro a W hb hold hdep K hK
  refine ob_skip (j := 2) rfl rfl rfl (hdep 2 _ 88 rfl rfl rfl) ?_
  exact hK undef W rfl nofun br9
 ·intro a W hb hold hdep K hK
  refine ob_skip (j := 2) rfl rfl rfl (hdep 2 _ 88 rfl rfl rfl) ?_
  exact hK undef W rfl nofun br9
 ·intro a W hb hold hdep K hK
  refine ob_skip (j := 2) rfl rfl rfl (hdep 2 _ 88 rfl rfl rfl) ?_
  exact hK undef W rfl nofun br9
 ·intro a W hb hold hdep K hK
  refine ob_skip2 (j := 5) rfl rfl rfl (hdep 5 _ 91 rfl rfl rfl) ?_
  exact hK undef W rfl nofun br9
 ·intro a W hb hold hdep K hK
  refine ob_skip2 (j := 5) rfl rfl rfl (hdep 5 _ 91 rfl rfl rfl) ?_
  exact hK undef W rfl nofun br9
 ·intro a W hb hold hdep K hK
  refine ob_skip (j := 2) rfl rfl rfl (hdep 2 _ 88 rfl rfl rfl) ?_
  exact hK undef W rfl nofun br9
 ·intro a W hb hold hdep K hK
  refine ob_skip (j := 2) rfl rfl rfl (hdep 2 _ 88 rfl rfl rfl) ?_
  exact hK undef W rfl nofun br9
 ·intro a W hb hold hdep K hK
  refine ob_skip2 (j := 9) rfl rfl rfl (hdep 9 _ 95 rfl rfl rfl) ?_
  exact hK undef W rfl nofun br9
 ·intro a W hb hold hdep K hK
  refine ob_skip2 (j := 9) rfl rfl rfl (hdep 9 _ 95 rfl rfl rfl) ?_
  exact hK undef W rfl nofun br9
 ·intro a W hb hold hdep K hK
  refine ob_skip (j := 2) rfl rfl rfl (hdep 2 _ 88 rfl rfl rfl) ?_
  exact hK undef W rfl nofun br9
 ·intro a W hb hold hdep K hK
  refine ob_skip (j := 2) rfl rfl rfl (hdep 2 _ 88 rfl rfl rfl) ?_
  exact hK undef W rfl nofun br9
 ·intro a W hb hold hdep K hK
  refine ob_skip2 (j := 13) rfl rfl rfl (hdep 13 _ 99 rfl rfl rfl) ?_
  exact hK undef W rfl nofun br9
 ·intro a W hb hold hdep K hK
  refine ob_skip2 (j := 13) rfl rfl rfl (hdep 13 _ 99 rfl rfl rfl) ?_
  exact hK undef W rfl nofun br9
 ·intro a W hb hold hdep K hK
  refine ob_skip2 (j := 13) rfl rfl rfl (hdep 13 _ 99 rfl rfl rfl) ?_
  exact hK undef W rfl nofun br9
 ·intro a W hb hold hdep K hK
  refine ob_skip2 (j := 13) rfl rfl rfl (hdep 13 _ 99 rfl rfl rfl) ?_
  exact hK undef W rfl nofun br9
 ·intro a W hb hold hdep K hK
  refine ob_skip (j := 2) rfl rfl rfl (hdep 2 _ 88 rfl rfl rfl) ?_
  exact hK undef W rfl nofun br9
 ·intro a W hb hold hdep K hK
  have e2 := tmp_eq (hdep 2 _ 88 rfl rfl rfl).1
  have e18 := tmp_eq (hdep 18 _ 104 rfl rfl rfl).1
  refine ob_plain rfl ?_
  go_simp
  exact hK _ W rfl nofun br9
 ·intro a W hb hold hdep K hK
  have e19 := tmp_eq (hdep 19 _ 105 rfl rfl rfl).1
  refine ob_plain rfl ?_
  go_simp
  exact hK _ W rfl nofun br9
 ·intro a W hb hold hdep K hK
  have b19 := tmp_eq (hold 19 rfl)
  refine ob_guard (j := 20) rfl rfl rfl (hdep 20 _ 106 rfl rfl rfl) ?_
  go_simp
  exact hK _ W rfl nofun br9
 ·intro a W hb hold hdep K hK
  have e21 := tmp_eq (hdep 21 _ 107 rfl rfl rfl).1
  refine ob_guard (j := 20) rfl rfl rfl (hdep 20 _ 106 rfl rfl rfl) ?_
  go_simp
  exact hK _ W rfl nofun br9
 ·intro a W hb hold hdep K hK
  have b13 := tmp_eq (hold 13 rfl)
  refine ob_guard (j := 22) rfl rfl rfl (hdep 22 _ 108 rfl rfl rfl) ?_
  go_simp
  exact hK _ W rfl nofun br9
 ·intro a W hb hold hdep K hK
  have b7 := tmp_eq (hold 7 rfl)
  obtain ⟨c0, c1, c2, c3, -, -, -, -⟩ := (Hx.out.below hb Hx.out.lt).four
  refine ob_guard (j := 22) rfl rfl rfl (hdep 22 _ 108 rfl rfl rfl) ?_
  go_simp
  exact hK _ W rfl nofun br9
 ·intro a W hb hold hdep K hK
  have e24 := tmp_eq (hdep 24 _ 110 rfl rfl rfl).1
  refine ob_guard (j := 22) rfl rfl rfl (hdep 22 _ 108 rfl rfl rfl) ?_
  go_simp
  refine ((sgn_to (QX.out.next hb |>.rqsign (by omega)) SG.out)).mono ?_
  rintro e w1 ⟨rfl, hb1⟩
  exact hK _ w1 rfl nofun hb1
 ·intro a W hb hold hdep K hK
  have e23 := tmp_eq (hdep 23 _ 109 rfl rfl rfl).1
  have e25 := tmp_eq (hdep 25 _ 111 rfl rfl rfl).1
  refine ob_guard (j := 22) rfl rfl rfl (hdep 22 _ 108 rfl rfl rfl) ?_
  go_simp
  exact hK _ W rfl nofun br9
 ·intro a W hb hold hdep K hK
  have e26 := tmp_eq (hdep 26 _ 112 rfl rfl rfl).1
  refine ob_guard (j := 22) rfl rfl rfl (hdep 22 _ 108 rfl rfl rfl) ?_
  go_simp
  exact hK _ W rfl nofun br9
 ·intro a W hb hold hdep K hK
  have b14 := tmp_eq (hold 14 rfl)
  refine ob_guard (j := 27) rfl rfl rfl (hdep 27 _ 113 rfl rfl rfl) ?_
  go_simp
  exact hK _ W rfl nofun br9
 ·intro a W hb hold hdep K hK
  have e28 := tmp_eq (hdep 28 _ 114 rfl rfl rfl).1
  refine ob_guard (j := 27) rfl rfl rfl (hdep 27 _ 113 rfl rfl rfl) ?_
  go_simp
  exact hK _ W rfl nofun br9
 ·intro a W hb hold hdep K hK
  have e27 := tmp_eq (hdep 27 _ 113 rfl rfl rfl).1
  have e29 := tmp_eq (hdep 29 _ 115 rfl rfl rfl).1
  refine ob_guard (j := 22) rfl rfl rfl (hdep 22 _ 108 rfl rfl rfl) ?_
  go_simp
  exact hK _ W rfl nofun br9
 ·intro a W hb hold hdep K hK
  have e30 := tmp_eq (hdep 30 _ 116 rfl rfl rfl).1
  refine ob_guard (j := 22) rfl rfl rfl (hdep 22 _ 108 rfl rfl rfl) ?_
  go_simp
  exact hK _ W rfl nofun br9
 ·intro a W hb hold hdep K hK
  have b18 := tmp_eq (hold 18 rfl)
  refine ob_guard (j := 31) rfl rfl rfl (hdep 31 _ 117 rfl rfl rfl) ?_
  go_simp
  exact hK _ W rfl nofun br9
 ·intro a W hb hold hdep K hK
  have e32 := tmp_eq (hdep 32 _ 118 rfl rfl rfl).1
  refine ob_guard (j := 31) rfl rfl rfl (hdep 31 _ 117 rfl rfl rfl) ?_
  go_simp
  exact hK _ W rfl nofun br9
 ·intro a W hb hold hdep K hK
  have e31 := tmp_eq (hdep 31 _ 117 rfl rfl rfl).1
  have e33 := tmp_eq (hdep 33 _ 119 rfl rfl rfl).1
  refine ob_guard (j := 22) rfl rfl rfl (hdep 22 _ 108 rfl rfl rfl) ?_
  go_simp
  exact hK _ W rfl nofun br9
 ·intro a W hb hold hdep K hK
  have e34 := tmp_eq (hdep 34 _ 120 rfl rfl rfl).1
  refine ob_guard (j := 22) rfl rfl rfl (hdep 22 _ 108 rfl rfl rfl) ?_
  go_simp
  exact hK _ W rfl nofun br9
 ·intro a W hb hold hdep K hK
  have b17 := tmp_eq (hold 17 rfl)
  obtain ⟨c0, c1, -, -⟩ := (Hd.out.below hb Hd.out.lt).two
  refine ob_guard (j := 35) rfl rfl rfl (hdep 35 _ 121 rfl rfl rfl) ?_
  go_simp
  exact hK _ W rfl nofun br9
 ·intro a W hb hold hdep K hK
  have b7 := tmp_eq (hold 7 rfl)
  obtain ⟨c0, c1, c2, c3, -, -, -, -⟩ := (Hx.out.below hb Hx.out.lt).four
  refine ob_guard (j := 35) rfl rfl rfl (hdep 35 _ 121 rfl rfl rfl) ?_
  go_simp
  exact hK _ W rfl nofun br9
 ·intro a W hb hold hdep K hK
  have e37 := tmp_eq (hdep 37 _ 123 rfl rfl rfl).1
  refine ob_guard (j := 35) rfl rfl rfl (hdep 35 _ 121 rfl rfl rfl) ?_
  go_simp
  refine ((in_zero (io_to (rq_floor (QX.out.next hb) (by omega)) FL.out))).mono ?_
  rintro e w1 ⟨x0, x1, x2, x3, rfl, f9, hb1⟩
  exact hK _ w1 ⟨x0, x1, x2, x3, rfl, f9⟩ nofun hb1
 ·intro a W hb hold hdep K hK
  have e36 := tmp_eq (hdep 36 _ 122 rfl rfl rfl).1
  obtain ⟨r38_0, r38_1, r38_2, r38_3, e38, f38⟩ := (hdep 38 _ 124 rfl rfl rfl).1
  replace e38 := tmp_eq e38
  refine ob_guard (j := 35) rfl rfl rfl (hdep 35 _ 121 rfl rfl rfl) ?_
  go_simp
  refine (((ND.out.next hb).rsame f38 LFL.out (by omega))).mono ?_
  rintro e w1 ⟨rfl, hb1⟩
  exact hK _ w1 rfl nofun hb1
 ·intro a W hb hold hdep K hK
  have e39 := tmp_eq (hdep 39 _ 125 rfl rfl rfl).1
  refine ob_guard (j := 35) rfl rfl rfl (hdep 35 _ 121 rfl rfl rfl) ?_
  go_simp
  exact hK _ W rfl nofun br9
 ·intro a W hb hold hdep K hK
  have e35 := tmp_eq (hdep 35 _ 121 rfl rfl rfl).1
  have e40 := tmp_eq (hdep 40 _ 126 rfl rfl rfl).1
  refine ob_guard (j := 22) rfl rfl rfl (hdep 22 _ 108 rfl rfl rfl) ?_
  go_simp
  exact hK _ W rfl nofun br9
 ·intro a W hb hold hdep K hK
  have e22 := tmp_eq (hdep 22 _ 108 rfl rfl rfl).1
  have e41 := tmp_eq (hdep 41 _ 127 rfl rfl rfl).1
  refine ob_guard (j := 20) rfl rfl rfl (hdep 20 _ 106 rfl rfl rfl) ?_
  go_simp
  exact hK _ W rfl nofun br9
 ·intro a W hb hold hdep K hK
  have e20 := tmp_eq (hdep 20 _ 106 rfl rfl rfl).1
  have e42 := tmp_eq (hdep 42 _ 128 rfl rfl rfl).1
  refine ob_plain rfl ?_
  go_simp
  exact hK _ W rfl nofun br9
 intro vls u10 hb hf hd
 have e0 : vls 0 = _ := hf 0 (by decide)
 have e1 : vls 1 = _ := hf 1 (by decide)
 have e2 : vls 2 = _ := hf 2 (by decide)
 have e3 : vls 3 = _ := hf 3 (by decide)
 have e4 : vls 4 = _ := hf 4 (by decide)
 have e5 : vls 5 = _ := hf 5 (by decide)
 have e6 : vls 6 = _ := hf 6 (by decide)
 have e7 : vls 7 = _ := hf 7 (by decide)
 have e8 : vls 8 = _ := hf 8 (by decide)
 have e9 : vls 9 = _ := hf 9 (by decide)
 have e10 : vls 10 = _ := hf 10 (by decide)
 have e11 : vls 11 = _ := hf 11 (by decide)
 have e12 : vls 12 = _ := hf 12 (by decide)
 have e13 : vls 13 = _ := hf 13 (by decide)
 have e14 : vls 14 = _ := hf 14 (by decide)
 have e15 : vls 15 = _ := hf 15 (by decide)
 have e16 : vls 16 = _ := hf 16 (by decide)
 have e17 : vls 17 = _ := hf 17 (by decide)
 have e18 : vls 18 = _ := hf 18 (by decide)
 have e19 : vls 19 = _ := hf 19 (by decide)
 have e20 : vls 20 = _ := hf 20 (by decide)
 have e21 : vls 21 = _ := hf 21 (by decide)
 have e22 : vls 22 = _ := hf 22 (by decide)
 have e23 : vls 23 = _ := hf 23 (by decide)
 have e24 : vls 24 = _ := hf 24 (by decide)
 have e25 : vls 25 = _ := hf 25 (by decide)
 have e26 : vls 26 = _ := hf 26 (by decide)
 have e27 : vls 27 = _ := hf 27 (by decide)
 have e28 : vls 28 = _ := hf 28 (by decide)
 have e29 : vls 29 = _ := hf 29 (by decide)
 have e30 : vls 30 = _ := hf 30 (by decide)
 have e31 : vls 31 = _ := hf 31 (by decide)
 have e32 : vls 32 = _ := hf 32 (by decide)
 have e33 : vls 33 = _ := hf 33 (by decide)
 have e34 : vls 34 = _ := hf 34 (by decide)
 have e35 : vls 35 = _ := hf 35 (by decide)
 have e36 : vls 36 = _ := hf 36 (by decide)
 have e37 : vls 37 = _ := hf 37 (by decide)
 obtain ⟨o10x38_0, o10x38_1, o10x38_2, o10x38_3, e38, f38⟩ := hf 38 (by decide)
 have e39 : vls 39 = _ := hf 39 (by decide)
 have e40 : vls 40 = _ := hf 40 (by decide)
 have e41 : vls 41 = _ := hf 41 (by decide)
 have e42 : vls 42 = _ := hf 42 (by decide)
 have e43 : vls 43 = _ := hf 43 (by decide)
 clear hf hd
 simp only [foldPut, Act.put, List.setIfInBounds_toArray, List.set_cons_zero, List.set_cons_succ, Nat.reduceAdd, e0, e1, e2, e3, e4, e5, e6, e7, e8, e9, e10, e11, e12, e13, e14, e15, e16, e17, e18, e19, e20, e21, e22, e23, e24, e25, e26, e27, e28, e29, e30, e31, e32, e33, e34, e35, e36, e37, e38, e39, e40, e41, e42, e43]
 clear e0 e1 e2 e3 e4 e5 e6 e7 e8 e9 e10 e11 e12 e13 e14 e15 e16 e17 e18 e19 e20 e21 e22 e23 e24 e25 e26 e27 e28 e29 e30 e31 e32 e33 e34 e35 e36 e37 e38 e39 e40 e41 e42 e43
 have k13 := bst k12 hb nl9
 replace H0 := hi9 (H0.out.below hb H0.out.lt)
 replace H1 := hi9 (H1.out.below hb H1.out.lt)
 replace Hx := hi9 (Hx.out.below hb Hx.out.lt)
 replace Hy := hi9 (Hy.out.below hb Hy.out.lt)
 replace Hm := hi9 (Hm.out.below hb Hm.out.lt)
 replace Hk := hi9 (Hk.out.below hb Hk.out.lt)
 replace Hd := hi9 (Hd.out.below hb Hd.out.lt)
 replace QX := hi9 (QX.out.next hb)
 replace QY := hi9 (QY.out.next hb)
 replace NM := hi9 (NM.out.next hb)
 replace NK := hi9 (NK.out.next hb)
 replace ND := hi9 (ND.out.next hb)
 clear k12
 clear hb
 have tcm : (cm == cm) = true := eq_self cm
 obtain ⟨c0Hx, c1Hx, c2Hx, c3Hx, -, -, -, -⟩ := Hx.out.four
 obtain ⟨c0Hy, c1Hy, c2Hy, c3Hy, -, -, -, -⟩ := Hy.out.four
 go_wp2_with fail
 refine ((cmp_to (QX.out.rqcmp QY.out (by omega)) CM.out.symm)).mono ?_
 rintro e w14 ⟨rfl, hb14⟩
 clear c0Hx c1Hx c2Hx c3Hx c0Hy c1Hy c2Hy c3Hy
 have k14 := bst k13 hb14 nl9
 replace H0 := hi9 (H0.out.below hb14 H0.out.lt)
 replace H1 := hi9 (H1.out.below hb14 H1.out.lt)
 replace Hx := hi9 (Hx.out.below hb14 Hx.out.lt)
 replace Hy := hi9 (Hy.out.below hb14 Hy.out.lt)
 replace Hm := hi9 (Hm.out.below hb14 Hm.out.lt)
 replace Hk := hi9 (Hk.out.below hb14 Hk.out.lt)
 replace Hd := hi9 (Hd.out.below hb14 Hd.out.lt)
 replace QX := hi9 (QX.out.next hb14)
 replace QY := hi9 (QY.out.next hb14)
 replace NM := hi9 (NM.out.next hb14)
 replace NK := hi9 (NK.out.next hb14)
 replace ND := hi9 (ND.out.next hb14)
 clear k13
 clear hb14
 obtain ⟨c0Hx, c1Hx, c2Hx, c3Hx, -, -, -, -⟩ := Hx.out.four
 obtain ⟨c0Hy, c1Hy, c2Hy, c3Hy, -, -, -, -⟩ := Hy.out.four
 go_wp2_with fail
 refine (lives05 (TT.out.next k14)).mono ?_
 rintro e w15 ⟨rfl, hb15⟩
 clear c0Hx c1Hx c2Hx c3Hx c0Hy c1Hy c2Hy c3Hy
 have k15 := bst k14 hb15 nl9
 replace H0 := hi9 (H0.out.below hb15 H0.out.lt)
 replace H1 := hi9 (H1.out.below hb15 H1.out.lt)
 replace Hx := hi9 (Hx.out.below hb15 Hx.out.lt)
 replace Hy := hi9 (Hy.out.below hb15 Hy.out.lt)
 replace Hm := hi9 (Hm.out.below hb15 Hm.out.lt)
 replace Hk := hi9 (Hk.out.below hb15 Hk.out.lt)
 replace Hd := hi9 (Hd.out.below hb15 Hd.out.lt)
 replace QX := hi9 (QX.out.next hb15)
 replace QY := hi9 (QY.out.next hb15)
 replace NM := hi9 (NM.out.next hb15)
 replace NK := hi9 (NK.out.next hb15)
 replace ND := hi9 (ND.out.next hb15)
 clear k14
 clear hb15
 obtain ⟨c0Hx, c1Hx, c2Hx, c3Hx, -, -, -, -⟩ := Hx.out.four
 obtain ⟨c0Hy, c1Hy, c2Hy, c3Hy, -, -, -, -⟩ := Hy.out.four
 go_wp2_with fail
 go_ret
 exact ⟨rfl, k15⟩
set_option maxHeartbeats 25600000 in
set_option maxRecDepth 40000 in
theorem forms_good_bad (N : Nat) (hN : N ≤ 1048576) (hN1 : 1 ≤ N) (hT : Tb w) (h : FV w.heap.size w (.bool a0) (.slice a1 a2 a3) (.bool a4) (.slice a5 a6 a7) z y N) (h' : FV w.heap.size w (.bool b0) (.slice b1 b2 b3) (.bool b4) (.slice b5 b6 b7) x 0 N) (h1 : -9223372036854775808 ≤ n) (h2 : n ≤ 9223372036854775807) (hy : y ≠ 0) : Calls Tryz.prog 3 #[.agg #[.bool a0, .slice a1 a2 a3, .bool a4, .slice a5 a6 a7], .agg #[.bool b0, .slice b1 b2 b3, .bool b4, .slice b5 b6 b7], .int .i64 n] w fun e w' => e = .returned (.bool true) ∧ Below w.heap.size w w' := by
 obtain ⟨q, hq⟩ : ∃ q : Rat, q = (Rat.divInt z y) := ⟨_, rfl⟩
 obtain ⟨r, hr⟩ : ∃ q : Rat, q = 1 := ⟨_, rfl⟩
 have SQ : Hid (someQ z y = q) := by show _ = _; unfold someQ; rw [hq]; exact if_neg hy
 have SR : Hid (someQ x 0 = r) := by show _ = _; unfold someQ; rw [hr]; rfl
 have H1N := hi9 h1
 have H2N := hi9 h2
 have HY := hi9 hy
 have HQ := hi9 hq.symm
 have dy : decide (y ≠ 0) = true := decide_eq_true hy
 have QA : Hid (QV w.heap.size w (.bool a0) (.slice a1 a2 a3) (.bool a4) (.slice a5 a6 a7) q N) := by rw [hq]; exact h.qv hy
 obtain ⟨sg, hsg⟩ : ∃ s, s = q.num.sign := ⟨_, rfl⟩
 have SG := hi9 hsg
 obtain ⟨fl, hfl⟩ : ∃ f, f = q.num / q.den := ⟨_, rfl⟩
 have FL := hi9 hfl
 clear hsg hfl
 have XA := hi9 h
 have XC := hi9 h'
 have TT := hi9 hT
 clear h h' hT hq hr h1 h2 hy
 obtain ⟨b0', b1'⟩ := blk_rr w (.bool a0) (.slice a1 a2 a3) (.bool a4) (.slice a5 a6 a7) (.bool b0) (.slice b1 b2 b3) (.bool b4) (.slice b5 b6 b7)
 have k0 := bel_two w (.cells #[.bool a0, .slice a1 a2 a3, .bool a4, .slice a5 a6 a7] 27) (.cells #[.bool b0, .slice b1 b2 b3, .bool b4, .slice b5 b6 b7] 27)
 go_enter Tryz.func3, Tryz.ntmps3
 go_upto_region 1 with fail
 obtain ⟨w0, hw0⟩ : ∃ v, v = (w.alloc (.cells #[.bool a0, .slice a1 a2 a3, .bool a4, .slice a5 a6 a7] 27)).alloc (.cells #[.bool b0, .slice b1 b2 b3, .bool b4, .slice b5 b6 b7] 27) := ⟨_, rfl⟩
 rw [← hw0] at k0 b0' b1' ⊢
 clear hw0
 have H0 := hi9 b0'
 have H1 := hi9 b1'
 clear b0' b1'
 have lt0 := H0.out.lt
 have lt1 := H1.out.lt
 refine region_facts_tail 6 [SP.is (.agg #[.bool a0, .slice a1 a2 a3, .bool a4, .slice a5 a6 a7]), SP.qv w.heap.size q N, SP.is (.agg #[.bool b0, .slice b1 b2 b3, .bool b4, .slice b5 b6 b7]), SP.qv w.heap.size r N, SP.var w0.heap.size 27 [.bool false, .slice none 0 0, .bool false, .slice none 0 0], SP.var w0.heap.size 27 [.bool false, .slice none 0 0, .bool false, .slice none 0 0]] (by kernel_rfl) (by kernel_rfl) (And.intro ?_ (And.intro ?_ (And.intro ?_ (And.intro ?_ (And.intro ?_ (And.intro ?_ trivial)))))) ?_
 ·intro a W hb hold hdep K hK
  have b3 := tmp_eq (hold 3 rfl)
  obtain ⟨c0, c1, c2, c3, -, -, -, -⟩ := (H0.out.below hb H0.out.lt).four
  refine ob_plain rfl ?_
  go_simp
  exact hK _ W rfl nofun br9
 ·intro a W hb hold hdep K hK
  have e0 := tmp_eq (hdep 0 _ 21 rfl rfl rfl).1
  refine ob_plain rfl ?_
  go_simp
  refine (some_q (XA.out.next (bst k0 hb nl9)) hN1 (by omega) SQ.out).mono ?_
  rintro e w1 ⟨x0, x1, x2, x3, x4, x5, x6, x7, rfl, f9, hb1⟩
  exact hK _ w1 ⟨x0, x1, x2, x3, x4, x5, x6, x7, rfl, f9⟩ nofun hb1
 ·intro a W hb hold hdep K hK
  have b4 := tmp_eq (hold 4 rfl)
  obtain ⟨c0, c1, c2, c3, -, -, -, -⟩ := (H1.out.below hb H1.out.lt).four
  refine ob_plain rfl ?_
  go_simp
  exact hK _ W rfl nofun br9
 ·intro a W hb hold hdep K hK
  have e2 := tmp_eq (hdep 2 _ 23 rfl rfl rfl).1
  refine ob_plain rfl ?_
  go_simp
  refine (some_q (XC.out.next (bst k0 hb nl9)) hN1 (by omega) SR.out).mono ?_
  rintro e w1 ⟨x0, x1, x2, x3, x4, x5, x6, x7, rfl, f9, hb1⟩
  exact hK _ w1 ⟨x0, x1, x2, x3, x4, x5, x6, x7, rfl, f9⟩ nofun hb1
 ·intro a W hb hold hdep K hK
  refine ob_plain rfl ?_
  go_simp
  exact hK _ _ (SP.new hb.size rfl) (fun _ => Nat.le_refl _) (bel_one _ _)
 ·intro a W hb hold hdep K hK
  refine ob_plain rfl ?_
  go_simp
  exact hK _ _ (SP.new hb.size rfl) (fun _ => Nat.le_refl _) (bel_one _ _)
 intro vls u1 hb hf hd
 have e0 : vls 0 = _ := hf 0 (by decide)
 obtain ⟨o1x1_0, o1x1_1, o1x1_2, o1x1_3, o1x1_4, o1x1_5, o1x1_6, o1x1_7, e1, f1⟩ := hf 1 (by decide)
 have e2 : vls 2 = _ := hf 2 (by decide)
 obtain ⟨o1x3_0, o1x3_1, o1x3_2, o1x3_3, o1x3_4, o1x3_5, o1x3_6, o1x3_7, e3, f3⟩ := hf 3 (by decide)
 obtain ⟨g4, e4, hg4, hk4⟩ := hf 4 (by decide)
 obtain ⟨g5, e5, hg5, hk5⟩ := hf 5 (by decide)
 have n4_5 := hd 4 5 (by decide) (by decide) (by decide) rfl rfl
 rw [e4, e5] at n4_5
 replace n4_5 : g4 ≠ g5 := n4_5
 have n5_4 := Ne.symm n4_5
 clear hf hd
 simp only [List.take_succ_cons, List.take_zero, List.drop_succ_cons, List.drop_zero, foldPut, Act.put, List.setIfInBounds_toArray, List.set_cons_zero, List.set_cons_succ, Nat.reduceAdd, e0, e1, e2, e3, e4, e5]
 clear e0 e1 e2 e3 e4 e5
 have ks := k0.size
 obtain ⟨z0, z1, z2, z3, y0, y1, y2, y3⟩ := hk4.four
 obtain ⟨z4, z5, z6, z7, y4, y5, y6, y7⟩ := hk5.four
 have k1 := bst k0 hb nl9
 replace H0 := hi9 (H0.out.below hb H0.out.lt)
 replace H1 := hi9 (H1.out.below hb H1.out.lt)
 clear k0
 clear hb
 go_upto_region 2 with fail
 obtain ⟨v2, hv⟩ : ∃ V, V = set4 (set4 u1 g4 (.bool o1x1_0) (.slice o1x1_1 o1x1_2 o1x1_3) (.bool o1x1_4) (.slice o1x1_5 o1x1_6 o1x1_7)) g5 (.bool o1x3_0) (.slice o1x3_1 o1x3_2 o1x3_3) (.bool o1x3_4) (.slice o1x3_5 o1x3_6 o1x3_7) := ⟨_, rfl⟩
 have hv2 := hv
 unfold set4 at hv2
 rw [← hv2]
 clear hv2 y0 y1 y2 y3 y4 y5 y6 y7 z0 z1 z2 z3 z4 z5 z6 z7
 have q1 := set4_far (set4_same (a := .bool o1x1_0) (b := .slice o1x1_1 o1x1_2 o1x1_3) (c := .bool o1x1_4) (d := .slice o1x1_5 o1x1_6 o1x1_7) hk4) n4_5 (a := .bool o1x3_0) (b := .slice o1x3_1 o1x3_2 o1x3_3) (c := .bool o1x3_4) (d := .slice o1x3_5 o1x3_6 o1x3_7)
 have hkf := set4_far hk5 n5_4 (a := .bool o1x1_0) (b := .slice o1x1_1 o1x1_2 o1x1_3) (c := .bool o1x1_4) (d := .slice o1x1_5 o1x1_6 o1x1_7)
 have q2 := set4_same hkf (a := .bool o1x3_0) (b := .slice o1x3_1 o1x3_2 o1x3_3) (c := .bool o1x3_4) (d := .slice o1x3_5 o1x3_6 o1x3_7)
 rw [← hv] at q1 q2
 have Hx := hi9 q1
 have Hy := hi9 q2
 have na : w.heap.size ≠ g4 := Nat.ne_of_lt (Nat.lt_of_lt_of_le (lt0) hg4)
 have nb : w.heap.size ≠ g5 := Nat.ne_of_lt (Nat.lt_of_lt_of_le (lt0) hg5)
 have q3 := set4_far (set4_far H0.out na (a := .bool o1x1_0) (b := .slice o1x1_1 o1x1_2 o1x1_3) (c := .bool o1x1_4) (d := .slice o1x1_5 o1x1_6 o1x1_7)) nb (a := .bool o1x3_0) (b := .slice o1x3_1 o1x3_2 o1x3_3) (c := .bool o1x3_4) (d := .slice o1x3_5 o1x3_6 o1x3_7)
 rw [← hv] at q3
 replace H0 := hi9 q3
 clear na nb q3
 have na : (w.heap.size + 1) ≠ g4 := Nat.ne_of_lt (Nat.lt_of_lt_of_le (lt1) hg4)
 have nb : (w.heap.size + 1) ≠ g5 := Nat.ne_of_lt (Nat.lt_of_lt_of_le (lt1) hg5)
 have q3 := set4_far (set4_far H1.out na (a := .bool o1x1_0) (b := .slice o1x1_1 o1x1_2 o1x1_3) (c := .bool o1x1_4) (d := .slice o1x1_5 o1x1_6 o1x1_7)) nb (a := .bool o1x3_0) (b := .slice o1x3_1 o1x3_2 o1x3_3) (c := .bool o1x3_4) (d := .slice o1x3_5 o1x3_6 o1x3_7)
 rw [← hv] at q3
 replace H1 := hi9 q3
 clear na nb q3
 have k2 : Below w.heap.size w v2 := by rw [hv]; exact set4_below (set4_below k1 (Nat.le_trans ks hg4)) (Nat.le_trans ks hg5)
 have QX : Hid (QV w.heap.size v2 (.bool o1x1_0) (.slice o1x1_1 o1x1_2 o1x1_3) (.bool o1x1_4) (.slice o1x1_5 o1x1_6 o1x1_7) q N) := by show QV w.heap.size v2 (.bool o1x1_0) (.slice o1x1_1 o1x1_2 o1x1_3) (.bool o1x1_4) (.slice o1x1_5 o1x1_6 o1x1_7) q N; rw [hv]; exact ((f1.set4 (Nat.le_trans ks hg4) hk4).set4 (Nat.le_trans ks hg5) hkf)
 have QY : Hid (QV w.heap.size v2 (.bool o1x3_0) (.slice o1x3_1 o1x3_2 o1x3_3) (.bool o1x3_4) (.slice o1x3_5 o1x3_6 o1x3_7) r N) := by show QV w.heap.size v2 (.bool o1x3_0) (.slice o1x3_1 o1x3_2 o1x3_3) (.bool o1x3_4) (.slice o1x3_5 o1x3_6 o1x3_7) r N; rw [hv]; exact ((f3.set4 (Nat.le_trans ks hg4) hk4).set4 (Nat.le_trans ks hg5) hkf)
 clear hv q1 q2 hkf hk4 hk5 f1 f3 ks k1
 clear lt0 lt1 hg4 hg5 n4_5 n5_4
 obtain ⟨gx, hgx⟩ : ∃ g, g = g4 := ⟨_, rfl⟩
 obtain ⟨gy, hgy⟩ : ∃ g, g = g5 := ⟨_, rfl⟩
 rw [← hgx, ← hgy]
 rw [← hgx] at Hx
 rw [← hgy] at Hy
 clear hgx hgy
 obtain ⟨c0H0, c1H0, c2H0, c3H0, -, -, -, -⟩ := H0.out.four
 obtain ⟨c0H1, c1H1, c2H1, c3H1, -, -, -, -⟩ := H1.out.four
 go_wp2_with fail
 refine (make_q (QA.out.next k2) (by omega) (TT.out.next k2)).mono ?_
 rintro e w3 ⟨m0, m1, m2, m3, m4, m5, m6, m7, rfl, nn, hb3⟩
 clear c0H0 c1H0 c2H0 c3H0 c0H1 c1H1 c2H1 c3H1
 have k3 := bst k2 hb3 nl9
 replace H0 := hi9 (H0.out.below hb3 H0.out.lt)
 replace H1 := hi9 (H1.out.below hb3 H1.out.lt)
 replace Hx := hi9 (Hx.out.below hb3 Hx.out.lt)
 replace Hy := hi9 (Hy.out.below hb3 Hy.out.lt)
 replace QX := hi9 (QX.out.next hb3)
 replace QY := hi9 (QY.out.next hb3)
 clear k2
 clear hb3
 have NM := hi9 nn
 clear nn
 go_upto_region 3 with fail
 obtain ⟨v4, hv⟩ : ∃ v, v = w3.alloc (.cells #[.bool m0, .slice m1 m2 m3, .bool m4, .slice m5 m6 m7] 27) := ⟨_, rfl⟩
 rw [← hv]
 have bn : Blk v4 w3.heap.size 27 [.bool m0, .slice m1 m2 m3, .bool m4, .slice m5 m6 m7] := by rw [hv]; exact Blk.new_ rfl
 have jn : Below w3.heap.size w3 v4 := by rw [hv]; exact bel_one _ _
 obtain ⟨gm, hg⟩ : ∃ g, g = w3.heap.size := ⟨_, rfl⟩
 rw [← hg] at bn ⊢
 clear hg hv
 have Hm := hi9 bn
 clear bn
 have k4 := bst k3 jn nl9
 replace H0 := hi9 (H0.out.below jn H0.out.lt)
 replace H1 := hi9 (H1.out.below jn H1.out.lt)
 replace Hx := hi9 (Hx.out.below jn Hx.out.lt)
 replace Hy := hi9 (Hy.out.below jn Hy.out.lt)
 replace QX := hi9 (QX.out.next jn)
 replace QY := hi9 (QY.out.next jn)
 replace NM := hi9 (NM.out.next jn)
 clear k3
 clear jn
 obtain ⟨c0H0, c1H0, c2H0, c3H0, -, -, -, -⟩ := H0.out.four
 obtain ⟨c0H1, c1H1, c2H1, c3H1, -, -, -, -⟩ := H1.out.four
 go_wp2_with fail
 refine ((QA.out.next k4).qnorm (by omega) (TT.out.next k4)).mono ?_
 rintro e w5 ⟨kk0, kk1, kk2, kk3, kk4, kk5, kk6, kk7, rfl, nn, hb5⟩
 clear c0H0 c1H0 c2H0 c3H0 c0H1 c1H1 c2H1 c3H1
 have k5 := bst k4 hb5 nl9
 replace H0 := hi9 (H0.out.below hb5 H0.out.lt)
 replace H1 := hi9 (H1.out.below hb5 H1.out.lt)
 replace Hx := hi9 (Hx.out.below hb5 Hx.out.lt)
 replace Hy := hi9 (Hy.out.below hb5 Hy.out.lt)
 replace Hm := hi9 (Hm.out.below hb5 Hm.out.lt)
 replace QX := hi9 (QX.out.next hb5)
 replace QY := hi9 (QY.out.next hb5)
 replace NM := hi9 (NM.out.next hb5)
 clear k4
 clear hb5
 have NK := hi9 nn
 clear nn
 go_upto_region 4 with fail
 obtain ⟨v6, hv⟩ : ∃ v, v = w5.alloc (.cells #[.bool kk0, .slice kk1 kk2 kk3, .bool kk4, .slice kk5 kk6 kk7] 27) := ⟨_, rfl⟩
 rw [← hv]
 have bn : Blk v6 w5.heap.size 27 [.bool kk0, .slice kk1 kk2 kk3, .bool kk4, .slice kk5 kk6 kk7] := by rw [hv]; exact Blk.new_ rfl
 have jn : Below w5.heap.size w5 v6 := by rw [hv]; exact bel_one _ _
 obtain ⟨gk, hg⟩ : ∃ g, g = w5.heap.size := ⟨_, rfl⟩
 rw [← hg] at bn ⊢
 clear hg hv
 have Hk := hi9 bn
 clear bn
 have k6 := bst k5 jn nl9
 replace H0 := hi9 (H0.out.below jn H0.out.lt)
 replace H1 := hi9 (H1.out.below jn H1.out.lt)
 replace Hx := hi9 (Hx.out.below jn Hx.out.lt)
 replace Hy := hi9 (Hy.out.below jn Hy.out.lt)
 replace Hm := hi9 (Hm.out.below jn Hm.out.lt)
 replace QX := hi9 (QX.out.next jn)
 replace QY := hi9 (QY.out.next jn)
 replace NM := hi9 (NM.out.next jn)
 replace NK := hi9 (NK.out.next jn)
 clear k5
 clear jn
 obtain ⟨c0H0, c1H0, c2H0, c3H0, -, -, -, -⟩ := H0.out.four
 obtain ⟨c0H1, c1H1, c2H1, c3H1, -, -, -, -⟩ := H1.out.four
 go_wp2_with fail
 refine ((sgn2_to ((QA.out.next k6).qsign (by omega)) SG.out)).mono ?_
 rintro e w7 ⟨rfl, hb7⟩
 clear c0H0 c1H0 c2H0 c3H0 c0H1 c1H1 c2H1 c3H1
 have k7 := bst k6 hb7 nl9
 replace H0 := hi9 (H0.out.below hb7 H0.out.lt)
 replace H1 := hi9 (H1.out.below hb7 H1.out.lt)
 replace Hx := hi9 (Hx.out.below hb7 Hx.out.lt)
 replace Hy := hi9 (Hy.out.below hb7 Hy.out.lt)
 replace Hm := hi9 (Hm.out.below hb7 Hm.out.lt)
 replace Hk := hi9 (Hk.out.below hb7 Hk.out.lt)
 replace QX := hi9 (QX.out.next hb7)
 replace QY := hi9 (QY.out.next hb7)
 replace NM := hi9 (NM.out.next hb7)
 replace NK := hi9 (NK.out.next hb7)
 clear k6
 clear hb7
 obtain ⟨c0H0, c1H0, c2H0, c3H0, -, -, -, -⟩ := H0.out.four
 obtain ⟨c0H1, c1H1, c2H1, c3H1, -, -, -, -⟩ := H1.out.four
 go_wp2_with fail
 refine (((XA.out.next k7).cmp_bad (XC.out.next k7) (by omega) (Or.inr rfl))).mono ?_
 rintro e w8 ⟨rfl, hb8⟩
 clear c0H0 c1H0 c2H0 c3H0 c0H1 c1H1 c2H1 c3H1
 have k8 := bst k7 hb8 nl9
 replace H0 := hi9 (H0.out.below hb8 H0.out.lt)
 replace H1 := hi9 (H1.out.below hb8 H1.out.lt)
 replace Hx := hi9 (Hx.out.below hb8 Hx.out.lt)
 replace Hy := hi9 (Hy.out.below hb8 Hy.out.lt)
 replace Hm := hi9 (Hm.out.below hb8 Hm.out.lt)
 replace Hk := hi9 (Hk.out.below hb8 Hk.out.lt)
 replace QX := hi9 (QX.out.next hb8)
 replace QY := hi9 (QY.out.next hb8)
 replace NM := hi9 (NM.out.next hb8)
 replace NK := hi9 (NK.out.next hb8)
 clear k7
 clear hb8
 obtain ⟨c0H0, c1H0, c2H0, c3H0, -, -, -, -⟩ := H0.out.four
 obtain ⟨c0H1, c1H1, c2H1, c3H1, -, -, -, -⟩ := H1.out.four
 go_wp2_with fail
 refine ((QA.out.next k8).qfloor (by omega)).mono ?_
 rintro e w9 ⟨d0, d1, d2, d3, rfl, nn, hb9⟩
 clear c0H0 c1H0 c2H0 c3H0 c0H1 c1H1 c2H1 c3H1
 have k9 := bst k8 hb9 nl9
 replace H0 := hi9 (H0.out.below hb9 H0.out.lt)
 replace H1 := hi9 (H1.out.below hb9 H1.out.lt)
 replace Hx := hi9 (Hx.out.below hb9 Hx.out.lt)
 replace Hy := hi9 (Hy.out.below hb9 Hy.out.lt)
 replace Hm := hi9 (Hm.out.below hb9 Hm.out.lt)
 replace Hk := hi9 (Hk.out.below hb9 Hk.out.lt)
 replace QX := hi9 (QX.out.next hb9)
 replace QY := hi9 (QY.out.next hb9)
 replace NM := hi9 (NM.out.next hb9)
 replace NK := hi9 (NK.out.next hb9)
 clear k8
 clear hb9
 have ND := hi9 nn
 clear nn
 go_upto_region 7 with fail
 obtain ⟨v10, hv⟩ : ∃ v, v = w9.alloc (.cells #[.bool d0, .slice d1 d2 d3] 25) := ⟨_, rfl⟩
 rw [← hv]
 have bn : Blk v10 w9.heap.size 25 [.bool d0, .slice d1 d2 d3] := by rw [hv]; exact Blk.new_ rfl
 have jn : Below w9.heap.size w9 v10 := by rw [hv]; exact bel_one _ _
 obtain ⟨gd, hg⟩ : ∃ g, g = w9.heap.size := ⟨_, rfl⟩
 rw [← hg] at bn ⊢
 clear hg hv
 have Hd := hi9 bn
 clear bn
 have k10 := bst k9 jn nl9
 replace H0 := hi9 (H0.out.below jn H0.out.lt)
 replace H1 := hi9 (H1.out.below jn H1.out.lt)
 replace Hx := hi9 (Hx.out.below jn Hx.out.lt)
 replace Hy := hi9 (Hy.out.below jn Hy.out.lt)
 replace Hm := hi9 (Hm.out.below jn Hm.out.lt)
 replace Hk := hi9 (Hk.out.below jn Hk.out.lt)
 replace QX := hi9 (QX.out.next jn)
 replace QY := hi9 (QY.out.next jn)
 replace NM := hi9 (NM.out.next jn)
 replace NK := hi9 (NK.out.next jn)
 replace ND := hi9 (ND.out.next jn)
 clear k9
 clear jn
 obtain ⟨c0H0, c1H0, c2H0, c3H0, -, -, -, -⟩ := H0.out.four
 obtain ⟨c0H1, c1H1, c2H1, c3H1, -, -, -, -⟩ := H1.out.four
 rw [← FL.out] at ND
 clear c0H0 c1H0 c2H0 c3H0 c0H1 c1H1 c2H1 c3H1
 refine region_facts [SP.is (.agg #[.bool a0, .slice a1 a2 a3, .bool a4, .slice a5 a6 a7]), SP.is (.bool true), SP.is (.agg #[.bool a0, .slice a1 a2 a3, .bool a4, .slice a5 a6 a7]), SP.is (.bool true), SP.is (.bool true), SP.is (.agg #[.bool b0, .slice b1 b2 b3, .bool b4, .slice b5 b6 b7]), SP.is (.bool false), SP.is (.bool false), SP.is (.bool true), SP.is (.bool false)] (by kernel_rfl) (by kernel_rfl) (And.intro ?_ (And.intro ?_ (And.intro ?_ (And.intro ?_ (And.intro ?_ (And.intro ?_ (And.intro ?_ (And.intro ?_ (And.intro ?_ (And.intro ?_ trivial)))))))))) ?_
 ·intro a W hb hold hdep K hK
  have b3 := tmp_eq (hold 3 rfl)
  obtain ⟨c0, c1, c2, c3, -, -, -, -⟩ := (H0.out.below hb H0.out.lt).four
  refine ob_plain rfl ?_
  go_simp
  exact hK _ W rfl nofun br9
 ·intro a W hb hold hdep K hK
  have e0 := tmp_eq (hdep 0 _ 54 rfl rfl rfl).1
  refine ob_plain rfl ?_
  go_simp
  refine ((may_yes ((XA.out.next (bst k10 hb nl9))) dy (by omega))).mono ?_
  rintro e w1 ⟨rfl, hb1⟩
  exact hK _ w1 rfl nofun hb1
 ·intro a W hb hold hdep K hK
  have b3 := tmp_eq (hold 3 rfl)
  obtain ⟨c0, c1, c2, c3, -, -, -, -⟩ := (H0.out.below hb H0.out.lt).four
  refine ob_plain rfl ?_
  go_simp
  exact hK _ W rfl nofun br9
 ·intro a W hb hold hdep K hK
  have e2 := tmp_eq (hdep 2 _ 56 rfl rfl rfl).1
  refine ob_plain rfl ?_
  go_simp
  refine ((may_yes ((XA.out.next (bst k10 hb nl9))) dy (by omega))).mono ?_
  rintro e w1 ⟨rfl, hb1⟩
  exact hK _ w1 rfl nofun hb1
 ·intro a W hb hold hdep K hK
  have e3 := tmp_eq (hdep 3 _ 57 rfl rfl rfl).1
  refine ob_plain rfl ?_
  go_simp
  exact hK _ W rfl nofun br9
 ·intro a W hb hold hdep K hK
  have b4 := tmp_eq (hold 4 rfl)
  obtain ⟨c0, c1, c2, c3, -, -, -, -⟩ := (H1.out.below hb H1.out.lt).four
  refine ob_guard (j := 4) rfl rfl rfl (hdep 4 _ 58 rfl rfl rfl) ?_
  go_simp
  exact hK _ W rfl nofun br9
 ·intro a W hb hold hdep K hK
  have e5 := tmp_eq (hdep 5 _ 59 rfl rfl rfl).1
  refine ob_guard (j := 4) rfl rfl rfl (hdep 4 _ 58 rfl rfl rfl) ?_
  go_simp
  refine ((((XC.out.next (bst k10 hb nl9))).rmay (by omega))).mono ?_
  rintro e w1 ⟨rfl, hb1⟩
  exact hK _ w1 rfl nofun hb1
 ·intro a W hb hold hdep K hK
  have e4 := tmp_eq (hdep 4 _ 58 rfl rfl rfl).1
  have e6 := tmp_eq (hdep 6 _ 60 rfl rfl rfl).1
  refine ob_plain rfl ?_
  go_simp
  exact hK _ W rfl nofun br9
 ·intro a W hb hold hdep K hK
  have e1 := tmp_eq (hdep 1 _ 55 rfl rfl rfl).1
  refine ob_plain rfl ?_
  go_simp
  exact hK _ W rfl nofun br9
 ·intro a W hb hold hdep K hK
  have e7 := tmp_eq (hdep 7 _ 61 rfl rfl rfl).1
  refine ob_plain rfl ?_
  go_simp
  exact hK _ W rfl nofun br9
 intro vls u7 hb hf hd
 have e0 : vls 0 = _ := hf 0 (by decide)
 have e1 : vls 1 = _ := hf 1 (by decide)
 have e2 : vls 2 = _ := hf 2 (by decide)
 have e3 : vls 3 = _ := hf 3 (by decide)
 have e4 : vls 4 = _ := hf 4 (by decide)
 have e5 : vls 5 = _ := hf 5 (by decide)
 have e6 : vls 6 = _ := hf 6 (by decide)
 have e7 : vls 7 = _ := hf 7 (by decide)
 have e8 : vls 8 = _ := hf 8 (by decide)
 have e9 : vls 9 = _ := hf 9 (by decide)
 clear hf hd
 simp only [foldPut, Act.put, List.setIfInBounds_toArray, List.set_cons_zero, List.set_cons_succ, Nat.reduceAdd, e0, e1, e2, e3, e4, e5, e6, e7, e8, e9]
 clear e0 e1 e2 e3 e4 e5 e6 e7 e8 e9
 have k11 := bst k10 hb nl9
 replace H0 := hi9 (H0.out.below hb H0.out.lt)
 replace H1 := hi9 (H1.out.below hb H1.out.lt)
 replace Hx := hi9 (Hx.out.below hb Hx.out.lt)
 replace Hy := hi9 (Hy.out.below hb Hy.out.lt)
 replace Hm := hi9 (Hm.out.below hb Hm.out.lt)
 replace Hk := hi9 (Hk.out.below hb Hk.out.lt)
 replace Hd := hi9 (Hd.out.below hb Hd.out.lt)
 replace QX := hi9 (QX.out.next hb)
 replace QY := hi9 (QY.out.next hb)
 replace NM := hi9 (NM.out.next hb)
 replace NK := hi9 (NK.out.next hb)
 replace ND := hi9 (ND.out.next hb)
 clear k10
 clear hb
 have BQ := hi9 QX.out.qb
 go_upto_region 8 with fail
 refine region_facts [SP.is (.bool true), SP.is (.agg #[.bool m0, .slice m1 m2 m3, .bool m4, .slice m5 m6 m7]), SP.is (.int .i64 (0)), SP.is (.agg #[.bool o1x1_0, .slice o1x1_1 o1x1_2 o1x1_3, .bool o1x1_4, .slice o1x1_5 o1x1_6 o1x1_7]), SP.fn 0 (q.num) (q.den), SP.is (.bool true), SP.is (.bool false), SP.is (.bool false), SP.is (.bool true), SP.is (.agg #[.bool kk0, .slice kk1 kk2 kk3, .bool kk4, .slice kk5 kk6 kk7]), SP.is (.int .i64 (0)), SP.is (.agg #[.bool o1x1_0, .slice o1x1_1 o1x1_2 o1x1_3, .bool o1x1_4, .slice o1x1_5 o1x1_6 o1x1_7]), SP.fn 0 (q.num) (q.den), SP.is (.bool true), SP.is (.bool false), SP.is (.bool false), SP.is (.bool false), SP.is (.int .i64 n), SP.fn 0 (n) (1), SP.is (.int .i64 n), SP.fn 0 (n) (1), SP.is (.bool true), SP.is (.bool false), SP.is (.bool false)] (by kernel_rfl) (by kernel_rfl) (And.intro ?_ (And.intro ?_ (And.intro ?_ (And.intro ?_ (And.intro ?_ (And.intro ?_ (And.intro ?_ (And.intro ?_ (And.intro ?_ (And.intro ?_ (And.intro ?_ (And.intro ?_ (And.intro ?_ (And.intro ?_ (And.intro ?_ (And.intro ?_ (And.intro ?_ (And.intro ?_ (And.intro ?_ (And.intro ?_ (And.intro ?_ (And.intro ?_ (And.intro ?_ (And.intro ?_ trivial)))))))))))))))))))))))) ?_
 ·intro a W hb hold hdep K hK
  have b19 := tmp_eq (hold 19 rfl)
  refine ob_plain rfl ?_
  go_simp
  exact hK _ W rfl nofun br9
 ·intro a W hb hold hdep K hK
  have b9 := tmp_eq (hold 9 rfl)
  obtain ⟨c0, c1, c2, c3, -, -, -, -⟩ := (Hm.out.below hb Hm.out.lt).four
  refine ob_plain rfl ?_
  go_simp
  exact hK _ W rfl nofun br9
 ·intro a W hb hold hdep K hK
  have b10 := tmp_eq (hold 10 rfl)
  refine ob_plain rfl ?_
  go_simp
  exact hK _ W rfl nofun br9
 ·intro a W hb hold hdep K hK
  have b7 := tmp_eq (hold 7 rfl)
  obtain ⟨c0, c1, c2, c3, -, -, -, -⟩ := (Hx.out.below hb Hx.out.lt).four
  refine ob_plain rfl ?_
  go_simp
  exact hK _ W rfl nofun br9
 ·intro a W hb hold hdep K hK
  have e3 := tmp_eq (hdep 3 _ 65 rfl rfl rfl).1
  refine ob_plain rfl ?_
  go_simp
  refine ((ro_zero ((QX.out.next hb).rqnorm (by omega)))).mono ?_
  rintro e w1 ⟨x0, x1, x2, x3, x4, x5, x6, x7, rfl, f9, hb1⟩
  exact hK _ w1 ⟨x0, x1, x2, x3, x4, x5, x6, x7, rfl, f9⟩ nofun hb1
 ·intro a W hb hold hdep K hK
  have e0 := tmp_eq (hdep 0 _ 62 rfl rfl rfl).1
  have e1 := tmp_eq (hdep 1 _ 63 rfl rfl rfl).1
  have e2 := tmp_eq (hdep 2 _ 64 rfl rfl rfl).1
  obtain ⟨r4_0, r4_1, r4_2, r4_3, r4_4, r4_5, r4_6, r4_7, e4, f4⟩ := (hdep 4 _ 66 rfl rfl rfl).1
  replace e4 := tmp_eq e4
  refine ob_plain rfl ?_
  go_simp
  refine ((told_ok (NM.out.next hb) f4 BQ.out.num (by rw [Int.natAbs_natCast]; exact BQ.out.den) (by omega))).mono ?_
  rintro e w1 ⟨rfl, hb1⟩
  exact hK _ w1 rfl nofun hb1
 ·intro a W hb hold hdep K hK
  have e5 := tmp_eq (hdep 5 _ 67 rfl rfl rfl).1
  refine ob_plain rfl ?_
  go_simp
  exact hK _ W rfl nofun br9
 ·intro a W hb hold hdep K hK
  have e6 := tmp_eq (hdep 6 _ 68 rfl rfl rfl).1
  refine ob_plain rfl ?_
  go_simp
  exact hK _ W rfl nofun br9
 ·intro a W hb hold hdep K hK
  have b19 := tmp_eq (hold 19 rfl)
  refine ob_guard (j := 7) rfl rfl rfl (hdep 7 _ 69 rfl rfl rfl) ?_
  go_simp
  exact hK _ W rfl nofun br9
 ·intro a W hb hold hdep K hK
  have b11 := tmp_eq (hold 11 rfl)
  obtain ⟨c0, c1, c2, c3, -, -, -, -⟩ := (Hk.out.below hb Hk.out.lt).four
  refine ob_guard (j := 7) rfl rfl rfl (hdep 7 _ 69 rfl rfl rfl) ?_
  go_simp
  exact hK _ W rfl nofun br9
 ·intro a W hb hold hdep K hK
  have b12 := tmp_eq (hold 12 rfl)
  refine ob_guard (j := 7) rfl rfl rfl (hdep 7 _ 69 rfl rfl rfl) ?_
  go_simp
  exact hK _ W rfl nofun br9
 ·intro a W hb hold hdep K hK
  have b7 := tmp_eq (hold 7 rfl)
  obtain ⟨c0, c1, c2, c3, -, -, -, -⟩ := (Hx.out.below hb Hx.out.lt).four
  refine ob_guard (j := 7) rfl rfl rfl (hdep 7 _ 69 rfl rfl rfl) ?_
  go_simp
  exact hK _ W rfl nofun br9
 ·intro a W hb hold hdep K hK
  have e11 := tmp_eq (hdep 11 _ 73 rfl rfl rfl).1
  refine ob_guard (j := 7) rfl rfl rfl (hdep 7 _ 69 rfl rfl rfl) ?_
  go_simp
  refine ((ro_zero ((QX.out.next hb).rqnorm (by omega)))).mono ?_
  rintro e w1 ⟨x0, x1, x2, x3, x4, x5, x6, x7, rfl, f9, hb1⟩
  exact hK _ w1 ⟨x0, x1, x2, x3, x4, x5, x6, x7, rfl, f9⟩ nofun hb1
 ·intro a W hb hold hdep K hK
  have e8 := tmp_eq (hdep 8 _ 70 rfl rfl rfl).1
  have e9 := tmp_eq (hdep 9 _ 71 rfl rfl rfl).1
  have e10 := tmp_eq (hdep 10 _ 72 rfl rfl rfl).1
  obtain ⟨r12_0, r12_1, r12_2, r12_3, r12_4, r12_5, r12_6, r12_7, e12, f12⟩ := (hdep 12 _ 74 rfl rfl rfl).1
  replace e12 := tmp_eq e12
  refine ob_guard (j := 7) rfl rfl rfl (hdep 7 _ 69 rfl rfl rfl) ?_
  go_simp
  refine ((told_ok (NK.out.next hb) f12 BQ.out.num (by rw [Int.natAbs_natCast]; exact BQ.out.den) (by omega))).mono ?_
  rintro e w1 ⟨rfl, hb1⟩
  exact hK _ w1 rfl nofun hb1
 ·intro a W hb hold hdep K hK
  have e13 := tmp_eq (hdep 13 _ 75 rfl rfl rfl).1
  refine ob_guard (j := 7) rfl rfl rfl (hdep 7 _ 69 rfl rfl rfl) ?_
  go_simp
  exact hK _ W rfl nofun br9
 ·intro a W hb hold hdep K hK
  have e7 := tmp_eq (hdep 7 _ 69 rfl rfl rfl).1
  have e14 := tmp_eq (hdep 14 _ 76 rfl rfl rfl).1
  refine ob_plain rfl ?_
  go_simp
  exact hK _ W rfl nofun br9
 ·intro a W hb hold hdep K hK
  have e15 := tmp_eq (hdep 15 _ 77 rfl rfl rfl).1
  refine ob_plain rfl ?_
  go_simp
  exact hK _ W rfl nofun br9
 ·intro a W hb hold hdep K hK
  have b2 := tmp_eq (hold 2 rfl)
  refine ob_guard (j := 16) rfl rfl rfl (hdep 16 _ 78 rfl rfl rfl) ?_
  go_simp
  exact hK _ W rfl nofun br9
 ·intro a W hb hold hdep K hK
  have e17 := tmp_eq (hdep 17 _ 79 rfl rfl rfl).1
  refine ob_guard (j := 16) rfl rfl rfl (hdep 16 _ 78 rfl rfl rfl) ?_
  go_simp
  refine ((ro_zero (of05_any n H1N.out H2N.out))).mono ?_
  rintro e w1 ⟨x0, x1, x2, x3, x4, x5, x6, x7, rfl, f9, hb1⟩
  exact hK _ w1 ⟨x0, x1, x2, x3, x4, x5, x6, x7, rfl, f9⟩ nofun hb1
 ·intro a W hb hold hdep K hK
  have b2 := tmp_eq (hold 2 rfl)
  refine ob_guard (j := 16) rfl rfl rfl (hdep 16 _ 78 rfl rfl rfl) ?_
  go_simp
  exact hK _ W rfl nofun br9
 ·intro a W hb hold hdep K hK
  have e19 := tmp_eq (hdep 19 _ 81 rfl rfl rfl).1
  refine ob_guard (j := 16) rfl rfl rfl (hdep 16 _ 78 rfl rfl rfl) ?_
  go_simp
  refine ((ro_zero (rof05_any n H1N.out H2N.out))).mono ?_
  rintro e w1 ⟨x0, x1, x2, x3, x4, x5, x6, x7, rfl, f9, hb1⟩
  exact hK _ w1 ⟨x0, x1, x2, x3, x4, x5, x6, x7, rfl, f9⟩ nofun hb1
 ·intro a W hb hold hdep K hK
  obtain ⟨r18_0, r18_1, r18_2, r18_3, r18_4, r18_5, r18_6, r18_7, e18, f18⟩ := (hdep 18 _ 80 rfl rfl rfl).1
  replace e18 := tmp_eq e18
  obtain ⟨r20_0, r20_1, r20_2, r20_3, r20_4, r20_5, r20_6, r20_7, e20, f20⟩ := (hdep 20 _ 82 rfl rfl rfl).1
  replace e20 := tmp_eq e20
  refine ob_guard (j := 16) rfl rfl rfl (hdep 16 _ 78 rfl rfl rfl) ?_
  go_simp
  refine ((f18.lsame f20 (K := 2) (word_lt H1N.out H2N.out) (by decide) (by decide))).mono ?_
  rintro e w1 ⟨rfl, hb1⟩
  exact hK _ w1 rfl nofun hb1
 ·intro a W hb hold hdep K hK
  have e21 := tmp_eq (hdep 21 _ 83 rfl rfl rfl).1
  refine ob_guard (j := 16) rfl rfl rfl (hdep 16 _ 78 rfl rfl rfl) ?_
  go_simp
  exact hK _ W rfl nofun br9
 ·intro a W hb hold hdep K hK
  have e16 := tmp_eq (hdep 16 _ 78 rfl rfl rfl).1
  have e22 := tmp_eq (hdep 22 _ 84 rfl rfl rfl).1
  refine ob_plain rfl ?_
  go_simp
  exact hK _ W rfl nofun br9
 intro vls u8 hb hf hd
 have e0 : vls 0 = _ := hf 0 (by decide)
 have e1 : vls 1 = _ := hf 1 (by decide)
 have e2 : vls 2 = _ := hf 2 (by decide)
 have e3 : vls 3 = _ := hf 3 (by decide)
 obtain ⟨o8x4_0, o8x4_1, o8x4_2, o8x4_3, o8x4_4, o8x4_5, o8x4_6, o8x4_7, e4, f4⟩ := hf 4 (by decide)
 have e5 : vls 5 = _ := hf 5 (by decide)
 have e6 : vls 6 = _ := hf 6 (by decide)
 have e7 : vls 7 = _ := hf 7 (by decide)
 have e8 : vls 8 = _ := hf 8 (by decide)
 have e9 : vls 9 = _ := hf 9 (by decide)
 have e10 : vls 10 = _ := hf 10 (by decide)
 have e11 : vls 11 = _ := hf 11 (by decide)
 obtain ⟨o8x12_0, o8x12_1, o8x12_2, o8x12_3, o8x12_4, o8x12_5, o8x12_6, o8x12_7, e12, f12⟩ := hf 12 (by decide)
 have e13 : vls 13 = _ := hf 13 (by decide)
 have e14 : vls 14 = _ := hf 14 (by decide)
 have e15 : vls 15 = _ := hf 15 (by decide)
 have e16 : vls 16 = _ := hf 16 (by decide)
 have e17 : vls 17 = _ := hf 17 (by decide)
 obtain ⟨o8x18_0, o8x18_1, o8x18_2, o8x18_3, o8x18_4, o8x18_5, o8x18_6, o8x18_7, e18, f18⟩ := hf 18 (by decide)
 have e19 : vls 19 = _ := hf 19 (by decide)
 obtain ⟨o8x20_0, o8x20_1, o8x20_2, o8x20_3, o8x20_4, o8x20_5, o8x20_6, o8x20_7, e20, f20⟩ := hf 20 (by decide)
 have e21 : vls 21 = _ := hf 21 (by decide)
 have e22 : vls 22 = _ := hf 22 (by decide)
 have e23 : vls 23 = _ := hf 23 (by decide)
 clear hf hd
 simp only [foldPut, Act.put, List.setIfInBounds_toArray, List.set_cons_zero, List.set_cons_succ, Nat.reduceAdd, e0, e1, e2, e3, e4, e5, e6, e7, e8, e9, e10, e11, e12, e13, e14, e15, e16, e17, e18, e19, e20, e21, e22, e23]
 clear e0 e1 e2 e3 e4 e5 e6 e7 e8 e9 e10 e11 e12 e13 e14 e15 e16 e17 e18 e19 e20 e21 e22 e23
 have k12 := bst k11 hb nl9
 replace H0 := hi9 (H0.out.below hb H0.out.lt)
 replace H1 := hi9 (H1.out.below hb H1.out.lt)
 replace Hx := hi9 (Hx.out.below hb Hx.out.lt)
 replace Hy := hi9 (Hy.out.below hb Hy.out.lt)
 replace Hm := hi9 (Hm.out.below hb Hm.out.lt)
 replace Hk := hi9 (Hk.out.below hb Hk.out.lt)
 replace Hd := hi9 (Hd.out.below hb Hd.out.lt)
 replace QX := hi9 (QX.out.next hb)
 replace QY := hi9 (QY.out.next hb)
 replace NM := hi9 (NM.out.next hb)
 replace NK := hi9 (NK.out.next hb)
 replace ND := hi9 (ND.out.next hb)
 clear k11
 clear hb
 go_upto_region 10 with fail
 have LFL : Hid (fl.natAbs < 4294967296 ^ N) := by show _ < _; rw [FL.out]; exact floor_lt BQ.out
 refine region_facts [SP.is (.bool true), SP.is (.bool false), SP.is (.bool false), SP.is (undef), SP.is (undef), SP.is (undef), SP.is (undef), SP.is (undef), SP.is (undef), SP.is (undef), SP.is (undef), SP.is (undef), SP.is (undef), SP.is (undef), SP.is (undef), SP.is (undef), SP.is (undef), SP.is (undef), SP.is (undef), SP.is (.bool false), SP.is (.bool false), SP.is (.bool true), SP.is (.bool true), SP.is (.int .i64 (sg)), SP.is (.agg #[.bool o1x1_0, .slice o1x1_1 o1x1_2 o1x1_3, .bool o1x1_4, .slice o1x1_5 o1x1_6 o1x1_7]), SP.is (.int .i64 (sg)), SP.is (.bool false), SP.is (.bool false), SP.is (.int .i64 (0)), SP.is (.bool false), SP.is (.bool false), SP.is (.bool false), SP.is (.int .i64 (0)), SP.is (.bool false), SP.is (.bool false), SP.is (.bool false), SP.is (.agg #[.bool d0, .slice d1 d2 d3]), SP.is (.agg #[.bool o1x1_0, .slice o1x1_1 o1x1_2 o1x1_3, .bool o1x1_4, .slice o1x1_5 o1x1_6 o1x1_7]), SP.in_ 0 fl, SP.is (.bool true), SP.is (.bool false), SP.is (.bool false), SP.is (.bool false), SP.is (.bool false)] (by kernel_rfl) (by kernel_rfl) (And.intro ?_ (And.intro ?_ (And.intro ?_ (And.intro ?_ (And.intro ?_ (And.intro ?_ (And.intro ?_ (And.intro ?_ (And.intro ?_ (And.intro ?_ (And.intro ?_ (And.intro ?_ (And.intro ?_ (And.intro ?_ (And.intro ?_ (And.intro ?_ (And.intro ?_ (And.intro ?_ (And.intro ?_ (And.intro ?_ (And.intro ?_ (And.intro ?_ (And.intro ?_ (And.intro ?_ (And.intro ?_ (And.intro ?_ (And.intro ?_ (And.intro ?_ (And.intro ?_ (And.intro ?_ (And.intro ?_ (And.intro ?_ (And.intro ?_ (And.intro ?_ (And.intro ?_ (And.intro ?_ (And.intro ?_ (And.intro ?_ (And.intro ?_ (And.intro ?_ (And.intro ?_ (And.intro ?_ (And.intro ?_ (And.intro ?_ trivial)))))))))))))))))))))))))))))))))))))))))))) ?_
 ·intro a W hb hold hdep K hK
  have b19 := tmp_eq (hold 19 rfl)
  refine ob_plain rfl ?_
  go_simp
  exact hK _ W rfl nofun br9
 ·intro a W hb hold hdep K hK
  have e0 := tmp_eq (hdep 0 _ 86 rfl rfl rfl).1
  refine ob_plain rfl ?_
  go_simp
  exact hK _ W rfl nofun br9
 ·intro a W hb hold hdep K hK
  have e1 := tmp_eq (hdep 1 _ 87 rfl rfl rfl).1
  refine ob_plain rfl ?_
  go_simp
  exact hK _ W rfl nofun br9
 ·intro a W hb hold hdep K hK
  refine ob_skip (j := 2) rfl rfl rfl (hdep 2 _ 88 rfl rfl rfl) ?_
  exact hK undef W rfl nofun br9
 ·intro a W hb hold hdep K hK
  refine ob_skip (j := 2) rfl rfl rfl (hdep 2 _ 88 rfl rfl rfl) ?_
  exact hK undef W rfl nofun br9
 ·intro a W hb hold hdep K hK
  refine ob_skip (j := 2) rfl rfl rfl (hdep 2 _ 88 rfl rfl rfl) ?_
  exact hK undef W rfl nofun br9
 ·intro a W hb hold hdep K hK
  refine ob_skip2 (j := 5) rfl rfl rfl (hdep 5 _ 91 rfl rfl rfl) ?_
  exact hK undef W rfl nofun br9
 ·intro a W hb hold hdep K hK
  refine ob_skip2 (j := 5) rfl rfl rfl (hdep 5 _ 91 rfl rfl rfl) ?_
  exact hK undef W rfl nofun br9
 ·intro a W hb hold hdep K hK
  refine ob_skip (j := 2) rfl rfl rfl (hdep 2 _ 88 rfl rfl rfl) ?_
  exact hK undef W rfl nofun br9
 ·intro a W hb hold hdep K hK
  refine ob_skip (j := 2) rfl rfl rfl (hdep 2 _ 88 rfl rfl rfl) ?_
  exact hK undef W rfl nofun br9
 ·intro a W hb hold hdep K hK
  refine ob_skip2 (j := 9) rfl rfl rfl (hdep 9 _ 95 rfl rfl rfl) ?_
  exact hK undef W rfl nofun br9
 ·intro a W hb hold hdep K hK
  refine ob_skip2 (j := 9) rfl rfl rfl (hdep 9 _ 95 rfl rfl rfl) ?_
  exact hK undef W rfl nofun br9
 ·intro a W hb hold hdep K hK
  refine ob_skip (j := 2) rfl rfl rfl (hdep 2 _ 88 rfl rfl rfl) ?_
  exact hK undef W rfl nofun br9
 ·intro a W hb hold hdep K hK
  refine ob_skip (j := 2) rfl rfl rfl (hdep 2 _ 88 rfl rfl rfl) ?_
  exact hK undef W rfl nofun br9
 ·intro a W hb hold hdep K hK
  refine ob_skip2 (j := 13) rfl rfl rfl (hdep 13 _ 99 rfl rfl rfl) ?_
  exact hK undef W rfl nofun br9
 ·intro a W hb hold hdep K hK
  refine ob_skip2 (j := 13) rfl rfl rfl (hdep 13 _ 99 rfl rfl rfl) ?_
  exact hK undef W rfl nofun br9
 ·intro a W hb hold hdep K hK
  refine ob_skip2 (j := 13) rfl rfl rfl (hdep 13 _ 99 rfl rfl rfl) ?_
  exact hK undef W rfl nofun br9
 ·intro a W hb hold hdep K hK
  refine ob_skip2 (j := 13) rfl rfl rfl (hdep 13 _ 99 rfl rfl rfl) ?_
  exact hK undef W rfl nofun br9
 ·intro a W hb hold hdep K hK
  refine ob_skip (j := 2) rfl rfl rfl (hdep 2 _ 88 rfl rfl rfl) ?_
  exact hK undef W rfl nofun br9
 ·intro a W hb hold hdep K hK
  have e2 := tmp_eq (hdep 2 _ 88 rfl rfl rfl).1
  have e18 := tmp_eq (hdep 18 _ 104 rfl rfl rfl).1
  refine ob_plain rfl ?_
  go_simp
  exact hK _ W rfl nofun br9
 ·intro a W hb hold hdep K hK
  have e19 := tmp_eq (hdep 19 _ 105 rfl rfl rfl).1
  refine ob_plain rfl ?_
  go_simp
  exact hK _ W rfl nofun br9
 ·intro a W hb hold hdep K hK
  have b19 := tmp_eq (hold 19 rfl)
  refine ob_guard (j := 20) rfl rfl rfl (hdep 20 _ 106 rfl rfl rfl) ?_
  go_simp
  exact hK _ W rfl nofun br9
 ·intro a W hb hold hdep K hK
  have e21 := tmp_eq (hdep 21 _ 107 rfl rfl rfl).1
  refine ob_guard (j := 20) rfl rfl rfl (hdep 20 _ 106 rfl rfl rfl) ?_
  go_simp
  exact hK _ W rfl nofun br9
 ·intro a W hb hold hdep K hK
  have b13 := tmp_eq (hold 13 rfl)
  refine ob_guard (j := 22) rfl rfl rfl (hdep 22 _ 108 rfl rfl rfl) ?_
  go_simp
  exact hK _ W rfl nofun br9
 ·intro a W hb hold hdep K hK
  have b7 := tmp_eq (hold 7 rfl)
  obtain ⟨c0, c1, c2, c3, -, -, -, -⟩ := (Hx.out.below hb Hx.out.lt).four
  refine ob_guard (j := 22) rfl rfl rfl (hdep 22 _ 108 rfl rfl rfl) ?_
  go_simp
  exact hK _ W rfl nofun br9
 ·intro a W hb hold hdep K hK
  have e24 := tmp_eq (hdep 24 _ 110 rfl rfl rfl).1
  refine ob_guard (j := 22) rfl rfl rfl (hdep 22 _ 108 rfl rfl rfl) ?_
  go_simp
  refine ((sgn_to (QX.out.next hb |>.rqsign (by omega)) SG.out)).mono ?_
  rintro e w1 ⟨rfl, hb1⟩
  exact hK _ w1 rfl nofun hb1
 ·intro a W hb hold hdep K hK
  have e23 := tmp_eq (hdep 23 _ 109 rfl rfl rfl).1
  have e25 := tmp_eq (hdep 25 _ 111 rfl rfl rfl).1
  refine ob_guard (j := 22) rfl rfl rfl (hdep 22 _ 108 rfl rfl rfl) ?_
  go_simp
  exact hK _ W rfl nofun br9
 ·intro a W hb hold hdep K hK
  have e26 := tmp_eq (hdep 26 _ 112 rfl rfl rfl).1
  refine ob_guard (j := 22) rfl rfl rfl (hdep 22 _ 108 rfl rfl rfl) ?_
  go_simp
  exact hK _ W rfl nofun br9
 ·intro a W hb hold hdep K hK
  have b14 := tmp_eq (hold 14 rfl)
  refine ob_guard (j := 27) rfl rfl rfl (hdep 27 _ 113 rfl rfl rfl) ?_
  go_simp
  exact hK _ W rfl nofun br9
 ·intro a W hb hold hdep K hK
  have e28 := tmp_eq (hdep 28 _ 114 rfl rfl rfl).1
  refine ob_guard (j := 27) rfl rfl rfl (hdep 27 _ 113 rfl rfl rfl) ?_
  go_simp
  exact hK _ W rfl nofun br9
 ·intro a W hb hold hdep K hK
  have e27 := tmp_eq (hdep 27 _ 113 rfl rfl rfl).1
  have e29 := tmp_eq (hdep 29 _ 115 rfl rfl rfl).1
  refine ob_guard (j := 22) rfl rfl rfl (hdep 22 _ 108 rfl rfl rfl) ?_
  go_simp
  exact hK _ W rfl nofun br9
 ·intro a W hb hold hdep K hK
  have e30 := tmp_eq (hdep 30 _ 116 rfl rfl rfl).1
  refine ob_guard (j := 22) rfl rfl rfl (hdep 22 _ 108 rfl rfl rfl) ?_
  go_simp
  exact hK _ W rfl nofun br9
 ·intro a W hb hold hdep K hK
  have b18 := tmp_eq (hold 18 rfl)
  refine ob_guard (j := 31) rfl rfl rfl (hdep 31 _ 117 rfl rfl rfl) ?_
  go_simp
  exact hK _ W rfl nofun br9
 ·intro a W hb hold hdep K hK
  have e32 := tmp_eq (hdep 32 _ 118 rfl rfl rfl).1
  refine ob_guard (j := 31) rfl rfl rfl (hdep 31 _ 117 rfl rfl rfl) ?_
  go_simp
  exact hK _ W rfl nofun br9
 ·intro a W hb hold hdep K hK
  have e31 := tmp_eq (hdep 31 _ 117 rfl rfl rfl).1
  have e33 := tmp_eq (hdep 33 _ 119 rfl rfl rfl).1
  refine ob_guard (j := 22) rfl rfl rfl (hdep 22 _ 108 rfl rfl rfl) ?_
  go_simp
  exact hK _ W rfl nofun br9
 ·intro a W hb hold hdep K hK
  have e34 := tmp_eq (hdep 34 _ 120 rfl rfl rfl).1
  refine ob_guard (j := 22) rfl rfl rfl (hdep 22 _ 108 rfl rfl rfl) ?_
  go_simp
  exact hK _ W rfl nofun br9
 ·intro a W hb hold hdep K hK
  have b17 := tmp_eq (hold 17 rfl)
  obtain ⟨c0, c1, -, -⟩ := (Hd.out.below hb Hd.out.lt).two
  refine ob_guard (j := 35) rfl rfl rfl (hdep 35 _ 121 rfl rfl rfl) ?_
  go_simp
  exact hK _ W rfl nofun br9
 ·intro a W hb hold hdep K hK
  have b7 := tmp_eq (hold 7 rfl)
  obtain ⟨c0, c1, c2, c3, -, -, -, -⟩ := (Hx.out.below hb Hx.out.lt).four
  refine ob_guard (j := 35) rfl rfl rfl (hdep 35 _ 121 rfl rfl rfl) ?_
  go_simp
  exact hK _ W rfl nofun br9
 ·intro a W hb hold hdep K hK
  have e37 := tmp_eq (hdep 37 _ 123 rfl rfl rfl).1
  refine ob_guard (j := 35) rfl rfl rfl (hdep 35 _ 121 rfl rfl rfl) ?_
  go_simp
  refine ((in_zero (io_to (rq_floor (QX.out.next hb) (by omega)) FL.out))).mono ?_
  rintro e w1 ⟨x0, x1, x2, x3, rfl, f9, hb1⟩
  exact hK _ w1 ⟨x0, x1, x2, x3, rfl, f9⟩ nofun hb1
 ·intro a W hb hold hdep K hK
  have e36 := tmp_eq (hdep 36 _ 122 rfl rfl rfl).1
  obtain ⟨r38_0, r38_1, r38_2, r38_3, e38, f38⟩ := (hdep 38 _ 124 rfl rfl rfl).1
  replace e38 := tmp_eq e38
  refine ob_guard (j := 35) rfl rfl rfl (hdep 35 _ 121 rfl rfl rfl) ?_
  go_simp
  refine (((ND.out.next hb).rsame f38 LFL.out (by omega))).mono ?_
  rintro e w1 ⟨rfl, hb1⟩
  exact hK _ w1 rfl nofun hb1
 ·intro a W hb hold hdep K hK
  have e39 := tmp_eq (hdep 39 _ 125 rfl rfl rfl).1
  refine ob_guard (j := 35) rfl rfl rfl (hdep 35 _ 121 rfl rfl rfl) ?_
  go_simp
  exact hK _ W rfl nofun br9
 ·intro a W hb hold hdep K hK
  have e35 := tmp_eq (hdep 35 _ 121 rfl rfl rfl).1
  have e40 := tmp_eq (hdep 40 _ 126 rfl rfl rfl).1
  refine ob_guard (j := 22) rfl rfl rfl (hdep 22 _ 108 rfl rfl rfl) ?_
  go_simp
  exact hK _ W rfl nofun br9
 ·intro a W hb hold hdep K hK
  have e22 := tmp_eq (hdep 22 _ 108 rfl rfl rfl).1
  have e41 := tmp_eq (hdep 41 _ 127 rfl rfl rfl).1
  refine ob_guard (j := 20) rfl rfl rfl (hdep 20 _ 106 rfl rfl rfl) ?_
  go_simp
  exact hK _ W rfl nofun br9
 ·intro a W hb hold hdep K hK
  have e20 := tmp_eq (hdep 20 _ 106 rfl rfl rfl).1
  have e42 := tmp_eq (hdep 42 _ 128 rfl rfl rfl).1
  refine ob_plain rfl ?_
  go_simp
  exact hK _ W rfl nofun br9
 intro vls u10 hb hf hd
 have e0 : vls 0 = _ := hf 0 (by decide)
 have e1 : vls 1 = _ := hf 1 (by decide)
 have e2 : vls 2 = _ := hf 2 (by decide)
 have e3 : vls 3 = _ := hf 3 (by decide)
 have e4 : vls 4 = _ := hf 4 (by decide)
 have e5 : vls 5 = _ := hf 5 (by decide)
 have e6 : vls 6 = _ := hf 6 (by decide)
 have e7 : vls 7 = _ := hf 7 (by decide)
 have e8 : vls 8 = _ := hf 8 (by decide)
 have e9 : vls 9 = _ := hf 9 (by decide)
 have e10 : vls 10 = _ := hf 10 (by decide)
 have e11 : vls 11 = _ := hf 11 (by decide)
 have e12 : vls 12 = _ := hf 12 (by decide)
 have e13 : vls 13 = _ := hf 13 (by decide)
 have e14 : vls 14 = _ := hf 14 (by decide)
 have e15 : vls 15 = _ := hf 15 (by decide)
 have e16 : vls 16 = _ := hf 16 (by decide)
 have e17 : vls 17 = _ := hf 17 (by decide)
 have e18 : vls 18 = _ := hf 18 (by decide)
 have e19 : vls 19 = _ := hf 19 (by decide)
 have e20 : vls 20 = _ := hf 20 (by decide)
 have e21 : vls 21 = _ := hf 21 (by decide)
 have e22 : vls 22 = _ := hf 22 (by decide)
 have e23 : vls 23 = _ := hf 23 (by decide)
 have e24 : vls 24 = _ := hf 24 (by decide)
 have e25 : vls 25 = _ := hf 25 (by decide)
 have e26 : vls 26 = _ := hf 26 (by decide)
 have e27 : vls 27 = _ := hf 27 (by decide)
 have e28 : vls 28 = _ := hf 28 (by decide)
 have e29 : vls 29 = _ := hf 29 (by decide)
 have e30 : vls 30 = _ := hf 30 (by decide)
 have e31 : vls 31 = _ := hf 31 (by decide)
 have e32 : vls 32 = _ := hf 32 (by decide)
 have e33 : vls 33 = _ := hf 33 (by decide)
 have e34 : vls 34 = _ := hf 34 (by decide)
 have e35 : vls 35 = _ := hf 35 (by decide)
 have e36 : vls 36 = _ := hf 36 (by decide)
 have e37 : vls 37 = _ := hf 37 (by decide)
 obtain ⟨o10x38_0, o10x38_1, o10x38_2, o10x38_3, e38, f38⟩ := hf 38 (by decide)
 have e39 : vls 39 = _ := hf 39 (by decide)
 have e40 : vls 40 = _ := hf 40 (by decide)
 have e41 : vls 41 = _ := hf 41 (by decide)
 have e42 : vls 42 = _ := hf 42 (by decide)
 have e43 : vls 43 = _ := hf 43 (by decide)
 clear hf hd
 simp only [foldPut, Act.put, List.setIfInBounds_toArray, List.set_cons_zero, List.set_cons_succ, Nat.reduceAdd, e0, e1, e2, e3, e4, e5, e6, e7, e8, e9, e10, e11, e12, e13, e14, e15, e16, e17, e18, e19, e20, e21, e22, e23, e24, e25, e26, e27, e28, e29, e30, e31, e32, e33, e34, e35, e36, e37, e38, e39, e40, e41, e42, e43]
 clear e0 e1 e2 e3 e4 e5 e6 e7 e8 e9 e10 e11 e12 e13 e14 e15 e16 e17 e18 e19 e20 e21 e22 e23 e24 e25 e26 e27 e28 e29 e30 e31 e32 e33 e34 e35 e36 e37 e38 e39 e40 e41 e42 e43
 have k13 := bst k12 hb nl9
 replace H0 := hi9 (H0.out.below hb H0.out.lt)
 replace H1 := hi9 (H1.out.below hb H1.out.lt)
 replace Hx := hi9 (Hx.out.below hb Hx.out.lt)
 replace Hy := hi9 (Hy.out.below hb Hy.out.lt)
 replace Hm := hi9 (Hm.out.below hb Hm.out.lt)
 replace Hk := hi9 (Hk.out.below hb Hk.out.lt)
 replace Hd := hi9 (Hd.out.below hb Hd.out.lt)
 replace QX := hi9 (QX.out.next hb)
 replace QY := hi9 (QY.out.next hb)
 replace NM := hi9 (NM.out.next hb)
 replace NK := hi9 (NK.out.next hb)
 replace ND := hi9 (ND.out.next hb)
 clear k12
 clear hb
 go_wp2_with fail
 refine (lives05 (TT.out.next k13)).mono ?_
 rintro e w14 ⟨rfl, hb14⟩
 have k14 := bst k13 hb14 nl9
 replace H0 := hi9 (H0.out.below hb14 H0.out.lt)
 replace H1 := hi9 (H1.out.below hb14 H1.out.lt)
 replace Hx := hi9 (Hx.out.below hb14 Hx.out.lt)
 replace Hy := hi9 (Hy.out.below hb14 Hy.out.lt)
 replace Hm := hi9 (Hm.out.below hb14 Hm.out.lt)
 replace Hk := hi9 (Hk.out.below hb14 Hk.out.lt)
 replace Hd := hi9 (Hd.out.below hb14 Hd.out.lt)
 replace QX := hi9 (QX.out.next hb14)
 replace QY := hi9 (QY.out.next hb14)
 replace NM := hi9 (NM.out.next hb14)
 replace NK := hi9 (NK.out.next hb14)
 replace ND := hi9 (ND.out.next hb14)
 clear k13
 clear hb14
 go_wp2_with fail
 go_ret
 exact ⟨rfl, k14⟩
set_option maxHeartbeats 25600000 in
set_option maxRecDepth 40000 in
theorem forms_bad_any (N : Nat) (hN : N ≤ 1048576) (hN1 : 1 ≤ N) (hT : Tb w) (h : FV w.heap.size w (.bool a0) (.slice a1 a2 a3) (.bool a4) (.slice a5 a6 a7) z 0 N) (h' : FV w.heap.size w (.bool b0) (.slice b1 b2 b3) (.bool b4) (.slice b5 b6 b7) x v N) (h1 : -9223372036854775808 ≤ n) (h2 : n ≤ 9223372036854775807) : Calls Tryz.prog 3 #[.agg #[.bool a0, .slice a1 a2 a3, .bool a4, .slice a5 a6 a7], .agg #[.bool b0, .slice b1 b2 b3, .bool b4, .slice b5 b6 b7], .int .i64 n] w fun e w' => e = .returned (.bool true) ∧ Below w.heap.size w w' := by
 obtain ⟨q, hq⟩ : ∃ q : Rat, q = 1 := ⟨_, rfl⟩
 obtain ⟨r, hr⟩ : ∃ q : Rat, q = (someQ x v) := ⟨_, rfl⟩
 have SQ : Hid (someQ z 0 = q) := by show _ = _; unfold someQ; rw [hq]; rfl
 have SR : Hid (someQ x v = r) := by show _ = _; exact hr.symm
 have H1N := hi9 h1
 have H2N := hi9 h2
 have XA := hi9 h
 have XC := hi9 h'
 have TT := hi9 hT
 clear h h' hT hq hr h1 h2
 obtain ⟨b0', b1'⟩ := blk_rr w (.bool a0) (.slice a1 a2 a3) (.bool a4) (.slice a5 a6 a7) (.bool b0) (.slice b1 b2 b3) (.bool b4) (.slice b5 b6 b7)
 have k0 := bel_two w (.cells #[.bool a0, .slice a1 a2 a3, .bool a4, .slice a5 a6 a7] 27) (.cells #[.bool b0, .slice b1 b2 b3, .bool b4, .slice b5 b6 b7] 27)
 go_enter Tryz.func3, Tryz.ntmps3
 go_upto_region 1 with fail
 obtain ⟨w0, hw0⟩ : ∃ v, v = (w.alloc (.cells #[.bool a0, .slice a1 a2 a3, .bool a4, .slice a5 a6 a7] 27)).alloc (.cells #[.bool b0, .slice b1 b2 b3, .bool b4, .slice b5 b6 b7] 27) := ⟨_, rfl⟩
 rw [← hw0] at k0 b0' b1' ⊢
 clear hw0
 have H0 := hi9 b0'
 have H1 := hi9 b1'
 clear b0' b1'
 have lt0 := H0.out.lt
 have lt1 := H1.out.lt
 refine region_facts_tail 6 [SP.is (.agg #[.bool a0, .slice a1 a2 a3, .bool a4, .slice a5 a6 a7]), SP.qv w.heap.size q N, SP.is (.agg #[.bool b0, .slice b1 b2 b3, .bool b4, .slice b5 b6 b7]), SP.qv w.heap.size r N, SP.var w0.heap.size 27 [.bool false, .slice none 0 0, .bool false, .slice none 0 0], SP.var w0.heap.size 27 [.bool false, .slice none 0 0, .bool false, .slice none 0 0]] (by kernel_rfl) (by kernel_rfl) (And.intro ?_ (And.intro ?_ (And.intro ?_ (And.intro ?_ (And.intro ?_ (And.intro ?_ trivial)))))) ?_
 ·intro a W hb hold hdep K hK
  have b3 := tmp_eq (hold 3 rfl)
  obtain ⟨c0, c1, c2, c3, -, -, -, -⟩ := (H0.out.below hb H0.out.lt).four
  refine ob_plain rfl ?_
  go_simp
  exact hK _ W rfl nofun br9
 ·intro a W hb hold hdep K hK
  have e0 := tmp_eq (hdep 0 _ 21 rfl rfl rfl).1
  refine ob_plain rfl ?_
  go_simp
  refine (some_q (XA.out.next (bst k0 hb nl9)) hN1 (by omega) SQ.out).mono ?_
  rintro e w1 ⟨x0, x1, x2, x3, x4, x5, x6, x7, rfl, f9, hb1⟩
  exact hK _ w1 ⟨x0, x1, x2, x3, x4, x5, x6, x7, rfl, f9⟩ nofun hb1
 ·intro a W hb hold hdep K hK
  have b4 := tmp_eq (hold 4 rfl)
  obtain ⟨c0, c1, c2, c3, -, -, -, -⟩ := (H1.out.below hb H1.out.lt).four
  refine ob_plain rfl ?_
  go_simp
  exact hK _ W rfl nofun br9
 ·intro a W hb hold hdep K hK
  have e2 := tmp_eq (hdep 2 _ 23 rfl rfl rfl).1
  refine ob_plain rfl ?_
  go_simp
  refine (some_q (XC.out.next (bst k0 hb nl9)) hN1 (by omega) SR.out).mono ?_
  rintro e w1 ⟨x0, x1, x2, x3, x4, x5, x6, x7, rfl, f9, hb1⟩
  exact hK _ w1 ⟨x0, x1, x2, x3, x4, x5, x6, x7, rfl, f9⟩ nofun hb1
 ·intro a W hb hold hdep K hK
  refine ob_plain rfl ?_
  go_simp
  exact hK _ _ (SP.new hb.size rfl) (fun _ => Nat.le_refl _) (bel_one _ _)
 ·intro a W hb hold hdep K hK
  refine ob_plain rfl ?_
  go_simp
  exact hK _ _ (SP.new hb.size rfl) (fun _ => Nat.le_refl _) (bel_one _ _)
 intro vls u1 hb hf hd
 have e0 : vls 0 = _ := hf 0 (by decide)
 obtain ⟨o1x1_0, o1x1_1, o1x1_2, o1x1_3, o1x1_4, o1x1_5, o1x1_6, o1x1_7, e1, f1⟩ := hf 1 (by decide)
 have e2 : vls 2 = _ := hf 2 (by decide)
 obtain ⟨o1x3_0, o1x3_1, o1x3_2, o1x3_3, o1x3_4, o1x3_5, o1x3_6, o1x3_7, e3, f3⟩ := hf 3 (by decide)
 obtain ⟨g4, e4, hg4, hk4⟩ := hf 4 (by decide)
 obtain ⟨g5, e5, hg5, hk5⟩ := hf 5 (by decide)
 have n4_5 := hd 4 5 (by decide) (by decide) (by decide) rfl rfl
 rw [e4, e5] at n4_5
 replace n4_5 : g4 ≠ g5 := n4_5
 have n5_4 := Ne.symm n4_5
 clear hf hd
 simp only [List.take_succ_cons, List.take_zero, List.drop_succ_cons, List.drop_zero, foldPut, Act.put, List.setIfInBounds_toArray, List.set_cons_zero, List.set_cons_succ, Nat.reduceAdd, e0, e1, e2, e3, e4, e5]
 clear e0 e1 e2 e3 e4 e5
 have ks := k0.size
 obtain ⟨z0, z1, z2, z3, y0, y1, y2, y3⟩ := hk4.four
 obtain ⟨z4, z5, z6, z7, y4, y5, y6, y7⟩ := hk5.four
 have k1 := bst k0 hb nl9
 replace H0 := hi9 (H0.out.below hb H0.out.lt)
 replace H1 := hi9 (H1.out.below hb H1.out.lt)
 clear k0
 clear hb
 go_upto_region 2 with fail
 obtain ⟨v2, hv⟩ : ∃ V, V = set4 (set4 u1 g4 (.bool o1x1_0) (.slice o1x1_1 o1x1_2 o1x1_3) (.bool o1x1_4) (.slice o1x1_5 o1x1_6 o1x1_7)) g5 (.bool o1x3_0) (.slice o1x3_1 o1x3_2 o1x3_3) (.bool o1x3_4) (.slice o1x3_5 o1x3_6 o1x3_7) := ⟨_, rfl⟩
 have hv2 := hv
 unfold set4 at hv2
 rw [← hv2]
 clear hv2 y0 y1 y2 y3 y4 y5 y6 y7 z0 z1 z2 z3 z4 z5 z6 z7
 have q1 := set4_far (set4_same (a := .bool o1x1_0) (b := .slice o1x1_1 o1x1_2 o1x1_3) (c := .bool o1x1_4) (d := .slice o1x1_5 o1x1_6 o1x1_7) hk4) n4_5 (a := .bool o1x3_0) (b := .slice o1x3_1 o1x3_2 o1x3_3) (c := .bool o1x3_4) (d := .slice o1x3_5 o1x3_6 o1x3_7)
 have hkf := set4_far hk5 n5_4 (a := .bool o1x1_0) (b := .slice o1x1_1 o1x1_2 o1x1_3) (c := .bool o1x1_4) (d := .slice o1x1_5 o1x1_6 o1x1_7)
 have q2 := set4_same hkf (a := .bool o1x3_0) (b := .slice o1x3_1 o1x3_2 o1x3_3) (c := .bool o1x3_4) (d := .slice o1x3_5 o1x3_6 o1x3_7)
 rw [← hv] at q1 q2
 have Hx := hi9 q1
 have Hy := hi9 q2
 have na : w.heap.size ≠ g4 := Nat.ne_of_lt (Nat.lt_of_lt_of_le (lt0) hg4)
 have nb : w.heap.size ≠ g5 := Nat.ne_of_lt (Nat.lt_of_lt_of_le (lt0) hg5)
 have q3 := set4_far (set4_far H0.out na (a := .bool o1x1_0) (b := .slice o1x1_1 o1x1_2 o1x1_3) (c := .bool o1x1_4) (d := .slice o1x1_5 o1x1_6 o1x1_7)) nb (a := .bool o1x3_0) (b := .slice o1x3_1 o1x3_2 o1x3_3) (c := .bool o1x3_4) (d := .slice o1x3_5 o1x3_6 o1x3_7)
 rw [← hv] at q3
 replace H0 := hi9 q3
 clear na nb q3
 have na : (w.heap.size + 1) ≠ g4 := Nat.ne_of_lt (Nat.lt_of_lt_of_le (lt1) hg4)
 have nb : (w.heap.size + 1) ≠ g5 := Nat.ne_of_lt (Nat.lt_of_lt_of_le (lt1) hg5)
 have q3 := set4_far (set4_far H1.out na (a := .bool o1x1_0) (b := .slice o1x1_1 o1x1_2 o1x1_3) (c := .bool o1x1_4) (d := .slice o1x1_5 o1x1_6 o1x1_7)) nb (a := .bool o1x3_0) (b := .slice o1x3_1 o1x3_2 o1x3_3) (c := .bool o1x3_4) (d := .slice o1x3_5 o1x3_6 o1x3_7)
 rw [← hv] at q3
 replace H1 := hi9 q3
 clear na nb q3
 have k2 : Below w.heap.size w v2 := by rw [hv]; exact set4_below (set4_below k1 (Nat.le_trans ks hg4)) (Nat.le_trans ks hg5)
 have QX : Hid (QV w.heap.size v2 (.bool o1x1_0) (.slice o1x1_1 o1x1_2 o1x1_3) (.bool o1x1_4) (.slice o1x1_5 o1x1_6 o1x1_7) q N) := by show QV w.heap.size v2 (.bool o1x1_0) (.slice o1x1_1 o1x1_2 o1x1_3) (.bool o1x1_4) (.slice o1x1_5 o1x1_6 o1x1_7) q N; rw [hv]; exact ((f1.set4 (Nat.le_trans ks hg4) hk4).set4 (Nat.le_trans ks hg5) hkf)
 have QY : Hid (QV w.heap.size v2 (.bool o1x3_0) (.slice o1x3_1 o1x3_2 o1x3_3) (.bool o1x3_4) (.slice o1x3_5 o1x3_6 o1x3_7) r N) := by show QV w.heap.size v2 (.bool o1x3_0) (.slice o1x3_1 o1x3_2 o1x3_3) (.bool o1x3_4) (.slice o1x3_5 o1x3_6 o1x3_7) r N; rw [hv]; exact ((f3.set4 (Nat.le_trans ks hg4) hk4).set4 (Nat.le_trans ks hg5) hkf)
 clear hv q1 q2 hkf hk4 hk5 f1 f3 ks k1
 clear lt0 lt1 hg4 hg5 n4_5 n5_4
 obtain ⟨gx, hgx⟩ : ∃ g, g = g4 := ⟨_, rfl⟩
 obtain ⟨gy, hgy⟩ : ∃ g, g = g5 := ⟨_, rfl⟩
 rw [← hgx, ← hgy]
 rw [← hgx] at Hx
 rw [← hgy] at Hy
 clear hgx hgy
 obtain ⟨c0H0, c1H0, c2H0, c3H0, -, -, -, -⟩ := H0.out.four
 obtain ⟨c0H1, c1H1, c2H1, c3H1, -, -, -, -⟩ := H1.out.four
 go_wp2_with fail
 refine (make_bad (XA.out.next k2) (by omega)).mono ?_
 rintro e w3 ⟨m0, m1, m2, m3, m4, m5, m6, m7, rfl, nn, hb3⟩
 clear c0H0 c1H0 c2H0 c3H0 c0H1 c1H1 c2H1 c3H1
 have k3 := bst k2 hb3 nl9
 replace H0 := hi9 (H0.out.below hb3 H0.out.lt)
 replace H1 := hi9 (H1.out.below hb3 H1.out.lt)
 replace Hx := hi9 (Hx.out.below hb3 Hx.out.lt)
 replace Hy := hi9 (Hy.out.below hb3 Hy.out.lt)
 replace QX := hi9 (QX.out.next hb3)
 replace QY := hi9 (QY.out.next hb3)
 clear k2
 clear hb3
 have NM := hi9 nn
 clear nn
 go_upto_region 3 with fail
 obtain ⟨v4, hv⟩ : ∃ v, v = w3.alloc (.cells #[.bool m0, .slice m1 m2 m3, .bool m4, .slice m5 m6 m7] 27) := ⟨_, rfl⟩
 rw [← hv]
 have bn : Blk v4 w3.heap.size 27 [.bool m0, .slice m1 m2 m3, .bool m4, .slice m5 m6 m7] := by rw [hv]; exact Blk.new_ rfl
 have jn : Below w3.heap.size w3 v4 := by rw [hv]; exact bel_one _ _
 obtain ⟨gm, hg⟩ : ∃ g, g = w3.heap.size := ⟨_, rfl⟩
 rw [← hg] at bn ⊢
 clear hg hv
 have Hm := hi9 bn
 clear bn
 have k4 := bst k3 jn nl9
 replace H0 := hi9 (H0.out.below jn H0.out.lt)
 replace H1 := hi9 (H1.out.below jn H1.out.lt)
 replace Hx := hi9 (Hx.out.below jn Hx.out.lt)
 replace Hy := hi9 (Hy.out.below jn Hy.out.lt)
 replace QX := hi9 (QX.out.next jn)
 replace QY := hi9 (QY.out.next jn)
 replace NM := hi9 (NM.out.next jn)
 clear k3
 clear jn
 obtain ⟨c0H0, c1H0, c2H0, c3H0, -, -, -, -⟩ := H0.out.four
 obtain ⟨c0H1, c1H1, c2H1, c3H1, -, -, -, -⟩ := H1.out.four
 go_wp2_with fail
 refine ((XA.out.next k4).norm_bad (by omega)).mono ?_
 rintro e w5 ⟨kk0, kk1, kk2, kk3, kk4, kk5, kk6, kk7, rfl, nn, hb5⟩
 clear c0H0 c1H0 c2H0 c3H0 c0H1 c1H1 c2H1 c3H1
 have k5 := bst k4 hb5 nl9
 replace H0 := hi9 (H0.out.below hb5 H0.out.lt)
 replace H1 := hi9 (H1.out.below hb5 H1.out.lt)
 replace Hx := hi9 (Hx.out.below hb5 Hx.out.lt)
 replace Hy := hi9 (Hy.out.below hb5 Hy.out.lt)
 replace Hm := hi9 (Hm.out.below hb5 Hm.out.lt)
 replace QX := hi9 (QX.out.next hb5)
 replace QY := hi9 (QY.out.next hb5)
 replace NM := hi9 (NM.out.next hb5)
 clear k4
 clear hb5
 have NK := hi9 nn
 clear nn
 go_upto_region 4 with fail
 obtain ⟨v6, hv⟩ : ∃ v, v = w5.alloc (.cells #[.bool kk0, .slice kk1 kk2 kk3, .bool kk4, .slice kk5 kk6 kk7] 27) := ⟨_, rfl⟩
 rw [← hv]
 have bn : Blk v6 w5.heap.size 27 [.bool kk0, .slice kk1 kk2 kk3, .bool kk4, .slice kk5 kk6 kk7] := by rw [hv]; exact Blk.new_ rfl
 have jn : Below w5.heap.size w5 v6 := by rw [hv]; exact bel_one _ _
 obtain ⟨gk, hg⟩ : ∃ g, g = w5.heap.size := ⟨_, rfl⟩
 rw [← hg] at bn ⊢
 clear hg hv
 have Hk := hi9 bn
 clear bn
 have k6 := bst k5 jn nl9
 replace H0 := hi9 (H0.out.below jn H0.out.lt)
 replace H1 := hi9 (H1.out.below jn H1.out.lt)
 replace Hx := hi9 (Hx.out.below jn Hx.out.lt)
 replace Hy := hi9 (Hy.out.below jn Hy.out.lt)
 replace Hm := hi9 (Hm.out.below jn Hm.out.lt)
 replace QX := hi9 (QX.out.next jn)
 replace QY := hi9 (QY.out.next jn)
 replace NM := hi9 (NM.out.next jn)
 replace NK := hi9 (NK.out.next jn)
 clear k5
 clear jn
 obtain ⟨c0H0, c1H0, c2H0, c3H0, -, -, -, -⟩ := H0.out.four
 obtain ⟨c0H1, c1H1, c2H1, c3H1, -, -, -, -⟩ := H1.out.four
 go_wp2_with fail
 refine (((XA.out.next k6).sign_bad (by omega))).mono ?_
 rintro e w7 ⟨rfl, hb7⟩
 clear c0H0 c1H0 c2H0 c3H0 c0H1 c1H1 c2H1 c3H1
 have k7 := bst k6 hb7 nl9
 replace H0 := hi9 (H0.out.below hb7 H0.out.lt)
 replace H1 := hi9 (H1.out.below hb7 H1.out.lt)
 replace Hx := hi9 (Hx.out.below hb7 Hx.out.lt)
 replace Hy := hi9 (Hy.out.below hb7 Hy.out.lt)
 replace Hm := hi9 (Hm.out.below hb7 Hm.out.lt)
 replace Hk := hi9 (Hk.out.below hb7 Hk.out.lt)
 replace QX := hi9 (QX.out.next hb7)
 replace QY := hi9 (QY.out.next hb7)
 replace NM := hi9 (NM.out.next hb7)
 replace NK := hi9 (NK.out.next hb7)
 clear k6
 clear hb7
 obtain ⟨c0H0, c1H0, c2H0, c3H0, -, -, -, -⟩ := H0.out.four
 obtain ⟨c0H1, c1H1, c2H1, c3H1, -, -, -, -⟩ := H1.out.four
 go_wp2_with fail
 refine (((XA.out.next k7).cmp_bad (XC.out.next k7) (by omega) (Or.inl rfl))).mono ?_
 rintro e w8 ⟨rfl, hb8⟩
 clear c0H0 c1H0 c2H0 c3H0 c0H1 c1H1 c2H1 c3H1
 have k8 := bst k7 hb8 nl9
 replace H0 := hi9 (H0.out.below hb8 H0.out.lt)
 replace H1 := hi9 (H1.out.below hb8 H1.out.lt)
 replace Hx := hi9 (Hx.out.below hb8 Hx.out.lt)
 replace Hy := hi9 (Hy.out.below hb8 Hy.out.lt)
 replace Hm := hi9 (Hm.out.below hb8 Hm.out.lt)
 replace Hk := hi9 (Hk.out.below hb8 Hk.out.lt)
 replace QX := hi9 (QX.out.next hb8)
 replace QY := hi9 (QY.out.next hb8)
 replace NM := hi9 (NM.out.next hb8)
 replace NK := hi9 (NK.out.next hb8)
 clear k7
 clear hb8
 obtain ⟨c0H0, c1H0, c2H0, c3H0, -, -, -, -⟩ := H0.out.four
 obtain ⟨c0H1, c1H1, c2H1, c3H1, -, -, -, -⟩ := H1.out.four
 go_wp2_with fail
 refine (((XA.out.next k8).floor_bad (by omega))).mono ?_
 rintro e w9 ⟨d0, d1, d2, d3, rfl, nn, hb9⟩
 clear c0H0 c1H0 c2H0 c3H0 c0H1 c1H1 c2H1 c3H1
 have k9 := bst k8 hb9 nl9
 replace H0 := hi9 (H0.out.below hb9 H0.out.lt)
 replace H1 := hi9 (H1.out.below hb9 H1.out.lt)
 replace Hx := hi9 (Hx.out.below hb9 Hx.out.lt)
 replace Hy := hi9 (Hy.out.below hb9 Hy.out.lt)
 replace Hm := hi9 (Hm.out.below hb9 Hm.out.lt)
 replace Hk := hi9 (Hk.out.below hb9 Hk.out.lt)
 replace QX := hi9 (QX.out.next hb9)
 replace QY := hi9 (QY.out.next hb9)
 replace NM := hi9 (NM.out.next hb9)
 replace NK := hi9 (NK.out.next hb9)
 clear k8
 clear hb9
 have ND := hi9 nn
 clear nn
 go_upto_region 7 with fail
 obtain ⟨v10, hv⟩ : ∃ v, v = w9.alloc (.cells #[.bool d0, .slice d1 d2 d3] 25) := ⟨_, rfl⟩
 rw [← hv]
 have bn : Blk v10 w9.heap.size 25 [.bool d0, .slice d1 d2 d3] := by rw [hv]; exact Blk.new_ rfl
 have jn : Below w9.heap.size w9 v10 := by rw [hv]; exact bel_one _ _
 obtain ⟨gd, hg⟩ : ∃ g, g = w9.heap.size := ⟨_, rfl⟩
 rw [← hg] at bn ⊢
 clear hg hv
 have Hd := hi9 bn
 clear bn
 have k10 := bst k9 jn nl9
 replace H0 := hi9 (H0.out.below jn H0.out.lt)
 replace H1 := hi9 (H1.out.below jn H1.out.lt)
 replace Hx := hi9 (Hx.out.below jn Hx.out.lt)
 replace Hy := hi9 (Hy.out.below jn Hy.out.lt)
 replace Hm := hi9 (Hm.out.below jn Hm.out.lt)
 replace Hk := hi9 (Hk.out.below jn Hk.out.lt)
 replace QX := hi9 (QX.out.next jn)
 replace QY := hi9 (QY.out.next jn)
 replace NM := hi9 (NM.out.next jn)
 replace NK := hi9 (NK.out.next jn)
 replace ND := hi9 (ND.out.next jn)
 clear k9
 clear jn
 obtain ⟨c0H0, c1H0, c2H0, c3H0, -, -, -, -⟩ := H0.out.four
 obtain ⟨c0H1, c1H1, c2H1, c3H1, -, -, -, -⟩ := H1.out.four
 clear c0H0 c1H0 c2H0 c3H0 c0H1 c1H1 c2H1 c3H1
 refine region_facts [SP.is (.agg #[.bool a0, .slice a1 a2 a3, .bool a4, .slice a5 a6 a7]), SP.is (.bool false), SP.is (.agg #[.bool a0, .slice a1 a2 a3, .bool a4, .slice a5 a6 a7]), SP.is (.bool false), SP.is (.bool false), SP.is (undef), SP.is (undef), SP.is (.bool false), SP.is (.bool false), SP.is (.bool false)] (by kernel_rfl) (by kernel_rfl) (And.intro ?_ (And.intro ?_ (And.intro ?_ (And.intro ?_ (And.intro ?_ (And.intro ?_ (And.intro ?_ (And.intro ?_ (And.intro ?_ (And.intro ?_ trivial)))))))))) ?_
 ·intro a W hb hold hdep K hK
  have b3 := tmp_eq (hold 3 rfl)
  obtain ⟨c0, c1, c2, c3, -, -, -, -⟩ := (H0.out.below hb H0.out.lt).four
  refine ob_plain rfl ?_
  go_simp
  exact hK _ W rfl nofun br9
 ·intro a W hb hold hdep K hK
  have e0 := tmp_eq (hdep 0 _ 54 rfl rfl rfl).1
  refine ob_plain rfl ?_
  go_simp
  refine ((((XA.out.next (bst k10 hb nl9))).rmay (by omega))).mono ?_
  rintro e w1 ⟨rfl, hb1⟩
  exact hK _ w1 rfl nofun hb1
 ·intro a W hb hold hdep K hK
  have b3 := tmp_eq (hold 3 rfl)
  obtain ⟨c0, c1, c2, c3, -, -, -, -⟩ := (H0.out.below hb H0.out.lt).four
  refine ob_plain rfl ?_
  go_simp
  exact hK _ W rfl nofun br9
 ·intro a W hb hold hdep K hK
  have e2 := tmp_eq (hdep 2 _ 56 rfl rfl rfl).1
  refine ob_plain rfl ?_
  go_simp
  refine ((((XA.out.next (bst k10 hb nl9))).rmay (by omega))).mono ?_
  rintro e w1 ⟨rfl, hb1⟩
  exact hK _ w1 rfl nofun hb1
 ·intro a W hb hold hdep K hK
  have e3 := tmp_eq (hdep 3 _ 57 rfl rfl rfl).1
  refine ob_plain rfl ?_
  go_simp
  exact hK _ W rfl nofun br9
 ·intro a W hb hold hdep K hK
  refine ob_skip (j := 4) rfl rfl rfl (hdep 4 _ 58 rfl rfl rfl) ?_
  exact hK undef W rfl nofun br9
 ·intro a W hb hold hdep K hK
  refine ob_skip (j := 4) rfl rfl rfl (hdep 4 _ 58 rfl rfl rfl) ?_
  exact hK undef W rfl nofun br9
 ·intro a W hb hold hdep K hK
  have e4 := tmp_eq (hdep 4 _ 58 rfl rfl rfl).1
  have e6 := tmp_eq (hdep 6 _ 60 rfl rfl rfl).1
  refine ob_plain rfl ?_
  go_simp
  exact hK _ W rfl nofun br9
 ·intro a W hb hold hdep K hK
  have e1 := tmp_eq (hdep 1 _ 55 rfl rfl rfl).1
  refine ob_plain rfl ?_
  go_simp
  exact hK _ W rfl nofun br9
 ·intro a W hb hold hdep K hK
  have e7 := tmp_eq (hdep 7 _ 61 rfl rfl rfl).1
  refine ob_plain rfl ?_
  go_simp
  exact hK _ W rfl nofun br9
 intro vls u7 hb hf hd
 have e0 : vls 0 = _ := hf 0 (by decide)
 have e1 : vls 1 = _ := hf 1 (by decide)
 have e2 : vls 2 = _ := hf 2 (by decide)
 have e3 : vls 3 = _ := hf 3 (by decide)
 have e4 : vls 4 = _ := hf 4 (by decide)
 have e5 : vls 5 = _ := hf 5 (by decide)
 have e6 : vls 6 = _ := hf 6 (by decide)
 have e7 : vls 7 = _ := hf 7 (by decide)
 have e8 : vls 8 = _ := hf 8 (by decide)
 have e9 : vls 9 = _ := hf 9 (by decide)
 clear hf hd
 simp only [foldPut, Act.put, List.setIfInBounds_toArray, List.set_cons_zero, List.set_cons_succ, Nat.reduceAdd, e0, e1, e2, e3, e4, e5, e6, e7, e8, e9]
 clear e0 e1 e2 e3 e4 e5 e6 e7 e8 e9
 have k11 := bst k10 hb nl9
 replace H0 := hi9 (H0.out.below hb H0.out.lt)
 replace H1 := hi9 (H1.out.below hb H1.out.lt)
 replace Hx := hi9 (Hx.out.below hb Hx.out.lt)
 replace Hy := hi9 (Hy.out.below hb Hy.out.lt)
 replace Hm := hi9 (Hm.out.below hb Hm.out.lt)
 replace Hk := hi9 (Hk.out.below hb Hk.out.lt)
 replace Hd := hi9 (Hd.out.below hb Hd.out.lt)
 replace QX := hi9 (QX.out.next hb)
 replace QY := hi9 (QY.out.next hb)
 replace NM := hi9 (NM.out.next hb)
 replace NK := hi9 (NK.out.next hb)
 replace ND := hi9 (ND.out.next hb)
 clear k10
 clear hb
 have BQ := hi9 QX.out.qb
 go_upto_region 8 with fail
 refine region_facts [SP.is (.bool false), SP.is (.agg #[.bool m0, .slice m1 m2 m3, .bool m4, .slice m5 m6 m7]), SP.is (.int .i64 (6)), SP.is (.agg #[.bool o1x1_0, .slice o1x1_1 o1x1_2 o1x1_3, .bool o1x1_4, .slice o1x1_5 o1x1_6 o1x1_7]), SP.fn 0 (q.num) (q.den), SP.is (.bool true), SP.is (.bool false), SP.is (.bool false), SP.is (.bool false), SP.is (.agg #[.bool kk0, .slice kk1 kk2 kk3, .bool kk4, .slice kk5 kk6 kk7]), SP.is (.int .i64 (6)), SP.is (.agg #[.bool o1x1_0, .slice o1x1_1 o1x1_2 o1x1_3, .bool o1x1_4, .slice o1x1_5 o1x1_6 o1x1_7]), SP.fn 0 (q.num) (q.den), SP.is (.bool true), SP.is (.bool false), SP.is (.bool false), SP.is (.bool false), SP.is (.int .i64 n), SP.fn 0 (n) (1), SP.is (.int .i64 n), SP.fn 0 (n) (1), SP.is (.bool true), SP.is (.bool false), SP.is (.bool false)] (by kernel_rfl) (by kernel_rfl) (And.intro ?_ (And.intro ?_ (And.intro ?_ (And.intro ?_ (And.intro ?_ (And.intro ?_ (And.intro ?_ (And.intro ?_ (And.intro ?_ (And.intro ?_ (And.intro ?_ (And.intro ?_ (And.intro ?_ (And.intro ?_ (And.intro ?_ (And.intro ?_ (And.intro ?_ (And.intro ?_ (And.intro ?_ (And.intro ?_ (And.intro ?_ (And.intro ?_ (And.intro ?_ (And.intro ?_ trivial)))))))))))))))))))))))) ?_
 ·intro a W hb hold hdep K hK
  have b19 := tmp_eq (hold 19 rfl)
  refine ob_plain rfl ?_
  go_simp
  exact hK _ W rfl nofun br9
 ·intro a W hb hold hdep K hK
  have b9 := tmp_eq (hold 9 rfl)
  obtain ⟨c0, c1, c2, c3, -, -, -, -⟩ := (Hm.out.below hb Hm.out.lt).four
  refine ob_plain rfl ?_
  go_simp
  exact hK _ W rfl nofun br9
 ·intro a W hb hold hdep K hK
  have b10 := tmp_eq (hold 10 rfl)
  refine ob_plain rfl ?_
  go_simp
  exact hK _ W rfl nofun br9
 ·intro a W hb hold hdep K hK
  have b7 := tmp_eq (hold 7 rfl)
  obtain ⟨c0, c1, c2, c3, -, -, -, -⟩ := (Hx.out.below hb Hx.out.lt).four
  refine ob_plain rfl ?_
  go_simp
  exact hK _ W rfl nofun br9
 ·intro a W hb hold hdep K hK
  have e3 := tmp_eq (hdep 3 _ 65 rfl rfl rfl).1
  refine ob_plain rfl ?_
  go_simp
  refine ((ro_zero ((QX.out.next hb).rqnorm (by omega)))).mono ?_
  rintro e w1 ⟨x0, x1, x2, x3, x4, x5, x6, x7, rfl, f9, hb1⟩
  exact hK _ w1 ⟨x0, x1, x2, x3, x4, x5, x6, x7, rfl, f9⟩ nofun hb1
 ·intro a W hb hold hdep K hK
  have e0 := tmp_eq (hdep 0 _ 62 rfl rfl rfl).1
  have e1 := tmp_eq (hdep 1 _ 63 rfl rfl rfl).1
  have e2 := tmp_eq (hdep 2 _ 64 rfl rfl rfl).1
  obtain ⟨r4_0, r4_1, r4_2, r4_3, r4_4, r4_5, r4_6, r4_7, e4, f4⟩ := (hdep 4 _ 66 rfl rfl rfl).1
  replace e4 := tmp_eq e4
  refine ob_plain rfl ?_
  go_simp
  refine ((told_bad (NM.out.next hb))).mono ?_
  rintro e w1 ⟨rfl, hb1⟩
  exact hK _ w1 rfl nofun hb1
 ·intro a W hb hold hdep K hK
  have e5 := tmp_eq (hdep 5 _ 67 rfl rfl rfl).1
  refine ob_plain rfl ?_
  go_simp
  exact hK _ W rfl nofun br9
 ·intro a W hb hold hdep K hK
  have e6 := tmp_eq (hdep 6 _ 68 rfl rfl rfl).1
  refine ob_plain rfl ?_
  go_simp
  exact hK _ W rfl nofun br9
 ·intro a W hb hold hdep K hK
  have b19 := tmp_eq (hold 19 rfl)
  refine ob_guard (j := 7) rfl rfl rfl (hdep 7 _ 69 rfl rfl rfl) ?_
  go_simp
  exact hK _ W rfl nofun br9
 ·intro a W hb hold hdep K hK
  have b11 := tmp_eq (hold 11 rfl)
  obtain ⟨c0, c1, c2, c3, -, -, -, -⟩ := (Hk.out.below hb Hk.out.lt).four
  refine ob_guard (j := 7) rfl rfl rfl (hdep 7 _ 69 rfl rfl rfl) ?_
  go_simp
  exact hK _ W rfl nofun br9
 ·intro a W hb hold hdep K hK
  have b12 := tmp_eq (hold 12 rfl)
  refine ob_guard (j := 7) rfl rfl rfl (hdep 7 _ 69 rfl rfl rfl) ?_
  go_simp
  exact hK _ W rfl nofun br9
 ·intro a W hb hold hdep K hK
  have b7 := tmp_eq (hold 7 rfl)
  obtain ⟨c0, c1, c2, c3, -, -, -, -⟩ := (Hx.out.below hb Hx.out.lt).four
  refine ob_guard (j := 7) rfl rfl rfl (hdep 7 _ 69 rfl rfl rfl) ?_
  go_simp
  exact hK _ W rfl nofun br9
 ·intro a W hb hold hdep K hK
  have e11 := tmp_eq (hdep 11 _ 73 rfl rfl rfl).1
  refine ob_guard (j := 7) rfl rfl rfl (hdep 7 _ 69 rfl rfl rfl) ?_
  go_simp
  refine ((ro_zero ((QX.out.next hb).rqnorm (by omega)))).mono ?_
  rintro e w1 ⟨x0, x1, x2, x3, x4, x5, x6, x7, rfl, f9, hb1⟩
  exact hK _ w1 ⟨x0, x1, x2, x3, x4, x5, x6, x7, rfl, f9⟩ nofun hb1
 ·intro a W hb hold hdep K hK
  have e8 := tmp_eq (hdep 8 _ 70 rfl rfl rfl).1
  have e9 := tmp_eq (hdep 9 _ 71 rfl rfl rfl).1
  have e10 := tmp_eq (hdep 10 _ 72 rfl rfl rfl).1
  obtain ⟨r12_0, r12_1, r12_2, r12_3, r12_4, r12_5, r12_6, r12_7, e12, f12⟩ := (hdep 12 _ 74 rfl rfl rfl).1
  replace e12 := tmp_eq e12
  refine ob_guard (j := 7) rfl rfl rfl (hdep 7 _ 69 rfl rfl rfl) ?_
  go_simp
  refine ((told_bad (NK.out.next hb))).mono ?_
  rintro e w1 ⟨rfl, hb1⟩
  exact hK _ w1 rfl nofun hb1
 ·intro a W hb hold hdep K hK
  have e13 := tmp_eq (hdep 13 _ 75 rfl rfl rfl).1
  refine ob_guard (j := 7) rfl rfl rfl (hdep 7 _ 69 rfl rfl rfl) ?_
  go_simp
  exact hK _ W rfl nofun br9
 ·intro a W hb hold hdep K hK
  have e7 := tmp_eq (hdep 7 _ 69 rfl rfl rfl).1
  have e14 := tmp_eq (hdep 14 _ 76 rfl rfl rfl).1
  refine ob_plain rfl ?_
  go_simp
  exact hK _ W rfl nofun br9
 ·intro a W hb hold hdep K hK
  have e15 := tmp_eq (hdep 15 _ 77 rfl rfl rfl).1
  refine ob_plain rfl ?_
  go_simp
  exact hK _ W rfl nofun br9
 ·intro a W hb hold hdep K hK
  have b2 := tmp_eq (hold 2 rfl)
  refine ob_guard (j := 16) rfl rfl rfl (hdep 16 _ 78 rfl rfl rfl) ?_
  go_simp
  exact hK _ W rfl nofun br9
 ·intro a W hb hold hdep K hK
  have e17 := tmp_eq (hdep 17 _ 79 rfl rfl rfl).1
  refine ob_guard (j := 16) rfl rfl rfl (hdep 16 _ 78 rfl rfl rfl) ?_
  go_simp
  refine ((ro_zero (of05_any n H1N.out H2N.out))).mono ?_
  rintro e w1 ⟨x0, x1, x2, x3, x4, x5, x6, x7, rfl, f9, hb1⟩
  exact hK _ w1 ⟨x0, x1, x2, x3, x4, x5, x6, x7, rfl, f9⟩ nofun hb1
 ·intro a W hb hold hdep K hK
  have b2 := tmp_eq (hold 2 rfl)
  refine ob_guard (j := 16) rfl rfl rfl (hdep 16 _ 78 rfl rfl rfl) ?_
  go_simp
  exact hK _ W rfl nofun br9
 ·intro a W hb hold hdep K hK
  have e19 := tmp_eq (hdep 19 _ 81 rfl rfl rfl).1
  refine ob_guard (j := 16) rfl rfl rfl (hdep 16 _ 78 rfl rfl rfl) ?_
  go_simp
  refine ((ro_zero (rof05_any n H1N.out H2N.out))).mono ?_
  rintro e w1 ⟨x0, x1, x2, x3, x4, x5, x6, x7, rfl, f9, hb1⟩
  exact hK _ w1 ⟨x0, x1, x2, x3, x4, x5, x6, x7, rfl, f9⟩ nofun hb1
 ·intro a W hb hold hdep K hK
  obtain ⟨r18_0, r18_1, r18_2, r18_3, r18_4, r18_5, r18_6, r18_7, e18, f18⟩ := (hdep 18 _ 80 rfl rfl rfl).1
  replace e18 := tmp_eq e18
  obtain ⟨r20_0, r20_1, r20_2, r20_3, r20_4, r20_5, r20_6, r20_7, e20, f20⟩ := (hdep 20 _ 82 rfl rfl rfl).1
  replace e20 := tmp_eq e20
  refine ob_guard (j := 16) rfl rfl rfl (hdep 16 _ 78 rfl rfl rfl) ?_
  go_simp
  refine ((f18.lsame f20 (K := 2) (word_lt H1N.out H2N.out) (by decide) (by decide))).mono ?_
  rintro e w1 ⟨rfl, hb1⟩
  exact hK _ w1 rfl nofun hb1
 ·intro a W hb hold hdep K hK
  have e21 := tmp_eq (hdep 21 _ 83 rfl rfl rfl).1
  refine ob_guard (j := 16) rfl rfl rfl (hdep 16 _ 78 rfl rfl rfl) ?_
  go_simp
  exact hK _ W rfl nofun br9
 ·intro a W hb hold hdep K hK
  have e16 := tmp_eq (hdep 16 _ 78 rfl rfl rfl).1
  have e22 := tmp_eq (hdep 22 _ 84 rfl rfl rfl).1
  refine ob_plain rfl ?_
  go_simp
  exact hK _ W rfl nofun br9
 intro vls u8 hb hf hd
 have e0 : vls 0 = _ := hf 0 (by decide)
 have e1 : vls 1 = _ := hf 1 (by decide)
 have e2 : vls 2 = _ := hf 2 (by decide)
 have e3 : vls 3 = _ := hf 3 (by decide)
 obtain ⟨o8x4_0, o8x4_1, o8x4_2, o8x4_3, o8x4_4, o8x4_5, o8x4_6, o8x4_7, e4, f4⟩ := hf 4 (by decide)
 have e5 : vls 5 = _ := hf 5 (by decide)
 have e6 : vls 6 = _ := hf 6 (by decide)
 have e7 : vls 7 = _ := hf 7 (by decide)
 have e8 : vls 8 = _ := hf 8 (by decide)
 have e9 : vls 9 = _ := hf 9 (by decide)
 have e10 : vls 10 = _ := hf 10 (by decide)
 have e11 : vls 11 = _ := hf 11 (by decide)
 obtain ⟨o8x12_0, o8x12_1, o8x12_2, o8x12_3, o8x12_4, o8x12_5, o8x12_6, o8x12_7, e12, f12⟩ := hf 12 (by decide)
 have e13 : vls 13 = _ := hf 13 (by decide)
 have e14 : vls 14 = _ := hf 14 (by decide)
 have e15 : vls 15 = _ := hf 15 (by decide)
 have e16 : vls 16 = _ := hf 16 (by decide)
 have e17 : vls 17 = _ := hf 17 (by decide)
 obtain ⟨o8x18_0, o8x18_1, o8x18_2, o8x18_3, o8x18_4, o8x18_5, o8x18_6, o8x18_7, e18, f18⟩ := hf 18 (by decide)
 have e19 : vls 19 = _ := hf 19 (by decide)
 obtain ⟨o8x20_0, o8x20_1, o8x20_2, o8x20_3, o8x20_4, o8x20_5, o8x20_6, o8x20_7, e20, f20⟩ := hf 20 (by decide)
 have e21 : vls 21 = _ := hf 21 (by decide)
 have e22 : vls 22 = _ := hf 22 (by decide)
 have e23 : vls 23 = _ := hf 23 (by decide)
 clear hf hd
 simp only [foldPut, Act.put, List.setIfInBounds_toArray, List.set_cons_zero, List.set_cons_succ, Nat.reduceAdd, e0, e1, e2, e3, e4, e5, e6, e7, e8, e9, e10, e11, e12, e13, e14, e15, e16, e17, e18, e19, e20, e21, e22, e23]
 clear e0 e1 e2 e3 e4 e5 e6 e7 e8 e9 e10 e11 e12 e13 e14 e15 e16 e17 e18 e19 e20 e21 e22 e23
 have k12 := bst k11 hb nl9
 replace H0 := hi9 (H0.out.below hb H0.out.lt)
 replace H1 := hi9 (H1.out.below hb H1.out.lt)
 replace Hx := hi9 (Hx.out.below hb Hx.out.lt)
 replace Hy := hi9 (Hy.out.below hb Hy.out.lt)
 replace Hm := hi9 (Hm.out.below hb Hm.out.lt)
 replace Hk := hi9 (Hk.out.below hb Hk.out.lt)
 replace Hd := hi9 (Hd.out.below hb Hd.out.lt)
 replace QX := hi9 (QX.out.next hb)
 replace QY := hi9 (QY.out.next hb)
 replace NM := hi9 (NM.out.next hb)
 replace NK := hi9 (NK.out.next hb)
 replace ND := hi9 (ND.out.next hb)
 clear k11
 clear hb
 go_upto_region 10 with fail
 refine region_facts [SP.is (.bool false), SP.is (.bool true), SP.is (.bool true), SP.is (.int .i64 (0)), SP.is (.bool false), SP.is (.bool false), SP.is (.int .i64 (6)), SP.is (.bool false), SP.is (.bool false), SP.is (.bool false), SP.is (.int .i64 (6)), SP.is (.bool false), SP.is (.bool false), SP.is (.bool false), SP.is (.agg #[.bool d0, .slice d1 d2 d3]), SP.is (.agg #[.bool false, .slice none 0 0]), SP.is (.bool true), SP.is (.bool false), SP.is (.bool false), SP.is (.bool false), SP.is (.bool false), SP.is (.bool false), SP.is (.bool false), SP.is (undef), SP.is (undef), SP.is (undef), SP.is (undef), SP.is (undef), SP.is (undef), SP.is (undef), SP.is (undef), SP.is (undef), SP.is (undef), SP.is (undef), SP.is (undef), SP.is (undef), SP.is (undef), SP.is (undef), SP.is (undef), SP.is (undef), SP.is (undef), SP.is (undef), SP.is (.bool false), SP.is (.bool false)] (by kernel_rfl) (by kernel_rfl) (And.intro ?_ (And.intro ?_ (And.intro ?_ (And.intro ?_ (And.intro ?_ (And.intro ?_ (And.intro ?_ (And.intro ?_ (And.intro ?_ (And.intro ?_ (And.intro ?_ (And.intro ?_ (And.intro ?_ (And.intro ?_ (And.intro ?_ (And.intro ?_ (And.intro ?_ (And.intro ?_ (And.intro ?_ (And.intro ?_ (And.intro ?_ (And.intro ?_ (And.intro ?_ (And.intro ?_ (And.intro ?_ (And.intro ?_ (And.intro ?_ (And.intro ?_ (And.intro ?_ (And.intro ?_ (And.intro ?_ (And.intro ?_ (And.intro ?_ (And.intro ?_ (And.intro ?_ (And.intro ?_ (And.intro ?_ (And.intro ?_ (And.intro ?_ (And.intro ?_ (And.intro ?_ (And.intro ?_ (And.intro ?_ (And.intro ?_ trivial)))))))))))))))))))))))))))))))))))))))))))) ?_
 ·intro a W hb hold hdep K hK
  have b19 := tmp_eq (hold 19 rfl)
  refine ob_plain rfl ?_
  go_simp
  exact hK _ W rfl nofun br9
 ·intro a W hb hold hdep K hK
  have e0 := tmp_eq (hdep 0 _ 86 rfl rfl rfl).1
  refine ob_plain rfl ?_
  go_simp
  exact hK _ W rfl nofun br9
 ·intro a W hb hold hdep K hK
  have e1 := tmp_eq (hdep 1 _ 87 rfl rfl rfl).1
  refine ob_plain rfl ?_
  go_simp
  exact hK _ W rfl nofun br9
 ·intro a W hb hold hdep K hK
  have b13 := tmp_eq (hold 13 rfl)
  refine ob_guard (j := 2) rfl rfl rfl (hdep 2 _ 88 rfl rfl rfl) ?_
  go_simp
  exact hK _ W rfl nofun br9
 ·intro a W hb hold hdep K hK
  have e3 := tmp_eq (hdep 3 _ 89 rfl rfl rfl).1
  refine ob_guard (j := 2) rfl rfl rfl (hdep 2 _ 88 rfl rfl rfl) ?_
  go_simp
  exact hK _ W rfl nofun br9
 ·intro a W hb hold hdep K hK
  have e4 := tmp_eq (hdep 4 _ 90 rfl rfl rfl).1
  refine ob_guard (j := 2) rfl rfl rfl (hdep 2 _ 88 rfl rfl rfl) ?_
  go_simp
  exact hK _ W rfl nofun br9
 ·intro a W hb hold hdep K hK
  have b14 := tmp_eq (hold 14 rfl)
  refine ob_guard (j := 5) rfl rfl rfl (hdep 5 _ 91 rfl rfl rfl) ?_
  go_simp
  exact hK _ W rfl nofun br9
 ·intro a W hb hold hdep K hK
  have e6 := tmp_eq (hdep 6 _ 92 rfl rfl rfl).1
  refine ob_guard (j := 5) rfl rfl rfl (hdep 5 _ 91 rfl rfl rfl) ?_
  go_simp
  exact hK _ W rfl nofun br9
 ·intro a W hb hold hdep K hK
  have e5 := tmp_eq (hdep 5 _ 91 rfl rfl rfl).1
  have e7 := tmp_eq (hdep 7 _ 93 rfl rfl rfl).1
  refine ob_guard (j := 2) rfl rfl rfl (hdep 2 _ 88 rfl rfl rfl) ?_
  go_simp
  exact hK _ W rfl nofun br9
 ·intro a W hb hold hdep K hK
  have e8 := tmp_eq (hdep 8 _ 94 rfl rfl rfl).1
  refine ob_guard (j := 2) rfl rfl rfl (hdep 2 _ 88 rfl rfl rfl) ?_
  go_simp
  exact hK _ W rfl nofun br9
 ·intro a W hb hold hdep K hK
  have b18 := tmp_eq (hold 18 rfl)
  refine ob_guard (j := 9) rfl rfl rfl (hdep 9 _ 95 rfl rfl rfl) ?_
  go_simp
  exact hK _ W rfl nofun br9
 ·intro a W hb hold hdep K hK
  have e10 := tmp_eq (hdep 10 _ 96 rfl rfl rfl).1
  refine ob_guard (j := 9) rfl rfl rfl (hdep 9 _ 95 rfl rfl rfl) ?_
  go_simp
  exact hK _ W rfl nofun br9
 ·intro a W hb hold hdep K hK
  have e9 := tmp_eq (hdep 9 _ 95 rfl rfl rfl).1
  have e11 := tmp_eq (hdep 11 _ 97 rfl rfl rfl).1
  refine ob_guard (j := 2) rfl rfl rfl (hdep 2 _ 88 rfl rfl rfl) ?_
  go_simp
  exact hK _ W rfl nofun br9
 ·intro a W hb hold hdep K hK
  have e12 := tmp_eq (hdep 12 _ 98 rfl rfl rfl).1
  refine ob_guard (j := 2) rfl rfl rfl (hdep 2 _ 88 rfl rfl rfl) ?_
  go_simp
  exact hK _ W rfl nofun br9
 ·intro a W hb hold hdep K hK
  have b17 := tmp_eq (hold 17 rfl)
  obtain ⟨c0, c1, -, -⟩ := (Hd.out.below hb Hd.out.lt).two
  refine ob_guard (j := 13) rfl rfl rfl (hdep 13 _ 99 rfl rfl rfl) ?_
  go_simp
  exact hK _ W rfl nofun br9
 ·intro a W hb hold hdep K hK
  refine ob_guard (j := 13) rfl rfl rfl (hdep 13 _ 99 rfl rfl rfl) ?_
  go_simp
  exact hK _ W rfl nofun br9
 ·intro a W hb hold hdep K hK
  have e14 := tmp_eq (hdep 14 _ 100 rfl rfl rfl).1
  have e15 := tmp_eq (hdep 15 _ 101 rfl rfl rfl).1
  refine ob_guard (j := 13) rfl rfl rfl (hdep 13 _ 99 rfl rfl rfl) ?_
  go_simp
  refine (((ND.out.next hb).rsame (B4 := 0) IN.zero (K := 1) (by decide) (by decide))).mono ?_
  rintro e w1 ⟨rfl, hb1⟩
  exact hK _ w1 rfl nofun hb1
 ·intro a W hb hold hdep K hK
  have e16 := tmp_eq (hdep 16 _ 102 rfl rfl rfl).1
  refine ob_guard (j := 13) rfl rfl rfl (hdep 13 _ 99 rfl rfl rfl) ?_
  go_simp
  exact hK _ W rfl nofun br9
 ·intro a W hb hold hdep K hK
  have e13 := tmp_eq (hdep 13 _ 99 rfl rfl rfl).1
  have e17 := tmp_eq (hdep 17 _ 103 rfl rfl rfl).1
  refine ob_guard (j := 2) rfl rfl rfl (hdep 2 _ 88 rfl rfl rfl) ?_
  go_simp
  exact hK _ W rfl nofun br9
 ·intro a W hb hold hdep K hK
  have e2 := tmp_eq (hdep 2 _ 88 rfl rfl rfl).1
  have e18 := tmp_eq (hdep 18 _ 104 rfl rfl rfl).1
  refine ob_plain rfl ?_
  go_simp
  exact hK _ W rfl nofun br9
 ·intro a W hb hold hdep K hK
  have e19 := tmp_eq (hdep 19 _ 105 rfl rfl rfl).1
  refine ob_plain rfl ?_
  go_simp
  exact hK _ W rfl nofun br9
 ·intro a W hb hold hdep K hK
  have b19 := tmp_eq (hold 19 rfl)
  refine ob_guard (j := 20) rfl rfl rfl (hdep 20 _ 106 rfl rfl rfl) ?_
  go_simp
  exact hK _ W rfl nofun br9
 ·intro a W hb hold hdep K hK
  have e21 := tmp_eq (hdep 21 _ 107 rfl rfl rfl).1
  refine ob_guard (j := 20) rfl rfl rfl (hdep 20 _ 106 rfl rfl rfl) ?_
  go_simp
  exact hK _ W rfl nofun br9
 ·intro a W hb hold hdep K hK
  refine ob_skip (j := 22) rfl rfl rfl (hdep 22 _ 108 rfl rfl rfl) ?_
  exact hK undef W rfl nofun br9
 ·intro a W hb hold hdep K hK
  refine ob_skip (j := 22) rfl rfl rfl (hdep 22 _ 108 rfl rfl rfl) ?_
  exact hK undef W rfl nofun br9
 ·intro a W hb hold hdep K hK
  refine ob_skip (j := 22) rfl rfl rfl (hdep 22 _ 108 rfl rfl rfl) ?_
  exact hK undef W rfl nofun br9
 ·intro a W hb hold hdep K hK
  refine ob_skip (j := 22) rfl rfl rfl (hdep 22 _ 108 rfl rfl rfl) ?_
  exact hK undef W rfl nofun br9
 ·intro a W hb hold hdep K hK
  refine ob_skip (j := 22) rfl rfl rfl (hdep 22 _ 108 rfl rfl rfl) ?_
  exact hK undef W rfl nofun br9
 ·intro a W hb hold hdep K hK
  refine ob_skip2 (j := 27) rfl rfl rfl (hdep 27 _ 113 rfl rfl rfl) ?_
  exact hK undef W rfl nofun br9
 ·intro a W hb hold hdep K hK
  refine ob_skip2 (j := 27) rfl rfl rfl (hdep 27 _ 113 rfl rfl rfl) ?_
  exact hK undef W rfl nofun br9
 ·intro a W hb hold hdep K hK
  refine ob_skip (j := 22) rfl rfl rfl (hdep 22 _ 108 rfl rfl rfl) ?_
  exact hK undef W rfl nofun br9
 ·intro a W hb hold hdep K hK
  refine ob_skip (j := 22) rfl rfl rfl (hdep 22 _ 108 rfl rfl rfl) ?_
  exact hK undef W rfl nofun br9
 ·intro a W hb hold hdep K hK
  refine ob_skip2 (j := 31) rfl rfl rfl (hdep 31 _ 117 rfl rfl rfl) ?_
  exact hK undef W rfl nofun br9
 ·intro a W hb hold hdep K hK
  refine ob_skip2 (j := 31) rfl rfl rfl (hdep 31 _ 117 rfl rfl rfl) ?_
  exact hK undef W rfl nofun br9
 ·intro a W hb hold hdep K hK
  refine ob_skip (j := 22) rfl rfl rfl (hdep 22 _ 108 rfl rfl rfl) ?_
  exact hK undef W rfl nofun br9
 ·intro a W hb hold hdep K hK
  refine ob_skip (j := 22) rfl rfl rfl (hdep 22 _ 108 rfl rfl rfl) ?_
  exact hK undef W rfl nofun br9
 ·intro a W hb hold hdep K hK
  refine ob_skip2 (j := 35) rfl rfl rfl (hdep 35 _ 121 rfl rfl rfl) ?_
  exact hK undef W rfl nofun br9
 ·intro a W hb hold hdep K hK
  refine ob_skip2 (j := 35) rfl rfl rfl (hdep 35 _ 121 rfl rfl rfl) ?_
  exact hK undef W rfl nofun br9
 ·intro a W hb hold hdep K hK
  refine ob_skip2 (j := 35) rfl rfl rfl (hdep 35 _ 121 rfl rfl rfl) ?_
  exact hK undef W rfl nofun br9
 ·intro a W hb hold hdep K hK
  refine ob_skip2 (j := 35) rfl rfl rfl (hdep 35 _ 121 rfl rfl rfl) ?_
  exact hK undef W rfl nofun br9
 ·intro a W hb hold hdep K hK
  refine ob_skip2 (j := 35) rfl rfl rfl (hdep 35 _ 121 rfl rfl rfl) ?_
  exact hK undef W rfl nofun br9
 ·intro a W hb hold hdep K hK
  refine ob_skip (j := 22) rfl rfl rfl (hdep 22 _ 108 rfl rfl rfl) ?_
  exact hK undef W rfl nofun br9
 ·intro a W hb hold hdep K hK
  have e22 := tmp_eq (hdep 22 _ 108 rfl rfl rfl).1
  have e41 := tmp_eq (hdep 41 _ 127 rfl rfl rfl).1
  refine ob_guard (j := 20) rfl rfl rfl (hdep 20 _ 106 rfl rfl rfl) ?_
  go_simp
  exact hK _ W rfl nofun br9
 ·intro a W hb hold hdep K hK
  have e20 := tmp_eq (hdep 20 _ 106 rfl rfl rfl).1
  have e42 := tmp_eq (hdep 42 _ 128 rfl rfl rfl).1
  refine ob_plain rfl ?_
  go_simp
  exact hK _ W rfl nofun br9
 intro vls u10 hb hf hd
 have e0 : vls 0 = _ := hf 0 (by decide)
 have e1 : vls 1 = _ := hf 1 (by decide)
 have e2 : vls 2 = _ := hf 2 (by decide)
 have e3 : vls 3 = _ := hf 3 (by decide)
 have e4 : vls 4 = _ := hf 4 (by decide)
 have e5 : vls 5 = _ := hf 5 (by decide)
 have e6 : vls 6 = _ := hf 6 (by decide)
 have e7 : vls 7 = _ := hf 7 (by decide)
 have e8 : vls 8 = _ := hf 8 (by decide)
 have e9 : vls 9 = _ := hf 9 (by decide)
 have e10 : vls 10 = _ := hf 10 (by decide)
 have e11 : vls 11 = _ := hf 11 (by decide)
 have e12 : vls 12 = _ := hf 12 (by decide)
 have e13 : vls 13 = _ := hf 13 (by decide)
 have e14 : vls 14 = _ := hf 14 (by decide)
 have e15 : vls 15 = _ := hf 15 (by decide)
 have e16 : vls 16 = _ := hf 16 (by decide)
 have e17 : vls 17 = _ := hf 17 (by decide)
 have e18 : vls 18 = _ := hf 18 (by decide)
 have e19 : vls 19 = _ := hf 19 (by decide)
 have e20 : vls 20 = _ := hf 20 (by decide)
 have e21 : vls 21 = _ := hf 21 (by decide)
 have e22 : vls 22 = _ := hf 22 (by decide)
 have e23 : vls 23 = _ := hf 23 (by decide)
 have e24 : vls 24 = _ := hf 24 (by decide)
 have e25 : vls 25 = _ := hf 25 (by decide)
 have e26 : vls 26 = _ := hf 26 (by decide)
 have e27 : vls 27 = _ := hf 27 (by decide)
 have e28 : vls 28 = _ := hf 28 (by decide)
 have e29 : vls 29 = _ := hf 29 (by decide)
 have e30 : vls 30 = _ := hf 30 (by decide)
 have e31 : vls 31 = _ := hf 31 (by decide)
 have e32 : vls 32 = _ := hf 32 (by decide)
 have e33 : vls 33 = _ := hf 33 (by decide)
 have e34 : vls 34 = _ := hf 34 (by decide)
 have e35 : vls 35 = _ := hf 35 (by decide)
 have e36 : vls 36 = _ := hf 36 (by decide)
 have e37 : vls 37 = _ := hf 37 (by decide)
 have e38 : vls 38 = _ := hf 38 (by decide)
 have e39 : vls 39 = _ := hf 39 (by decide)
 have e40 : vls 40 = _ := hf 40 (by decide)
 have e41 : vls 41 = _ := hf 41 (by decide)
 have e42 : vls 42 = _ := hf 42 (by decide)
 have e43 : vls 43 = _ := hf 43 (by decide)
 clear hf hd
 simp only [foldPut, Act.put, List.setIfInBounds_toArray, List.set_cons_zero, List.set_cons_succ, Nat.reduceAdd, e0, e1, e2, e3, e4, e5, e6, e7, e8, e9, e10, e11, e12, e13, e14, e15, e16, e17, e18, e19, e20, e21, e22, e23, e24, e25, e26, e27, e28, e29, e30, e31, e32, e33, e34, e35, e36, e37, e38, e39, e40, e41, e42, e43]
 clear e0 e1 e2 e3 e4 e5 e6 e7 e8 e9 e10 e11 e12 e13 e14 e15 e16 e17 e18 e19 e20 e21 e22 e23 e24 e25 e26 e27 e28 e29 e30 e31 e32 e33 e34 e35 e36 e37 e38 e39 e40 e41 e42 e43
 have k13 := bst k12 hb nl9
 replace H0 := hi9 (H0.out.below hb H0.out.lt)
 replace H1 := hi9 (H1.out.below hb H1.out.lt)
 replace Hx := hi9 (Hx.out.below hb Hx.out.lt)
 replace Hy := hi9 (Hy.out.below hb Hy.out.lt)
 replace Hm := hi9 (Hm.out.below hb Hm.out.lt)
 replace Hk := hi9 (Hk.out.below hb Hk.out.lt)
 replace Hd := hi9 (Hd.out.below hb Hd.out.lt)
 replace QX := hi9 (QX.out.next hb)
 replace QY := hi9 (QY.out.next hb)
 replace NM := hi9 (NM.out.next hb)
 replace NK := hi9 (NK.out.next hb)
 replace ND := hi9 (ND.out.next hb)
 clear k12
 clear hb
 go_wp2_with fail
 refine (lives05 (TT.out.next k13)).mono ?_
 rintro e w14 ⟨rfl, hb14⟩
 have k14 := bst k13 hb14 nl9
 replace H0 := hi9 (H0.out.below hb14 H0.out.lt)
 replace H1 := hi9 (H1.out.below hb14 H1.out.lt)
 replace Hx := hi9 (Hx.out.below hb14 Hx.out.lt)
 replace Hy := hi9 (Hy.out.below hb14 Hy.out.lt)
 replace Hm := hi9 (Hm.out.below hb14 Hm.out.lt)
 replace Hk := hi9 (Hk.out.below hb14 Hk.out.lt)
 replace Hd := hi9 (Hd.out.below hb14 Hd.out.lt)
 replace QX := hi9 (QX.out.next hb14)
 replace QY := hi9 (QY.out.next hb14)
 replace NM := hi9 (NM.out.next hb14)
 replace NK := hi9 (NK.out.next hb14)
 replace ND := hi9 (ND.out.next hb14)
 clear k13
 clear hb14
 go_wp2_with fail
 go_ret
 exact ⟨rfl, k14⟩
theorem forms_walk5 (N : Nat) (hN : N ≤ 1048576) (hN1 : 1 ≤ N) (hT : Tb w) (h : FV w.heap.size w (.bool a0) (.slice a1 a2 a3) (.bool a4) (.slice a5 a6 a7) z y N) (h' : FV w.heap.size w (.bool b0) (.slice b1 b2 b3) (.bool b4) (.slice b5 b6 b7) x v N) (n : Int) (hn : -9223372036854775808 ≤ n ∧ n ≤ 9223372036854775807) : Calls Tryz.prog 3 #[.agg #[.bool a0, .slice a1 a2 a3, .bool a4, .slice a5 a6 a7], .agg #[.bool b0, .slice b1 b2 b3, .bool b4, .slice b5 b6 b7], .int .i64 n] w fun e w' => e = .returned (.bool true) ∧ Below w.heap.size w w' := by
 by_cases hy : y = 0
 ·subst hy; exact forms_bad_any N hN hN1 hT h h' hn.1 hn.2
 ·by_cases hv : v = 0
  ·subst hv; exact forms_good_bad N hN hN1 hT h h' hn.1 hn.2 hy
  ·exact forms_good_good N hN hN1 hT h h' hn.1 hn.2 hy hv
end
end Go.Proofs.YtbcphifjcaobfaaGreatDoor
