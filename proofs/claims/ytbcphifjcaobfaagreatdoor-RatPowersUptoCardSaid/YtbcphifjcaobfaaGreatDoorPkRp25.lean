/- The contracts of zint's divide, by the signs and the kind of. -/
import Derived.Test.YtbcphifjcaobfaaGreatDoorPkRp24
namespace Go.Proofs.YtbcphifjcaobfaaGreatDoor
open Go.RowKit
section
variable {w : World} {g g2 : Bool} {A A2 : Option Addr} {c c2 K J : Nat} {xs ys : List Nat} {z y : Int}
set_option maxHeartbeats 3200000 in
theorem divide_0ff (h : Zh w false A c xs z K) (h2 : Zh w false A2 c2 ys y J) (hy : y ≠ 0) (hK : K ≤ 67108864) (hJ : J ≤ 67108864) :
  Calls Tryz.prog 107 #[.agg #[.bool false, .slice A xs.length c], .agg #[.bool false, .slice A2 ys.length c2], .int .i64 0] w fun e w' => ZQOut w w' (ivalN false (z.natAbs / y.natAbs)) (ivalN false (z.natAbs % y.natAbs)) e := by
 have D1 : Hid (∀ W (_ : Below w.heap.size w W), Calls Tryz.prog 125 #[.slice A xs.length c, .slice A2 ys.length c2] W fun e w' => DivOut W w' z.natAbs y.natAbs e) := fun W hW => Hv.divN (h.hv.next hW) (h2.hv.next hW) hK hJ
 obtain ⟨b0, b1, b2, b3⟩ := blk_four w (.bool false) (.slice A xs.length c) (.bool false) (.slice A2 ys.length c2) (.bool false) (.slice none 0 0) (.bool false) (.slice none 0 0)
 have k0 := bel_four w (.cells #[.bool false, .slice A xs.length c] 25) (.cells #[.bool false, .slice A2 ys.length c2] 25) (.cells #[.bool false, .slice none 0 0] 25) (.cells #[.bool false, .slice none 0 0] 25)
 have hy0 : ¬ y.natAbs = 0 := by omega
 have H := hi9 h
 have H2 := hi9 h2
 clear h h2
 go_enter Tryz.func107, Tryz.ntmps107
 go_wp2_with fail
 refine (D1.out _ k0).mono ?_
 rintro e w1 ⟨qs, rs, A1, c1, A3, c3, rfl, hq, hr, hresq, hresr, hb1⟩
 rw [if_neg hy0] at hr ⊢
 have k1 := bst k0 hb1 nl9
 replace b0 := b0.below hb1 b0.lt
 replace b1 := b1.below hb1 b1.lt
 replace b2 := b2.below hb1 b2.lt
 replace b3 := b3.below hb1 b3.lt
 have h := H.out
 have h2 := H2.out
 have F : Hid (∀ W (_ : Below w1.heap.size w1 W), Calls Tryz.prog 137 #[.agg #[.slice A1 qs.length c1, .slice A3 rs.length c3, .slice A2 ys.length c2]] W fun e w' => PairOut w.heap.size W w' false (z.natAbs / y.natAbs) (z.natAbs % y.natAbs) e) := by
  have hszz : w.heap.size ≤ ((((w.alloc (.cells #[.bool false, .slice A xs.length c] 25)).alloc (.cells #[.bool false, .slice A2 ys.length c2] 25)).alloc (.cells #[.bool false, .slice none 0 0] 25)).alloc (.cells #[.bool false, .slice none 0 0] 25)).heap.size := k0.size
  replace hresq := hresq.mono hszz
  replace hresr := hresr.mono hszz
  intro W hW
  exact whole_any hq hr (hresq.below hW nl9) (hresr.below hW nl9) _
 clear h h2 hq hr hresq hresr D1 H H2 hb1 k0 hy0
 have q1 : w.heap.size < w1.heap.size := b0.lt
 have q2 : w.heap.size + 1 < w1.heap.size := b1.lt
 have q3 : w.heap.size + 3 < w1.heap.size := b3.lt
 have n1 : w.heap.size ≠ w1.heap.size := by omega
 have n2 : w.heap.size + 1 ≠ w1.heap.size := by omega
 have n3 : w.heap.size ≠ w1.heap.size + 1 := by omega
 have n4 : w.heap.size + 1 ≠ w1.heap.size + 1 := by omega
 have n5 : w1.heap.size + 1 ≠ w.heap.size := by omega
 have n6 : w1.heap.size ≠ w.heap.size := by omega
 have n7 : w1.heap.size ≠ w.heap.size + 1 := by omega
 have n8 : w1.heap.size + 1 ≠ w.heap.size + 1 := by omega
 obtain ⟨p0, p1, _, _⟩ := b0.two
 obtain ⟨p2, p3, _, _⟩ := b1.two
 obtain ⟨vr, hvr⟩ : ∃ v, v = (false && decide (0 < (z.natAbs % y.natAbs))) := ⟨_, rfl⟩
 have Hvr := hi9 hvr
 clear hvr
 go_wp2
 go_cut [13, 14] (fun v13 v14 W => DivMid w (.bool false) (.slice A xs.length c) (.bool false) (.slice A2 ys.length c2) false (z.natAbs / y.natAbs) (z.natAbs % y.natAbs) v13 v14 W)
 case first =>
  have t1 : Blk (w1.alloc (.cells #[.func (.func 137) #[] #[], .func (.func 138) #[] #[], .func (.func 137) #[] #[], .func (.func 139) #[] #[]] 141)) w1.heap.size 141 [.func (.func 137) #[] #[], .func (.func 138) #[] #[], .func (.func 137) #[] #[], .func (.func 139) #[] #[]] := Blk.new_ rfl
  have TC : Hid (∀ W : World, Blk W w1.heap.size 141 [.func (.func 137) #[] #[], .func (.func 138) #[] #[], .func (.func 137) #[] #[], .func (.func 139) #[] #[]] → W.cell? ⟨w1.heap.size, 0, none⟩ = some (.func (.func 137) #[] #[])) := fun W hW => hW.cell 0
  have T1 := hi9 t1
  clear t1
  go_region_held3 (fun W => W.cell? ⟨w.heap.size, 0, none⟩ = some (.bool false) ∧ W.cell? ⟨w.heap.size + 1, 1, none⟩ = some (.slice A2 ys.length c2) ∧ W.cell? ⟨w1.heap.size, 0, none⟩ = some (.func (.func 137) #[] #[])) (go_keep) (first
   | (go_at_call 140; (with_reducible refine (place_f _).mono ?_); rintro e wp ⟨rfl, rfl⟩)
   | (go_at_call 137; (with_reducible refine (F.out _ (by repeat (first | exact br9 | apply bdw | (refine bdn ?_ _) | (refine bal ?_ nl9 _)))).mono ?_); rintro e w2 ⟨qz, rz, A5, c5, A7, c7, rfl, hqz, hrz, hresq2, hresr2, hb2⟩; rw [← Hvr.out]; have j2 : Below w1.heap.size w1 w2 := bst (by repeat (first | exact br9 | apply bdw | (refine bdn ?_ _) | (refine bal ?_ nl9 _))) hb2 nl9; have s2 := hb2.size; obtain ⟨hc, hf⟩ := bcell hb2; have g0 : w2.cell? ⟨w.heap.size, 0, none⟩ = some (.bool false) := (j2.cell (p := ⟨w.heap.size, 0, none⟩) q1).trans p0; have g1 : w2.cell? ⟨w.heap.size + 1, 1, none⟩ = some (.slice A2 ys.length c2) := (j2.cell (p := ⟨w.heap.size + 1, 1, none⟩) q2).trans p3; have g2 : w2.cell? ⟨w1.heap.size, 0, none⟩ = some (.func (.func 137) #[] #[]) := TC.out _ (Blk.below (by repeat (first | exact T1.out | apply Blk.drew | apply Blk.drewN | apply Blk.heapAlloc)) hb2 (by simp <;> omega)); clear s2))
  all_goals
   have k2 := bst k1 j2 nl9
   have s2 := j2.size
   have d0 := b0.below j2 b0.lt
   have d1 := b1.below j2 b1.lt
   have d2 := b2.below j2 b2.lt
   have d3 := b3.below j2 b3.lt
   go_wp2_with fail
   go_meet
   first
    | exact ⟨qz, rz, A5, c5, A7, c7, w2.heap.size, rfl, rfl, by omega, hqz, hrz, hresq2.below (bal br9 nl9 _) nl9, hresr2.below (bal br9 nl9 _) nl9, by rw [← Hvr.out]; exact Blk.new_ rfl, d0.heapAlloc _, d1.heapAlloc _, d2.heapAlloc _, d3.heapAlloc _, bal k2 nl9 _⟩
    | (have hG : Blk w2 (w1.heap.size + 1) 25 [.bool false, .slice none 0 0] := Blk.below (by repeat (first | exact blk_two rfl | apply Blk.drew | apply Blk.drewN)) hb2 (by simp <;> omega)
       exact ⟨qz, rz, A5, c5, A7, c7, w1.heap.size + 1, rfl, rfl, by omega, hqz, hrz, res_var2 hresq2 hG _ _, res_var2 hresr2 hG _ _, by rw [← Hvr.out]; exact blk_pair hG _ _, (d0.far (p := ⟨w1.heap.size + 1, 0, none⟩) (by show _ ≠ w1.heap.size + 1; omega) _).far (p := ⟨w1.heap.size + 1, 1, none⟩) (by show _ ≠ w1.heap.size + 1; omega) _, (d1.far (p := ⟨w1.heap.size + 1, 0, none⟩) (by show _ ≠ w1.heap.size + 1; omega) _).far (p := ⟨w1.heap.size + 1, 1, none⟩) (by show _ ≠ w1.heap.size + 1; omega) _, (d2.far (p := ⟨w1.heap.size + 1, 0, none⟩) (by show _ ≠ w1.heap.size + 1; omega) _).far (p := ⟨w1.heap.size + 1, 1, none⟩) (by show _ ≠ w1.heap.size + 1; omega) _, (d3.far (p := ⟨w1.heap.size + 1, 0, none⟩) (by show _ ≠ w1.heap.size + 1; omega) _).far (p := ⟨w1.heap.size + 1, 1, none⟩) (by show _ ≠ w1.heap.size + 1; omega) _, bsc (bsc k2 (by omega) _) (by omega) _⟩)
 case rest =>
  obtain ⟨qz, rz, A5, c5, A7, c7, gt, rfl, rfl, hgt, hqz, hrz, hrq, hrr, hG, d0, d1, d2, d3, kc⟩ := hcut
  clear b0 b1 b2 b3 p0 p1 p2 p3 F k1 q1 q2 q3 n1 n2 n3 n4 n5 n6 n7 n8 hy
  rw [← Hvr.out] at hG
  obtain ⟨vq, hvq⟩ : ∃ v, v = isNeg (ivalN false (z.natAbs / y.natAbs)) := ⟨_, rfl⟩
  have M : Hid (∀ W, Calls Tryz.prog 105 #[.bool false, .slice A5 qz.length c5] W fun e w' => e = .returned (.agg #[.bool vq, .slice A5 qz.length c5]) ∧ Below W.heap.size W w') := fun W => by
   have := made_num false (A := A5) (c := c5) _ hqz rfl W (res_len hrq)
   rwa [← hvq] at this
  have Hvq := hi9 hvq
  have hz := kc.size
  have x1 := hG.lt
  have n1 : w.heap.size + 1 + 1 ≠ w.heap.size := by omega
  have n2 : w.heap.size + 1 + 1 + 1 ≠ w.heap.size := by omega
  have n3 : w.heap.size + 1 + 1 + 1 ≠ w.heap.size + 1 := by omega
  have n4 : w.heap.size + 1 + 1 ≠ gt := by omega
  have n5 : w.heap.size + 1 + 1 + 1 ≠ gt := by omega
  have m1 : w.heap.size ≠ w.heap.size + 1 + 1 := by omega
  have m2 : w.heap.size ≠ w.heap.size + 1 + 1 + 1 := by omega
  have m3 : w.heap.size + 1 ≠ w.heap.size + 1 + 1 + 1 := by omega
  have m4 : gt ≠ w.heap.size + 1 + 1 := by omega
  have m5 : gt ≠ w.heap.size + 1 + 1 + 1 := by omega
  obtain ⟨p0, _, _, _⟩ := d0.two
  obtain ⟨p1, _, _, _⟩ := d1.two
  obtain ⟨p2, p3, _, _⟩ := hG.two
  have D0 := hi9 d0
  have D1 := hi9 d1
  have HG := hi9 hG
  clear hvq d0 d1 hG
  go_wp2
  go_region_held3 (fun W => W.cell? ⟨w.heap.size, 0, none⟩ = some (.bool false) ∧ W.cell? ⟨w.heap.size + 1, 0, none⟩ = some (.bool false) ∧ W.cell? ⟨gt, 0, none⟩ = some (.bool vr) ∧ W.cell? ⟨gt, 1, none⟩ = some (.slice A7 rz.length c7)) (go_keep) (first
   | (go_at_call 105; (with_reducible refine (M.out _).mono ?_); rintro e w5 ⟨rfl, hb5⟩; have j5 : Below wc.heap.size wc w5 := bst (by repeat (first | exact br9 | apply bdw | (refine bdn ?_ _) | (refine bal ?_ nl9 _))) hb5 nl9; obtain ⟨g0, _, _, _⟩ := (D0.out.below j5 D0.out.lt).two; obtain ⟨g1, _, _, _⟩ := (D1.out.below j5 D1.out.lt).two; obtain ⟨g2, g3, _, _⟩ := (HG.out.below j5 HG.out.lt).two; obtain ⟨y0, y1, y2, y3⟩ := (d2.below j5 d2.lt).two; obtain ⟨z0, z1, z2, z3⟩ := (d3.below j5 d3.lt).two))
  all_goals
   go_wp2_with fail
   have e2 := d2.below j5 d2.lt
   have e3 := d3.below j5 d3.lt
   have f2 : Blk ((((w5.setCell ⟨w.heap.size + 1 + 1, 0, none⟩ (.bool vq)).setCell ⟨w.heap.size + 1 + 1, 1, none⟩ (.slice A5 qz.length c5)).setCell ⟨w.heap.size + 1 + 1 + 1, 0, none⟩ (.bool vr)).setCell ⟨w.heap.size + 1 + 1 + 1, 1, none⟩ (.slice A7 rz.length c7)) (w.heap.size + 2) 25 [.bool vq, .slice A5 qz.length c5] := ((blk_pair e2 _ _).far (p := ⟨w.heap.size + 1 + 1 + 1, 0, none⟩) (by show _ ≠ w.heap.size + 1 + 1 + 1; omega) _).far (p := ⟨w.heap.size + 1 + 1 + 1, 1, none⟩) (by show _ ≠ w.heap.size + 1 + 1 + 1; omega) _
   have e4 : Blk ((w5.setCell ⟨w.heap.size + 1 + 1, 0, none⟩ (.bool vq)).setCell ⟨w.heap.size + 1 + 1, 1, none⟩ (.slice A5 qz.length c5)) (w.heap.size + 3) 25 [.bool false, .slice none 0 0] := (e3.far (p := ⟨w.heap.size + 1 + 1, 0, none⟩) (by show _ ≠ w.heap.size + 1 + 1; omega) _).far (p := ⟨w.heap.size + 1 + 1, 1, none⟩) (by show _ ≠ w.heap.size + 1 + 1; omega) _
   have f3 : Blk ((((w5.setCell ⟨w.heap.size + 1 + 1, 0, none⟩ (.bool vq)).setCell ⟨w.heap.size + 1 + 1, 1, none⟩ (.slice A5 qz.length c5)).setCell ⟨w.heap.size + 1 + 1 + 1, 0, none⟩ (.bool vr)).setCell ⟨w.heap.size + 1 + 1 + 1, 1, none⟩ (.slice A7 rz.length c7)) (w.heap.size + 3) 25 [.bool vr, .slice A7 rz.length c7] := blk_pair e4 _ _
   exact bodyPost_ret (results_zzs rfl rfl rfl f2 f3) rfl ⟨qz, rz, A5, c5, A7, c7, by rw [← Hvq.out, isNeg_ival, ← Hvr.out]; rfl, num_eq hqz (by rw [abs_ival]), num_eq hrz (by rw [abs_ival]), res_var2 (res_var2 (hrq.below j5 nl9) e2 _ _) e4 _ _, res_var2 (res_var2 (hrr.below j5 nl9) e2 _ _) e4 _ _, bsc (bsc (bsc (bsc (bst kc j5 nl9) (by omega) _) (by omega) _) (by omega) _) (by omega) _⟩
set_option maxHeartbeats 3200000 in
theorem divide_0ft (h : Zh w false A c xs z K) (h2 : Zh w true A2 c2 ys y J) (hy : y ≠ 0) (hK : K ≤ 67108864) (hJ : J ≤ 67108864) :
  Calls Tryz.prog 107 #[.agg #[.bool false, .slice A xs.length c], .agg #[.bool true, .slice A2 ys.length c2], .int .i64 0] w fun e w' => ZQOut w w' (ivalN true (z.natAbs / y.natAbs)) (ivalN false (z.natAbs % y.natAbs)) e := by
 have D1 : Hid (∀ W (_ : Below w.heap.size w W), Calls Tryz.prog 125 #[.slice A xs.length c, .slice A2 ys.length c2] W fun e w' => DivOut W w' z.natAbs y.natAbs e) := fun W hW => Hv.divN (h.hv.next hW) (h2.hv.next hW) hK hJ
 obtain ⟨b0, b1, b2, b3⟩ := blk_four w (.bool false) (.slice A xs.length c) (.bool true) (.slice A2 ys.length c2) (.bool false) (.slice none 0 0) (.bool false) (.slice none 0 0)
 have k0 := bel_four w (.cells #[.bool false, .slice A xs.length c] 25) (.cells #[.bool true, .slice A2 ys.length c2] 25) (.cells #[.bool false, .slice none 0 0] 25) (.cells #[.bool false, .slice none 0 0] 25)
 have hy0 : ¬ y.natAbs = 0 := by omega
 have H := hi9 h
 have H2 := hi9 h2
 clear h h2
 go_enter Tryz.func107, Tryz.ntmps107
 go_wp2_with fail
 refine (D1.out _ k0).mono ?_
 rintro e w1 ⟨qs, rs, A1, c1, A3, c3, rfl, hq, hr, hresq, hresr, hb1⟩
 rw [if_neg hy0] at hr ⊢
 have k1 := bst k0 hb1 nl9
 replace b0 := b0.below hb1 b0.lt
 replace b1 := b1.below hb1 b1.lt
 replace b2 := b2.below hb1 b2.lt
 replace b3 := b3.below hb1 b3.lt
 have h := H.out
 have h2 := H2.out
 have F : Hid (∀ W (_ : Below w1.heap.size w1 W), Calls Tryz.prog 137 #[.agg #[.slice A1 qs.length c1, .slice A3 rs.length c3, .slice A2 ys.length c2]] W fun e w' => PairOut w.heap.size W w' false (z.natAbs / y.natAbs) (z.natAbs % y.natAbs) e) := by
  have hszz : w.heap.size ≤ ((((w.alloc (.cells #[.bool false, .slice A xs.length c] 25)).alloc (.cells #[.bool true, .slice A2 ys.length c2] 25)).alloc (.cells #[.bool false, .slice none 0 0] 25)).alloc (.cells #[.bool false, .slice none 0 0] 25)).heap.size := k0.size
  replace hresq := hresq.mono hszz
  replace hresr := hresr.mono hszz
  intro W hW
  exact whole_any hq hr (hresq.below hW nl9) (hresr.below hW nl9) _
 clear h h2 hq hr hresq hresr D1 H H2 hb1 k0 hy0
 have q1 : w.heap.size < w1.heap.size := b0.lt
 have q2 : w.heap.size + 1 < w1.heap.size := b1.lt
 have q3 : w.heap.size + 3 < w1.heap.size := b3.lt
 have n1 : w.heap.size ≠ w1.heap.size := by omega
 have n2 : w.heap.size + 1 ≠ w1.heap.size := by omega
 have n3 : w.heap.size ≠ w1.heap.size + 1 := by omega
 have n4 : w.heap.size + 1 ≠ w1.heap.size + 1 := by omega
 have n5 : w1.heap.size + 1 ≠ w.heap.size := by omega
 have n6 : w1.heap.size ≠ w.heap.size := by omega
 have n7 : w1.heap.size ≠ w.heap.size + 1 := by omega
 have n8 : w1.heap.size + 1 ≠ w.heap.size + 1 := by omega
 obtain ⟨p0, p1, _, _⟩ := b0.two
 obtain ⟨p2, p3, _, _⟩ := b1.two
 obtain ⟨vr, hvr⟩ : ∃ v, v = (false && decide (0 < (z.natAbs % y.natAbs))) := ⟨_, rfl⟩
 have Hvr := hi9 hvr
 clear hvr
 go_wp2
 go_cut [13, 14] (fun v13 v14 W => DivMid w (.bool false) (.slice A xs.length c) (.bool true) (.slice A2 ys.length c2) false (z.natAbs / y.natAbs) (z.natAbs % y.natAbs) v13 v14 W)
 case first =>
  have t1 : Blk (w1.alloc (.cells #[.func (.func 137) #[] #[], .func (.func 138) #[] #[], .func (.func 137) #[] #[], .func (.func 139) #[] #[]] 141)) w1.heap.size 141 [.func (.func 137) #[] #[], .func (.func 138) #[] #[], .func (.func 137) #[] #[], .func (.func 139) #[] #[]] := Blk.new_ rfl
  have TC : Hid (∀ W : World, Blk W w1.heap.size 141 [.func (.func 137) #[] #[], .func (.func 138) #[] #[], .func (.func 137) #[] #[], .func (.func 139) #[] #[]] → W.cell? ⟨w1.heap.size, 0, none⟩ = some (.func (.func 137) #[] #[])) := fun W hW => hW.cell 0
  have T1 := hi9 t1
  clear t1
  go_region_held3 (fun W => W.cell? ⟨w.heap.size, 0, none⟩ = some (.bool false) ∧ W.cell? ⟨w.heap.size + 1, 1, none⟩ = some (.slice A2 ys.length c2) ∧ W.cell? ⟨w1.heap.size, 0, none⟩ = some (.func (.func 137) #[] #[])) (go_keep) (first
   | (go_at_call 140; (with_reducible refine (place_f _).mono ?_); rintro e wp ⟨rfl, rfl⟩)
   | (go_at_call 137; (with_reducible refine (F.out _ (by repeat (first | exact br9 | apply bdw | (refine bdn ?_ _) | (refine bal ?_ nl9 _)))).mono ?_); rintro e w2 ⟨qz, rz, A5, c5, A7, c7, rfl, hqz, hrz, hresq2, hresr2, hb2⟩; rw [← Hvr.out]; have j2 : Below w1.heap.size w1 w2 := bst (by repeat (first | exact br9 | apply bdw | (refine bdn ?_ _) | (refine bal ?_ nl9 _))) hb2 nl9; have s2 := hb2.size; obtain ⟨hc, hf⟩ := bcell hb2; have g0 : w2.cell? ⟨w.heap.size, 0, none⟩ = some (.bool false) := (j2.cell (p := ⟨w.heap.size, 0, none⟩) q1).trans p0; have g1 : w2.cell? ⟨w.heap.size + 1, 1, none⟩ = some (.slice A2 ys.length c2) := (j2.cell (p := ⟨w.heap.size + 1, 1, none⟩) q2).trans p3; have g2 : w2.cell? ⟨w1.heap.size, 0, none⟩ = some (.func (.func 137) #[] #[]) := TC.out _ (Blk.below (by repeat (first | exact T1.out | apply Blk.drew | apply Blk.drewN | apply Blk.heapAlloc)) hb2 (by simp <;> omega)); clear s2))
  all_goals
   have k2 := bst k1 j2 nl9
   have s2 := j2.size
   have d0 := b0.below j2 b0.lt
   have d1 := b1.below j2 b1.lt
   have d2 := b2.below j2 b2.lt
   have d3 := b3.below j2 b3.lt
   go_wp2_with fail
   go_meet
   first
    | exact ⟨qz, rz, A5, c5, A7, c7, w2.heap.size, rfl, rfl, by omega, hqz, hrz, hresq2.below (bal br9 nl9 _) nl9, hresr2.below (bal br9 nl9 _) nl9, by rw [← Hvr.out]; exact Blk.new_ rfl, d0.heapAlloc _, d1.heapAlloc _, d2.heapAlloc _, d3.heapAlloc _, bal k2 nl9 _⟩
    | (have hG : Blk w2 (w1.heap.size + 1) 25 [.bool false, .slice none 0 0] := Blk.below (by repeat (first | exact blk_two rfl | apply Blk.drew | apply Blk.drewN)) hb2 (by simp <;> omega)
       exact ⟨qz, rz, A5, c5, A7, c7, w1.heap.size + 1, rfl, rfl, by omega, hqz, hrz, res_var2 hresq2 hG _ _, res_var2 hresr2 hG _ _, by rw [← Hvr.out]; exact blk_pair hG _ _, (d0.far (p := ⟨w1.heap.size + 1, 0, none⟩) (by show _ ≠ w1.heap.size + 1; omega) _).far (p := ⟨w1.heap.size + 1, 1, none⟩) (by show _ ≠ w1.heap.size + 1; omega) _, (d1.far (p := ⟨w1.heap.size + 1, 0, none⟩) (by show _ ≠ w1.heap.size + 1; omega) _).far (p := ⟨w1.heap.size + 1, 1, none⟩) (by show _ ≠ w1.heap.size + 1; omega) _, (d2.far (p := ⟨w1.heap.size + 1, 0, none⟩) (by show _ ≠ w1.heap.size + 1; omega) _).far (p := ⟨w1.heap.size + 1, 1, none⟩) (by show _ ≠ w1.heap.size + 1; omega) _, (d3.far (p := ⟨w1.heap.size + 1, 0, none⟩) (by show _ ≠ w1.heap.size + 1; omega) _).far (p := ⟨w1.heap.size + 1, 1, none⟩) (by show _ ≠ w1.heap.size + 1; omega) _, bsc (bsc k2 (by omega) _) (by omega) _⟩)
 case rest =>
  obtain ⟨qz, rz, A5, c5, A7, c7, gt, rfl, rfl, hgt, hqz, hrz, hrq, hrr, hG, d0, d1, d2, d3, kc⟩ := hcut
  clear b0 b1 b2 b3 p0 p1 p2 p3 F k1 q1 q2 q3 n1 n2 n3 n4 n5 n6 n7 n8 hy
  rw [← Hvr.out] at hG
  obtain ⟨vq, hvq⟩ : ∃ v, v = isNeg (ivalN true (z.natAbs / y.natAbs)) := ⟨_, rfl⟩
  have M : Hid (∀ W, Calls Tryz.prog 105 #[.bool true, .slice A5 qz.length c5] W fun e w' => e = .returned (.agg #[.bool vq, .slice A5 qz.length c5]) ∧ Below W.heap.size W w') := fun W => by
   have := made_num true (A := A5) (c := c5) _ hqz rfl W (res_len hrq)
   rwa [← hvq] at this
  have Hvq := hi9 hvq
  have hz := kc.size
  have x1 := hG.lt
  have n1 : w.heap.size + 1 + 1 ≠ w.heap.size := by omega
  have n2 : w.heap.size + 1 + 1 + 1 ≠ w.heap.size := by omega
  have n3 : w.heap.size + 1 + 1 + 1 ≠ w.heap.size + 1 := by omega
  have n4 : w.heap.size + 1 + 1 ≠ gt := by omega
  have n5 : w.heap.size + 1 + 1 + 1 ≠ gt := by omega
  have m1 : w.heap.size ≠ w.heap.size + 1 + 1 := by omega
  have m2 : w.heap.size ≠ w.heap.size + 1 + 1 + 1 := by omega
  have m3 : w.heap.size + 1 ≠ w.heap.size + 1 + 1 + 1 := by omega
  have m4 : gt ≠ w.heap.size + 1 + 1 := by omega
  have m5 : gt ≠ w.heap.size + 1 + 1 + 1 := by omega
  obtain ⟨p0, _, _, _⟩ := d0.two
  obtain ⟨p1, _, _, _⟩ := d1.two
  obtain ⟨p2, p3, _, _⟩ := hG.two
  have D0 := hi9 d0
  have D1 := hi9 d1
  have HG := hi9 hG
  clear hvq d0 d1 hG
  go_wp2
  go_region_held3 (fun W => W.cell? ⟨w.heap.size, 0, none⟩ = some (.bool false) ∧ W.cell? ⟨w.heap.size + 1, 0, none⟩ = some (.bool true) ∧ W.cell? ⟨gt, 0, none⟩ = some (.bool vr) ∧ W.cell? ⟨gt, 1, none⟩ = some (.slice A7 rz.length c7)) (go_keep) (first
   | (go_at_call 105; (with_reducible refine (M.out _).mono ?_); rintro e w5 ⟨rfl, hb5⟩; have j5 : Below wc.heap.size wc w5 := bst (by repeat (first | exact br9 | apply bdw | (refine bdn ?_ _) | (refine bal ?_ nl9 _))) hb5 nl9; obtain ⟨g0, _, _, _⟩ := (D0.out.below j5 D0.out.lt).two; obtain ⟨g1, _, _, _⟩ := (D1.out.below j5 D1.out.lt).two; obtain ⟨g2, g3, _, _⟩ := (HG.out.below j5 HG.out.lt).two; obtain ⟨y0, y1, y2, y3⟩ := (d2.below j5 d2.lt).two; obtain ⟨z0, z1, z2, z3⟩ := (d3.below j5 d3.lt).two))
  all_goals
   go_wp2_with fail
   have e2 := d2.below j5 d2.lt
   have e3 := d3.below j5 d3.lt
   have f2 : Blk ((((w5.setCell ⟨w.heap.size + 1 + 1, 0, none⟩ (.bool vq)).setCell ⟨w.heap.size + 1 + 1, 1, none⟩ (.slice A5 qz.length c5)).setCell ⟨w.heap.size + 1 + 1 + 1, 0, none⟩ (.bool vr)).setCell ⟨w.heap.size + 1 + 1 + 1, 1, none⟩ (.slice A7 rz.length c7)) (w.heap.size + 2) 25 [.bool vq, .slice A5 qz.length c5] := ((blk_pair e2 _ _).far (p := ⟨w.heap.size + 1 + 1 + 1, 0, none⟩) (by show _ ≠ w.heap.size + 1 + 1 + 1; omega) _).far (p := ⟨w.heap.size + 1 + 1 + 1, 1, none⟩) (by show _ ≠ w.heap.size + 1 + 1 + 1; omega) _
   have e4 : Blk ((w5.setCell ⟨w.heap.size + 1 + 1, 0, none⟩ (.bool vq)).setCell ⟨w.heap.size + 1 + 1, 1, none⟩ (.slice A5 qz.length c5)) (w.heap.size + 3) 25 [.bool false, .slice none 0 0] := (e3.far (p := ⟨w.heap.size + 1 + 1, 0, none⟩) (by show _ ≠ w.heap.size + 1 + 1; omega) _).far (p := ⟨w.heap.size + 1 + 1, 1, none⟩) (by show _ ≠ w.heap.size + 1 + 1; omega) _
   have f3 : Blk ((((w5.setCell ⟨w.heap.size + 1 + 1, 0, none⟩ (.bool vq)).setCell ⟨w.heap.size + 1 + 1, 1, none⟩ (.slice A5 qz.length c5)).setCell ⟨w.heap.size + 1 + 1 + 1, 0, none⟩ (.bool vr)).setCell ⟨w.heap.size + 1 + 1 + 1, 1, none⟩ (.slice A7 rz.length c7)) (w.heap.size + 3) 25 [.bool vr, .slice A7 rz.length c7] := blk_pair e4 _ _
   exact bodyPost_ret (results_zzs rfl rfl rfl f2 f3) rfl ⟨qz, rz, A5, c5, A7, c7, by rw [← Hvq.out, isNeg_ival, ← Hvr.out]; rfl, num_eq hqz (by rw [abs_ival]), num_eq hrz (by rw [abs_ival]), res_var2 (res_var2 (hrq.below j5 nl9) e2 _ _) e4 _ _, res_var2 (res_var2 (hrr.below j5 nl9) e2 _ _) e4 _ _, bsc (bsc (bsc (bsc (bst kc j5 nl9) (by omega) _) (by omega) _) (by omega) _) (by omega) _⟩
end
end Go.Proofs.YtbcphifjcaobfaaGreatDoor
