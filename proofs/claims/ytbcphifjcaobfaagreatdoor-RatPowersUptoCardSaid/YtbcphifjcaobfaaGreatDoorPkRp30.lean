/- The contracts of the reference's Trunc and Exact on integers. Variables behind new blocks. Fractions: what an operation answers; blocks of four cells; . -/
import Derived.Test.YtbcphifjcaobfaaGreatDoorPkRp29
import Derived.Test.YtbcphifjcaobfaaGreatDoorPkRp17
import Derived.Test.YtbcphifjcaobfaaGreatDoorPkRp20
import Derived.Deep.DeepCutAuto
namespace Go.Proofs.YtbcphifjcaobfaaGreatDoor
section
open Go.RowKit
def ZB (w w' : World) (q : Int) (ok : Bool) (e : Ending) : Prop := ∃ qs A1 c1, e = .returned (.tuple #[.agg #[.bool (isNeg q), .slice A1 qs.length c1], .bool ok]) ∧ Num 4294967296 qs q.natAbs ∧ Res w' w.heap.size 50 A1 c1 (u32s qs) ∧ Below w.heap.size w w'
theorem zb_ret {fn : Func} {a : Act} {w W : World} {p u : Tmp} {g : Nat} {x y : Value} {b ok : Bool} {Q : Int} {qs : List Nat} {A1 : Option Addr} {c1 : Nat} (k : Below w.heap.size w W) (hb : Blk W g 25 [x, y]) (hg : w.heap.size ≤ g)
  (hq : Num 4294967296 qs Q.natAbs) (rq : Res W w.heap.size 50 A1 c1 (u32s qs)) (hbq : b = isNeg Q) (hres0 : fn.results = #[.cell p 25, .tmp u]) (hp : a.tmps.getD p undef = .pointer (some ⟨g, 0, none⟩)) (hu : a.tmps.getD u undef = .bool ok) (hd : a.defers = []) :
  bodyPost Tryz.prog fn (fun e w' => ZB w w' Q ok e) .ret a ((W.setCell ⟨g, 0, none⟩ (.bool b)).setCell ⟨g, 1, none⟩ (.slice A1 qs.length c1)) := by
 subst hbq
 exact bodyPost_ret (results_zs hres0 hp (blk_pair hb _ _)) hd ⟨qs, A1, c1, by rw [hu], hq, res_var2 rq hb _ _, bsc (bsc k hg _) hg _⟩
section
variable {w : World} {g g2 : Bool} {A A2 : Option Addr} {c c2 K J : Nat} {xs ys : List Nat} {z y : Int}
theorem tdiv_held (h : ivalN g z.natAbs = z) (h2 : ivalN g2 y.natAbs = y) : Int.tdiv z y = ivalN (!(g == g2)) (z.natAbs / y.natAbs) := by
 have e := tdiv_ival g g2 z.natAbs y.natAbs
 rwa [h, h2] at e
theorem tmod_held (h : ivalN g z.natAbs = z) : (Int.tmod z y).natAbs = z.natAbs % y.natAbs := by
 have e := tmod_ival g (isNeg y) z.natAbs y.natAbs
 rw [h, ival_abs] at e
 rw [e, abs_ival]
set_option maxHeartbeats 6400000 in
theorem Zh.rtrunc (h : Zh w g A c xs z K) (h2 : Zh w g2 A2 c2 ys y J) (hy : y ≠ 0) (hKJ : K + J ≤ 67108863) :
  Calls Tryz.prog 142 #[.agg #[.bool g, .slice A xs.length c], .agg #[.bool g2, .slice A2 ys.length c2]] w fun e w' => ZZ w w' (Int.tdiv z y) (Int.tmod z y) e := by
 have DV : Hid (∀ W (_ : Below w.heap.size w W), Calls Tryz.prog 114 #[.slice A xs.length c, .slice A2 ys.length c2] W fun e w' => QOut W w' z.natAbs y.natAbs e) := fun W hW => (h.hv.next hW).rdiv (h2.hv.next hW) (by omega) (by omega) (by omega)
 have TD := tdiv_held h.sg h2.sg
 have HTD := hi9 TD
 have TA : (Int.tdiv z y).natAbs = z.natAbs / y.natAbs := by rw [TD, abs_ival]
 have HTA := hi9 TA
 have HTl : Hid ((Int.tdiv z y).natAbs < 4294967296 ^ K) := by show _ < _; rw [TA]; exact Nat.lt_of_le_of_lt (Nat.div_le_self _ _) h.lt
 have HMl : Hid ((Int.tmod z y).natAbs < 4294967296 ^ J) := by show _ < _; rw [tmod_held h.sg]; exact Nat.lt_trans (Nat.mod_lt _ (by omega)) h2.lt
 have HTM : Hid (z - Int.tdiv z y * y = Int.tmod z y) := by show _ = _; rw [Int.tmod_def, Int.mul_comm]
 have NM : Hid (∀ (qs : List Nat) (A1 : Option Addr) (c1 B9 : Nat) (wo W : World), Num 4294967296 qs (z.natAbs / y.natAbs) → Res wo B9 50 A1 c1 (u32s qs) → Below wo.heap.size wo W → Calls Tryz.prog 113 #[.agg #[.bool (!(g == g2)), .slice A1 qs.length c1]] W fun e w' => ZOut W w' (Int.tdiv z y) e) := fun qs A1 c1 B9 wo W hz hr hW => by
  have hv := (Hv.of (K := K) hz hr (Nat.lt_of_le_of_lt (Nat.div_le_self _ _) h.lt)).next hW
  exact Zh.rnorm (K := K) ⟨by rw [HTA.out]; exact hv, by rw [HTA.out]; exact HTD.out.symm⟩ (by omega)
 have H := hi9 h
 have H2 := hi9 h2
 obtain ⟨b0, b1, b2, b3⟩ := blk_four w (.bool g) (.slice A xs.length c) (.bool g2) (.slice A2 ys.length c2) (.bool false) (.slice none 0 0) (.bool false) (.slice none 0 0)
 have k0 := bel_four w (.cells #[.bool g, .slice A xs.length c] 25) (.cells #[.bool g2, .slice A2 ys.length c2] 25) (.cells #[.bool false, .slice none 0 0] 25) (.cells #[.bool false, .slice none 0 0] 25)
 clear h h2 hy TD TA
 go_enter Tryz.func142, Tryz.ntmps142
 go_wp2_with fail
 refine (DV.out _ k0).mono ?_
 rintro e w1 ⟨qs, rs, A1, c1, A3, c3, rfl, hq, hr, rq, rr, hb1⟩
 have k1 := bst k0 hb1 nl9
 replace b0 := b0.below hb1 b0.lt
 replace b1 := b1.below hb1 b1.lt
 replace b2 := b2.below hb1 b2.lt
 replace b3 := b3.below hb1 b3.lt
 obtain ⟨p0, p1, _, _⟩ := b0.two
 obtain ⟨q0, q1, _, _⟩ := b1.two
 go_wp2_with fail
 refine (NM.out qs A1 c1 _ w1 _ hq rq br9).mono ?_
 rintro e w2 ⟨zt, At, ct, rfl, hzt, hrt, hb2⟩
 clear hr rr hq rq p0 p1 q0 q1 DV NM
 have s1 := k1.size
 go_upto_region 3 with (fail)
 obtain ⟨w3, hw3⟩ : ∃ w3, w3 = w2.alloc (.cells #[.bool (isNeg (Int.tdiv z y)), .slice At zt.length ct] 25) := ⟨_, rfl⟩
 rw [← hw3]
 have j3 : Below w2.heap.size w2 w3 := by rw [hw3]; exact bel_one _ _
 have b8 : Blk w3 w2.heap.size 25 [.bool (isNeg (Int.tdiv z y)), .slice At zt.length ct] := by rw [hw3]; exact blk_one _ _ _
 have j13 := bst hb2 j3 nl9
 have k3 := bst k1 j13 nl9
 replace b0 := b0.below j13 b0.lt
 replace b1 := b1.below j13 b1.lt
 replace b2 := b2.below j13 b2.lt
 replace b3 := b3.below j13 b3.lt
 have RT := hi9 ((hrt.mono s1).below j3 nl9)
 have hT : Zh w3 (isNeg (Int.tdiv z y)) At ct zt (Int.tdiv z y) K := (Zn.shrink hzt RT.out HTl.out).zh
 have hA := H.out.next k3
 have hB := H2.out.next k3
 have ML : Hid (∀ W (_ : Below w3.heap.size w3 W), Calls Tryz.prog 88 #[.agg #[.bool (isNeg (Int.tdiv z y)), .slice At zt.length ct], .agg #[.bool g2, .slice A2 ys.length c2]] W fun e w' => ZOut W w' (Int.tdiv z y * y) e) := fun W hW => (hT.next hW).rmul (hB.next hW) (by omega)
 have SB : Hid (∀ (zm : List Nat) (Am : Option Addr) (cm B9 : Nat) (wo W : World), Below w3.heap.size w3 W → Num 4294967296 zm (Int.tdiv z y * y).natAbs → Res wo B9 50 Am cm (u32s zm) → Below wo.heap.size wo W → Calls Tryz.prog 115 #[.agg #[.bool g, .slice A xs.length c], .agg #[.bool (isNeg (Int.tdiv z y * y)), .slice Am zm.length cm]] W fun e w' => ZOut W w' (Int.tmod z y) e) := fun zm Am cm B9 wo W hW hn hr hb => by
  rw [← HTM.out]
  exact (hA.next hW).rsub ((Zn.shrink (K := K + J) hn hr (zprod_lt HTl.out hB.lt)).next hb).zh (by omega) (by omega)
 have B0 := hi9 b0
 have B1 := hi9 b1
 have B4 := hi9 b2
 have B5 := hi9 b3
 have B8 := hi9 b8
 obtain ⟨p0, p1, _, _⟩ := b0.two
 obtain ⟨q0, q1, _, _⟩ := b1.two
 obtain ⟨r0, r1, _, _⟩ := b8.two
 obtain ⟨t0, t1, t2, t3⟩ := b2.two
 obtain ⟨u0, u1, u2, u3⟩ := b3.two
 have s0 := k3.size
 have K3 := hi9 k3
 have Hzt := hi9 hzt
 clear hw3 j3 b8 j13 k3 b0 b1 b2 b3 hT hA hB k0 k1 s1 hrt hzt hb1 hb2
 have n1 : w.heap.size + 1 + 1 ≠ w.heap.size + 1 + 1 + 1 := by omega
 refine region_held_tail (fun W => W.cell? ⟨w2.heap.size, 0, none⟩ = some (.bool (isNeg (Int.tdiv z y))) ∧ W.cell? ⟨w2.heap.size, 1, none⟩ = some (.slice At zt.length ct) ∧ W.cell? ⟨w.heap.size, 0, none⟩ = some (.bool g) ∧ W.cell? ⟨w.heap.size, 1, none⟩ = some (.slice A xs.length c) ∧ W.cell? ⟨w.heap.size + 1, 0, none⟩ = some (.bool g2) ∧ W.cell? ⟨w.heap.size + 1, 1, none⟩ = some (.slice A2 ys.length c2)) 6 (by kernel_rfl) (by kernel_rfl) ?hSt1 (fun hHeld => ?_)
 case hSt1 => (try dsimp only); go_keep
 refine HeadW.take (i := 0) (v := ?v0t1) rfl (by kernel_rfl) (by decide) (by kernel_rfl) (by kernel_rfl) (fun _ _ _ h => h) (Or.inl ⟨by rfl, ?hy0t1⟩) (by assumption) ?rest0t1
 case hy0t1 => intro w hSw; (try dsimp only at hSw); (try simp only [List.getElem_toArray, List.getElem_cons_zero]); go_simp; (try with_reducible rfl)
 (try simp only [List.getElem_toArray, List.getElem_cons_zero, Act.put, List.setIfInBounds_toArray, List.set_cons_zero, List.set_cons_succ])
 refine HeadW.take (i := 1) (v := ?v1t1) rfl (by kernel_rfl) (by decide) (by kernel_rfl) (by kernel_rfl) (fun _ _ _ h => h) (Or.inl ⟨by rfl, ?hy1t1⟩) (by assumption) ?rest1t1
 case hy1t1 => intro w hSw; (try dsimp only at hSw); (try simp only [List.getElem_toArray, List.getElem_cons_succ, List.getElem_cons_zero]); go_simp; (try with_reducible rfl)
 (try simp only [List.getElem_toArray, List.getElem_cons_succ, List.getElem_cons_zero, Act.put, List.setIfInBounds_toArray, List.set_cons_zero, List.set_cons_succ])
 refine HeadW.take (i := 2) (v := ?v2t1) rfl (by kernel_rfl) (by decide) (by kernel_rfl) (by kernel_rfl) (fun _ _ _ h => h) (Or.inl ⟨by rfl, ?hy2t1⟩) (by assumption) ?rest2t1
 case hy2t1 => intro w hSw; (try dsimp only at hSw); (try simp only [List.getElem_toArray, List.getElem_cons_succ, List.getElem_cons_zero]); go_simp; (try with_reducible rfl)
 (try simp only [List.getElem_toArray, List.getElem_cons_succ, List.getElem_cons_zero, Act.put, List.setIfInBounds_toArray, List.set_cons_zero, List.set_cons_succ])
 refine HeadW.take (i := 3) (v := ?v3t1) rfl (by kernel_rfl) (by decide) (by kernel_rfl) (by kernel_rfl) (fun _ _ _ h => h) (Or.inl ⟨by rfl, ?hy3t1⟩) (by assumption) ?rest3t1
 case hy3t1 => intro w hSw; (try dsimp only at hSw); (try simp only [List.getElem_toArray, List.getElem_cons_succ, List.getElem_cons_zero]); go_simp; (try with_reducible rfl)
 (try simp only [List.getElem_toArray, List.getElem_cons_succ, List.getElem_cons_zero, Act.put, List.setIfInBounds_toArray, List.set_cons_zero, List.set_cons_succ])
 refine HeadW.one (i := 4) (by kernel_rfl) (by decide) rfl (fun K hK => ?_)
 go_simp
 (go_at_call 88; (with_reducible refine (ML.out _ (by repeat (first | exact br9 | exact jm | exact jb | apply bdw | (refine bdn ?_ _) | (refine bal ?_ nl9 _)))).mono ?_); rintro e wm ⟨zm, Am, cm, rfl, hzm, hrm, hbm⟩; have jm : Below w3.heap.size w3 wm := bst (by repeat (first | exact br9 | exact jm | exact jb | apply bdw | (refine bdn ?_ _) | (refine bal ?_ nl9 _))) hbm nl9; obtain ⟨x0m, y0m, _, _⟩ := (B8.out.below jm B8.out.lt).two; obtain ⟨x1m, y1m, _, _⟩ := (B0.out.below jm B0.out.lt).two; obtain ⟨x2m, y2m, _, _⟩ := (B1.out.below jm B1.out.lt).two; obtain ⟨x3m, y3m, u3m, v3m⟩ := (B4.out.below jm B4.out.lt).two; obtain ⟨x4m, y4m, u4m, v4m⟩ := (B5.out.below jm B5.out.lt).two)
 (try go_wp2_with fail)
 refine hK.out _ _ ?hS4t1 (fun hHeld2 => ?_)
 case hS4t1 => (try dsimp only); go_keep
 clear hK K hHeld
 have hHeld := hHeld2
 clear hHeld2
 (try simp only [List.getElem_toArray, List.getElem_cons_succ, List.getElem_cons_zero, Act.put, List.setIfInBounds_toArray, List.set_cons_zero, List.set_cons_succ])
 refine HeadW.one (i := 5) (by kernel_rfl) (by decide) rfl (fun K hK => ?_)
 go_simp
 (go_at_call 115; (with_reducible refine (SB.out zm Am cm _ wm _ (by repeat (first | exact br9 | exact jm | exact jb | apply bdw | (refine bdn ?_ _) | (refine bal ?_ nl9 _))) hzm hrm (by repeat (first | exact br9 | apply bdw | (refine bdn ?_ _)))).mono ?_); rintro e wb ⟨zb, Ab, cb, rfl, hzb, hrb, hbb⟩; have jb : Below w3.heap.size w3 wb := bst (by repeat (first | exact br9 | exact jm | exact jb | apply bdw | (refine bdn ?_ _) | (refine bal ?_ nl9 _))) hbb nl9; obtain ⟨x0b, y0b, _, _⟩ := (B8.out.below jb B8.out.lt).two; obtain ⟨x1b, y1b, _, _⟩ := (B0.out.below jb B0.out.lt).two; obtain ⟨x2b, y2b, _, _⟩ := (B1.out.below jb B1.out.lt).two; obtain ⟨x3b, y3b, u3b, v3b⟩ := (B4.out.below jb B4.out.lt).two; obtain ⟨x4b, y4b, u4b, v4b⟩ := (B5.out.below jb B5.out.lt).two)
 (try go_wp2_with fail)
 refine hK.out _ _ ?hS5t1 (fun hHeld2 => ?_)
 case hS5t1 => (try dsimp only); go_keep
 clear hK K hHeld
 have hHeld := hHeld2
 clear hHeld2
 (try simp only [List.getElem_toArray, List.getElem_cons_succ, List.getElem_cons_zero, Act.put, List.setIfInBounds_toArray, List.set_cons_zero, List.set_cons_succ])
 refine HeadW.done (by kernel_rfl) ?_
 simp only [List.drop_succ_cons, List.drop_zero]
 go_wp2_with fail
 have sm9 : w.heap.size ≤ wm.heap.size := Nat.le_trans s0 jm.size
 have F := vr_two (B := w.heap.size) (B4.out.below jb B4.out.lt) (B5.out.below jb B5.out.lt) n1 Hzt.out (RT.out.below jb nl9) (num32_len Hzt.out nl9 HTl.out) hzb (hrb.mono sm9) (num32_len hzb nl9 HMl.out)
 exact zz_ret (bsc4 (bst K3.out jb nl9) (by omega) (by omega)) F.1 F.2 rfl rfl rfl rfl
set_option maxHeartbeats 3200000 in
theorem Zh.rexact_yes (h : Zh w g A c xs z K) (h2 : Zh w g2 A2 c2 ys y J) (hy : y ≠ 0) (hKJ : K + J ≤ 67108863) (h0 : Int.tmod z y = 0) :
  Calls Tryz.prog 110 #[.agg #[.bool g, .slice A xs.length c], .agg #[.bool g2, .slice A2 ys.length c2]] w fun e w' => ZB w w' (Int.tdiv z y) true e := by
 have TR : Hid (∀ W (_ : Below w.heap.size w W), Calls Tryz.prog 142 #[.agg #[.bool g, .slice A xs.length c], .agg #[.bool g2, .slice A2 ys.length c2]] W fun e w' => ZZ W w' (Int.tdiv z y) (Int.tmod z y) e) := fun W hW => (h.next hW).rtrunc (h2.next hW) hy hKJ
 have HMl : Hid ((Int.tmod z y).natAbs < 4294967296 ^ J) := by show _ < _; rw [tmod_held h.sg]; exact Nat.lt_trans (Nat.mod_lt _ (by omega)) h2.lt
 obtain ⟨b0, b1, b2⟩ := blk_three w (.bool g) (.slice A xs.length c) (.bool g2) (.slice A2 ys.length c2) (.bool false) (.slice none 0 0)
 have k0 := bel_three w (.cells #[.bool g, .slice A xs.length c] 25) (.cells #[.bool g2, .slice A2 ys.length c2] 25) (.cells #[.bool false, .slice none 0 0] 25)
 obtain ⟨sg, hsg⟩ : ∃ s, s = (Int.tmod z y).sign := ⟨_, rfl⟩
 have hs8 : sg = 0 := by rcases sign_cases (Int.tmod z y) with ⟨a, b⟩ | ⟨a, b⟩ | ⟨a, b⟩ <;> rw [hsg, b] <;> first | omega | simp
 have HS8 := hi9 hs8
 have Hsg := hi9 hsg
 clear h h2 hy hsg h0 hs8
 go_enter Tryz.func110, Tryz.ntmps110
 go_wp2_with fail
 refine (TR.out _ k0).mono ?_
 rintro e w1 ⟨qs, rs, A1, c1, A3, c3, rfl, hq, hr, rq, rr, hb1⟩
 have hsz := k0.size
 have k1 := bst k0 hb1 nl9
 have b2' := b2.below hb1 b2.lt
 obtain ⟨b6, b7⟩ := blk_pair2 w1 (.bool (isNeg (Int.tdiv z y))) (.slice A1 qs.length c1) (.bool (isNeg (Int.tmod z y))) (.slice A3 rs.length c3)
 have j2 := bel_two w1 (.cells #[.bool (isNeg (Int.tdiv z y)), .slice A1 qs.length c1] 25) (.cells #[.bool (isNeg (Int.tmod z y)), .slice A3 rs.length c3] 25)
 go_upto_region 2 with (fail)
 obtain ⟨w2, hw2⟩ : ∃ w2, w2 = (w1.alloc (.cells #[.bool (isNeg (Int.tdiv z y)), .slice A1 qs.length c1] 25)).alloc (.cells #[.bool (isNeg (Int.tmod z y)), .slice A3 rs.length c3] 25) := ⟨_, rfl⟩
 rw [← hw2] at b6 b7 j2 ⊢
 clear hw2
 have k2 := bst k1 j2 nl9
 have B4 := hi9 (b2'.below j2 b2'.lt)
 have RQ := hi9 ((rq.mono hsz).below j2 nl9)
 have SG : Hid (∀ W (_ : Below w2.heap.size w2 W), Calls Tryz.prog 71 #[.agg #[.bool (isNeg (Int.tmod z y)), .slice A3 rs.length c3]] W fun e w' => e = .returned (.int .i64 sg) ∧ Below W.heap.size W w') := fun W hW => by rw [Hsg.out]; exact ((Zn.shrink hr ((rr.mono hsz).below j2 nl9) HMl.out).zh.next hW).rsign (by omega)
 have B6 := hi9 b6
 obtain ⟨p0, p1, _, _⟩ := b7.two
 have Hq := hi9 hq
 clear TR hr rr rq b0 b1 b2 b2' k0 k1 b6 b7 hb1 j2 hq hsz
 go_wp2_with fail
 refine (SG.out _ br9).mono ?_
 rintro e w3 ⟨rfl, hb3⟩
 clear p0 p1 SG
 have k3 := bst k2 hb3 nl9
 have b4 := B4.out.below hb3 B4.out.lt
 obtain ⟨t0, t1, t2, t3⟩ := b4.two
 obtain ⟨p0, p1, _, _⟩ := (B6.out.below hb3 B6.out.lt).two
 clear Hsg
 obtain rfl := HS8.out
 all_goals
  clear HS8
  go_wp2_with fail
  exact zb_ret k3 b4 (by omega) Hq.out (RQ.out.below hb3 nl9) rfl rfl rfl rfl rfl
end
end
section
open Go.RowKit
end
section
open Go.RowKit
theorem Blk.four {w : World} {g : Nat} {t : TypeId} {a b c d : Value} (h : Blk w g t [a, b, c, d]) : w.cell? ⟨g, 0, none⟩ = some a ∧ w.cell? ⟨g, 1, none⟩ = some b ∧ w.cell? ⟨g, 2, none⟩ = some c ∧ w.cell? ⟨g, 3, none⟩ = some d ∧ w.frozen? ⟨g, 0, none⟩ = false ∧ w.frozen? ⟨g, 1, none⟩ = false ∧ w.frozen? ⟨g, 2, none⟩ = false ∧ w.frozen? ⟨g, 3, none⟩ = false :=
 ⟨h.cell 0, h.cell 1, h.cell 2, h.cell 3, h.frozen 0, h.frozen 1, h.frozen 2, h.frozen 3⟩
theorem blk_quad {w : World} {g : Nat} {t : TypeId} {x y z u : Value} (h : Blk w g t [x, y, z, u]) (a b c d : Value) : Blk ((((w.setCell ⟨g, 0, none⟩ a).setCell ⟨g, 1, none⟩ b).setCell ⟨g, 2, none⟩ c).setCell ⟨g, 3, none⟩ d) g t [a, b, c, d] := by
 have k := (((h.set_ 0 a).set_ 1 b).set_ 2 c).set_ 3 d
 simpa using k
theorem type_ne_rat : 50 ≠ 27 := by decide
theorem res_rat {W : World} {B g i : Nat} {A : Option Addr} {c : Nat} {vs L : List Value} (h : Res W B 50 A c vs) (hB : Blk W g 27 L) (u : Value) : Res (W.setCell ⟨g, i, none⟩ u) B 50 A c vs :=
 ⟨h.1, h.2.1, fun hn => by
  obtain ⟨b, rest, e, hb, hk, hc⟩ := h.2.2 hn
  refine ⟨b, rest, e, hb, hk.far (p := ⟨g, i, none⟩) ?_ _, hc⟩
  rintro rfl
  unfold Blk at hk hB
  rw [hk] at hB
  have hB2 := Option.some.inj hB
  injection hB2 with _ e2 _
  exact type_ne_rat e2⟩
theorem res_rat4 {W : World} {B g : Nat} {A : Option Addr} {c : Nat} {vs L : List Value} (h : Res W B 50 A c vs) (hB : Blk W g 27 L) (x y z u : Value) : Res ((((W.setCell ⟨g, 0, none⟩ x).setCell ⟨g, 1, none⟩ y).setCell ⟨g, 2, none⟩ z).setCell ⟨g, 3, none⟩ u) B 50 A c vs :=
 res_rat (res_rat (res_rat (res_rat h hB x) (hB.set_ 0 x) y) ((hB.set_ 0 x).set_ 1 y) z) (((hB.set_ 0 x).set_ 1 y).set_ 2 z) u
def ROut (w w' : World) (n d : Int) (e : Ending) : Prop := ∃ zs A1 c1 ys A2 c2, e = .returned (.agg #[.bool (isNeg n), .slice A1 zs.length c1, .bool (isNeg d), .slice A2 ys.length c2]) ∧ Num 4294967296 zs n.natAbs ∧ Num 4294967296 ys d.natAbs ∧ Res w' w.heap.size 50 A1 c1 (u32s zs) ∧ Res w' w.heap.size 50 A2 c2 (u32s ys) ∧ Below w.heap.size w w'
theorem rret {fn : Func} {a : Act} {w W : World} {p : Tmp} {r : Nat} {b b2 : Bool} {x y z u : Value} {n d : Int} {zs ys : List Nat} {A1 A2 : Option Addr} {c1 c2 : Nat} (hbel : Below w.heap.size w W) (hB : Blk W r 27 [x, y, z, u]) (hr : w.heap.size ≤ r)
  (hz : Num 4294967296 zs n.natAbs) (hy : Num 4294967296 ys d.natAbs) (r1 : Res W w.heap.size 50 A1 c1 (u32s zs)) (r2 : Res W w.heap.size 50 A2 c2 (u32s ys)) (hb : b = isNeg n) (hb2 : b2 = isNeg d) (hres0 : fn.results = #[.cell p 27]) (hp : a.tmps.getD p undef = .pointer (some ⟨r, 0, none⟩)) (hd : a.defers = []) :
  bodyPost Tryz.prog fn (fun e w' => ROut w w' n d e) .ret a ((((W.setCell ⟨r, 0, none⟩ (.bool b)).setCell ⟨r, 1, none⟩ (.slice A1 zs.length c1)).setCell ⟨r, 2, none⟩ (.bool b2)).setCell ⟨r, 3, none⟩ (.slice A2 ys.length c2)) := by
 subst hb hb2
 exact bodyPost_ret (results_cell_row hres0 _ _ r 27 _ (0, 0) _ hp (blk_quad hB _ _ _ _) Tryz.underlying27 rfl (by kernel_rfl)) hd
  ⟨zs, A1, c1, ys, A2, c2, rfl, hz, hy, res_rat4 r1 hB _ _ _ _, res_rat4 r2 hB _ _ _ _, bsc (bsc (bsc (bsc hbel hr _) hr _) hr _) hr _⟩
section
variable {w : World} {g g2 : Bool} {A A2 : Option Addr} {c c2 K J : Nat} {xs ys : List Nat} {z y : Int}
theorem one_dec (h : ivalN g z.natAbs = z) : ((((bitsOf z.natAbs : Nat) : Int) == 1) && !g) = decide (z = 1) := by
 by_cases h1 : z.natAbs = 1
 ·have e : bitsOf z.natAbs = 1 := (bits_one _).2 h1
  rw [e]
  cases g with
  | false =>
   have : z = 1 := by rw [← h, h1]; rfl
   simp [this]
  | true =>
   have : z = -1 := by rw [← h, h1]; rfl
   simp [this]
 ·have e : bitsOf z.natAbs ≠ 1 := fun e => h1 ((bits_one _).1 e)
  have e2 : (((bitsOf z.natAbs : Nat) : Int) == 1) = false := beq_eq_false_iff_ne.2 (by omega)
  have e3 : decide (z = 1) = false := decide_eq_false (fun e => h1 (by rw [e]; rfl))
  rw [e2, e3]; rfl
theorem isone_any (h : Zh w g A c xs z K) (hK : K ≤ 67108864) : Calls Tryz.prog 83 #[.agg #[.bool g, .slice A xs.length c]] w fun e w' => e = .returned (.bool (decide (z = 1))) ∧ Below w.heap.size w w' := by
 have k0 := bel_one w (.cells #[.bool g, .slice A xs.length c] 25)
 have b0 := blk_one w (.bool g) (.slice A xs.length c)
 have LN := hi9 ((h.next k0).hv.nlen hK)
 have hd := one_dec h.sg
 obtain ⟨bv, hbv⟩ : ∃ v, v = decide (z = 1) := ⟨_, rfl⟩
 obtain ⟨n, hn⟩ : ∃ v, v = bitsOf z.natAbs := ⟨_, rfl⟩
 rw [← hn] at LN hd
 rw [← hbv] at hd ⊢
 clear h hn hbv
 obtain ⟨p0, p1, _, _⟩ := b0.two
 by_cases h1 : n = 1
 ·subst h1
  have e : bv = !g := by rw [← hd]; rfl
  subst e
  clear hd
  cases g with
  | false =>
   go_enter Tryz.func83, Tryz.ntmps83
   go_wp2_with fail
   refine LN.out.mono ?_
   rintro e w1 ⟨rfl, rfl⟩
   go_wp2_with fail
   go_ret
   exact ⟨rfl, k0⟩
  | true =>
   go_enter Tryz.func83, Tryz.ntmps83
   go_wp2_with fail
   refine LN.out.mono ?_
   rintro e w1 ⟨rfl, rfl⟩
   go_wp2_with fail
   go_ret
   exact ⟨rfl, k0⟩
 ·have t1 : ((n : Int) == 1) = false := beq_eq_false_iff_ne.2 (by omega)
  have e : bv = false := by rw [← hd, t1]; rfl
  subst e
  clear hd
  go_enter Tryz.func83, Tryz.ntmps83
  go_wp2_with fail
  refine LN.out.mono ?_
  rintro e w1 ⟨rfl, rfl⟩
  go_wp2_with fail
  go_ret
  exact ⟨rfl, k0⟩
def upN (z y : Int) : Int := if y < 0 then -z else z
def upD (y : Int) : Int := (y.natAbs : Nat)
theorem up_false (h : ivalN false y.natAbs = y) : upN z y = z ∧ upD y = y := by
 have : 0 ≤ y := by rw [← h]; exact Int.natCast_nonneg _
 unfold upN upD
 rw [if_neg (by omega)]
 exact ⟨rfl, by omega⟩
theorem up_true (h : ivalN true y.natAbs = y) (hy : y ≠ 0) : upN z y = -z ∧ upD y = -y := by
 have : y < 0 := by
  have h2 : y = -(y.natAbs : Int) := h.symm
  omega
 unfold upN upD
 rw [if_pos this]
 exact ⟨rfl, by omega⟩
set_option maxHeartbeats 3200000 in
theorem up_no : Calls Tryz.prog 69 #[.agg #[.bool g, .slice A xs.length c], .agg #[.bool false, .slice A2 ys.length c2]] w fun e w' => e = .returned (.tuple #[.agg #[.bool g, .slice A xs.length c], .agg #[.bool false, .slice A2 ys.length c2]]) ∧ Below w.heap.size w w' := by
 obtain ⟨b0, b1, b2, b3⟩ := blk_four w (.bool g) (.slice A xs.length c) (.bool false) (.slice A2 ys.length c2) (.bool false) (.slice none 0 0) (.bool false) (.slice none 0 0)
 have k0 := bel_four w (.cells #[.bool g, .slice A xs.length c] 25) (.cells #[.bool false, .slice A2 ys.length c2] 25) (.cells #[.bool false, .slice none 0 0] 25) (.cells #[.bool false, .slice none 0 0] 25)
 go_enter Tryz.func69, Tryz.ntmps69
 go_upto_region 1 with fail
 obtain ⟨w0, hw0⟩ : ∃ v, v = (((w.alloc (.cells #[.bool g, .slice A xs.length c] 25)).alloc (.cells #[.bool false, .slice A2 ys.length c2] 25)).alloc (.cells #[.bool false, .slice none 0 0] 25)).alloc (.cells #[.bool false, .slice none 0 0] 25) := ⟨_, rfl⟩
 rw [← hw0] at b0 b1 b2 b3 k0 ⊢
 clear hw0
 obtain ⟨p0, p1, _, _⟩ := b0.two
 obtain ⟨q0, q1, _, _⟩ := b1.two
 obtain ⟨_, _, f0, f1⟩ := b2.two
 obtain ⟨_, _, f2, f3⟩ := b3.two
 have n1 : w.heap.size + 2 ≠ w.heap.size + 3 := by omega
 have n2 := Ne.symm n1
 go_upto_region 3 with fail
 go_region
 all_goals
  go_wp2_with fail
  first
   | exact bodyPost_ret (results_zz rfl rfl rfl (((blk_pair b2 _ _).far (p := ⟨w.heap.size + 3, 0, none⟩) n1 _).far (p := ⟨w.heap.size + 3, 1, none⟩) n1 _) (blk_pair ((b3.far (p := ⟨w.heap.size + 2, 0, none⟩) n2 _).far (p := ⟨w.heap.size + 2, 1, none⟩) n2 _) _ _)) rfl ⟨rfl, (by repeat (first | exact k0 | apply bdw | (refine bdn ?_ _) | (refine bsc ?_ (by omega) _)))⟩
   | exact bodyPost_ret (results_zz rfl rfl rfl (blk_pair ((b2.far (p := ⟨w.heap.size + 3, 0, none⟩) n1 _).far (p := ⟨w.heap.size + 3, 1, none⟩) n1 _) _ _) (((blk_pair b3 _ _).far (p := ⟨w.heap.size + 2, 0, none⟩) n2 _).far (p := ⟨w.heap.size + 2, 1, none⟩) n2 _)) rfl ⟨rfl, (by repeat (first | exact k0 | apply bdw | (refine bdn ?_ _) | (refine bsc ?_ (by omega) _)))⟩
set_option maxHeartbeats 6400000 in
theorem up_yes (h : Zh w g A c xs z K) (h2 : Zh w g2 A2 c2 ys y J) (hg : g2 = true) (hK : K ≤ 67108864) (hJ : J ≤ 67108864) : Calls Tryz.prog 69 #[.agg #[.bool g, .slice A xs.length c], .agg #[.bool g2, .slice A2 ys.length c2]] w fun e w' => ZZ w w' (-z) (-y) e := by
 subst hg
 obtain ⟨b0, b1, b2, b3⟩ := blk_four w (.bool g) (.slice A xs.length c) (.bool true) (.slice A2 ys.length c2) (.bool false) (.slice none 0 0) (.bool false) (.slice none 0 0)
 have k0 := bel_four w (.cells #[.bool g, .slice A xs.length c] 25) (.cells #[.bool true, .slice A2 ys.length c2] 25) (.cells #[.bool false, .slice none 0 0] 25) (.cells #[.bool false, .slice none 0 0] 25)
 have NA : Hid (∀ W (_ : Below w.heap.size w W), Calls Tryz.prog 81 #[.agg #[.bool g, .slice A xs.length c]] W fun e w' => ZOut W w' (-z) e) := fun W hW => (h.next hW).neg hK
 have NB : Hid (∀ W (_ : Below w.heap.size w W), Calls Tryz.prog 81 #[.agg #[.bool true, .slice A2 ys.length c2]] W fun e w' => ZOut W w' (-y) e) := fun W hW => (h2.next hW).neg hJ
 have hz9 := h.lt
 have hy9 := h2.lt
 clear h h2
 go_enter Tryz.func69, Tryz.ntmps69
 go_upto_region 1 with fail
 obtain ⟨w0, hw0⟩ : ∃ v, v = (((w.alloc (.cells #[.bool g, .slice A xs.length c] 25)).alloc (.cells #[.bool true, .slice A2 ys.length c2] 25)).alloc (.cells #[.bool false, .slice none 0 0] 25)).alloc (.cells #[.bool false, .slice none 0 0] 25) := ⟨_, rfl⟩
 rw [← hw0] at b0 b1 b2 b3 k0 ⊢
 clear hw0
 have la9 : (-z).natAbs < 4294967296 ^ K := by rw [Int.natAbs_neg]; exact hz9
 have lb9 : (-y).natAbs < 4294967296 ^ J := by rw [Int.natAbs_neg]; exact hy9
 have n1 : w.heap.size + 2 ≠ w.heap.size + 3 := by omega
 have s0 : w.heap.size ≤ w0.heap.size := k0.size
 obtain ⟨p0, p1, _, _⟩ := b0.two
 obtain ⟨q0, q1, _, _⟩ := b1.two
 obtain ⟨_, _, f0, f1⟩ := b2.two
 obtain ⟨_, _, f2, f3⟩ := b3.two
 have B0 := hi9 b0
 have B1 := hi9 b1
 have B2 := hi9 b2
 have B3 := hi9 b3
 have K0 := hi9 k0
 clear b0 b1 b2 b3 k0
 go_upto_region 2 with fail
 refine region_held_tail (fun W => W.cell? ⟨w.heap.size, 0, none⟩ = some (.bool g) ∧ W.cell? ⟨w.heap.size, 1, none⟩ = some (.slice A xs.length c) ∧ W.cell? ⟨w.heap.size + 1, 0, none⟩ = some (.bool true) ∧ W.cell? ⟨w.heap.size + 1, 1, none⟩ = some (.slice A2 ys.length c2)) 4 (by kernel_rfl) (by kernel_rfl) ?hSt1 (fun hHeld => ?_)
 case hSt1 => (try dsimp only); go_keep
 refine HeadW.take (i := 0) (v := ?v0t1) rfl (by kernel_rfl) (by decide) (by kernel_rfl) (by kernel_rfl) (fun _ _ _ h => h) (Or.inl ⟨by rfl, ?hy0t1⟩) (by assumption) ?rest0t1
 case hy0t1 => intro w hSw; (try dsimp only at hSw); (try simp only [List.getElem_toArray, List.getElem_cons_zero]); go_simp; (try with_reducible rfl)
 (try simp only [List.getElem_toArray, List.getElem_cons_zero, Act.put, List.setIfInBounds_toArray, List.set_cons_zero, List.set_cons_succ])
 refine HeadW.take (i := 2) (v := ?v2t1) rfl (by kernel_rfl) (by decide) (by kernel_rfl) (by kernel_rfl) (fun _ _ _ h => h) (Or.inl ⟨by rfl, ?hy2t1⟩) (by assumption) ?rest2t1
 case hy2t1 => intro w hSw; (try dsimp only at hSw); (try simp only [List.getElem_toArray, List.getElem_cons_succ, List.getElem_cons_zero]); go_simp; (try with_reducible rfl)
 (try simp only [List.getElem_toArray, List.getElem_cons_succ, List.getElem_cons_zero, Act.put, List.setIfInBounds_toArray, List.set_cons_zero, List.set_cons_succ])
 refine HeadW.one (i := 1) (by kernel_rfl) (by decide) rfl (fun K hK => ?_)
 go_simp
 (go_at_call 81; (with_reducible refine (NA.out _ (bst K0.out (by repeat (first | exact br9 | exact ja | exact jb | apply bdw | (refine bdn ?_ _) | (refine bal ?_ nl9 _))) nl9)).mono ?_); rintro e wa ⟨za, Aa, ca, rfl, hza, hra, hba⟩; have ja : Below w0.heap.size w0 wa := bst (by repeat (first | exact br9 | exact ja | exact jb | apply bdw | (refine bdn ?_ _) | (refine bal ?_ nl9 _))) hba nl9; obtain ⟨x0a, y0a, _, _⟩ := (B0.out.below ja B0.out.lt).two; obtain ⟨x1a, y1a, _, _⟩ := (B1.out.below ja B1.out.lt).two; obtain ⟨x2a, y2a, u2a, v2a⟩ := (B2.out.below ja B2.out.lt).two; obtain ⟨x3a, y3a, u3a, v3a⟩ := (B3.out.below ja B3.out.lt).two)
 (try go_wp2_with fail)
 refine hK.out _ _ ?hS1t1 (fun hHeld2 => ?_)
 case hS1t1 => (try dsimp only); go_keep
 clear hK K hHeld
 have hHeld := hHeld2
 clear hHeld2
 (try simp only [List.getElem_toArray, List.getElem_cons_succ, List.getElem_cons_zero, Act.put, List.setIfInBounds_toArray, List.set_cons_zero, List.set_cons_succ])
 refine HeadW.one (i := 3) (by kernel_rfl) (by decide) rfl (fun K hK => ?_)
 go_simp
 (go_at_call 81; (with_reducible refine (NB.out _ (bst K0.out (by repeat (first | exact br9 | exact ja | exact jb | apply bdw | (refine bdn ?_ _) | (refine bal ?_ nl9 _))) nl9)).mono ?_); rintro e wb ⟨zb, Ab, cb, rfl, hzb, hrb, hbb⟩; have jb : Below w0.heap.size w0 wb := bst (by repeat (first | exact br9 | exact ja | exact jb | apply bdw | (refine bdn ?_ _) | (refine bal ?_ nl9 _))) hbb nl9; obtain ⟨x0b, y0b, _, _⟩ := (B0.out.below jb B0.out.lt).two; obtain ⟨x1b, y1b, _, _⟩ := (B1.out.below jb B1.out.lt).two; obtain ⟨x2b, y2b, u2b, v2b⟩ := (B2.out.below jb B2.out.lt).two; obtain ⟨x3b, y3b, u3b, v3b⟩ := (B3.out.below jb B3.out.lt).two)
 (try go_wp2_with fail)
 refine hK.out _ _ ?hS3t1 (fun hHeld2 => ?_)
 case hS3t1 => (try dsimp only); go_keep
 clear hK K hHeld
 have hHeld := hHeld2
 clear hHeld2
 (try simp only [List.getElem_toArray, List.getElem_cons_succ, List.getElem_cons_zero, Act.put, List.setIfInBounds_toArray, List.set_cons_zero, List.set_cons_succ])
 refine HeadW.done (by kernel_rfl) ?_
 simp only [List.drop_succ_cons, List.drop_zero]
 all_goals
  go_wp2_with fail
  have sa9 : w.heap.size ≤ wa.heap.size := Nat.le_trans s0 ja.size
  have F := vr_two (B := w.heap.size) (B2.out.below jb B2.out.lt) (B3.out.below jb B3.out.lt) n1 hza ((hra.mono s0).below hbb nl9) (num32_len hza nl9 la9) hzb (hrb.mono sa9) (num32_len hzb nl9 lb9)
  exact zz_ret (bsc4 (bst K0.out jb nl9) (by omega) (by omega)) F.1 F.2 rfl rfl rfl rfl
end
end
end Go.Proofs.YtbcphifjcaobfaaGreatDoor
