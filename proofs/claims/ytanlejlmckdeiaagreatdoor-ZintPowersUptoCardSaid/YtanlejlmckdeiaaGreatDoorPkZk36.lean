/- The contracts of the reference's Trunc and Exact on integers. Conditions: at most 2^26 - 1 limbs in all; the divisor is not 0. Variables behind new blocks. No conditions. -/
import Derived.Test.YtanlejlmckdeiaaGreatDoorPkZk35
import Derived.Test.YtanlejlmckdeiaaGreatDoorPkZk17
namespace Go.Proofs.YtanlejlmckdeiaaGreatDoor
section
open Go.RowKit

/-- What a call answers that tells an integer and a truth value. -/
def ZB (w w' : World) (q : Int) (ok : Bool) (e : Ending) : Prop := ∃ qs A1 c1, e = .returned (.tuple #[.agg #[.bool (isNeg q), .slice A1 qs.length c1], .bool ok]) ∧ Num 4294967296 qs q.natAbs ∧ Res w' w.heap.size 61 A1 c1 (u32s qs) ∧ Below w.heap.size w w'
theorem zb_ret {fn : Func} {a : Act} {w W : World} {p u : Tmp} {g : Nat} {x y : Value} {b ok : Bool} {Q : Int} {qs : List Nat} {A1 : Option Addr} {c1 : Nat} (k : Below w.heap.size w W) (hb : Blk W g 28 [x, y]) (hg : w.heap.size ≤ g)
    (hq : Num 4294967296 qs Q.natAbs) (rq : Res W w.heap.size 61 A1 c1 (u32s qs)) (hbq : b = isNeg Q) (hres0 : fn.results = #[.cell p 28, .tmp u]) (hp : a.tmps.getD p undef = .pointer (some ⟨g, 0, none⟩)) (hu : a.tmps.getD u undef = .bool ok) (hd : a.defers = []) :
    bodyPost Tryz.prog fn (fun e w' => ZB w w' Q ok e) .ret a ((W.setCell ⟨g, 0, none⟩ (.bool b)).setCell ⟨g, 1, none⟩ (.slice A1 qs.length c1)) := by
  subst hbq
  exact bodyPost_ret (results_zs hres0 hp (blk_pair hb _ _)) hd ⟨qs, A1, c1, by rw [hu], hq, res_var2 rq hb _ _, bsc (bsc k hg _) hg _⟩
section
variable {w : World} {g g2 : Bool} {A A2 : Option Addr} {c c2 K J : Nat} {xs ys : List Nat} {z y : Int}
theorem tdiv_held (h : ivalN g z.natAbs = z) (h2 : ivalN g2 y.natAbs = y) : Int.tdiv z y = ivalN (!(g == g2)) (z.natAbs / y.natAbs) := by
  have e := tdiv_ival g g2 z.natAbs y.natAbs
  rwa [h, h2] at e
theorem tmod_held (h : ivalN g z.natAbs = z) : (Int.tmod z y).natAbs = z.natAbs % y.natAbs := by
  have e := tmod_ival g (isNeg y) z.natAbs y.natAbs
  rw [h, ival_abs] at e
  rw [e, abs_ival]

set_option maxHeartbeats 6400000 in
theorem Zh.rtrunc (h : Zh w g A c xs z K) (h2 : Zh w g2 A2 c2 ys y J) (hy : y ≠ 0) (hKJ : K + J ≤ 67108863) :
    Calls Tryz.prog 78 #[.agg #[.bool g, .slice A xs.length c], .agg #[.bool g2, .slice A2 ys.length c2]] w fun e w' => ZZ w w' (Int.tdiv z y) (Int.tmod z y) e := by
  have DV : Hid (∀ W (_ : Below w.heap.size w W), Calls Tryz.prog 115 #[.slice A xs.length c, .slice A2 ys.length c2] W fun e w' => QOut W w' z.natAbs y.natAbs e) := fun W hW => (h.hv.next hW).rdiv (h2.hv.next hW) (by omega) (by omega) (by omega)
  have TD := tdiv_held h.sg h2.sg
  have HTD := Lib.hid TD
  have TA : (Int.tdiv z y).natAbs = z.natAbs / y.natAbs := by rw [TD, abs_ival]
  have HTA := Lib.hid TA
  have HTl : Hid ((Int.tdiv z y).natAbs < 4294967296 ^ K) := by show _ < _; rw [TA]; exact Nat.lt_of_le_of_lt (Nat.div_le_self _ _) h.lt
  have HMl : Hid ((Int.tmod z y).natAbs < 4294967296 ^ J) := by show _ < _; rw [tmod_held h.sg]; exact Nat.lt_trans (Nat.mod_lt _ (by omega)) h2.lt
  have HTM : Hid (z - Int.tdiv z y * y = Int.tmod z y) := by show _ = _; rw [Int.tmod_def, Int.mul_comm]
  have NM : Hid (∀ (qs : List Nat) (A1 : Option Addr) (c1 B9 : Nat) (wo W : World), Num 4294967296 qs (z.natAbs / y.natAbs) → Res wo B9 61 A1 c1 (u32s qs) → Below wo.heap.size wo W → Calls Tryz.prog 56 #[.agg #[.bool (!(g == g2)), .slice A1 qs.length c1]] W fun e w' => ZOut W w' (Int.tdiv z y) e) := fun qs A1 c1 B9 wo W hz hr hW => by
    have hv := (Hv.of (K := K) hz hr (Nat.lt_of_le_of_lt (Nat.div_le_self _ _) h.lt)).next hW
    exact Zh.rnorm (K := K) ⟨by rw [HTA.out]; exact hv, by rw [HTA.out]; exact HTD.out.symm⟩ (by omega)
  have H := Lib.hid h
  have H2 := Lib.hid h2
  obtain ⟨b0, b1, b2, b3⟩ := blk_four w (.bool g) (.slice A xs.length c) (.bool g2) (.slice A2 ys.length c2) (.bool false) (.slice none 0 0) (.bool false) (.slice none 0 0)
  have k0 := bel_four w (.cells #[.bool g, .slice A xs.length c] 28) (.cells #[.bool g2, .slice A2 ys.length c2] 28) (.cells #[.bool false, .slice none 0 0] 28) (.cells #[.bool false, .slice none 0 0] 28)
  clear h h2 hy TD TA
  go_enter Tryz.func78, Tryz.ntmps78
  go_wp2_with fail
  refine (DV.out _ k0).mono ?_
  rintro e w1 ⟨qs, rs, A1, c1, A3, c3, rfl, hq, hr, rq, rr, hb1⟩
  have k1 := bst k0 hb1 (Nat.le_refl _)
  replace b0 := b0.below hb1 b0.lt
  replace b1 := b1.below hb1 b1.lt
  replace b2 := b2.below hb1 b2.lt
  replace b3 := b3.below hb1 b3.lt
  obtain ⟨p0, p1, _, _⟩ := b0.two
  obtain ⟨q0, q1, _, _⟩ := b1.two
  go_wp2_with fail
  refine (NM.out qs A1 c1 _ w1 _ hq rq (Below.refl _ _)).mono ?_
  rintro e w2 ⟨zt, At, ct, rfl, hzt, hrt, hb2⟩
  clear hr rr hq rq p0 p1 q0 q1 DV NM
  have s1 := k1.size
  go_upto_region 3 with (fail)
  obtain ⟨w3, hw3⟩ : ∃ w3, w3 = w2.alloc (.cells #[.bool (isNeg (Int.tdiv z y)), .slice At zt.length ct] 28) := ⟨_, rfl⟩
  rw [← hw3]
  have j3 : Below w2.heap.size w2 w3 := by rw [hw3]; exact bel_one _ _
  have b8 : Blk w3 w2.heap.size 28 [.bool (isNeg (Int.tdiv z y)), .slice At zt.length ct] := by rw [hw3]; exact blk_one _ _ _
  have j13 := bst hb2 j3 (Nat.le_refl _)
  have k3 := bst k1 j13 (Nat.le_refl _)
  replace b0 := b0.below j13 b0.lt
  replace b1 := b1.below j13 b1.lt
  replace b2 := b2.below j13 b2.lt
  replace b3 := b3.below j13 b3.lt
  have RT := Lib.hid ((hrt.mono s1).below j3 (Nat.le_refl _))
  have hT : Zh w3 (isNeg (Int.tdiv z y)) At ct zt (Int.tdiv z y) K := (Zn.shrink hzt RT.out HTl.out).zh
  have hA := H.out.next k3
  have hB := H2.out.next k3
  have ML : Hid (∀ W (_ : Below w3.heap.size w3 W), Calls Tryz.prog 49 #[.agg #[.bool (isNeg (Int.tdiv z y)), .slice At zt.length ct], .agg #[.bool g2, .slice A2 ys.length c2]] W fun e w' => ZOut W w' (Int.tdiv z y * y) e) := fun W hW => (hT.next hW).rmul (hB.next hW) (by omega)
  have SB : Hid (∀ (zm : List Nat) (Am : Option Addr) (cm B9 : Nat) (wo W : World), Below w3.heap.size w3 W → Num 4294967296 zm (Int.tdiv z y * y).natAbs → Res wo B9 61 Am cm (u32s zm) → Below wo.heap.size wo W → Calls Tryz.prog 116 #[.agg #[.bool g, .slice A xs.length c], .agg #[.bool (isNeg (Int.tdiv z y * y)), .slice Am zm.length cm]] W fun e w' => ZOut W w' (Int.tmod z y) e) := fun zm Am cm B9 wo W hW hn hr hb => by
    rw [← HTM.out]
    exact (hA.next hW).rsub ((Zn.shrink (K := K + J) hn hr (zprod_lt HTl.out hB.lt)).next hb).zh (by omega) (by omega)
  have B0 := Lib.hid b0
  have B1 := Lib.hid b1
  have B4 := Lib.hid b2
  have B5 := Lib.hid b3
  have B8 := Lib.hid b8
  obtain ⟨p0, p1, _, _⟩ := b0.two
  obtain ⟨q0, q1, _, _⟩ := b1.two
  obtain ⟨r0, r1, _, _⟩ := b8.two
  obtain ⟨t0, t1, t2, t3⟩ := b2.two
  obtain ⟨u0, u1, u2, u3⟩ := b3.two
  have s0 := k3.size
  have K3 := Lib.hid k3
  have Hzt := Lib.hid hzt
  clear hw3 j3 b8 j13 k3 b0 b1 b2 b3 hT hA hB k0 k1 s1 hrt hzt hb1 hb2
  have n1 : w.heap.size + 1 + 1 ≠ w.heap.size + 1 + 1 + 1 := by omega
  refine region_held_tail (fun W => W.cell? ⟨w2.heap.size, 0, none⟩ = some (.bool (isNeg (Int.tdiv z y))) ∧ W.cell? ⟨w2.heap.size, 1, none⟩ = some (.slice At zt.length ct) ∧ W.cell? ⟨w.heap.size, 0, none⟩ = some (.bool g) ∧ W.cell? ⟨w.heap.size, 1, none⟩ = some (.slice A xs.length c) ∧ W.cell? ⟨w.heap.size + 1, 0, none⟩ = some (.bool g2) ∧ W.cell? ⟨w.heap.size + 1, 1, none⟩ = some (.slice A2 ys.length c2)) 6 (by kernel_rfl) (by kernel_rfl) ?hSt1 (fun hHeld => ?_)
  case hSt1 => (try dsimp only); go_keep
  refine HeadW.take (i := 0) (v := ?v0t1) rfl (by kernel_rfl) (by decide) (by kernel_rfl) (by kernel_rfl) (fun _ _ _ h => h) (Or.inl ⟨by rfl, ?hy0t1⟩) (by assumption) ?rest0t1
  case hy0t1 => intro w hSw; (try dsimp only at hSw); (try simp only [List.getElem_toArray, List.getElem_cons_zero]); go_simp; (try with_reducible rfl)
  (try simp only [List.getElem_toArray, List.getElem_cons_zero, Act.put, List.setIfInBounds_toArray, List.set_cons_zero, List.set_cons_succ])
  refine HeadW.take (i := 1) (v := ?v1t1) rfl (by kernel_rfl) (by decide) (by kernel_rfl) (by kernel_rfl) (fun _ _ _ h => h) (Or.inl ⟨by rfl, ?hy1t1⟩) (by assumption) ?rest1t1
  case hy1t1 => intro w hSw; (try dsimp only at hSw); (try simp only [List.getElem_toArray, List.getElem_cons_succ, List.getElem_cons_zero]); go_simp; (try with_reducible rfl)
  (try simp only [List.getElem_toArray, List.getElem_cons_succ, List.getElem_cons_zero, Act.put, List.setIfInBounds_toArray, List.set_cons_zero, List.set_cons_succ])
  refine HeadW.take (i := 2) (v := ?v2t1) rfl (by kernel_rfl) (by decide) (by kernel_rfl) (by kernel_rfl) (fun _ _ _ h => h) (Or.inl ⟨by rfl, ?hy2t1⟩) (by assumption) ?rest2t1
  case hy2t1 => intro w hSw; (try dsimp only at hSw); (try simp only [List.getElem_toArray, List.getElem_cons_succ, List.getElem_cons_zero]); go_simp; (try with_reducible rfl)
  (try simp only [List.getElem_toArray, List.getElem_cons_succ, List.getElem_cons_zero, Act.put, List.setIfInBounds_toArray, List.set_cons_zero, List.set_cons_succ])
  refine HeadW.take (i := 3) (v := ?v3t1) rfl (by kernel_rfl) (by decide) (by kernel_rfl) (by kernel_rfl) (fun _ _ _ h => h) (Or.inl ⟨by rfl, ?hy3t1⟩) (by assumption) ?rest3t1
  case hy3t1 => intro w hSw; (try dsimp only at hSw); (try simp only [List.getElem_toArray, List.getElem_cons_succ, List.getElem_cons_zero]); go_simp; (try with_reducible rfl)
  (try simp only [List.getElem_toArray, List.getElem_cons_succ, List.getElem_cons_zero, Act.put, List.setIfInBounds_toArray, List.set_cons_zero, List.set_cons_succ])
  refine HeadW.one (i := 4) (by kernel_rfl) (by decide) rfl (fun K hK => ?_)
  go_simp
  (go_at_call 49; (with_reducible refine (ML.out _ (by repeat (first | exact Below.refl _ _ | exact jm | exact jb | apply bdw | (refine bdn ?_ _) | (refine bal ?_ (Nat.le_refl _) _)))).mono ?_); rintro e wm ⟨zm, Am, cm, rfl, hzm, hrm, hbm⟩; have jm : Below w3.heap.size w3 wm := bst (by repeat (first | exact Below.refl _ _ | exact jm | exact jb | apply bdw | (refine bdn ?_ _) | (refine bal ?_ (Nat.le_refl _) _))) hbm (Nat.le_refl _); obtain ⟨x0m, y0m, _, _⟩ := (B8.out.below jm B8.out.lt).two; obtain ⟨x1m, y1m, _, _⟩ := (B0.out.below jm B0.out.lt).two; obtain ⟨x2m, y2m, _, _⟩ := (B1.out.below jm B1.out.lt).two; obtain ⟨x3m, y3m, u3m, v3m⟩ := (B4.out.below jm B4.out.lt).two; obtain ⟨x4m, y4m, u4m, v4m⟩ := (B5.out.below jm B5.out.lt).two)
  (try go_wp2_with fail)
  refine hK.out _ _ ?hS4t1 (fun hHeld2 => ?_)
  case hS4t1 => (try dsimp only); go_keep
  clear hK K hHeld
  have hHeld := hHeld2
  clear hHeld2
  (try simp only [List.getElem_toArray, List.getElem_cons_succ, List.getElem_cons_zero, Act.put, List.setIfInBounds_toArray, List.set_cons_zero, List.set_cons_succ])
  refine HeadW.one (i := 5) (by kernel_rfl) (by decide) rfl (fun K hK => ?_)
  go_simp
  (go_at_call 116; (with_reducible refine (SB.out zm Am cm _ wm _ (by repeat (first | exact Below.refl _ _ | exact jm | exact jb | apply bdw | (refine bdn ?_ _) | (refine bal ?_ (Nat.le_refl _) _))) hzm hrm (by repeat (first | exact Below.refl _ _ | apply bdw | (refine bdn ?_ _)))).mono ?_); rintro e wb ⟨zb, Ab, cb, rfl, hzb, hrb, hbb⟩; have jb : Below w3.heap.size w3 wb := bst (by repeat (first | exact Below.refl _ _ | exact jm | exact jb | apply bdw | (refine bdn ?_ _) | (refine bal ?_ (Nat.le_refl _) _))) hbb (Nat.le_refl _); obtain ⟨x0b, y0b, _, _⟩ := (B8.out.below jb B8.out.lt).two; obtain ⟨x1b, y1b, _, _⟩ := (B0.out.below jb B0.out.lt).two; obtain ⟨x2b, y2b, _, _⟩ := (B1.out.below jb B1.out.lt).two; obtain ⟨x3b, y3b, u3b, v3b⟩ := (B4.out.below jb B4.out.lt).two; obtain ⟨x4b, y4b, u4b, v4b⟩ := (B5.out.below jb B5.out.lt).two)
  (try go_wp2_with fail)
  refine hK.out _ _ ?hS5t1 (fun hHeld2 => ?_)
  case hS5t1 => (try dsimp only); go_keep
  clear hK K hHeld
  have hHeld := hHeld2
  clear hHeld2
  (try simp only [List.getElem_toArray, List.getElem_cons_succ, List.getElem_cons_zero, Act.put, List.setIfInBounds_toArray, List.set_cons_zero, List.set_cons_succ])
  refine HeadW.done (by kernel_rfl) ?_
  simp only [List.drop_succ_cons, List.drop_zero]
  go_wp2_with fail
  have sm9 : w.heap.size ≤ wm.heap.size := Nat.le_trans s0 jm.size
  have F := vr_two (B := w.heap.size) (B4.out.below jb B4.out.lt) (B5.out.below jb B5.out.lt) n1 Hzt.out (RT.out.below jb (Nat.le_refl _)) (num32_len Hzt.out (Nat.le_refl _) HTl.out) hzb (hrb.mono sm9) (num32_len hzb (Nat.le_refl _) HMl.out)
  exact zz_ret (bsc4 (bst K3.out jb (Nat.le_refl _)) (by omega) (by omega)) F.1 F.2 rfl rfl rfl rfl

set_option maxHeartbeats 3200000 in
theorem Zh.rexact_yes (h : Zh w g A c xs z K) (h2 : Zh w g2 A2 c2 ys y J) (hy : y ≠ 0) (hKJ : K + J ≤ 67108863) (h0 : Int.tmod z y = 0) :
    Calls Tryz.prog 47 #[.agg #[.bool g, .slice A xs.length c], .agg #[.bool g2, .slice A2 ys.length c2]] w fun e w' => ZB w w' (Int.tdiv z y) true e := by
  have TR : Hid (∀ W (_ : Below w.heap.size w W), Calls Tryz.prog 78 #[.agg #[.bool g, .slice A xs.length c], .agg #[.bool g2, .slice A2 ys.length c2]] W fun e w' => ZZ W w' (Int.tdiv z y) (Int.tmod z y) e) := fun W hW => (h.next hW).rtrunc (h2.next hW) hy hKJ
  have HMl : Hid ((Int.tmod z y).natAbs < 4294967296 ^ J) := by show _ < _; rw [tmod_held h.sg]; exact Nat.lt_trans (Nat.mod_lt _ (by omega)) h2.lt
  obtain ⟨b0, b1, b2⟩ := blk_three w (.bool g) (.slice A xs.length c) (.bool g2) (.slice A2 ys.length c2) (.bool false) (.slice none 0 0)
  have k0 := bel_three w (.cells #[.bool g, .slice A xs.length c] 28) (.cells #[.bool g2, .slice A2 ys.length c2] 28) (.cells #[.bool false, .slice none 0 0] 28)
  obtain ⟨sg, hsg⟩ : ∃ s, s = (Int.tmod z y).sign := ⟨_, rfl⟩
  have hs8 : sg = 0 := by rcases sign_cases (Int.tmod z y) with ⟨a, b⟩ | ⟨a, b⟩ | ⟨a, b⟩ <;> rw [hsg, b] <;> first | omega | simp
  have HS8 := Lib.hid hs8
  have Hsg := Lib.hid hsg
  clear h h2 hy hsg h0 hs8
  go_enter Tryz.func47, Tryz.ntmps47
  go_wp2_with fail
  refine (TR.out _ k0).mono ?_
  rintro e w1 ⟨qs, rs, A1, c1, A3, c3, rfl, hq, hr, rq, rr, hb1⟩
  have hsz := k0.size
  have k1 := bst k0 hb1 (Nat.le_refl _)
  have b2' := b2.below hb1 b2.lt
  obtain ⟨b6, b7⟩ := blk_pair2 w1 (.bool (isNeg (Int.tdiv z y))) (.slice A1 qs.length c1) (.bool (isNeg (Int.tmod z y))) (.slice A3 rs.length c3)
  have j2 := bel_two w1 (.cells #[.bool (isNeg (Int.tdiv z y)), .slice A1 qs.length c1] 28) (.cells #[.bool (isNeg (Int.tmod z y)), .slice A3 rs.length c3] 28)
  go_upto_region 2 with (fail)
  obtain ⟨w2, hw2⟩ : ∃ w2, w2 = (w1.alloc (.cells #[.bool (isNeg (Int.tdiv z y)), .slice A1 qs.length c1] 28)).alloc (.cells #[.bool (isNeg (Int.tmod z y)), .slice A3 rs.length c3] 28) := ⟨_, rfl⟩
  rw [← hw2] at b6 b7 j2 ⊢
  clear hw2
  have k2 := bst k1 j2 (Nat.le_refl _)
  have B4 := Lib.hid (b2'.below j2 b2'.lt)
  have RQ := Lib.hid ((rq.mono hsz).below j2 (Nat.le_refl _))
  have SG : Hid (∀ W (_ : Below w2.heap.size w2 W), Calls Tryz.prog 46 #[.agg #[.bool (isNeg (Int.tmod z y)), .slice A3 rs.length c3]] W fun e w' => e = .returned (.int .i64 sg) ∧ Below W.heap.size W w') := fun W hW => by rw [Hsg.out]; exact ((Zn.shrink hr ((rr.mono hsz).below j2 (Nat.le_refl _)) HMl.out).zh.next hW).rsign (by omega)
  have B6 := Lib.hid b6
  obtain ⟨p0, p1, _, _⟩ := b7.two
  have Hq := Lib.hid hq
  clear TR hr rr rq b0 b1 b2 b2' k0 k1 b6 b7 hb1 j2 hq hsz
  go_wp2_with fail
  refine (SG.out _ (Below.refl _ _)).mono ?_
  rintro e w3 ⟨rfl, hb3⟩
  clear p0 p1 SG
  have k3 := bst k2 hb3 (Nat.le_refl _)
  have b4 := B4.out.below hb3 B4.out.lt
  obtain ⟨t0, t1, t2, t3⟩ := b4.two
  obtain ⟨p0, p1, _, _⟩ := (B6.out.below hb3 B6.out.lt).two
  clear Hsg
  obtain rfl := HS8.out
  all_goals
    clear HS8
    go_wp2_with fail
    exact zb_ret k3 b4 (by omega) Hq.out (RQ.out.below hb3 (Nat.le_refl _)) rfl rfl rfl rfl rfl

set_option maxHeartbeats 3200000 in
theorem Zh.rexact_no (h : Zh w g A c xs z K) (h2 : Zh w g2 A2 c2 ys y J) (hy : y ≠ 0) (hKJ : K + J ≤ 67108863) (h0 : Int.tmod z y ≠ 0) :
    Calls Tryz.prog 47 #[.agg #[.bool g, .slice A xs.length c], .agg #[.bool g2, .slice A2 ys.length c2]] w fun e w' => ZB w w' (0) false e := by
  have TR : Hid (∀ W (_ : Below w.heap.size w W), Calls Tryz.prog 78 #[.agg #[.bool g, .slice A xs.length c], .agg #[.bool g2, .slice A2 ys.length c2]] W fun e w' => ZZ W w' (Int.tdiv z y) (Int.tmod z y) e) := fun W hW => (h.next hW).rtrunc (h2.next hW) hy hKJ
  have HMl : Hid ((Int.tmod z y).natAbs < 4294967296 ^ J) := by show _ < _; rw [tmod_held h.sg]; exact Nat.lt_trans (Nat.mod_lt _ (by omega)) h2.lt
  obtain ⟨b0, b1, b2⟩ := blk_three w (.bool g) (.slice A xs.length c) (.bool g2) (.slice A2 ys.length c2) (.bool false) (.slice none 0 0)
  have k0 := bel_three w (.cells #[.bool g, .slice A xs.length c] 28) (.cells #[.bool g2, .slice A2 ys.length c2] 28) (.cells #[.bool false, .slice none 0 0] 28)
  obtain ⟨sg, hsg⟩ : ∃ s, s = (Int.tmod z y).sign := ⟨_, rfl⟩
  have hs8 : sg = 1 ∨ sg = -1 := by rcases sign_cases (Int.tmod z y) with ⟨a, b⟩ | ⟨a, b⟩ | ⟨a, b⟩ <;> rw [hsg, b] <;> first | omega | simp
  have HS8 := Lib.hid hs8
  have Hsg := Lib.hid hsg
  clear h h2 hy hsg h0 hs8
  go_enter Tryz.func47, Tryz.ntmps47
  go_wp2_with fail
  refine (TR.out _ k0).mono ?_
  rintro e w1 ⟨qs, rs, A1, c1, A3, c3, rfl, hq, hr, rq, rr, hb1⟩
  have hsz := k0.size
  have k1 := bst k0 hb1 (Nat.le_refl _)
  have b2' := b2.below hb1 b2.lt
  obtain ⟨b6, b7⟩ := blk_pair2 w1 (.bool (isNeg (Int.tdiv z y))) (.slice A1 qs.length c1) (.bool (isNeg (Int.tmod z y))) (.slice A3 rs.length c3)
  have j2 := bel_two w1 (.cells #[.bool (isNeg (Int.tdiv z y)), .slice A1 qs.length c1] 28) (.cells #[.bool (isNeg (Int.tmod z y)), .slice A3 rs.length c3] 28)
  go_upto_region 2 with (fail)
  obtain ⟨w2, hw2⟩ : ∃ w2, w2 = (w1.alloc (.cells #[.bool (isNeg (Int.tdiv z y)), .slice A1 qs.length c1] 28)).alloc (.cells #[.bool (isNeg (Int.tmod z y)), .slice A3 rs.length c3] 28) := ⟨_, rfl⟩
  rw [← hw2] at b6 b7 j2 ⊢
  clear hw2
  have k2 := bst k1 j2 (Nat.le_refl _)
  have B4 := Lib.hid (b2'.below j2 b2'.lt)
  have RQ := Lib.hid ((rq.mono hsz).below j2 (Nat.le_refl _))
  have SG : Hid (∀ W (_ : Below w2.heap.size w2 W), Calls Tryz.prog 46 #[.agg #[.bool (isNeg (Int.tmod z y)), .slice A3 rs.length c3]] W fun e w' => e = .returned (.int .i64 sg) ∧ Below W.heap.size W w') := fun W hW => by rw [Hsg.out]; exact ((Zn.shrink hr ((rr.mono hsz).below j2 (Nat.le_refl _)) HMl.out).zh.next hW).rsign (by omega)
  have B6 := Lib.hid b6
  obtain ⟨p0, p1, _, _⟩ := b7.two
  have Hq := Lib.hid hq
  clear TR hr rr rq b0 b1 b2 b2' k0 k1 b6 b7 hb1 j2 hq hsz
  go_wp2_with fail
  refine (SG.out _ (Below.refl _ _)).mono ?_
  rintro e w3 ⟨rfl, hb3⟩
  clear p0 p1 SG
  have k3 := bst k2 hb3 (Nat.le_refl _)
  have b4 := B4.out.below hb3 B4.out.lt
  obtain ⟨t0, t1, t2, t3⟩ := b4.two
  obtain ⟨p0, p1, _, _⟩ := (B6.out.below hb3 B6.out.lt).two
  clear Hsg
  rcases HS8.out with rfl | rfl
  all_goals
    clear HS8
    go_wp2_with fail
    exact zb_ret (qs := []) k3 b4 (by omega) (Num.zero_ _) Res.none_ rfl rfl rfl rfl rfl

end
end
section
open Go.RowKit

theorem two_al {w : World} {g : Nat} {t : TypeId} {x y : Value} (h : Blk w g t [x, y]) : (∀ o : Obj, (w.alloc o).cell? ⟨g, 0, none⟩ = some x) ∧ (∀ o : Obj, (w.alloc o).cell? ⟨g, 1, none⟩ = some y) ∧ (∀ o : Obj, (w.alloc o).frozen? ⟨g, 0, none⟩ = false) ∧ (∀ o : Obj, (w.alloc o).frozen? ⟨g, 1, none⟩ = false) :=
  ⟨fun o => (h.heapAlloc o).c0, fun o => (h.heapAlloc o).c1, fun o => (h.heapAlloc o).frozen 0, fun o => (h.heapAlloc o).frozen 1⟩
theorem two_al2 {w : World} {g : Nat} {t : TypeId} {x y : Value} (h : Blk w g t [x, y]) : (∀ o o2 : Obj, ((w.alloc o).alloc o2).cell? ⟨g, 0, none⟩ = some x) ∧ (∀ o o2 : Obj, ((w.alloc o).alloc o2).cell? ⟨g, 1, none⟩ = some y) ∧ (∀ o o2 : Obj, ((w.alloc o).alloc o2).frozen? ⟨g, 0, none⟩ = false) ∧ (∀ o o2 : Obj, ((w.alloc o).alloc o2).frozen? ⟨g, 1, none⟩ = false) :=
  ⟨fun o o2 => ((h.heapAlloc o).heapAlloc o2).c0, fun o o2 => ((h.heapAlloc o).heapAlloc o2).c1, fun o o2 => ((h.heapAlloc o).heapAlloc o2).frozen 0, fun o o2 => ((h.heapAlloc o).heapAlloc o2).frozen 1⟩
theorem res_al9 {w : World} {B : Nat} {t : TypeId} {A : Option Addr} {c : Nat} {vs : List Value} (h : Res w B t A c vs) (o : Obj) : Res (w.alloc o) B t A c vs := h.below ((Below.refl _ _).alloc (Nat.le_refl _) o) (Nat.le_refl _)
/-- What a call leaves, off an earlier world. -/
theorem bel_pre {w0 w w' : World} (hb : Below w.heap.size w w') (h : Below w0.heap.size w0 w) : Below w0.heap.size w0 w' := bst h hb (Nat.le_refl _)
end
end Go.Proofs.YtanlejlmckdeiaaGreatDoor
