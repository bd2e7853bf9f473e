/- The contracts of the reference's Trunc and Exact on integers. Conditions: at most 2^26 - 1 limbs in all; the divisor is not 0. The contracts of timesPlus and mix. Conditions: words; rows of one's own. The contracts of apply. Conditions: words; rows of one's own. The contract of simulate. Conditions: words; the top words are not 0; b is not above a. -/
import Derived.Test.YtcfalkcceanldaaGreatDoorPkPo40
import Derived.Test.YtcfalkcceanldaaGreatDoorPkPo31
import Derived.Deep.LoopGhost
import Derived.Deep.MidRow
namespace Go.Proofs.YtcfalkcceanldaaGreatDoor
section
open Go.RowKit

/-- What a call answers that tells an integer and a truth value. -/
def ZB (w w' : World) (q : Int) (ok : Bool) (e : Ending) : Prop := ∃ qs A1 c1, e = .returned (.tuple #[.agg #[.bool (isNeg q), .slice A1 qs.length c1], .bool ok]) ∧ Num 4294967296 qs q.natAbs ∧ Res w' w.heap.size 28 A1 c1 (u32s qs) ∧ Below w.heap.size w w'
theorem zb_ret {fn : Func} {a : Act} {w W : World} {p u : Tmp} {g : Nat} {x y : Value} {b ok : Bool} {Q : Int} {qs : List Nat} {A1 : Option Addr} {c1 : Nat} (k : Below w.heap.size w W) (hb : Blk W g 25 [x, y]) (hg : w.heap.size ≤ g)
    (hq : Num 4294967296 qs Q.natAbs) (rq : Res W w.heap.size 28 A1 c1 (u32s qs)) (hbq : b = isNeg Q) (hres0 : fn.results = #[.cell p 25, .tmp u]) (hp : a.tmps.getD p undef = .pointer (some ⟨g, 0, none⟩)) (hu : a.tmps.getD u undef = .bool ok) (hd : a.defers = []) :
    bodyPost Tryz.prog fn (fun e w' => ZB w w' Q ok e) .ret a ((W.setCell ⟨g, 0, none⟩ (.bool b)).setCell ⟨g, 1, none⟩ (.slice A1 qs.length c1)) := by
  subst hbq
  exact bodyPost_ret (results_zs hres0 hp (blk_pair hb _ _)) hd ⟨qs, A1, c1, by rw [hu], hq, res_var2 rq hb _ _, bsc (bsc k hg _) hg _⟩
section
variable {w : World} {g g2 : Bool} {A A2 : Option Addr} {c c2 K J : Nat} {xs ys : List Nat} {z y : Int}
theorem tdiv_held (h : ivalN g z.natAbs = z) (h2 : ivalN g2 y.natAbs = y) : Int.tdiv z y = ivalN (!(g == g2)) (z.natAbs / y.natAbs) := by
  have e := tdiv_ival g g2 z.natAbs y.natAbs
  rwa [h, h2] at e
theorem tmod_held (h : ivalN g z.natAbs = z) : (Int.tmod z y).natAbs = z.natAbs % y.natAbs := by
  have e := tmod_ival g (isNeg y) z.natAbs y.natAbs
  rw [h, ival_abs] at e
  rw [e, abs_ival]

set_option maxHeartbeats 6400000 in
theorem Zh.rtrunc (h : Zh w g A c xs z K) (h2 : Zh w g2 A2 c2 ys y J) (hy : y ≠ 0) (hKJ : K + J ≤ 67108863) :
    Calls Tryz.prog 42 #[.agg #[.bool g, .slice A xs.length c], .agg #[.bool g2, .slice A2 ys.length c2]] w fun e w' => ZZ w w' (Int.tdiv z y) (Int.tmod z y) e := by
  have DV : Hid (∀ W (_ : Below w.heap.size w W), Calls Tryz.prog 56 #[.slice A xs.length c, .slice A2 ys.length c2] W fun e w' => QOut W w' z.natAbs y.natAbs e) := fun W hW => (h.hv.next hW).rdiv (h2.hv.next hW) (by omega) (by omega) (by omega)
  have TD := tdiv_held h.sg h2.sg
  have HTD := Lib.hid TD
  have TA : (Int.tdiv z y).natAbs = z.natAbs / y.natAbs := by rw [TD, abs_ival]
  have HTA := Lib.hid TA
  have HTl : Hid ((Int.tdiv z y).natAbs < 4294967296 ^ K) := by show _ < _; rw [TA]; exact Nat.lt_of_le_of_lt (Nat.div_le_self _ _) h.lt
  have HMl : Hid ((Int.tmod z y).natAbs < 4294967296 ^ J) := by show _ < _; rw [tmod_held h.sg]; exact Nat.lt_trans (Nat.mod_lt _ (by omega)) h2.lt
  have HTM : Hid (z - Int.tdiv z y * y = Int.tmod z y) := by show _ = _; rw [Int.tmod_def, Int.mul_comm]
  have NM : Hid (∀ (qs : List Nat) (A1 : Option Addr) (c1 B9 : Nat) (wo W : World), Num 4294967296 qs (z.natAbs / y.natAbs) → Res wo B9 28 A1 c1 (u32s qs) → Below wo.heap.size wo W → Calls Tryz.prog 55 #[.agg #[.bool (!(g == g2)), .slice A1 qs.length c1]] W fun e w' => ZOut W w' (Int.tdiv z y) e) := fun qs A1 c1 B9 wo W hz hr hW => by
    have hv := (Hv.of (K := K) hz hr (Nat.lt_of_le_of_lt (Nat.div_le_self _ _) h.lt)).next hW
    exact Zh.rnorm (K := K) ⟨by rw [HTA.out]; exact hv, by rw [HTA.out]; exact HTD.out.symm⟩ (by omega)
  have H := Lib.hid h
  have H2 := Lib.hid h2
  obtain ⟨b0, b1, b2, b3⟩ := blk_four w (.bool g) (.slice A xs.length c) (.bool g2) (.slice A2 ys.length c2) (.bool false) (.slice none 0 0) (.bool false) (.slice none 0 0)
  have k0 := bel_four w (.cells #[.bool g, .slice A xs.length c] 25) (.cells #[.bool g2, .slice A2 ys.length c2] 25) (.cells #[.bool false, .slice none 0 0] 25) (.cells #[.bool false, .slice none 0 0] 25)
  clear h h2 hy TD TA
  go_enter Tryz.func42, Tryz.ntmps42
  go_wp2_with fail
  refine (DV.out _ k0).mono ?_
  rintro e w1 ⟨qs, rs, A1, c1, A3, c3, rfl, hq, hr, rq, rr, hb1⟩
  have k1 := bst k0 hb1 (Nat.le_refl _)
  replace b0 := b0.below hb1 b0.lt
  replace b1 := b1.below hb1 b1.lt
  replace b2 := b2.below hb1 b2.lt
  replace b3 := b3.below hb1 b3.lt
  obtain ⟨p0, p1, _, _⟩ := b0.two
  obtain ⟨q0, q1, _, _⟩ := b1.two
  go_wp2_with fail
  refine (NM.out qs A1 c1 _ w1 _ hq rq (Below.refl _ _)).mono ?_
  rintro e w2 ⟨zt, At, ct, rfl, hzt, hrt, hb2⟩
  clear hr rr hq rq p0 p1 q0 q1 DV NM
  have s1 := k1.size
  go_upto_region 3 with (fail)
  obtain ⟨w3, hw3⟩ : ∃ w3, w3 = w2.alloc (.cells #[.bool (isNeg (Int.tdiv z y)), .slice At zt.length ct] 25) := ⟨_, rfl⟩
  rw [← hw3]
  have j3 : Below w2.heap.size w2 w3 := by rw [hw3]; exact bel_one _ _
  have b8 : Blk w3 w2.heap.size 25 [.bool (isNeg (Int.tdiv z y)), .slice At zt.length ct] := by rw [hw3]; exact blk_one _ _ _
  have j13 := bst hb2 j3 (Nat.le_refl _)
  have k3 := bst k1 j13 (Nat.le_refl _)
  replace b0 := b0.below j13 b0.lt
  replace b1 := b1.below j13 b1.lt
  replace b2 := b2.below j13 b2.lt
  replace b3 := b3.below j13 b3.lt
  have RT := Lib.hid ((hrt.mono s1).below j3 (Nat.le_refl _))
  have hT : Zh w3 (isNeg (Int.tdiv z y)) At ct zt (Int.tdiv z y) K := (Zn.shrink hzt RT.out HTl.out).zh
  have hA := H.out.next k3
  have hB := H2.out.next k3
  have ML : Hid (∀ W (_ : Below w3.heap.size w3 W), Calls Tryz.prog 67 #[.agg #[.bool (isNeg (Int.tdiv z y)), .slice At zt.length ct], .agg #[.bool g2, .slice A2 ys.length c2]] W fun e w' => ZOut W w' (Int.tdiv z y * y) e) := fun W hW => (hT.next hW).rmul (hB.next hW) (by omega)
  have SB : Hid (∀ (zm : List Nat) (Am : Option Addr) (cm B9 : Nat) (wo W : World), Below w3.heap.size w3 W → Num 4294967296 zm (Int.tdiv z y * y).natAbs → Res wo B9 28 Am cm (u32s zm) → Below wo.heap.size wo W → Calls Tryz.prog 58 #[.agg #[.bool g, .slice A xs.length c], .agg #[.bool (isNeg (Int.tdiv z y * y)), .slice Am zm.length cm]] W fun e w' => ZOut W w' (Int.tmod z y) e) := fun zm Am cm B9 wo W hW hn hr hb => by
    rw [← HTM.out]
    exact (hA.next hW).rsub ((Zn.shrink (K := K + J) hn hr (zprod_lt HTl.out hB.lt)).next hb).zh (by omega) (by omega)
  have B0 := Lib.hid b0
  have B1 := Lib.hid b1
  have B4 := Lib.hid b2
  have B5 := Lib.hid b3
  have B8 := Lib.hid b8
  obtain ⟨p0, p1, _, _⟩ := b0.two
  obtain ⟨q0, q1, _, _⟩ := b1.two
  obtain ⟨r0, r1, _, _⟩ := b8.two
  obtain ⟨t0, t1, t2, t3⟩ := b2.two
  obtain ⟨u0, u1, u2, u3⟩ := b3.two
  have s0 := k3.size
  have K3 := Lib.hid k3
  have Hzt := Lib.hid hzt
  clear hw3 j3 b8 j13 k3 b0 b1 b2 b3 hT hA hB k0 k1 s1 hrt hzt hb1 hb2
  have n1 : w.heap.size + 1 + 1 ≠ w.heap.size + 1 + 1 + 1 := by omega
  refine region_held_tail (fun W => W.cell? ⟨w2.heap.size, 0, none⟩ = some (.bool (isNeg (Int.tdiv z y))) ∧ W.cell? ⟨w2.heap.size, 1, none⟩ = some (.slice At zt.length ct) ∧ W.cell? ⟨w.heap.size, 0, none⟩ = some (.bool g) ∧ W.cell? ⟨w.heap.size, 1, none⟩ = some (.slice A xs.length c) ∧ W.cell? ⟨w.heap.size + 1, 0, none⟩ = some (.bool g2) ∧ W.cell? ⟨w.heap.size + 1, 1, none⟩ = some (.slice A2 ys.length c2)) 6 (by kernel_rfl) (by kernel_rfl) ?hSt1 (fun hHeld => ?_)
  case hSt1 => (try dsimp only); go_keep
  refine HeadW.take (i := 0) (v := ?v0t1) rfl (by kernel_rfl) (by decide) (by kernel_rfl) (by kernel_rfl) (fun _ _ _ h => h) (Or.inl ⟨by rfl, ?hy0t1⟩) (by assumption) ?rest0t1
  case hy0t1 => intro w hSw; (try dsimp only at hSw); (try simp only [List.getElem_toArray, List.getElem_cons_zero]); go_simp; (try with_reducible rfl)
  (try simp only [List.getElem_toArray, List.getElem_cons_zero, Act.put, List.setIfInBounds_toArray, List.set_cons_zero, List.set_cons_succ])
  refine HeadW.take (i := 1) (v := ?v1t1) rfl (by kernel_rfl) (by decide) (by kernel_rfl) (by kernel_rfl) (fun _ _ _ h => h) (Or.inl ⟨by rfl, ?hy1t1⟩) (by assumption) ?rest1t1
  case hy1t1 => intro w hSw; (try dsimp only at hSw); (try simp only [List.getElem_toArray, List.getElem_cons_succ, List.getElem_cons_zero]); go_simp; (try with_reducible rfl)
  (try simp only [List.getElem_toArray, List.getElem_cons_succ, List.getElem_cons_zero, Act.put, List.setIfInBounds_toArray, List.set_cons_zero, List.set_cons_succ])
  refine HeadW.take (i := 2) (v := ?v2t1) rfl (by kernel_rfl) (by decide) (by kernel_rfl) (by kernel_rfl) (fun _ _ _ h => h) (Or.inl ⟨by rfl, ?hy2t1⟩) (by assumption) ?rest2t1
  case hy2t1 => intro w hSw; (try dsimp only at hSw); (try simp only [List.getElem_toArray, List.getElem_cons_succ, List.getElem_cons_zero]); go_simp; (try with_reducible rfl)
  (try simp only [List.getElem_toArray, List.getElem_cons_succ, List.getElem_cons_zero, Act.put, List.setIfInBounds_toArray, List.set_cons_zero, List.set_cons_succ])
  refine HeadW.take (i := 3) (v := ?v3t1) rfl (by kernel_rfl) (by decide) (by kernel_rfl) (by kernel_rfl) (fun _ _ _ h => h) (Or.inl ⟨by rfl, ?hy3t1⟩) (by assumption) ?rest3t1
  case hy3t1 => intro w hSw; (try dsimp only at hSw); (try simp only [List.getElem_toArray, List.getElem_cons_succ, List.getElem_cons_zero]); go_simp; (try with_reducible rfl)
  (try simp only [List.getElem_toArray, List.getElem_cons_succ, List.getElem_cons_zero, Act.put, List.setIfInBounds_toArray, List.set_cons_zero, List.set_cons_succ])
  refine HeadW.one (i := 4) (by kernel_rfl) (by decide) rfl (fun K hK => ?_)
  go_simp
  (go_at_call 67; (with_reducible refine (ML.out _ (by repeat (first | exact Below.refl _ _ | exact jm | exact jb | apply bdw | (refine bdn ?_ _) | (refine bal ?_ (Nat.le_refl _) _)))).mono ?_); rintro e wm ⟨zm, Am, cm, rfl, hzm, hrm, hbm⟩; have jm : Below w3.heap.size w3 wm := bst (by repeat (first | exact Below.refl _ _ | exact jm | exact jb | apply bdw | (refine bdn ?_ _) | (refine bal ?_ (Nat.le_refl _) _))) hbm (Nat.le_refl _); obtain ⟨x0m, y0m, _, _⟩ := (B8.out.below jm B8.out.lt).two; obtain ⟨x1m, y1m, _, _⟩ := (B0.out.below jm B0.out.lt).two; obtain ⟨x2m, y2m, _, _⟩ := (B1.out.below jm B1.out.lt).two; obtain ⟨x3m, y3m, u3m, v3m⟩ := (B4.out.below jm B4.out.lt).two; obtain ⟨x4m, y4m, u4m, v4m⟩ := (B5.out.below jm B5.out.lt).two)
  (try go_wp2_with fail)
  refine hK.out _ _ ?hS4t1 (fun hHeld2 => ?_)
  case hS4t1 => (try dsimp only); go_keep
  clear hK K hHeld
  have hHeld := hHeld2
  clear hHeld2
  (try simp only [List.getElem_toArray, List.getElem_cons_succ, List.getElem_cons_zero, Act.put, List.setIfInBounds_toArray, List.set_cons_zero, List.set_cons_succ])
  refine HeadW.one (i := 5) (by kernel_rfl) (by decide) rfl (fun K hK => ?_)
  go_simp
  (go_at_call 58; (with_reducible refine (SB.out zm Am cm _ wm _ (by repeat (first | exact Below.refl _ _ | exact jm | exact jb | apply bdw | (refine bdn ?_ _) | (refine bal ?_ (Nat.le_refl _) _))) hzm hrm (by repeat (first | exact Below.refl _ _ | apply bdw | (refine bdn ?_ _)))).mono ?_); rintro e wb ⟨zb, Ab, cb, rfl, hzb, hrb, hbb⟩; have jb : Below w3.heap.size w3 wb := bst (by repeat (first | exact Below.refl _ _ | exact jm | exact jb | apply bdw | (refine bdn ?_ _) | (refine bal ?_ (Nat.le_refl _) _))) hbb (Nat.le_refl _); obtain ⟨x0b, y0b, _, _⟩ := (B8.out.below jb B8.out.lt).two; obtain ⟨x1b, y1b, _, _⟩ := (B0.out.below jb B0.out.lt).two; obtain ⟨x2b, y2b, _, _⟩ := (B1.out.below jb B1.out.lt).two; obtain ⟨x3b, y3b, u3b, v3b⟩ := (B4.out.below jb B4.out.lt).two; obtain ⟨x4b, y4b, u4b, v4b⟩ := (B5.out.below jb B5.out.lt).two)
  (try go_wp2_with fail)
  refine hK.out _ _ ?hS5t1 (fun hHeld2 => ?_)
  case hS5t1 => (try dsimp only); go_keep
  clear hK K hHeld
  have hHeld := hHeld2
  clear hHeld2
  (try simp only [List.getElem_toArray, List.getElem_cons_succ, List.getElem_cons_zero, Act.put, List.setIfInBounds_toArray, List.set_cons_zero, List.set_cons_succ])
  refine HeadW.done (by kernel_rfl) ?_
  simp only [List.drop_succ_cons, List.drop_zero]
  go_wp2_with fail
  have sm9 : w.heap.size ≤ wm.heap.size := Nat.le_trans s0 jm.size
  have F := vr_two (B := w.heap.size) (B4.out.below jb B4.out.lt) (B5.out.below jb B5.out.lt) n1 Hzt.out (RT.out.below jb (Nat.le_refl _)) (num32_len Hzt.out (Nat.le_refl _) HTl.out) hzb (hrb.mono sm9) (num32_len hzb (Nat.le_refl _) HMl.out)
  exact zz_ret (bsc4 (bst K3.out jb (Nat.le_refl _)) (by omega) (by omega)) F.1 F.2 rfl rfl rfl rfl

set_option maxHeartbeats 3200000 in
theorem Zh.rexact_yes (h : Zh w g A c xs z K) (h2 : Zh w g2 A2 c2 ys y J) (hy : y ≠ 0) (hKJ : K + J ≤ 67108863) (h0 : Int.tmod z y = 0) :
    Calls Tryz.prog 25 #[.agg #[.bool g, .slice A xs.length c], .agg #[.bool g2, .slice A2 ys.length c2]] w fun e w' => ZB w w' (Int.tdiv z y) true e := by
  have TR : Hid (∀ W (_ : Below w.heap.size w W), Calls Tryz.prog 42 #[.agg #[.bool g, .slice A xs.length c], .agg #[.bool g2, .slice A2 ys.length c2]] W fun e w' => ZZ W w' (Int.tdiv z y) (Int.tmod z y) e) := fun W hW => (h.next hW).rtrunc (h2.next hW) hy hKJ
  have HMl : Hid ((Int.tmod z y).natAbs < 4294967296 ^ J) := by show _ < _; rw [tmod_held h.sg]; exact Nat.lt_trans (Nat.mod_lt _ (by omega)) h2.lt
  obtain ⟨b0, b1, b2⟩ := blk_three w (.bool g) (.slice A xs.length c) (.bool g2) (.slice A2 ys.length c2) (.bool false) (.slice none 0 0)
  have k0 := bel_three w (.cells #[.bool g, .slice A xs.length c] 25) (.cells #[.bool g2, .slice A2 ys.length c2] 25) (.cells #[.bool false, .slice none 0 0] 25)
  obtain ⟨sg, hsg⟩ : ∃ s, s = (Int.tmod z y).sign := ⟨_, rfl⟩
  have hs8 : sg = 0 := by rcases sign_cases (Int.tmod z y) with ⟨a, b⟩ | ⟨a, b⟩ | ⟨a, b⟩ <;> rw [hsg, b] <;> first | omega | simp
  have HS8 := Lib.hid hs8
  have Hsg := Lib.hid hsg
  clear h h2 hy hsg h0 hs8
  go_enter Tryz.func25, Tryz.ntmps25
  go_wp2_with fail
  refine (TR.out _ k0).mono ?_
  rintro e w1 ⟨qs, rs, A1, c1, A3, c3, rfl, hq, hr, rq, rr, hb1⟩
  have hsz := k0.size
  have k1 := bst k0 hb1 (Nat.le_refl _)
  have b2' := b2.below hb1 b2.lt
  obtain ⟨b6, b7⟩ := blk_pair2 w1 (.bool (isNeg (Int.tdiv z y))) (.slice A1 qs.length c1) (.bool (isNeg (Int.tmod z y))) (.slice A3 rs.length c3)
  have j2 := bel_two w1 (.cells #[.bool (isNeg (Int.tdiv z y)), .slice A1 qs.length c1] 25) (.cells #[.bool (isNeg (Int.tmod z y)), .slice A3 rs.length c3] 25)
  go_upto_region 2 with (fail)
  obtain ⟨w2, hw2⟩ : ∃ w2, w2 = (w1.alloc (.cells #[.bool (isNeg (Int.tdiv z y)), .slice A1 qs.length c1] 25)).alloc (.cells #[.bool (isNeg (Int.tmod z y)), .slice A3 rs.length c3] 25) := ⟨_, rfl⟩
  rw [← hw2] at b6 b7 j2 ⊢
  clear hw2
  have k2 := bst k1 j2 (Nat.le_refl _)
  have B4 := Lib.hid (b2'.below j2 b2'.lt)
  have RQ := Lib.hid ((rq.mono hsz).below j2 (Nat.le_refl _))
  have SG : Hid (∀ W (_ : Below w2.heap.size w2 W), Calls Tryz.prog 10 #[.agg #[.bool (isNeg (Int.tmod z y)), .slice A3 rs.length c3]] W fun e w' => e = .returned (.int .i64 sg) ∧ Below W.heap.size W w') := fun W hW => by rw [Hsg.out]; exact ((Zn.shrink hr ((rr.mono hsz).below j2 (Nat.le_refl _)) HMl.out).zh.next hW).rsign (by omega)
  have B6 := Lib.hid b6
  obtain ⟨p0, p1, _, _⟩ := b7.two
  have Hq := Lib.hid hq
  clear TR hr rr rq b0 b1 b2 b2' k0 k1 b6 b7 hb1 j2 hq hsz
  go_wp2_with fail
  refine (SG.out _ (Below.refl _ _)).mono ?_
  rintro e w3 ⟨rfl, hb3⟩
  clear p0 p1 SG
  have k3 := bst k2 hb3 (Nat.le_refl _)
  have b4 := B4.out.below hb3 B4.out.lt
  obtain ⟨t0, t1, t2, t3⟩ := b4.two
  obtain ⟨p0, p1, _, _⟩ := (B6.out.below hb3 B6.out.lt).two
  clear Hsg
  obtain rfl := HS8.out
  all_goals
    clear HS8
    go_wp2_with fail
    exact zb_ret k3 b4 (by omega) Hq.out (RQ.out.below hb3 (Nat.le_refl _)) rfl rfl rfl rfl rfl

set_option maxHeartbeats 3200000 in
theorem Zh.rexact_no (h : Zh w g A c xs z K) (h2 : Zh w g2 A2 c2 ys y J) (hy : y ≠ 0) (hKJ : K + J ≤ 67108863) (h0 : Int.tmod z y ≠ 0) :
    Calls Tryz.prog 25 #[.agg #[.bool g, .slice A xs.length c], .agg #[.bool g2, .slice A2 ys.length c2]] w fun e w' => ZB w w' (0) false e := by
  have TR : Hid (∀ W (_ : Below w.heap.size w W), Calls Tryz.prog 42 #[.agg #[.bool g, .slice A xs.length c], .agg #[.bool g2, .slice A2 ys.length c2]] W fun e w' => ZZ W w' (Int.tdiv z y) (Int.tmod z y) e) := fun W hW => (h.next hW).rtrunc (h2.next hW) hy hKJ
  have HMl : Hid ((Int.tmod z y).natAbs < 4294967296 ^ J) := by show _ < _; rw [tmod_held h.sg]; exact Nat.lt_trans (Nat.mod_lt _ (by omega)) h2.lt
  obtain ⟨b0, b1, b2⟩ := blk_three w (.bool g) (.slice A xs.length c) (.bool g2) (.slice A2 ys.length c2) (.bool false) (.slice none 0 0)
  have k0 := bel_three w (.cells #[.bool g, .slice A xs.length c] 25) (.cells #[.bool g2, .slice A2 ys.length c2] 25) (.cells #[.bool false, .slice none 0 0] 25)
  obtain ⟨sg, hsg⟩ : ∃ s, s = (Int.tmod z y).sign := ⟨_, rfl⟩
  have hs8 : sg = 1 ∨ sg = -1 := by rcases sign_cases (Int.tmod z y) with ⟨a, b⟩ | ⟨a, b⟩ | ⟨a, b⟩ <;> rw [hsg, b] <;> first | omega | simp
  have HS8 := Lib.hid hs8
  have Hsg := Lib.hid hsg
  clear h h2 hy hsg h0 hs8
  go_enter Tryz.func25, Tryz.ntmps25
  go_wp2_with fail
  refine (TR.out _ k0).mono ?_
  rintro e w1 ⟨qs, rs, A1, c1, A3, c3, rfl, hq, hr, rq, rr, hb1⟩
  have hsz := k0.size
  have k1 := bst k0 hb1 (Nat.le_refl _)
  have b2' := b2.below hb1 b2.lt
  obtain ⟨b6, b7⟩ := blk_pair2 w1 (.bool (isNeg (Int.tdiv z y))) (.slice A1 qs.length c1) (.bool (isNeg (Int.tmod z y))) (.slice A3 rs.length c3)
  have j2 := bel_two w1 (.cells #[.bool (isNeg (Int.tdiv z y)), .slice A1 qs.length c1] 25) (.cells #[.bool (isNeg (Int.tmod z y)), .slice A3 rs.length c3] 25)
  go_upto_region 2 with (fail)
  obtain ⟨w2, hw2⟩ : ∃ w2, w2 = (w1.alloc (.cells #[.bool (isNeg (Int.tdiv z y)), .slice A1 qs.length c1] 25)).alloc (.cells #[.bool (isNeg (Int.tmod z y)), .slice A3 rs.length c3] 25) := ⟨_, rfl⟩
  rw [← hw2] at b6 b7 j2 ⊢
  clear hw2
  have k2 := bst k1 j2 (Nat.le_refl _)
  have B4 := Lib.hid (b2'.below j2 b2'.lt)
  have RQ := Lib.hid ((rq.mono hsz).below j2 (Nat.le_refl _))
  have SG : Hid (∀ W (_ : Below w2.heap.size w2 W), Calls Tryz.prog 10 #[.agg #[.bool (isNeg (Int.tmod z y)), .slice A3 rs.length c3]] W fun e w' => e = .returned (.int .i64 sg) ∧ Below W.heap.size W w') := fun W hW => by rw [Hsg.out]; exact ((Zn.shrink hr ((rr.mono hsz).below j2 (Nat.le_refl _)) HMl.out).zh.next hW).rsign (by omega)
  have B6 := Lib.hid b6
  obtain ⟨p0, p1, _, _⟩ := b7.two
  have Hq := Lib.hid hq
  clear TR hr rr rq b0 b1 b2 b2' k0 k1 b6 b7 hb1 j2 hq hsz
  go_wp2_with fail
  refine (SG.out _ (Below.refl _ _)).mono ?_
  rintro e w3 ⟨rfl, hb3⟩
  clear p0 p1 SG
  have k3 := bst k2 hb3 (Nat.le_refl _)
  have b4 := B4.out.below hb3 B4.out.lt
  obtain ⟨t0, t1, t2, t3⟩ := b4.two
  obtain ⟨p0, p1, _, _⟩ := (B6.out.below hb3 B6.out.lt).two
  clear Hsg
  rcases HS8.out with rfl | rfl
  all_goals
    clear HS8
    go_wp2_with fail
    exact zb_ret (qs := []) k3 b4 (by omega) (Num.zero_ _) Res.none_ rfl rfl rfl rfl rfl

end
end
section
open Go.RowKit

theorem times_plus {a b c : Nat} (ha : a < 18446744073709551616) (hb : b < 18446744073709551616) (hc : c < 18446744073709551616) : a * b / 18446744073709551616 + (a * b % 18446744073709551616 + c) / 18446744073709551616 = (a * b + c) / 18446744073709551616 ∧ (a * b % 18446744073709551616 + c) % 18446744073709551616 = (a * b + c) % 18446744073709551616 ∧ (a * b + c) / 18446744073709551616 < 18446744073709551616 := by
  have h1 : a * b ≤ 18446744073709551615 * 18446744073709551615 := Nat.mul_le_mul (by omega) (by omega)
  generalize a * b = p at *
  omega
set_option maxHeartbeats 400000 in
theorem timesPlus_any (a b c : Nat) (ha : a < 18446744073709551616) (hb : b < 18446744073709551616) (hc : c < 18446744073709551616) (w : World) :
    Calls Tryz.prog 105 #[.int .u64 (a : Int), .int .u64 (b : Int), .int .u64 (c : Int)] w fun e w' => e = .returned (.tuple #[.int .u64 (((a * b + c) % 18446744073709551616 : Nat) : Int), .int .u64 (((a * b + c) / 18446744073709551616 : Nat) : Int)]) ∧ w = w' := by
  obtain ⟨h1, h2, h3⟩ := times_plus ha hb hc
  have hm := fun W => mul64_any a b W ha hb
  have a1 : ∀ W, (callFunc 109 #[.int .u64 ((a * b % 18446744073709551616 : Nat) : Int), .int .u64 (c : Int), .int .u64 0]).run Tryz.prog W = .ok (.value (.tuple #[.int .u64 (((a * b + c) % 18446744073709551616 : Nat) : Int), .int .u64 (((a * b % 18446744073709551616 + c) / 18446744073709551616 : Nat) : Int)])) W := fun W => by
    have := add64_run (a * b % 18446744073709551616) c 0 (by omega) W
    rw [Nat.add_zero, h2] at this
    exact this
  obtain ⟨hi, hhi⟩ : ∃ hi, hi = a * b / 18446744073709551616 := ⟨_, rfl⟩
  obtain ⟨lo, hlo⟩ : ∃ lo, lo = a * b % 18446744073709551616 := ⟨_, rfl⟩
  obtain ⟨ov, hov⟩ : ∃ ov, ov = (lo + c) / 18446744073709551616 := ⟨_, rfl⟩
  obtain ⟨l2, hl2⟩ : ∃ l2, l2 = (a * b + c) % 18446744073709551616 := ⟨_, rfl⟩
  obtain ⟨h9, hh9⟩ : ∃ h9, h9 = (a * b + c) / 18446744073709551616 := ⟨_, rfl⟩
  rw [← hhi, ← hlo] at hm
  rw [← hlo, ← hl2, ← hov] at a1
  rw [← hhi, ← hlo, ← hov, ← hh9] at h1
  rw [← hh9] at h3
  rw [← hl2, ← hh9]
  have e1 : (hi : Int) + (ov : Int) = (h9 : Int) := by omega
  have Hm := Lib.hid hm
  clear hhi hlo hov hl2 hh9 h1 h2 hm
  go_enter Tryz.func105, Tryz.ntmps105
  go_wp2_with (first
    | simp only []
    | (go_at_call 29; (with_reducible refine (Hm.out _).mono ?_); rintro e w' ⟨rfl, rfl⟩))
  go_ret2
  exact ⟨rfl, rfl⟩

theorem app_cell {w : World} {g j : Nat} {xs r : List Nat} (h : Blk w g 54 (u64s (xs ++ r))) (hj : j < xs.length) : w.cell? ⟨g, j, none⟩ = some (.int .u64 (xs[j] : Nat)) := by
  rw [h.cell, u64s_at (by rw [List.length_append]; omega), List.getElem_append_left hj]
theorem app_set {w : World} {g j : Nat} {xs r : List Nat} (h : Blk w g 54 (u64s (xs ++ r))) (hj : j < xs.length) (v : Nat) : Blk (w.setCell ⟨g, j, none⟩ (.int .u64 (v : Int))) g 54 (u64s (xs.set j v ++ r)) := by
  have h1 := h.set_ j (.int .u64 (v : Int))
  have e : (u64s (xs ++ r)).set j (.int .u64 (v : Int)) = u64s (xs.set j v ++ r) := by
    rw [show u64s (xs.set j v ++ r) = u64s ((xs ++ r).set j v) from by rw [List.set_append_left _ _ hj]]
    simp [u64s, List.map_set]
  rwa [e] at h1

theorem mix_eq {P A L K a ly kx up up' down down' less less' plus minus : Nat} (e : A + L + P * up = K + P * (down + less)) (h1 : kx + up = plus + 18446744073709551616 * up') (h2 : ly + down = minus + 18446744073709551616 * down') (h3 : a + minus + less = plus + 18446744073709551616 * less') : A + P * a + (L + P * ly) + P * 18446744073709551616 * up' = K + P * kx + P * 18446744073709551616 * (down' + less') := by
  grind
theorem sub_word {p m c : Nat} (hp : p < 18446744073709551616) (hm : m < 18446744073709551616) (hc : c ≤ 1) : (p + 18446744073709551616 - m - c) % 18446744073709551616 + m + c = p + 18446744073709551616 * (if p < m + c then 1 else 0) ∧ (p + 18446744073709551616 - m - c) % 18446744073709551616 < 18446744073709551616 := by
  split <;> omega
theorem mix_last {A L K P up q : Nat} (h : A + L + P * up = K + P * q) (hA : A < P) (hL : L ≤ K) (hK : K - L < P) : A = K - L := by
  obtain ⟨R, hR⟩ : ∃ R, K = R + L := ⟨K - L, by omega⟩
  have e : A + P * up = R + P * q := by omega
  have e1 : (A + P * up) % P = (R + P * q) % P := by rw [e]
  rw [Nat.add_mul_mod_self_left, Nat.add_mul_mod_self_left, Nat.mod_eq_of_lt hA, Nat.mod_eq_of_lt (by omega)] at e1
  omega

/-- One half of the mixing, j words done. -/
structure MixH (xs ys : List Nat) (k l j : Nat) (zs : List Nat) (up down less : Nat) : Prop where
  len : zs.length = xs.length
  rest : zs.drop j = xs.drop j
  dig : Dig 18446744073709551616 zs
  eq : val 18446744073709551616 (zs.take j) + l * val 18446744073709551616 (ys.take j) + 18446744073709551616 ^ j * up = k * val 18446744073709551616 (xs.take j) + 18446744073709551616 ^ j * (down + less)
  u1 : up < 18446744073709551616
  u2 : down < 18446744073709551616
  u3 : less ≤ 1
theorem MixH.start {xs ys : List Nat} {k l : Nat} (hd : Dig 18446744073709551616 xs) : MixH xs ys k l 0 xs 0 0 0 :=
  ⟨rfl, rfl, hd, by simp [val], by omega, by omega, by omega⟩
theorem MixH.at_ {xs ys zs : List Nat} {k l j up down less : Nat} (h : MixH xs ys k l j zs up down less) (hj : j < xs.length) : ∃ h1 : j < zs.length, zs[j] = xs[j] := by
  have h1 : j < zs.length := by rw [h.len]; exact hj
  refine ⟨h1, ?_⟩
  have h2 := congrArg (fun z => z[0]?) h.rest
  simp only [List.getElem?_drop, Nat.add_zero] at h2
  rw [List.getElem?_eq_getElem h1, List.getElem?_eq_getElem hj] at h2
  exact Option.some.inj h2
theorem MixH.step {xs ys zs : List Nat} {k l j up down less plus minus d c : Nat} (h : MixH xs ys k l j zs up down less) (hj : j < xs.length) (hj2 : j < ys.length) (q1 : (xs[j] * k + up) / 18446744073709551616 < 18446744073709551616) (q2 : (ys[j] * l + down) / 18446744073709551616 < 18446744073709551616) (hp : plus = (xs[j] * k + up) % 18446744073709551616) (hm : minus = (ys[j] * l + down) % 18446744073709551616) (s1 : d + minus + less = plus + 18446744073709551616 * c) (s2 : d < 18446744073709551616) (s3 : c ≤ 1) :
    MixH xs ys k l (j + 1) (zs.set j d) ((xs[j] * k + up) / 18446744073709551616) ((ys[j] * l + down) / 18446744073709551616) c := by
  have hja : j < zs.length := by rw [h.len]; exact hj
  have h1 : xs[j] * k + up = plus + 18446744073709551616 * ((xs[j] * k + up) / 18446744073709551616) := by rw [hp]; exact (Nat.mod_add_div _ _).symm
  have h2 : ys[j] * l + down = minus + 18446744073709551616 * ((ys[j] * l + down) / 18446744073709551616) := by rw [hm]; exact (Nat.mod_add_div _ _).symm
  generalize (xs[j] * k + up) / 18446744073709551616 = up' at *
  generalize (ys[j] * l + down) / 18446744073709551616 = down' at *
  refine ⟨by rw [List.length_set]; exact h.len, ?_, h.dig.set_ _ _ s2, ?_, q1, q2, s3⟩
  · rw [List.drop_set_of_lt (Nat.lt_succ_self j)]
    have := congrArg (List.drop 1) h.rest
    rw [List.drop_drop, List.drop_drop] at this
    exact this
  · have e1 : (zs.set j d).take (j + 1) = zs.take j ++ [d] := by
      rw [List.take_succ_eq_append_getElem (by rw [List.length_set]; exact hja), List.getElem_set_self, List.take_set_of_le (Nat.le_refl _)]
    have e2 : val 18446744073709551616 (zs.take j ++ [d]) = val 18446744073709551616 (zs.take j) + 18446744073709551616 ^ j * d := by
      rw [val_append, List.length_take, Nat.min_eq_left (Nat.le_of_lt hja)]
      simp [val]
    rw [e1, e2, val_take_succ _ _ _ hj, val_take_succ _ _ _ hj2, Nat.mul_add l, Nat.mul_add k, Nat.mul_left_comm l, Nat.mul_left_comm k, Nat.pow_succ, Nat.mul_comm l ys[j], Nat.mul_comm k xs[j]]
    exact mix_eq h.eq h1 h2 s1
theorem MixH.end_ {xs ys zs : List Nat} {k l up down less : Nat} (h : MixH xs ys k l xs.length zs up down less) (hy : ys.length = xs.length) (h1 : l * val 18446744073709551616 ys ≤ k * val 18446744073709551616 xs) (h2 : k * val 18446744073709551616 xs - l * val 18446744073709551616 ys < 18446744073709551616 ^ xs.length) : val 18446744073709551616 zs = k * val 18446744073709551616 xs - l * val 18446744073709551616 ys := by
  have e := h.eq
  rw [List.take_of_length_le (by rw [h.len]; exact Nat.le_refl _), List.take_of_length_le (by omega), List.take_length] at e
  have hv := val_lt _ _ h.dig
  rw [h.len] at hv
  exact mix_last e hv h1 h2

set_option maxRecDepth 100000 in
set_option maxHeartbeats 3200000 in
theorem mix_any (ga gb ca cb : Nat) (xs ys ra rb : List Nat) (k l m n B : Nat) (w : World) (hba : Blk w ga 54 (u64s (xs ++ ra))) (hbb : Blk w gb 54 (u64s (ys ++ rb))) (hne : ga ≠ gb) (hB : B ≤ ga) (hB2 : B ≤ gb) (hl : ys.length = xs.length) (_ : xs.length ≤ ca) (hcb : xs.length ≤ cb) (hm48 : xs.length ≤ 281474976710656) (hdx : Dig 18446744073709551616 xs) (hdy : Dig 18446744073709551616 ys)
    (hk : k < 18446744073709551616) (hl' : l < 18446744073709551616) (hm : m < 18446744073709551616) (hn : n < 18446744073709551616) (a1 : l * val 18446744073709551616 ys ≤ k * val 18446744073709551616 xs) (a2 : k * val 18446744073709551616 xs - l * val 18446744073709551616 ys < 18446744073709551616 ^ xs.length) (b1 : n * val 18446744073709551616 xs ≤ m * val 18446744073709551616 ys) (b2 : m * val 18446744073709551616 ys - n * val 18446744073709551616 xs < 18446744073709551616 ^ xs.length) :
    Calls Tryz.prog 91 #[.slice (some ⟨ga, 0, none⟩) xs.length ca, .slice (some ⟨gb, 0, none⟩) xs.length cb, .int .u64 (k : Int), .int .u64 (l : Int), .int .u64 (m : Int), .int .u64 (n : Int)] w fun e w' => ∃ xs2 ys2 : List Nat, e = .returned (.tuple #[]) ∧ xs2.length = xs.length ∧ ys2.length = xs.length ∧ Dig 18446744073709551616 xs2 ∧ Dig 18446744073709551616 ys2 ∧ val 18446744073709551616 xs2 = k * val 18446744073709551616 xs - l * val 18446744073709551616 ys ∧ val 18446744073709551616 ys2 = m * val 18446744073709551616 ys - n * val 18446744073709551616 xs ∧
      Blk w' ga 54 (u64s (xs2 ++ ra)) ∧ Blk w' gb 54 (u64s (ys2 ++ rb)) ∧ Below B w w' := by
  have HA := Lib.hid (show _ ∧ _ from ⟨a1, a2⟩)
  have HB := Lib.hid (show _ ∧ _ from ⟨b1, b2⟩)
  have Hl := Lib.hid hl
  clear a1 a2 b1 b2 hl
  go_enter Tryz.func91, Tryz.ntmps91
  go_wp2_with fail
  go_loopw [12, 13, 14, 15, 16, 17, 18, 19, 20, 21, 22, 29] (fun s12 s13 s14 s15 s16 s17 _ _ _ _ _ iv wr => ∃ (j up down less up2 down2 less2 : Nat) (zs zs2 : List Nat), j ≤ xs.length ∧ iv = .int .i64 (j : Int) ∧ s12 = .int .u64 (up : Int) ∧ s13 = .int .u64 (down : Int) ∧ s14 = .int .u64 (less : Int) ∧ s15 = .int .u64 (up2 : Int) ∧ s16 = .int .u64 (down2 : Int) ∧ s17 = .int .u64 (less2 : Int) ∧ Hid (MixH xs ys k l j zs up down less) ∧ Hid (MixH ys xs m n j zs2 up2 down2 less2) ∧ Blk wr ga 54 (u64s (zs ++ ra)) ∧ Blk wr gb 54 (u64s (zs2 ++ rb)) ∧ Below B w wr) (fun _ _ _ _ _ _ _ _ _ _ _ iv _ => xs.length - (intOf iv).toNat)
  case atStart => exact ⟨0, 0, 0, 0, 0, 0, 0, xs, ys, by omega, rfl, rfl, rfl, rfl, rfl, rfl, rfl, MixH.start hdx, MixH.start hdy, hba, hbb, Below.refl _ _⟩
  case round =>
    clear hba hbb
    obtain ⟨j, up, down, less, up2, down2, less2, zs, zs2, hj, rfl, rfl, rfl, rfl, rfl, rfl, rfl, H1, H2, hba, hbb, hbel⟩ := hrel
    by_cases hlt : j < xs.length
    · have hlt2 : j < ys.length := by rw [Hl.out]; exact hlt
      obtain ⟨z1, e1⟩ := H1.out.at_ hlt
      obtain ⟨z2, e2⟩ := H2.out.at_ hlt2
      have cx := app_cell hba z1
      have cy := app_cell hbb z2
      rw [e1] at cx
      rw [e2] at cy
      have dx := hdx.at_ j hlt
      have dy := hdy.at_ j hlt2
      obtain ⟨x, hx⟩ : ∃ x, x = xs[j] := ⟨_, rfl⟩
      obtain ⟨y, hy⟩ : ∃ y, y = ys[j] := ⟨_, rfl⟩
      rw [← hx] at cx dx
      rw [← hy] at cy dy
      obtain ⟨p1, hp1⟩ : ∃ p, p = (x * k + up) % 18446744073709551616 := ⟨_, rfl⟩
      obtain ⟨q1, hq1⟩ : ∃ p, p = (x * k + up) / 18446744073709551616 := ⟨_, rfl⟩
      obtain ⟨p2, hp2⟩ : ∃ p, p = (y * l + down) % 18446744073709551616 := ⟨_, rfl⟩
      obtain ⟨q2, hq2⟩ : ∃ p, p = (y * l + down) / 18446744073709551616 := ⟨_, rfl⟩
      obtain ⟨p3, hp3⟩ : ∃ p, p = (y * m + up2) % 18446744073709551616 := ⟨_, rfl⟩
      obtain ⟨q3, hq3⟩ : ∃ p, p = (y * m + up2) / 18446744073709551616 := ⟨_, rfl⟩
      obtain ⟨p4, hp4⟩ : ∃ p, p = (x * n + down2) % 18446744073709551616 := ⟨_, rfl⟩
      obtain ⟨q4, hq4⟩ : ∃ p, p = (x * n + down2) / 18446744073709551616 := ⟨_, rfl⟩
      have T1 := Lib.hid (timesPlus_any x k up dx hk H1.out.u1)
      have T2 := Lib.hid (timesPlus_any y l down dy hl' H1.out.u2)
      have T3 := Lib.hid (timesPlus_any y m up2 dy hm H2.out.u1)
      have T4 := Lib.hid (timesPlus_any x n down2 dx hn H2.out.u2)
      rw [← hp1, ← hq1] at T1
      rw [← hp2, ← hq2] at T2
      rw [← hp3, ← hq3] at T3
      rw [← hp4, ← hq4] at T4
      have b1 : p1 < 18446744073709551616 := by rw [hp1]; exact Nat.mod_lt _ (by omega)
      have b2 : p2 < 18446744073709551616 := by rw [hp2]; exact Nat.mod_lt _ (by omega)
      have b3 : p3 < 18446744073709551616 := by rw [hp3]; exact Nat.mod_lt _ (by omega)
      have b4 : p4 < 18446744073709551616 := by rw [hp4]; exact Nat.mod_lt _ (by omega)
      have i1 : ∀ c : Prop, [Decidable c] → (if c then 1 else 0 : Nat) ≤ 1 := fun c _ => by split <;> omega
      have N1 := H1.out.step (plus := p1) (minus := p2) hlt hlt2 (times_plus (hdx.at_ j hlt) hk H1.out.u1).2.2 (times_plus (hdy.at_ j hlt2) hl' H1.out.u2).2.2 (by rw [← hx]; exact hp1) (by rw [← hy]; exact hp2) (sub_word b1 b2 H1.out.u3).1 (sub_word b1 b2 H1.out.u3).2 (i1 _)
      have N2 := H2.out.step (plus := p3) (minus := p4) hlt2 hlt (times_plus (hdy.at_ j hlt2) hm H2.out.u1).2.2 (times_plus (hdx.at_ j hlt) hn H2.out.u2).2.2 (by rw [← hy]; exact hp3) (by rw [← hx]; exact hp4) (sub_word b3 b4 H2.out.u3).1 (sub_word b3 b4 H2.out.u3).2 (i1 _)
      clear b1 b2 b3 b4 i1
      rw [← hx, ← hy, ← hq1, ← hq2] at N1
      rw [← hx, ← hy, ← hq3, ← hq4] at N2
      have s1 := fun W => sub64_run p1 p2 less H1.out.u3 W
      have s2 := fun W => sub64_run p3 p4 less2 H2.out.u3 W
      obtain ⟨d1, hd1⟩ : ∃ d, d = (p1 + 18446744073709551616 - p2 - less) % 18446744073709551616 := ⟨_, rfl⟩
      obtain ⟨d2, hd2⟩ : ∃ d, d = (p3 + 18446744073709551616 - p4 - less2) % 18446744073709551616 := ⟨_, rfl⟩
      obtain ⟨c1, hc1⟩ : ∃ d : Nat, d = (if p1 < p2 + less then 1 else 0) := ⟨_, rfl⟩
      obtain ⟨c2, hc2⟩ : ∃ d : Nat, d = (if p3 < p4 + less2 then 1 else 0) := ⟨_, rfl⟩
      rw [← hd1, ← hc1] at s1 N1
      rw [← hd2, ← hc2] at s2 N2
      have NN1 := Lib.hid N1
      have NN2 := Lib.hid N2
      have hf1 := hba.frozen j
      have hba2 := app_set hba z1 d1
      have hbb2 := (hbb.far (p := ⟨ga, j, none⟩) (by simp; omega) (.int .u64 (d1 : Int)))
      have cy2 := app_cell hbb2 z2
      have hf2 := hbb2.frozen j
      clear hp1 hq1 hp2 hq2 hp3 hq3 hp4 hq4 hd1 hd2 hc1 hc2 N1 N2 e1 e2 hx hy H1 H2
      go_wp2_with (go_at_call 105; first
        | ((with_reducible refine (T1.out _).mono ?_); rintro e w' ⟨rfl, rfl⟩)
        | ((with_reducible refine (T2.out _).mono ?_); rintro e w' ⟨rfl, rfl⟩)
        | ((with_reducible refine (T3.out _).mono ?_); rintro e w' ⟨rfl, rfl⟩)
        | ((with_reducible refine (T4.out _).mono ?_); rintro e w' ⟨rfl, rfl⟩))
      go_roundw
      case rel => exact ⟨j + 1, q1, q2, c1, q3, q4, c2, zs.set j d1, zs2.set j d2, by omega, by go_num, rfl, rfl, rfl, rfl, rfl, rfl, NN1.out, NN2.out, hba2.far (p := ⟨gb, j, none⟩) (by simp; omega) _, app_set hbb2 z2 d2, (hbel.setCell (p := ⟨ga, j, none⟩) hB _).setCell (p := ⟨gb, j, none⟩) hB2 _⟩
      case measure => simp [intOf]; omega
    · obtain rfl : j = xs.length := by omega
      have h1 := H1.out.end_ Hl.out HA.out.1 HA.out.2
      have h2 := H2.out
      rw [← Hl.out] at h2
      have h3 := h2.end_ Hl.out.symm HB.out.1 (by rw [Hl.out]; exact HB.out.2)
      have Hr := Lib.hid (show _ ∧ _ ∧ _ ∧ _ from ⟨h1, h3, H1.out.len, h2.len.trans Hl.out⟩)
      clear h1 h2 h3
      go_wp2_with fail
      go_end0
      exact ⟨zs, zs2, rfl, Hr.out.2.2.1, Hr.out.2.2.2, H1.out.dig, H2.out.dig, Hr.out.1, Hr.out.2.1, hba, hbb, hbel⟩
end
section
open Go.RowKit

/-- Two rows that are mixed. -/
def MixOut (w w' : World) (B ga gb N : Nat) (ra rb : List Nat) (X Y : Nat) : Prop :=
  ∃ xs2 ys2 : List Nat, xs2.length = N ∧ ys2.length = N ∧ Dig 18446744073709551616 xs2 ∧ Dig 18446744073709551616 ys2 ∧ val 18446744073709551616 xs2 = X ∧ val 18446744073709551616 ys2 = Y ∧ Blk w' ga 54 (u64s (xs2 ++ ra)) ∧ Blk w' gb 54 (u64s (ys2 ++ rb)) ∧ Below B w w'

set_option maxRecDepth 100000 in
set_option maxHeartbeats 1600000 in
theorem apply_even (ga gb ca cb : Nat) (xs ys ra rb : List Nat) (u0 v0 u1 v1 B : Nat) (w : World) (hba : Blk w ga 54 (u64s (xs ++ ra))) (hbb : Blk w gb 54 (u64s (ys ++ rb))) (hne : ga ≠ gb) (hB : B ≤ ga) (hB2 : B ≤ gb) (hl : ys.length = xs.length) (hca : xs.length ≤ ca) (hcb : xs.length ≤ cb) (hm48 : xs.length ≤ 281474976710656) (hdx : Dig 18446744073709551616 xs) (hdy : Dig 18446744073709551616 ys)
    (h1 : u0 < 18446744073709551616) (h2 : v0 < 18446744073709551616) (h3 : u1 < 18446744073709551616) (h4 : v1 < 18446744073709551616) (a1 : v0 * val 18446744073709551616 ys ≤ u0 * val 18446744073709551616 xs) (a2 : u0 * val 18446744073709551616 xs - v0 * val 18446744073709551616 ys < 18446744073709551616 ^ xs.length) (b1 : u1 * val 18446744073709551616 xs ≤ v1 * val 18446744073709551616 ys) (b2 : v1 * val 18446744073709551616 ys - u1 * val 18446744073709551616 xs < 18446744073709551616 ^ xs.length) :
    Calls Tryz.prog 73 #[.agg #[.int .u64 (u0 : Int), .int .u64 (v0 : Int), .int .u64 (u1 : Int), .int .u64 (v1 : Int), .bool true], .slice (some ⟨ga, 0, none⟩) xs.length ca, .slice (some ⟨gb, 0, none⟩) xs.length cb] w fun e w' => e = .returned (.tuple #[.slice (some ⟨ga, 0, none⟩) xs.length ca, .slice (some ⟨gb, 0, none⟩) xs.length cb]) ∧
      MixOut w w' B ga gb xs.length ra rb (u0 * val 18446744073709551616 xs - v0 * val 18446744073709551616 ys) (v1 * val 18446744073709551616 ys - u1 * val 18446744073709551616 xs) := by
  have hgl := hba.lt
  have hgl2 := hbb.lt
  have HM : Hid (∀ W, Below w.heap.size w W → Calls Tryz.prog 91 #[.slice (some ⟨ga, 0, none⟩) xs.length ca, .slice (some ⟨gb, 0, none⟩) xs.length cb, .int .u64 (u0 : Int), .int .u64 (v0 : Int), .int .u64 (v1 : Int), .int .u64 (u1 : Int)] W fun e w' => e = .returned (.tuple #[]) ∧ MixOut W w' B ga gb xs.length ra rb (u0 * val 18446744073709551616 xs - v0 * val 18446744073709551616 ys) (v1 * val 18446744073709551616 ys - u1 * val 18446744073709551616 xs)) := fun W hW =>
    (mix_any ga gb ca cb xs ys ra rb u0 v0 v1 u1 B W (hba.below hW hgl) (hbb.below hW hgl2) hne hB hB2 hl hca hcb hm48 hdx hdy h1 h2 h4 h3 a1 a2 b1 b2).mono fun e w' ⟨x2, y2, q0, q1, q2, q3, q4, q5, q6, q7, q8, q9⟩ => ⟨q0, x2, y2, q1, q2, q3, q4, q5, q6, q7, q8, q9⟩
  clear hba hbb a1 a2 b1 b2 hl
  go_enter Tryz.func73, Tryz.ntmps73
  go_wp2_with (go_at_call 91; (with_reducible refine (HM.out _ (by first | exact Below.refl _ _ | exact (Below.refl _ _).alloc (Nat.le_refl _) _)).mono ?_); rintro e w2 ⟨rfl, hmo⟩)
  go_ret2
  obtain ⟨x2, y2, q1, q2, q3, q4, q5, q6, q7, q8, q9⟩ := hmo
  exact ⟨rfl, x2, y2, q1, q2, q3, q4, q5, q6, q7, q8, ((Below.refl _ _).alloc (by omega) _).trans q9⟩
set_option maxRecDepth 100000 in
set_option maxHeartbeats 1600000 in
theorem apply_odd (ga gb ca cb : Nat) (xs ys ra rb : List Nat) (u0 v0 u1 v1 B : Nat) (w : World) (hba : Blk w ga 54 (u64s (xs ++ ra))) (hbb : Blk w gb 54 (u64s (ys ++ rb))) (hne : ga ≠ gb) (hB : B ≤ ga) (hB2 : B ≤ gb) (hl : ys.length = xs.length) (hca : xs.length ≤ ca) (hcb : xs.length ≤ cb) (hm48 : xs.length ≤ 281474976710656) (hdx : Dig 18446744073709551616 xs) (hdy : Dig 18446744073709551616 ys)
    (h1 : u0 < 18446744073709551616) (h2 : v0 < 18446744073709551616) (h3 : u1 < 18446744073709551616) (h4 : v1 < 18446744073709551616) (a1 : u0 * val 18446744073709551616 xs ≤ v0 * val 18446744073709551616 ys) (a2 : v0 * val 18446744073709551616 ys - u0 * val 18446744073709551616 xs < 18446744073709551616 ^ xs.length) (b1 : v1 * val 18446744073709551616 ys ≤ u1 * val 18446744073709551616 xs) (b2 : u1 * val 18446744073709551616 xs - v1 * val 18446744073709551616 ys < 18446744073709551616 ^ xs.length) :
    Calls Tryz.prog 73 #[.agg #[.int .u64 (u0 : Int), .int .u64 (v0 : Int), .int .u64 (u1 : Int), .int .u64 (v1 : Int), .bool false], .slice (some ⟨ga, 0, none⟩) xs.length ca, .slice (some ⟨gb, 0, none⟩) xs.length cb] w fun e w' => e = .returned (.tuple #[.slice (some ⟨gb, 0, none⟩) xs.length cb, .slice (some ⟨ga, 0, none⟩) xs.length ca]) ∧
      MixOut w w' B gb ga xs.length rb ra (v0 * val 18446744073709551616 ys - u0 * val 18446744073709551616 xs) (u1 * val 18446744073709551616 xs - v1 * val 18446744073709551616 ys) := by
  have hgl := hba.lt
  have hgl2 := hbb.lt
  have HM : Hid (∀ W, Below w.heap.size w W → Calls Tryz.prog 91 #[.slice (some ⟨gb, 0, none⟩) xs.length cb, .slice (some ⟨ga, 0, none⟩) xs.length ca, .int .u64 (v0 : Int), .int .u64 (u0 : Int), .int .u64 (u1 : Int), .int .u64 (v1 : Int)] W fun e w' => e = .returned (.tuple #[]) ∧ MixOut W w' B gb ga xs.length rb ra (v0 * val 18446744073709551616 ys - u0 * val 18446744073709551616 xs) (u1 * val 18446744073709551616 xs - v1 * val 18446744073709551616 ys)) := fun W hW => by
    have h := mix_any gb ga cb ca ys xs rb ra v0 u0 u1 v1 B W (hbb.below hW hgl2) (hba.below hW hgl) hne.symm hB2 hB hl.symm (by omega) (by omega) (by omega) hdy hdx h2 h1 h3 h4 a1 (by rw [hl]; exact a2) b1 (by rw [hl]; exact b2)
    rw [hl] at h
    exact h.mono fun e w' ⟨x2, y2, q0, q1, q2, q3, q4, q5, q6, q7, q8, q9⟩ => ⟨q0, x2, y2, q1, q2, q3, q4, q5, q6, q7, q8, q9⟩
  clear hba hbb a1 a2 b1 b2 hl
  go_enter Tryz.func73, Tryz.ntmps73
  go_wp2_with (go_at_call 91; (with_reducible refine (HM.out _ (by first | exact Below.refl _ _ | exact (Below.refl _ _).alloc (Nat.le_refl _) _)).mono ?_); rintro e w2 ⟨rfl, hmo⟩)
  go_ret2
  obtain ⟨x2, y2, q1, q2, q3, q4, q5, q6, q7, q8, q9⟩ := hmo
  exact ⟨rfl, x2, y2, q1, q2, q3, q4, q5, q6, q7, q8, ((Below.refl _ _).alloc (by omega) _).trans q9⟩
end
section
open Go.RowKit

theorem top_or {t y s m : Nat} (hsm : s + m = 64) (ht : t < 2 ^ m) (hy : y < 18446744073709551616) : bits BinOp.or IntKind.u64 (IntKind.u64.wrap ((t : Int) * 2 ^ s)) (((y / 2 ^ m : Nat) : Int)) = ((t * 2 ^ s + y / 2 ^ m : Nat) : Int) ∧ t * 2 ^ s + y / 2 ^ m < 18446744073709551616 := by
  have hW : (18446744073709551616 : Nat) = 2 ^ m * 2 ^ s := by rw [← Nat.pow_add, show m + s = 64 from by omega]
  have h1 : y / 2 ^ m < 2 ^ s := by
    rw [Nat.div_lt_iff_lt_mul (Nat.two_pow_pos m), Nat.mul_comm, ← hW]; exact hy
  have h2 : (t + 1) * 2 ^ s ≤ 18446744073709551616 := by rw [hW]; exact Nat.mul_le_mul_right _ ht
  rw [Nat.add_mul, Nat.one_mul] at h2
  have h3 : t * 2 ^ s < 18446744073709551616 := by have := Nat.two_pow_pos s; omega
  have h5 := shl_or (y / 2 ^ m) t s m hsm h1 (Nat.lt_of_le_of_lt (Nat.div_le_self _ _) hy)
  rw [wrap_shl] at h5 ⊢
  rw [Nat.mod_eq_of_lt h3] at h5 ⊢
  refine ⟨?_, by omega⟩
  rw [bits_or_u64_nat _ _ (Nat.lt_of_le_of_lt (Nat.div_le_self _ _) hy) h3, Nat.or_comm, ← bits_or_u64_nat _ _ h3 (Nat.lt_of_le_of_lt (Nat.div_le_self _ _) hy)] at h5
  rw [h5, Nat.add_comm]
theorem shr_n (x t : Nat) : (x : Int) / 2 ^ t = ((x / 2 ^ t : Nat) : Int) := by rw [Int.natCast_ediv, Int.natCast_pow]; rfl
theorem top_two {us : List Nat} {m : Nat} (hl : us.length = m + 2) (hd : Dig 18446744073709551616 us) : val 18446744073709551616 us / 18446744073709551616 ^ m = us[m] + 18446744073709551616 * us[m + 1] ∧ val 18446744073709551616 us / 18446744073709551616 ^ (m + 1) = us[m + 1] := by
  have e1 : us.drop m = [us[m], us[m + 1]] := by
    rw [List.drop_eq_getElem_cons (by omega), List.drop_eq_getElem_cons (by omega), List.drop_of_length_le (by omega)]
  have e2 : us.drop (m + 1) = [us[m + 1]] := by
    rw [List.drop_eq_getElem_cons (by omega), List.drop_of_length_le (by omega)]
  rw [← val_drop (by omega) _ _ hd, ← val_drop (by omega) _ _ hd, e1, e2]
  simp [val]
theorem top_word1 {vs : List Nat} {m : Nat} (hl : vs.length = m + 1) (hd : Dig 18446744073709551616 vs) : val 18446744073709551616 vs / 18446744073709551616 ^ m = vs[m] := by
  have e2 : vs.drop m = [vs[m]] := by
    rw [List.drop_eq_getElem_cons (by omega), List.drop_of_length_le (by omega)]
  rw [← val_drop (by omega) _ _ hd, e2]
  simp [val]
theorem two_div {t y s m : Nat} (hsm : s + m = 64) : (y + 18446744073709551616 * t) / 2 ^ m = t * 2 ^ s + y / 2 ^ m := by
  have hW : (18446744073709551616 : Nat) = 2 ^ m * 2 ^ s := by rw [← Nat.pow_add, show m + s = 64 from by omega]
  rw [hW, Nat.mul_assoc, Nat.add_mul_div_left _ _ (Nat.two_pow_pos m), Nat.mul_comm (2 ^ s), Nat.add_comm]

theorem two_alloc (w : World) (n : Nat) (o o2 : Obj) : Below w.heap.size w (((w.alloc o).drewN n).alloc o2) := by
  have h1 := (Below.refl w.heap.size w).alloc (Nat.le_refl _) o
  have h2 := h1.trans (((Dr.refl (w.alloc o)).step n).below w.heap.size)
  exact h2.alloc h2.size o2
theorem blk_two_draw {w : World} {o : Obj} {n : Nat} {t : TypeId} {cs : Array Value} {vs : List Value} (e : cs = vs.toArray) : Blk (((w.alloc o).drewN n).alloc (.cells cs t (0, 0))) (w.heap.size + 1) t vs := by
  have h := Blk.new_ (w := (w.alloc o).drewN n) (t := t) e
  have hz : ((w.alloc o).drewN n).heap.size = w.heap.size + 1 := by show (w.alloc o).heap.size = _; simp
  rwa [hz] at h

/-- What simulate's steps are good for. -/
def StepsOk (ev : Bool) (u0 v0 u1 v1 X Y : Nat) : Prop :=
  v0 = 0 ∨ (u0 < 18446744073709551616 ∧ v0 < 18446744073709551616 ∧ u1 < 18446744073709551616 ∧ v1 < 18446744073709551616 ∧
    (if ev then v0 * Y ≤ u0 * X ∧ u1 * X ≤ v1 * Y ∧ v1 * Y - u1 * X ≤ u0 * X - v0 * Y ∧ Nat.gcd (u0 * X - v0 * Y) (v1 * Y - u1 * X) = Nat.gcd X Y ∧ u0 * X - v0 * Y + (v1 * Y - u1 * X) ≤ X
     else u0 * X ≤ v0 * Y ∧ v1 * Y ≤ u1 * X ∧ u1 * X - v1 * Y ≤ v0 * Y - u0 * X ∧ Nat.gcd (v0 * Y - u0 * X) (u1 * X - v1 * Y) = Nat.gcd X Y ∧ v0 * Y - u0 * X + (u1 * X - v1 * Y) ≤ X))
/-- The loop's state. -/
def Simd (ev : Bool) (x0 y0 x y u0 u1 u2 v0 v1 v2 : Nat) : Prop :=
  Leh ev x0 y0 x y u1 u2 v1 v2 ∧ u0 ≤ x0 ∧ u1 ≤ x0 ∧ v0 ≤ x0 ∧ v1 ≤ x0 ∧ (v0 = 0 ∨ ∃ xp, Leh (!ev) x0 y0 xp x u0 u1 v0 v1 ∧ v1 ≤ x ∧ x + v0 + v1 ≤ xp)
theorem Simd.ok {ev : Bool} {x0 y0 x y u0 u1 u2 v0 v1 v2 D ra rb X Y : Nat} (h : Simd ev x0 y0 x y u0 u1 u2 v0 v1 v2) (hX : X = x0 * D + ra) (hY : Y = y0 * D + rb) (ha : ra < D) (hb : rb < D) (hx : x0 < 18446744073709551616) : StepsOk ev u0 v0 u1 v1 X Y := by
  obtain ⟨_, h1, h2, h3, h4, h5⟩ := h
  rcases Nat.eq_zero_or_pos v0 with h0 | h0
  · exact Or.inl h0
  rcases h5 with h5 | ⟨xp, h5, h6, h7⟩
  · omega
  refine Or.inr ⟨by omega, by omega, by omega, by omega, ?_⟩
  cases ev
  · simp only [Bool.false_eq_true, if_false]
    obtain ⟨m1, m2, m3, m4, m5⟩ := Leh.mixed2 h5 h6 h7 hX hY ha hb
    exact ⟨m1, m2, m3, m4, m5 h0⟩
  · simp only [if_true]
    obtain ⟨m1, m2, m3, m4, m5⟩ := Leh.mixed h5 h6 h7 hX hY ha hb
    exact ⟨m1, m2, m3, m4, m5 h0 h5.v2p⟩
theorem Simd.start {x0 y0 : Nat} (h : y0 ≤ x0) (h1 : 1 ≤ x0) : Simd false x0 y0 x0 y0 0 1 0 0 0 1 := ⟨Leh.start h, by omega, by omega, by omega, by omega, Or.inl rfl⟩
theorem Simd.next {ev : Bool} {x0 y0 x y u0 u1 u2 v0 v1 v2 : Nat} (h : Simd ev x0 y0 x y u0 u1 u2 v0 v1 v2) (g1 : v2 ≤ y) (g2 : y + v1 + v2 ≤ x) : Simd (!ev) x0 y0 y (x % y) u1 u2 (u1 + x / y * u2) v1 v2 (v1 + x / y * v2) := by
  obtain ⟨hl, h1, h2, h3, h4, h5⟩ := h
  obtain ⟨f1, f2, f3⟩ := hl.fits g1
  have uv := hl.uv
  refine ⟨hl.next g1, h2, by omega, h4, by omega, Or.inr ⟨x, by rw [Bool.not_not]; exact hl, g1, g2⟩⟩

theorem steps_end {wr : World} {s r : Nat} {z0 z1 z2 z3 : Value} {ev : Bool} {u0 v0 u1 v1 B : Nat} {w : World} (h1 : Blk wr s 91 [z0, z1, z2, z3, .bool ev]) (h0 : Blk wr r 91 [.int .u64 0, .int .u64 0, .int .u64 0, .int .u64 0, .bool false]) (hne : s ≠ r) (hb : Below B w wr) (hB : B ≤ s) :
    ∃ W, W = (((wr.setCell ⟨s, 0, none⟩ (.int .u64 (u0 : Int))).setCell ⟨s, 2, none⟩ (.int .u64 (u1 : Int))).setCell ⟨s, 1, none⟩ (.int .u64 (v0 : Int))).setCell ⟨s, 3, none⟩ (.int .u64 (v1 : Int)) ∧
      Blk W s 91 [.int .u64 (u0 : Int), .int .u64 (v0 : Int), .int .u64 (u1 : Int), .int .u64 (v1 : Int), .bool ev] ∧ Blk W r 91 [.int .u64 0, .int .u64 0, .int .u64 0, .int .u64 0, .bool false] ∧ Below B w W := by
  have k1 := (((h1.set_ 0 (.int .u64 (u0 : Int))).set_ 2 (.int .u64 (u1 : Int))).set_ 1 (.int .u64 (v0 : Int))).set_ 3 (.int .u64 (v1 : Int))
  simp only [List.set_cons_zero, List.set_cons_succ] at k1
  have k0 := (((h0.far (p := ⟨s, 0, none⟩) hne.symm (.int .u64 (u0 : Int))).far (p := ⟨s, 2, none⟩) hne.symm (.int .u64 (u1 : Int))).far (p := ⟨s, 1, none⟩) hne.symm (.int .u64 (v0 : Int))).far (p := ⟨s, 3, none⟩) hne.symm (.int .u64 (v1 : Int))
  have kb := (((hb.setCell (p := ⟨s, 0, none⟩) hB (.int .u64 (u0 : Int))).setCell (p := ⟨s, 2, none⟩) hB (.int .u64 (u1 : Int))).setCell (p := ⟨s, 1, none⟩) hB (.int .u64 (v0 : Int))).setCell (p := ⟨s, 3, none⟩) hB (.int .u64 (v1 : Int))
  exact ⟨_, rfl, k1, k0, kb⟩
theorem blk_range {w : World} {g : Nat} {t : TypeId} {cs : List Value} (h : Blk w g t cs) : w.rangeAt g 0 cs := fun j v hv => by
  rw [Nat.zero_add, h.cell]; exact hv
theorem blk_there {w : World} {g : Nat} {t : TypeId} {cs : List Value} {n : Nat} (h : Blk w g t cs) (hn : n ≤ cs.length) : w.there g 0 n := fun j hj => ⟨by
  rw [Nat.zero_add, h.cell, List.getElem?_eq_getElem (by omega)]; rfl, h.frozen _⟩
theorem blk_all {w : World} {g : Nat} {t : TypeId} {cs vs : List Value} (h : Blk w g t cs) (hn : vs.length = cs.length) : Blk (w.setCells g 0 vs) g t vs := by
  have h1 := Blk.setCells_ vs w cs 0 h (by omega)
  rw [List.take_zero, List.nil_append, Nat.zero_add, hn, List.drop_length, List.append_nil] at h1
  exact h1

set_option maxRecDepth 100000 in
set_option maxHeartbeats 6400000 in
theorem simulate_any (A A2 : Option Addr) (c c2 : Nat) (us vs : List Nat) (X Y : Nat) (w : World) (B : Nat) (hr : Rd w B A (u64s us)) (hr2 : Rd w B A2 (u64s vs)) (hB : B ≤ w.heap.size) (nX : Num 18446744073709551616 us X) (nY : Num 18446744073709551616 vs Y) (hle : Y ≤ X) (h2 : 2 ≤ us.length) (h3 : 2 ≤ vs.length) (hl : vs.length ≤ us.length) (hm48 : us.length ≤ 281474976710656) :
    Calls Tryz.prog 71 #[.slice A us.length c, .slice A2 vs.length c2] w fun e w' => ∃ (u0 v0 u1 v1 : Nat) (ev : Bool), e = .returned (.agg #[.int .u64 (u0 : Int), .int .u64 (v0 : Int), .int .u64 (u1 : Int), .int .u64 (v1 : Int), .bool ev]) ∧ StepsOk ev u0 v0 u1 v1 X Y ∧ Below w.heap.size w w' := by
  obtain ⟨m, hn⟩ : ∃ m, us.length = m + 2 := ⟨us.length - 2, by omega⟩
  have hune : us ≠ [] := by intro e; rw [e] at h2; simp at h2
  have hge := nX.ge hune
  rw [show us.length - 1 = m + 1 from by omega] at hge
  have hd := nX.1
  have hd2 := nY.1
  have hut := top_pos hn hd (by rw [nX.2.2]; exact hge)
  obtain ⟨tA1, tA2⟩ := top_two hn hd
  rw [nX.2.2] at tA1 tA2
  have htd := hd.at_ (m + 1) (by omega)
  have htd2 := hd.at_ m (by omega)
  obtain ⟨b, off, rfl, hb, cx1⟩ := hr.at64 (show m + 1 < us.length by omega)
  obtain ⟨b', off', he', _, cx2⟩ := hr.at64 (show m < us.length by omega)
  obtain ⟨rfl, rfl⟩ : b = b' ∧ off = off' := by simpa using he'
  obtain ⟨t, htt⟩ : ∃ t, t = us[m + 1] := ⟨_, rfl⟩
  obtain ⟨t2, htt2⟩ : ∃ t2, t2 = us[m] := ⟨_, rfl⟩
  rw [← htt] at hut tA1 tA2 htd cx1
  rw [← htt2] at tA1 htd2 cx2
  obtain ⟨bl1, bl2, bl3⟩ := bitLen_bounds t htd (by omega)
  have bl4 := bitLen_le64 t htd
  have hlz := fun W => lz64_any t W htd
  obtain ⟨bl, hbl⟩ : ∃ bl, bl = Lib.bitLen t := ⟨_, rfl⟩
  rw [← hbl] at bl1 bl2 bl3 bl4 hlz
  obtain ⟨s, hs⟩ : ∃ s, s = 64 - bl := ⟨_, rfl⟩
  have Bl2 := Lib.hid bl2
  have Bl3 := Lib.hid bl3
  clear bl2 bl3 htt htt2 he' hbl
  have hbs : s + bl = 64 := by omega
  have hs64 : s < 64 := by omega
  have eS : (64 : Int) - (bl : Int) = (s : Int) := by omega
  have eS2 : (64 : Int) - (s : Int) = (bl : Int) := by omega
  obtain ⟨o1, o2⟩ := top_or hbs Bl3.out htd2
  have x0e : (X / 18446744073709551616 ^ m) / 2 ^ bl = t * 2 ^ s + t2 / 2 ^ bl := by rw [tA1]; exact two_div hbs
  obtain ⟨x0, hx0⟩ : ∃ x0, x0 = t * 2 ^ s + t2 / 2 ^ bl := ⟨_, rfl⟩
  rw [← hx0] at o1 o2 x0e
  have hx01 : 1 ≤ x0 := by
    have h9 : 1 * 1 ≤ t * 2 ^ s := Nat.mul_le_mul hut (Nat.two_pow_pos s)
    rw [hx0]
    exact Nat.le_trans h9 (Nat.le_add_right _ _)
  obtain ⟨D, hD⟩ : ∃ D, D = 18446744073709551616 ^ m * 2 ^ bl := ⟨_, rfl⟩
  have hD0 : 0 < D := by rw [hD]; exact Nat.mul_pos (Nat.pow_pos (by omega)) (Nat.two_pow_pos _)
  have hXD : X / D = x0 := by rw [hD, ← Nat.div_div_eq_div_mul]; exact x0e
  obtain ⟨y0, hy0⟩ : ∃ y0, y0 = Y / D := ⟨_, rfl⟩
  have hyx : y0 ≤ x0 := by rw [hy0, ← hXD]; exact Nat.div_le_div_right hle
  have HX := Lib.hid (show X = x0 * D + X % D by rw [← hXD, Nat.mul_comm]; exact (Nat.div_add_mod X D).symm)
  have HY := Lib.hid (show Y = y0 * D + Y % D by rw [hy0, Nat.mul_comm]; exact (Nat.div_add_mod Y D).symm)
  have Hy0 : Hid (y0 = (Y / 18446744073709551616 ^ m) / 2 ^ bl) := by show _ = _; rw [hy0, hD, ← Nat.div_div_eq_div_mul]
  have Ho1 : Hid (bits BinOp.or IntKind.u64 (IntKind.u64.wrap ((t : Int) * 2 ^ s)) ((t2 : Int) / 2 ^ bl) = (x0 : Int)) := by
    show bits BinOp.or IntKind.u64 (IntKind.u64.wrap ((t : Int) * 2 ^ s)) ((t2 : Int) / 2 ^ bl) = (x0 : Int)
    rw [← o1, shr_n]
  have Hlz := Lib.hid hlz
  have Hx0 := Lib.hid hx0
  clear o1 x0e hx0 hD hXD hy0 hlz tA1 hs hge
  obtain ⟨b2, off2, rfl, hb2, cy0⟩ := hr2.at64 (show 0 < vs.length by omega)
  have past : ∀ (k : Nat) (v : Value) (g : Nat) (o : Obj), g < w.heap.size → w.cell? ⟨g, k, none⟩ = some v → (w.alloc o).cell? ⟨g, k, none⟩ = some v := fun k v g o hg hc => by
    rw [World.cell?_alloc_past _ _ _ (by show g < _; exact hg)]; exact hc
  have hcx1 := fun o => past _ _ _ o (Nat.lt_of_lt_of_le hb hB) cx1
  have hcx2 := fun o => past _ _ _ o (Nat.lt_of_lt_of_le hb hB) cx2
  clear cx1 cx2
  have p1 : (m : Int) + 2 - 1 = (m : Int) + 1 := by omega
  have p2 : (m : Int) + 2 - 2 = (m : Int) := by omega
  rw [hn]
  have HS := Lib.hid (fun (z : Nat) (hz : z = y0) => (show Simd false x0 y0 x0 z 0 1 0 0 0 1 by rw [hz]; exact Simd.start hyx hx01))
  rcases (by omega : vs.length = m + 2 ∨ vs.length = m + 1 ∨ vs.length ≤ m) with h5 | h5 | h5
  case' inl =>
    obtain ⟨tB1, tB2⟩ := top_two h5 hd2
    rw [nY.2.2] at tB1 tB2
    obtain ⟨b3, off3, he3, _, cy1⟩ := hr2.at64 (show m + 1 < vs.length by omega)
    obtain ⟨rfl, rfl⟩ : b2 = b3 ∧ off2 = off3 := by simpa using he3
    obtain ⟨b3, off3, he3, _, cy2⟩ := hr2.at64 (show m < vs.length by omega)
    obtain ⟨rfl, rfl⟩ : b2 = b3 ∧ off2 = off3 := by simpa using he3
    have hyd := hd2.at_ (m + 1) (by omega)
    have hyd2 := hd2.at_ m (by omega)
    obtain ⟨r, hrr⟩ : ∃ r, r = vs[m + 1] := ⟨_, rfl⟩
    obtain ⟨r2, hrr2⟩ : ∃ r2, r2 = vs[m] := ⟨_, rfl⟩
    rw [← hrr] at tB1 tB2 cy1 hyd
    rw [← hrr2] at tB1 cy2 hyd2
    have hrt : r ≤ t := by rw [← tB2, ← tA2]; exact Nat.div_le_div_right hle
    obtain ⟨o3, o4⟩ := top_or hbs (Nat.lt_of_le_of_lt hrt Bl3.out) hyd2
    have Ho3 : Hid (bits BinOp.or IntKind.u64 (IntKind.u64.wrap ((r : Int) * 2 ^ s)) ((r2 : Int) / 2 ^ bl) = (y0 : Int)) := by
      show bits BinOp.or IntKind.u64 (IntKind.u64.wrap ((r : Int) * 2 ^ s)) ((r2 : Int) / 2 ^ bl) = (y0 : Int)
      rw [Hy0.out, tB1, two_div hbs, ← o3, shr_n]
    have H5 := Lib.hid h5
    have hcy1 := fun o => past _ _ _ o (Nat.lt_of_lt_of_le hb2 hB) cy1
    have hcy2 := fun o => past _ _ _ o (Nat.lt_of_lt_of_le hb2 hB) cy2
    clear past cy1 cy2 o3 o4 tB1 tB2 hrr hrr2 he3 h5 tA2 cy0
    rw [H5.out]
    go_enter Tryz.func71, Tryz.ntmps71
    go_upto_region 3 with (first
      | simp only []
      | simp only [eS]
      | (go_at_call 86; (with_reducible refine (Hlz.out _).mono ?_); rintro e w' ⟨rfl, rfl⟩))
    go_quiet (first | simp only [p1] | simp only [p2] | simp only [eS2] | simp only [Ho1.out])
    rw [Ho1.out]
    go_upto_region 7 with (simp only [p1])
    go_quiet (first | simp only [p1] | simp only [p2] | simp only [eS2])
    rw [Ho3.out]
    go_wp2_with fail
  case' inr.inl =>
    have tB1 := top_word1 h5 hd2
    rw [nY.2.2] at tB1
    obtain ⟨b3, off3, he3, _, cy2⟩ := hr2.at64 (show m < vs.length by omega)
    obtain ⟨rfl, rfl⟩ : b2 = b3 ∧ off2 = off3 := by simpa using he3
    have hyd2 := hd2.at_ m (by omega)
    obtain ⟨r2, hrr2⟩ : ∃ r2, r2 = vs[m] := ⟨_, rfl⟩
    rw [← hrr2] at tB1 cy2 hyd2
    have Ho3 : Hid ((r2 : Int) / 2 ^ bl = (y0 : Int)) := by
      show (r2 : Int) / 2 ^ bl = (y0 : Int)
      rw [Hy0.out, tB1, shr_n]
    have H5 := Lib.hid h5
    have hcy2 := fun o => past _ _ _ o (Nat.lt_of_lt_of_le hb2 hB) cy2
    have p3 : ((m : Int) + 1 == (m : Int) + 2) = false := by simp
    clear past cy2 tB1 hrr2 he3 h5 tA2 cy0
    rw [H5.out]
    go_enter Tryz.func71, Tryz.ntmps71
    go_upto_region 3 with (first
      | simp only []
      | simp only [eS]
      | (go_at_call 86; (with_reducible refine (Hlz.out _).mono ?_); rintro e w' ⟨rfl, rfl⟩))
    go_quiet (first | simp only [p1] | simp only [p2] | simp only [eS2])
    rw [Ho1.out]
    go_wp2_with (first | simp only [p3] | simp only [p1] | simp only [p2] | simp only [eS2] | simp only [Ho3.out])
  case' inr.inr =>
    have H0 : Hid (y0 = 0) := by
      show _ = _
      rw [Hy0.out, Nat.div_eq_of_lt (Nat.lt_of_lt_of_le nY.lt (Nat.pow_le_pow_right (by omega) h5)), Nat.zero_div]
    have p3 : ((vs.length : Int) == (m : Int) + 2) = false := by simp; omega
    have p4 : ((vs.length : Int) == (m : Int) + 1) = false := by simp; omega
    clear past tA2 cy0
    go_enter Tryz.func71, Tryz.ntmps71
    go_upto_region 3 with (first
      | simp only []
      | simp only [eS]
      | (go_at_call 86; (with_reducible refine (Hlz.out _).mono ?_); rintro e w' ⟨rfl, rfl⟩))
    go_quiet (first | simp only [p1] | simp only [p2] | simp only [eS2])
    rw [Ho1.out]
    go_wp2_with (first | simp only [p3] | simp only [p4] | simp only [p1] | simp only [p2])
  all_goals
    clear Ho1 Hlz Hx0 Bl2 Bl3
    go_loopg [7, 8, 10, 11, 12, 13, 14, 15, 16] x0 (fun K s7 s8 s10 s11 s12 s13 s14 s15 _ wr => ∃ (ev : Bool) (x y u0 u1 u2 v0 v1 v2 : Nat), s7 = .int .u64 (x : Int) ∧ s8 = .int .u64 (y : Int) ∧ s10 = .int .u64 (u0 : Int) ∧ s11 = .int .u64 (u1 : Int) ∧ s12 = .int .u64 (u2 : Int) ∧ s13 = .int .u64 (v0 : Int) ∧ s14 = .int .u64 (v1 : Int) ∧ s15 = .int .u64 (v2 : Int) ∧ y ≤ K ∧ Hid (Simd ev x0 y0 x y u0 u1 u2 v0 v1 v2) ∧ Blk wr (w.heap.size + 1) 91 [.int .u64 0, .int .u64 0, .int .u64 1, .int .u64 0, .bool ev] ∧ Blk wr w.heap.size 91 [.int .u64 0, .int .u64 0, .int .u64 0, .int .u64 0, .bool false] ∧ Below w.heap.size w wr)
    case atStart =>
      have hb9 : Blk (w.alloc (.cells #[.int .u64 0, .int .u64 0, .int .u64 0, .int .u64 0, .bool false] 91)) w.heap.size 91 [.int .u64 0, .int .u64 0, .int .u64 0, .int .u64 0, .bool false] := Blk.new_ rfl
      first
        | exact ⟨false, x0, y0, 0, 1, 0, 0, 0, 1, rfl, rfl, rfl, rfl, rfl, rfl, rfl, rfl, hyx, HS.out _ rfl, blk_two_draw rfl, (hb9.drewN _).heapAlloc _, two_alloc _ _ _ _⟩
        | exact ⟨false, x0, 0, 0, 1, 0, 0, 0, 1, rfl, rfl, rfl, rfl, rfl, rfl, rfl, rfl, Nat.zero_le _, HS.out 0 H0.out.symm, blk_two_draw rfl, (hb9.drewN _).heapAlloc _, two_alloc _ _ _ _⟩
    case round =>
      obtain ⟨ev, x, y, u0, u1, u2, v0, v1, v2, rfl, rfl, rfl, rfl, rfl, rfl, rfl, rfl, hyK, HSt, hbs1, hbs0, hbel⟩ := hrel
      have hxy := HSt.out.1.le
      have hxm : x ≤ x0 := by
        have h1 := HSt.out.1.comb
        have h3 := Nat.mul_le_mul_right x HSt.out.1.v2p
        rw [Nat.one_mul] at h3
        omega
      have c0 := hbs1.cell 0
      have c1 := hbs1.cell 1
      have c2' := hbs1.cell 2
      have c3 := hbs1.cell 3
      have c4 := hbs1.cell 4
      have d0 := hbs0.cell 0
      have hf := hbs1.frozen
      have hf0 := hbs0.frozen
      simp only [List.getElem?_cons_zero, List.getElem?_cons_succ] at c0 c1 c2' c3 c4 d0
      by_cases hg : v2 ≤ y ∧ y + v1 + v2 ≤ x
      · obtain ⟨g1, g2⟩ := hg
        obtain ⟨f1, f2, f3⟩ := HSt.out.1.fits g1
        have hn := HSt.out.next g1 g2
        have hv2 := HSt.out.1.v2p
        have hrl : x % y < y := Nat.mod_lt _ (by omega)
        obtain ⟨q, hq⟩ : ∃ q, q = x / y := ⟨_, rfl⟩
        obtain ⟨r, hr9⟩ : ∃ r, r = x % y := ⟨_, rfl⟩
        rw [← hq] at f2 f3 hn
        rw [← hr9] at hn hrl
        obtain ⟨z1, hz1⟩ : ∃ z, z = q * u2 := ⟨_, rfl⟩
        obtain ⟨z2, hz2⟩ : ∃ z, z = q * v2 := ⟨_, rfl⟩
        rw [← hz1] at f3 hn
        rw [← hz2] at f2 hn
        have t1 : decide (v2 ≤ y) = true := decide_eq_true g1
        have t2 : decide ((v1 : Int) + (v2 : Int) ≤ (x : Int) - (y : Int)) = true := decide_eq_true (by omega)
        have hqx : q ≤ x := by rw [hq]; exact Nat.div_le_self _ _
        have E1 : Hid (IntKind.u64.wrap ((x : Int) / (y : Int)) = (q : Int)) := by
          show IntKind.u64.wrap ((x : Int) / (y : Int)) = (q : Int)
          rw [show (x : Int) / (y : Int) = (q : Int) from by rw [hq]; rfl, IntKind.wrap_u64]; omega
        have E2 : Hid ((x : Int) % (y : Int) = (r : Int)) := by show (x : Int) % (y : Int) = (r : Int); rw [hr9]; rfl
        have E3 : Hid (IntKind.u64.wrap ((q : Int) * (u2 : Int)) = (z1 : Int)) := by
          show IntKind.u64.wrap ((q : Int) * (u2 : Int)) = (z1 : Int)
          rw [show (q : Int) * (u2 : Int) = (z1 : Int) from by rw [hz1]; simp, IntKind.wrap_u64]; omega
        have E4 : Hid (IntKind.u64.wrap ((q : Int) * (v2 : Int)) = (z2 : Int)) := by
          show IntKind.u64.wrap ((q : Int) * (v2 : Int)) = (z2 : Int)
          rw [show (q : Int) * (v2 : Int) = (z2 : Int) from by rw [hz2]; simp, IntKind.wrap_u64]; omega
        have hy9 : ¬ (y = 0) := by omega
        have hy8 : ((y : Int) == 0) = false := by simp; omega
        have Hn := Lib.hid hn
        clear hq hr9 hz1 hz2 hn HSt c0 c1 c2' c3 d0 HX HY Hy0
        go_upto_region 15 with (first | simp only [t1] | simp only [t2] | simp only [E1.out])
        go_quiet (first | simp only [E2.out])
        rw [E2.out]
        go_wp2_with (first | simp only [E3.out] | simp only [E4.out])
        go_roundg r
        case measure => omega
        case rel => exact ⟨!ev, y, r, u1, u2, u1 + z1, v1, v2, v1 + z2, rfl, rfl, rfl, rfl, by go_num, rfl, rfl, by go_num, Nat.le_refl _, Hn.out, (hbs1.drewN _).set_ 4 (.bool (!ev)), (hbs0.drewN _).far (p := ⟨w.heap.size + 1, 4, none⟩) (by simp) _, (hbel.trans (((Dr.refl _).step _).below _)).setCell (p := ⟨w.heap.size + 1, 4, none⟩) (by simp) _⟩
      · have hok := HSt.out.ok HX.out HY.out (Nat.mod_lt _ hD0) (Nat.mod_lt _ hD0) o2
        have Hok := Lib.hid hok
        obtain ⟨W, hWe, hW1, hW0, hWb⟩ := steps_end (u0 := u0) (v0 := v0) (u1 := u1) (v1 := v1) hbs1 hbs0 (by omega) hbel (by omega)
        have HWe := Lib.hid hWe
        clear hWe
        by_cases g1 : v2 ≤ y
        case' pos =>
          obtain ⟨f1, _, _⟩ := HSt.out.1.fits g1
          have t1 : decide (v2 ≤ y) = true := decide_eq_true g1
          have t2 : decide ((v1 : Int) + (v2 : Int) ≤ (x : Int) - (y : Int)) = false := decide_eq_false (by omega)
          clear HSt hok HX HY Hy0
          go_upto_region 20 with (first | simp only [t1] | simp only [t2])
        case' neg =>
          have t1 : decide (v2 ≤ y) = false := decide_eq_false g1
          clear HSt hok HX HY Hy0
          go_upto_region 20 with (first | simp only [t1])
        all_goals
          rw [← HWe.out]
          clear c0 c1 c2' c3 c4 d0 hf hf0 hbs1 hbs0
          have e0 := hW0.cell 0
          have e1 := hW0.cell 1
          have e2 := hW0.cell 2
          have e3 := hW0.cell 3
          have e4 := hW0.cell 4
          have ef := hW0.frozen
          simp only [List.getElem?_cons_zero, List.getElem?_cons_succ] at e0 e1 e2 e3 e4
          go_wp2_with ((with_reducible refine wpList_load_mid (op := ⟨some 121, _, _, _, _, _⟩) rfl 91 (.tmp 9) rfl (w.heap.size + 1) 0 rfl [.int .u64 (u0 : Int), .int .u64 (v0 : Int), .int .u64 (u1 : Int), .int .u64 (v1 : Int), .bool ev] _ (blk_range hW1) Tryz.underlying91 rfl (by kernel_rfl) ?_))
          have k9 := ((((hW0.set_ 0 (.int .u64 (u0 : Int))).set_ 1 (.int .u64 (v0 : Int))).set_ 2 (.int .u64 (u1 : Int))).set_ 3 (.int .u64 (v1 : Int))).set_ 4 (.bool ev)
          simp only [List.set_cons_zero, List.set_cons_succ] at k9
          have kb := ((((hWb.setCell (p := ⟨w.heap.size, 0, none⟩) (Nat.le_refl _) (.int .u64 (u0 : Int))).setCell (p := ⟨w.heap.size, 1, none⟩) (Nat.le_refl _) (.int .u64 (v0 : Int))).setCell (p := ⟨w.heap.size, 2, none⟩) (Nat.le_refl _) (.int .u64 (u1 : Int))).setCell (p := ⟨w.heap.size, 3, none⟩) (Nat.le_refl _) (.int .u64 (v1 : Int))).setCell (p := ⟨w.heap.size, 4, none⟩) (Nat.le_refl _) (.bool ev)
          refine bodyPost_ret (results_cell_row rfl _ _ w.heap.size 91 _ (0, 0) _ rfl k9 Tryz.underlying91 rfl (by kernel_rfl)) rfl ?_
          exact ⟨u0, v0, u1, v1, ev, rfl, Hok.out, kb⟩
end
end Go.Proofs.YtcfalkcceanldaaGreatDoor
