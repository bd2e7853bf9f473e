/- The walk of the law ZintDivides at a divisor that is not 0, over the contracts of what it calls. Conditions: those contracts. -/
import Derived.Test.YtanlejlmckdeiaaGreatPkZd30
import Derived.Test.YtanlejlmckdeiaaGreatPkZd33
namespace Go.Proofs.YtanlejlmckdeiaaGreat
open Go.RowKit

/-- Two answers that are the same number. -/
theorem same_res {W w1 w2 : World} {z : Int} {zs ys : List Nat} {A1 A2 : Option Addr} {c1 c2 B1 B2 : Nat} (n1 : Num 4294967296 zs z.natAbs) (r1 : Res w1 B1 36 A1 c1 (u32s zs)) (h1 : Below w1.heap.size w1 W) (n2 : Num 4294967296 ys z.natAbs) (r2 : Res w2 B2 36 A2 c2 (u32s ys)) (h2 : Below w2.heap.size w2 W) :
    Calls Tryz.prog 11 #[.agg #[.bool (isNeg z), .slice A1 zs.length c1], .agg #[.bool (isNeg z), .slice A2 ys.length c2]] W fun e w' => e = .returned (.bool true) ∧ Below W.heap.size W w' := by
  have e2 := Num.unique (by omega) n1 n2
  subst e2
  exact lsame_any _ ((r1.rd.below h1).mono h1.size) ((r2.rd.below h2).mono h2.size) (res_len r1)
section
variable {w : World} {g g2 : Bool} {A A2 : Option Addr} {c c2 : Nat} {xs ys : List Nat}
set_option maxHeartbeats 25600000 in
set_option maxRecDepth 40000 in
theorem div_other (p : Nat) (mv kv vq vr vt vu vx vn xe sy : Int) (ok : Bool) (hp : DivP p mv kv) (hp9 : p < 4294967296) (hs : sy = 1 ∨ sy = -1) (hok : ok = true ∧ xe = 0 ∨ ok = false ∧ xe = 30 ∧ vx = 0)
    (EU : Hid (∀ W (_ : Below w.heap.size w W), Calls Tryz.prog 29 #[.agg #[.bool g, .slice A xs.length c], .agg #[.bool g2, .slice A2 ys.length c2]] W fun e w' => ZQ W w' vq vr 0 e))
    (TC : Hid (∀ W (_ : Below w.heap.size w W), Calls Tryz.prog 30 #[.agg #[.bool g, .slice A xs.length c], .agg #[.bool g2, .slice A2 ys.length c2]] W fun e w' => ZQ W w' vt vu 0 e))
    (EX : Hid (∀ W (_ : Below w.heap.size w W), Calls Tryz.prog 31 #[.agg #[.bool g, .slice A xs.length c], .agg #[.bool g2, .slice A2 ys.length c2]] W fun e w' => ZE W w' vx xe e))
    (NR : Hid (∀ W (_ : Below w.heap.size w W), Calls Tryz.prog 32 #[.agg #[.bool g, .slice A xs.length c], .agg #[.bool g2, .slice A2 ys.length c2]] W fun e w' => ZE W w' vn 0 e))
    (MD : Hid (∀ W (_ : Below w.heap.size w W), Calls Tryz.prog 33 #[.agg #[.bool g, .slice A xs.length c], .int .u32 (p : Int)] W fun e w' => e = .returned (.tuple #[.int .u32 mv, .int .i64 kv]) ∧ Below W.heap.size W w'))
    (RM : p ≠ 0 → Hid (∀ W (_ : Below w.heap.size w W), Calls Tryz.prog 34 #[.agg #[.bool g, .slice A xs.length c], .int .u32 (p : Int)] W fun e w' => e = .returned (.int .u32 mv) ∧ Below W.heap.size W w'))
    (SG : Hid (∀ W (_ : Below w.heap.size w W), Calls Tryz.prog 16 #[.agg #[.bool g2, .slice A2 ys.length c2]] W fun e w' => e = .returned (.int .i64 sy) ∧ Below W.heap.size W w'))
    (REU : Hid (∀ W (_ : Below w.heap.size w W), Calls Tryz.prog 35 #[.agg #[.bool g, .slice A xs.length c], .agg #[.bool g2, .slice A2 ys.length c2]] W fun e w' => ZZ W w' vq vr e))
    (RTR : Hid (∀ W (_ : Below w.heap.size w W), Calls Tryz.prog 36 #[.agg #[.bool g, .slice A xs.length c], .agg #[.bool g2, .slice A2 ys.length c2]] W fun e w' => ZZ W w' vt vu e))
    (REX : Hid (∀ W (_ : Below w.heap.size w W), Calls Tryz.prog 37 #[.agg #[.bool g, .slice A xs.length c], .agg #[.bool g2, .slice A2 ys.length c2]] W fun e w' => ZB W w' vx ok e))
    (RNR : Hid (∀ W (_ : Below w.heap.size w W), Calls Tryz.prog 38 #[.agg #[.bool g, .slice A xs.length c], .agg #[.bool g2, .slice A2 ys.length c2]] W fun e w' => ZOut W w' vn e)) :
    Calls Tryz.prog 5 #[.agg #[.bool g, .slice A xs.length c], .agg #[.bool g2, .slice A2 ys.length c2], .int .u32 (p : Int)] w fun e w' => e = .returned (.bool true) ∧ Below w.heap.size w w' := by
  have HP := Lib.hid hp
  have RM2 := Lib.hid RM
  have P9 := Lib.hid hp9
  have HS := Lib.hid hs
  have HOK := Lib.hid hok
  have k0 := bel_two w (.cells #[.bool g, .slice A xs.length c] 25) (.cells #[.bool g2, .slice A2 ys.length c2] 25)
  obtain ⟨b0, b1⟩ := blk_pair2 w (.bool g) (.slice A xs.length c) (.bool g2) (.slice A2 ys.length c2)
  clear hp RM hp9 hs hok
  go_enter Tryz.func5, Tryz.ntmps5
  go_upto_region 1 with (fail)
  obtain ⟨v0, hv0⟩ : ∃ v, v = (w.alloc (.cells #[.bool g, .slice A xs.length c] 25)).alloc (.cells #[.bool g2, .slice A2 ys.length c2] 25) := ⟨_, rfl⟩
  rw [← hv0] at b0 b1 k0 ⊢
  clear hv0
  have BA := Lib.hid b0
  have BB := Lib.hid b1
  have K0 := k0
  clear b0 b1 k0
  obtain ⟨p0BA, p1BA, _, _⟩ := BA.out.two
  obtain ⟨p0BB, p1BB, _, _⟩ := BB.out.two
  go_wp2_with fail
  refine (EU.out _ K0).mono ?_
  rintro e w1 ⟨zq, zr, Aq, cq, Ar, cr, rfl, nq, nr, rq, rr, hb1⟩
  clear p0BA p1BA p0BB p1BB
  go_upto_region 2 with (fail)
  obtain ⟨v1, hv1⟩ : ∃ v, v = (w1.alloc (.cells #[.bool (isNeg vq), .slice Aq zq.length cq] 25)).alloc (.cells #[.bool (isNeg vr), .slice Ar zr.length cr] 25) := ⟨_, rfl⟩
  rw [← hv1]
  obtain ⟨bq, br⟩ : Blk v1 w1.heap.size 25 [.bool (isNeg vq), .slice Aq zq.length cq] ∧ Blk v1 (w1.heap.size + 1) 25 [.bool (isNeg vr), .slice Ar zr.length cr] := by rw [hv1]; exact blk_pair2 _ _ _ _ _
  have i1 : Below w1.heap.size w1 v1 := by rw [hv1]; exact bel_two _ _ _
  obtain ⟨gq, hg⟩ : ∃ g, g = w1.heap.size := ⟨_, rfl⟩
  rw [← hg] at bq br ⊢
  clear hg
  have j1 := bst hb1 i1 (Nat.le_refl _)
  replace BA := Lib.hid (BA.out.below j1 BA.out.lt)
  replace BB := Lib.hid (BB.out.below j1 BB.out.lt)
  have Bq := Lib.hid bq
  have Br := Lib.hid br
  have K1 := bst K0 j1 (Nat.le_refl _)
  have Rq := Lib.hid ((rq.mono K0.size).below i1 (Nat.le_refl _))
  have Rr := Lib.hid ((rr.mono K0.size).below i1 (Nat.le_refl _))
  clear hb1 j1 hv1 i1 bq br rq rr
  clear K0
  obtain ⟨p0BA, p1BA, _, _⟩ := BA.out.two
  obtain ⟨p0BB, p1BB, _, _⟩ := BB.out.two
  have Nq := Lib.hid nq
  have Nr := Lib.hid nr
  clear nq nr
  go_wp2_with fail
  refine (TC.out _ K1).mono ?_
  rintro e w2 ⟨zt, zu, At, ct, Au, cu, rfl, nt, nu, rt, ru, hb2⟩
  clear p0BA p1BA p0BB p1BB
  go_upto_region 3 with (fail)
  obtain ⟨v2, hv2⟩ : ∃ v, v = (w2.alloc (.cells #[.bool (isNeg vt), .slice At zt.length ct] 25)).alloc (.cells #[.bool (isNeg vu), .slice Au zu.length cu] 25) := ⟨_, rfl⟩
  rw [← hv2]
  obtain ⟨bt, bu⟩ : Blk v2 w2.heap.size 25 [.bool (isNeg vt), .slice At zt.length ct] ∧ Blk v2 (w2.heap.size + 1) 25 [.bool (isNeg vu), .slice Au zu.length cu] := by rw [hv2]; exact blk_pair2 _ _ _ _ _
  have i2 : Below w2.heap.size w2 v2 := by rw [hv2]; exact bel_two _ _ _
  obtain ⟨gt, hg⟩ : ∃ g, g = w2.heap.size := ⟨_, rfl⟩
  rw [← hg] at bt bu ⊢
  clear hg
  have j2 := bst hb2 i2 (Nat.le_refl _)
  replace BA := Lib.hid (BA.out.below j2 BA.out.lt)
  replace BB := Lib.hid (BB.out.below j2 BB.out.lt)
  replace Bq := Lib.hid (Bq.out.below j2 Bq.out.lt)
  replace Br := Lib.hid (Br.out.below j2 Br.out.lt)
  replace Rq := Lib.hid (Rq.out.below j2 (Nat.le_refl _))
  replace Rr := Lib.hid (Rr.out.below j2 (Nat.le_refl _))
  have Bt := Lib.hid bt
  have Bu := Lib.hid bu
  have K2 := bst K1 j2 (Nat.le_refl _)
  have Rt := Lib.hid ((rt.mono K1.size).below i2 (Nat.le_refl _))
  have Ru := Lib.hid ((ru.mono K1.size).below i2 (Nat.le_refl _))
  clear hb2 j2 hv2 i2 bt bu rt ru
  clear K1
  obtain ⟨p0BA, p1BA, _, _⟩ := BA.out.two
  obtain ⟨p0BB, p1BB, _, _⟩ := BB.out.two
  have Nt := Lib.hid nt
  have Nu := Lib.hid nu
  clear nt nu
  go_wp2_with fail
  refine (EX.out _ K2).mono ?_
  rintro e w3 ⟨zx, Ax, cx, rfl, nx, rx, hb3⟩
  clear p0BA p1BA p0BB p1BB
  go_upto_region 4 with (fail)
  obtain ⟨v3, hv3⟩ : ∃ v, v = w3.alloc (.cells #[.bool (isNeg vx), .slice Ax zx.length cx] 25) := ⟨_, rfl⟩
  rw [← hv3]
  have bx : Blk v3 w3.heap.size 25 [.bool (isNeg vx), .slice Ax zx.length cx] := by rw [hv3]; exact blk_one _ _ _
  have i3 : Below w3.heap.size w3 v3 := by rw [hv3]; exact bel_one _ _
  obtain ⟨gx, hg⟩ : ∃ g, g = w3.heap.size := ⟨_, rfl⟩
  rw [← hg] at bx ⊢
  clear hg
  have j3 := bst hb3 i3 (Nat.le_refl _)
  replace BA := Lib.hid (BA.out.below j3 BA.out.lt)
  replace BB := Lib.hid (BB.out.below j3 BB.out.lt)
  replace Bq := Lib.hid (Bq.out.below j3 Bq.out.lt)
  replace Br := Lib.hid (Br.out.below j3 Br.out.lt)
  replace Bt := Lib.hid (Bt.out.below j3 Bt.out.lt)
  replace Bu := Lib.hid (Bu.out.below j3 Bu.out.lt)
  replace Rq := Lib.hid (Rq.out.below j3 (Nat.le_refl _))
  replace Rr := Lib.hid (Rr.out.below j3 (Nat.le_refl _))
  replace Rt := Lib.hid (Rt.out.below j3 (Nat.le_refl _))
  replace Ru := Lib.hid (Ru.out.below j3 (Nat.le_refl _))
  have Bx := Lib.hid bx
  have K3 := bst K2 j3 (Nat.le_refl _)
  have Rx := Lib.hid ((rx.mono K2.size).below i3 (Nat.le_refl _))
  clear hb3 j3 hv3 i3 bx rx
  clear K2
  obtain ⟨p0BA, p1BA, _, _⟩ := BA.out.two
  obtain ⟨p0BB, p1BB, _, _⟩ := BB.out.two
  have Nx := Lib.hid nx
  clear nx
  go_wp2_with fail
  refine (NR.out _ K3).mono ?_
  rintro e w4 ⟨zn, An, cn, rfl, nn, rn, hb4⟩
  clear p0BA p1BA p0BB p1BB
  go_upto_region 5 with (fail)
  obtain ⟨v4, hv4⟩ : ∃ v, v = w4.alloc (.cells #[.bool (isNeg vn), .slice An zn.length cn] 25) := ⟨_, rfl⟩
  rw [← hv4]
  have bn : Blk v4 w4.heap.size 25 [.bool (isNeg vn), .slice An zn.length cn] := by rw [hv4]; exact blk_one _ _ _
  have i4 : Below w4.heap.size w4 v4 := by rw [hv4]; exact bel_one _ _
  obtain ⟨gn, hg⟩ : ∃ g, g = w4.heap.size := ⟨_, rfl⟩
  rw [← hg] at bn ⊢
  clear hg
  have j4 := bst hb4 i4 (Nat.le_refl _)
  replace BA := Lib.hid (BA.out.below j4 BA.out.lt)
  replace BB := Lib.hid (BB.out.below j4 BB.out.lt)
  replace Bq := Lib.hid (Bq.out.below j4 Bq.out.lt)
  replace Br := Lib.hid (Br.out.below j4 Br.out.lt)
  replace Bt := Lib.hid (Bt.out.below j4 Bt.out.lt)
  replace Bu := Lib.hid (Bu.out.below j4 Bu.out.lt)
  replace Bx := Lib.hid (Bx.out.below j4 Bx.out.lt)
  replace Rq := Lib.hid (Rq.out.below j4 (Nat.le_refl _))
  replace Rr := Lib.hid (Rr.out.below j4 (Nat.le_refl _))
  replace Rt := Lib.hid (Rt.out.below j4 (Nat.le_refl _))
  replace Ru := Lib.hid (Ru.out.below j4 (Nat.le_refl _))
  replace Rx := Lib.hid (Rx.out.below j4 (Nat.le_refl _))
  have Bn := Lib.hid bn
  have K4 := bst K3 j4 (Nat.le_refl _)
  have Rn := Lib.hid ((rn.mono K3.size).below i4 (Nat.le_refl _))
  clear hb4 j4 hv4 i4 bn rn
  clear K3
  obtain ⟨p0BA, p1BA, _, _⟩ := BA.out.two
  obtain ⟨p0BB, p1BB, _, _⟩ := BB.out.two
  have Nn := Lib.hid nn
  clear nn
  go_wp2_with fail
  refine (MD.out _ K4).mono ?_
  rintro e w5 ⟨rfl, hb5⟩
  clear p0BA p1BA p0BB p1BB
  obtain ⟨v5, rfl⟩ : ∃ v : World, v = w5 := ⟨_, rfl⟩
  have j5 := hb5
  replace BA := Lib.hid (BA.out.below j5 BA.out.lt)
  replace BB := Lib.hid (BB.out.below j5 BB.out.lt)
  replace Bq := Lib.hid (Bq.out.below j5 Bq.out.lt)
  replace Br := Lib.hid (Br.out.below j5 Br.out.lt)
  replace Bt := Lib.hid (Bt.out.below j5 Bt.out.lt)
  replace Bu := Lib.hid (Bu.out.below j5 Bu.out.lt)
  replace Bx := Lib.hid (Bx.out.below j5 Bx.out.lt)
  replace Bn := Lib.hid (Bn.out.below j5 Bn.out.lt)
  replace Rq := Lib.hid (Rq.out.below j5 (Nat.le_refl _))
  replace Rr := Lib.hid (Rr.out.below j5 (Nat.le_refl _))
  replace Rt := Lib.hid (Rt.out.below j5 (Nat.le_refl _))
  replace Ru := Lib.hid (Ru.out.below j5 (Nat.le_refl _))
  replace Rx := Lib.hid (Rx.out.below j5 (Nat.le_refl _))
  replace Rn := Lib.hid (Rn.out.below j5 (Nat.le_refl _))
  have K5 := bst K4 j5 (Nat.le_refl _)
  clear hb5 j5
  clear K4
  obtain ⟨p0BA, p1BA, _, _⟩ := BA.out.two
  obtain ⟨p0BB, p1BB, _, _⟩ := BB.out.two
  go_upto_region 6 with (fail)
  go_cut [82] (fun v W => v = .bool false ∧ Below v5.heap.size v5 W)
  case first =>
    rcases HP.out with ⟨rfl, rfl, rfl⟩ | ⟨h1, rfl⟩
    · clear HP RM2 P9
      go_wp2_with fail
      go_meet
      exact ⟨rfl, Below.refl _ _⟩
    · have RM := RM2.out h1
      have h2 : decide (p = 0) = false := decide_eq_false h1
      clear HP RM2 P9
      go_wp2_with fail
      refine (RM.out _ K5).mono ?_
      rintro e w6 ⟨rfl, hb6⟩
      go_wp2_with fail
      go_meet
      exact ⟨rfl, hb6⟩
  case rest =>
    obtain ⟨rfl, j6⟩ := hcut
    obtain ⟨v6, rfl⟩ : ∃ v6 : World, v6 = wc := ⟨_, rfl⟩
    replace BA := Lib.hid (BA.out.below j6 BA.out.lt)
    replace BB := Lib.hid (BB.out.below j6 BB.out.lt)
    replace Bq := Lib.hid (Bq.out.below j6 Bq.out.lt)
    replace Br := Lib.hid (Br.out.below j6 Br.out.lt)
    replace Bt := Lib.hid (Bt.out.below j6 Bt.out.lt)
    replace Bu := Lib.hid (Bu.out.below j6 Bu.out.lt)
    replace Bx := Lib.hid (Bx.out.below j6 Bx.out.lt)
    replace Bn := Lib.hid (Bn.out.below j6 Bn.out.lt)
    replace Rq := Lib.hid (Rq.out.below j6 (Nat.le_refl _))
    replace Rr := Lib.hid (Rr.out.below j6 (Nat.le_refl _))
    replace Rt := Lib.hid (Rt.out.below j6 (Nat.le_refl _))
    replace Ru := Lib.hid (Ru.out.below j6 (Nat.le_refl _))
    replace Rx := Lib.hid (Rx.out.below j6 (Nat.le_refl _))
    replace Rn := Lib.hid (Rn.out.below j6 (Nat.le_refl _))
    have K6 := bst K5 j6 (Nat.le_refl _)
    clear j6 K5 p0BA p1BA p0BB p1BB HP RM2 P9 EU TC EX NR MD
    obtain ⟨p0BA, p1BA, _, _⟩ := BA.out.two
    obtain ⟨p0BB, p1BB, _, _⟩ := BB.out.two
    go_upto_region 8 with (fail)
    go_cut [85] (fun v W => v = .bool false ∧ Below v6.heap.size v6 W)
    case first =>
      have hs9 := HS.out
      go_wp2_with fail
      refine (SG.out _ K6).mono ?_
      rintro e w7 ⟨rfl, hb7⟩
      clear SG HS
      rcases hs9 with rfl | rfl
      all_goals
        go_wp2_with fail
        go_meet
        exact ⟨rfl, hb7⟩
    case rest =>
      obtain ⟨rfl, j7⟩ := hcut
      obtain ⟨v7, rfl⟩ : ∃ v7 : World, v7 = wc := ⟨_, rfl⟩
      replace BA := Lib.hid (BA.out.below j7 BA.out.lt)
      replace BB := Lib.hid (BB.out.below j7 BB.out.lt)
      replace Bq := Lib.hid (Bq.out.below j7 Bq.out.lt)
      replace Br := Lib.hid (Br.out.below j7 Br.out.lt)
      replace Bt := Lib.hid (Bt.out.below j7 Bt.out.lt)
      replace Bu := Lib.hid (Bu.out.below j7 Bu.out.lt)
      replace Bx := Lib.hid (Bx.out.below j7 Bx.out.lt)
      replace Bn := Lib.hid (Bn.out.below j7 Bn.out.lt)
      replace Rq := Lib.hid (Rq.out.below j7 (Nat.le_refl _))
      replace Rr := Lib.hid (Rr.out.below j7 (Nat.le_refl _))
      replace Rt := Lib.hid (Rt.out.below j7 (Nat.le_refl _))
      replace Ru := Lib.hid (Ru.out.below j7 (Nat.le_refl _))
      replace Rx := Lib.hid (Rx.out.below j7 (Nat.le_refl _))
      replace Rn := Lib.hid (Rn.out.below j7 (Nat.le_refl _))
      have K7 := bst K6 j7 (Nat.le_refl _)
      clear j7 K6 p0BA p1BA p0BB p1BB SG HS
      obtain ⟨p0BA, p1BA, _, _⟩ := BA.out.two
      obtain ⟨p0BB, p1BB, _, _⟩ := BB.out.two
      go_wp2_with fail
      refine (REU.out _ K7).mono ?_
      rintro e w8 ⟨zq2, zr2, Aq2, cq2, Ar2, cr2, rfl, nq2, nr2, rq2, rr2, hb8⟩
      clear p0BA p1BA p0BB p1BB
      go_upto_region 12 with (fail)
      obtain ⟨v8, hv8⟩ : ∃ v, v = (w8.alloc (.cells #[.bool (isNeg vq), .slice Aq2 zq2.length cq2] 25)).alloc (.cells #[.bool (isNeg vr), .slice Ar2 zr2.length cr2] 25) := ⟨_, rfl⟩
      rw [← hv8]
      obtain ⟨bq2, br2⟩ : Blk v8 w8.heap.size 25 [.bool (isNeg vq), .slice Aq2 zq2.length cq2] ∧ Blk v8 (w8.heap.size + 1) 25 [.bool (isNeg vr), .slice Ar2 zr2.length cr2] := by rw [hv8]; exact blk_pair2 _ _ _ _ _
      have i8 : Below w8.heap.size w8 v8 := by rw [hv8]; exact bel_two _ _ _
      obtain ⟨gq2, hg⟩ : ∃ g, g = w8.heap.size := ⟨_, rfl⟩
      rw [← hg] at bq2 br2 ⊢
      clear hg
      have j8 := bst hb8 i8 (Nat.le_refl _)
      replace BA := Lib.hid (BA.out.below j8 BA.out.lt)
      replace BB := Lib.hid (BB.out.below j8 BB.out.lt)
      replace Bq := Lib.hid (Bq.out.below j8 Bq.out.lt)
      replace Br := Lib.hid (Br.out.below j8 Br.out.lt)
      replace Bt := Lib.hid (Bt.out.below j8 Bt.out.lt)
      replace Bu := Lib.hid (Bu.out.below j8 Bu.out.lt)
      replace Bx := Lib.hid (Bx.out.below j8 Bx.out.lt)
      replace Bn := Lib.hid (Bn.out.below j8 Bn.out.lt)
      replace Rq := Lib.hid (Rq.out.below j8 (Nat.le_refl _))
      replace Rr := Lib.hid (Rr.out.below j8 (Nat.le_refl _))
      replace Rt := Lib.hid (Rt.out.below j8 (Nat.le_refl _))
      replace Ru := Lib.hid (Ru.out.below j8 (Nat.le_refl _))
      replace Rx := Lib.hid (Rx.out.below j8 (Nat.le_refl _))
      replace Rn := Lib.hid (Rn.out.below j8 (Nat.le_refl _))
      have Bq2 := Lib.hid bq2
      have Br2 := Lib.hid br2
      have K8 := bst K7 j8 (Nat.le_refl _)
      have Rq2 := Lib.hid ((rq2.mono K7.size).below i8 (Nat.le_refl _))
      have Rr2 := Lib.hid ((rr2.mono K7.size).below i8 (Nat.le_refl _))
      clear hb8 j8 hv8 i8 bq2 br2 rq2 rr2
      clear K7
      obtain ⟨p0BA, p1BA, _, _⟩ := BA.out.two
      obtain ⟨p0BB, p1BB, _, _⟩ := BB.out.two
      have Nq2 := Lib.hid nq2
      have Nr2 := Lib.hid nr2
      clear nq2 nr2
      go_wp2_with fail
      refine (RTR.out _ K8).mono ?_
      rintro e w9 ⟨zt2, zu2, At2, ct2, Au2, cu2, rfl, nt2, nu2, rt2, ru2, hb9⟩
      clear p0BA p1BA p0BB p1BB
      go_upto_region 13 with (fail)
      obtain ⟨v9, hv9⟩ : ∃ v, v = (w9.alloc (.cells #[.bool (isNeg vt), .slice At2 zt2.length ct2] 25)).alloc (.cells #[.bool (isNeg vu), .slice Au2 zu2.length cu2] 25) := ⟨_, rfl⟩
      rw [← hv9]
      obtain ⟨bt2, bu2⟩ : Blk v9 w9.heap.size 25 [.bool (isNeg vt), .slice At2 zt2.length ct2] ∧ Blk v9 (w9.heap.size + 1) 25 [.bool (isNeg vu), .slice Au2 zu2.length cu2] := by rw [hv9]; exact blk_pair2 _ _ _ _ _
      have i9 : Below w9.heap.size w9 v9 := by rw [hv9]; exact bel_two _ _ _
      obtain ⟨gt2, hg⟩ : ∃ g, g = w9.heap.size := ⟨_, rfl⟩
      rw [← hg] at bt2 bu2 ⊢
      clear hg
      have j9 := bst hb9 i9 (Nat.le_refl _)
      replace BA := Lib.hid (BA.out.below j9 BA.out.lt)
      replace BB := Lib.hid (BB.out.below j9 BB.out.lt)
      replace Bq := Lib.hid (Bq.out.below j9 Bq.out.lt)
      replace Br := Lib.hid (Br.out.below j9 Br.out.lt)
      replace Bt := Lib.hid (Bt.out.below j9 Bt.out.lt)
      replace Bu := Lib.hid (Bu.out.below j9 Bu.out.lt)
      replace Bx := Lib.hid (Bx.out.below j9 Bx.out.lt)
      replace Bn := Lib.hid (Bn.out.below j9 Bn.out.lt)
      replace Bq2 := Lib.hid (Bq2.out.below j9 Bq2.out.lt)
      replace Br2 := Lib.hid (Br2.out.below j9 Br2.out.lt)
      replace Rq := Lib.hid (Rq.out.below j9 (Nat.le_refl _))
      replace Rr := Lib.hid (Rr.out.below j9 (Nat.le_refl _))
      replace Rt := Lib.hid (Rt.out.below j9 (Nat.le_refl _))
      replace Ru := Lib.hid (Ru.out.below j9 (Nat.le_refl _))
      replace Rx := Lib.hid (Rx.out.below j9 (Nat.le_refl _))
      replace Rn := Lib.hid (Rn.out.below j9 (Nat.le_refl _))
      replace Rq2 := Lib.hid (Rq2.out.below j9 (Nat.le_refl _))
      replace Rr2 := Lib.hid (Rr2.out.below j9 (Nat.le_refl _))
      have Bt2 := Lib.hid bt2
      have Bu2 := Lib.hid bu2
      have K9 := bst K8 j9 (Nat.le_refl _)
      have Rt2 := Lib.hid ((rt2.mono K8.size).below i9 (Nat.le_refl _))
      have Ru2 := Lib.hid ((ru2.mono K8.size).below i9 (Nat.le_refl _))
      clear hb9 j9 hv9 i9 bt2 bu2 rt2 ru2
      clear K8
      obtain ⟨p0BA, p1BA, _, _⟩ := BA.out.two
      obtain ⟨p0BB, p1BB, _, _⟩ := BB.out.two
      have Nt2 := Lib.hid nt2
      have Nu2 := Lib.hid nu2
      clear nt2 nu2
      go_wp2_with fail
      refine (REX.out _ K9).mono ?_
      rintro e w10 ⟨zx2, Ax2, cx2, rfl, nx2, rx2, hb10⟩
      clear p0BA p1BA p0BB p1BB
      go_upto_region 14 with (fail)
      obtain ⟨v10, hv10⟩ : ∃ v, v = w10.alloc (.cells #[.bool (isNeg vx), .slice Ax2 zx2.length cx2] 25) := ⟨_, rfl⟩
      rw [← hv10]
      have bx2 : Blk v10 w10.heap.size 25 [.bool (isNeg vx), .slice Ax2 zx2.length cx2] := by rw [hv10]; exact blk_one _ _ _
      have i10 : Below w10.heap.size w10 v10 := by rw [hv10]; exact bel_one _ _
      obtain ⟨gx2, hg⟩ : ∃ g, g = w10.heap.size := ⟨_, rfl⟩
      rw [← hg] at bx2 ⊢
      clear hg
      have j10 := bst hb10 i10 (Nat.le_refl _)
      replace BA := Lib.hid (BA.out.below j10 BA.out.lt)
      replace BB := Lib.hid (BB.out.below j10 BB.out.lt)
      replace Bq := Lib.hid (Bq.out.below j10 Bq.out.lt)
      replace Br := Lib.hid (Br.out.below j10 Br.out.lt)
      replace Bt := Lib.hid (Bt.out.below j10 Bt.out.lt)
      replace Bu := Lib.hid (Bu.out.below j10 Bu.out.lt)
      replace Bx := Lib.hid (Bx.out.below j10 Bx.out.lt)
      replace Bn := Lib.hid (Bn.out.below j10 Bn.out.lt)
      replace Bq2 := Lib.hid (Bq2.out.below j10 Bq2.out.lt)
      replace Br2 := Lib.hid (Br2.out.below j10 Br2.out.lt)
      replace Bt2 := Lib.hid (Bt2.out.below j10 Bt2.out.lt)
      replace Bu2 := Lib.hid (Bu2.out.below j10 Bu2.out.lt)
      replace Rq := Lib.hid (Rq.out.below j10 (Nat.le_refl _))
      replace Rr := Lib.hid (Rr.out.below j10 (Nat.le_refl _))
      replace Rt := Lib.hid (Rt.out.below j10 (Nat.le_refl _))
      replace Ru := Lib.hid (Ru.out.below j10 (Nat.le_refl _))
      replace Rx := Lib.hid (Rx.out.below j10 (Nat.le_refl _))
      replace Rn := Lib.hid (Rn.out.below j10 (Nat.le_refl _))
      replace Rq2 := Lib.hid (Rq2.out.below j10 (Nat.le_refl _))
      replace Rr2 := Lib.hid (Rr2.out.below j10 (Nat.le_refl _))
      replace Rt2 := Lib.hid (Rt2.out.below j10 (Nat.le_refl _))
      replace Ru2 := Lib.hid (Ru2.out.below j10 (Nat.le_refl _))
      have Bx2 := Lib.hid bx2
      have K10 := bst K9 j10 (Nat.le_refl _)
      have Rx2 := Lib.hid ((rx2.mono K9.size).below i10 (Nat.le_refl _))
      clear hb10 j10 hv10 i10 bx2 rx2
      clear K9
      obtain ⟨p0BA, p1BA, _, _⟩ := BA.out.two
      obtain ⟨p0BB, p1BB, _, _⟩ := BB.out.two
      have Nx2 := Lib.hid nx2
      clear nx2
      have Sq : Hid (∀ W (_ : Below v10.heap.size v10 W), Calls Tryz.prog 11 #[.agg #[.bool (isNeg vq), .slice Aq zq.length cq], .agg #[.bool (isNeg vq), .slice Aq2 zq2.length cq2]] W fun e w' => e = .returned (.bool true) ∧ Below W.heap.size W w') := fun W hW => same_res Nq.out Rq.out hW Nq2.out Rq2.out hW
      have Sr : Hid (∀ W (_ : Below v10.heap.size v10 W), Calls Tryz.prog 11 #[.agg #[.bool (isNeg vr), .slice Ar zr.length cr], .agg #[.bool (isNeg vr), .slice Ar2 zr2.length cr2]] W fun e w' => e = .returned (.bool true) ∧ Below W.heap.size W w') := fun W hW => same_res Nr.out Rr.out hW Nr2.out Rr2.out hW
      have St : Hid (∀ W (_ : Below v10.heap.size v10 W), Calls Tryz.prog 11 #[.agg #[.bool (isNeg vt), .slice At zt.length ct], .agg #[.bool (isNeg vt), .slice At2 zt2.length ct2]] W fun e w' => e = .returned (.bool true) ∧ Below W.heap.size W w') := fun W hW => same_res Nt.out Rt.out hW Nt2.out Rt2.out hW
      have Su : Hid (∀ W (_ : Below v10.heap.size v10 W), Calls Tryz.prog 11 #[.agg #[.bool (isNeg vu), .slice Au zu.length cu], .agg #[.bool (isNeg vu), .slice Au2 zu2.length cu2]] W fun e w' => e = .returned (.bool true) ∧ Below W.heap.size W w') := fun W hW => same_res Nu.out Ru.out hW Nu2.out Ru2.out hW
      have Sn : Hid (∀ (zm : List Nat) (Am : Option Addr) (cm B9 : Nat) (wm W : World), Below v10.heap.size v10 W → Num 4294967296 zm vn.natAbs → Res wm B9 36 Am cm (u32s zm) → Below wm.heap.size wm W → Calls Tryz.prog 11 #[.agg #[.bool (isNeg vn), .slice An zn.length cn], .agg #[.bool (isNeg vn), .slice Am zm.length cm]] W fun e w' => e = .returned (.bool true) ∧ Below W.heap.size W w') := fun zm Am cm B9 wm W hW hn hr hb => same_res Nn.out Rn.out hW hn hr hb
      have NR2 : Hid (∀ W (_ : Below v10.heap.size v10 W), Calls Tryz.prog 38 #[.agg #[.bool g, .slice A xs.length c], .agg #[.bool g2, .slice A2 ys.length c2]] W fun e w' => ZOut W w' vn e) := fun W hW => RNR.out W (bst K10 hW (Nat.le_refl _))
      have HK10 := Lib.hid K10
      clear K10 REU RTR REX RNR Nq Rq Nr Rr Nt Rt Nu Ru Nq2 Rq2 Nr2 Rr2 Nt2 Rt2 Nu2 Ru2 Nn Rn
      clear p0BA p1BA p0BB p1BB
      obtain ⟨p0Bq, p1Bq, _, _⟩ := Bq.out.two
      obtain ⟨p0Br, p1Br, _, _⟩ := Br.out.two
      obtain ⟨p0Bt, p1Bt, _, _⟩ := Bt.out.two
      obtain ⟨p0Bu, p1Bu, _, _⟩ := Bu.out.two
      obtain ⟨p0Bn, p1Bn, _, _⟩ := Bn.out.two
      obtain ⟨p0Bq2, p1Bq2, _, _⟩ := Bq2.out.two
      obtain ⟨p0Br2, p1Br2, _, _⟩ := Br2.out.two
      obtain ⟨p0Bt2, p1Bt2, _, _⟩ := Bt2.out.two
      obtain ⟨p0Bu2, p1Bu2, _, _⟩ := Bu2.out.two
      obtain ⟨p0BA, p1BA, _, _⟩ := BA.out.two
      obtain ⟨p0BB, p1BB, _, _⟩ := BB.out.two
      go_cut [193] (fun v W => v = .bool false ∧ Below v10.heap.size v10 W)
      case first =>
        go_region_held3 (fun W => W.cell? ⟨gq, 0, none⟩ = some (.bool (isNeg vq)) ∧ W.cell? ⟨gq, 1, none⟩ = some (.slice Aq zq.length cq) ∧ W.cell? ⟨gq + 1, 0, none⟩ = some (.bool (isNeg vr)) ∧ W.cell? ⟨gq + 1, 1, none⟩ = some (.slice Ar zr.length cr) ∧ W.cell? ⟨gt, 0, none⟩ = some (.bool (isNeg vt)) ∧ W.cell? ⟨gt, 1, none⟩ = some (.slice At zt.length ct) ∧ W.cell? ⟨gt + 1, 0, none⟩ = some (.bool (isNeg vu)) ∧ W.cell? ⟨gt + 1, 1, none⟩ = some (.slice Au zu.length cu) ∧ W.cell? ⟨gn, 0, none⟩ = some (.bool (isNeg vn)) ∧ W.cell? ⟨gn, 1, none⟩ = some (.slice An zn.length cn) ∧ W.cell? ⟨gq2, 0, none⟩ = some (.bool (isNeg vq)) ∧ W.cell? ⟨gq2, 1, none⟩ = some (.slice Aq2 zq2.length cq2) ∧ W.cell? ⟨gq2 + 1, 0, none⟩ = some (.bool (isNeg vr)) ∧ W.cell? ⟨gq2 + 1, 1, none⟩ = some (.slice Ar2 zr2.length cr2) ∧ W.cell? ⟨gt2, 0, none⟩ = some (.bool (isNeg vt)) ∧ W.cell? ⟨gt2, 1, none⟩ = some (.slice At2 zt2.length ct2) ∧ W.cell? ⟨gt2 + 1, 0, none⟩ = some (.bool (isNeg vu)) ∧ W.cell? ⟨gt2 + 1, 1, none⟩ = some (.slice Au2 zu2.length cu2) ∧ W.cell? ⟨w.heap.size, 0, none⟩ = some (.bool g) ∧ W.cell? ⟨w.heap.size, 1, none⟩ = some (.slice A xs.length c) ∧ W.cell? ⟨w.heap.size + 1, 0, none⟩ = some (.bool g2) ∧ W.cell? ⟨w.heap.size + 1, 1, none⟩ = some (.slice A2 ys.length c2)) (go_keep) (first
          | (go_at_call 11; (with_reducible refine (Sq.out _ (by repeat (first | exact Below.refl _ _ | exact j1 | exact j2 | exact j3 | exact j4 | exact jm | exact js | apply bdw | (refine bdn ?_ _) | (refine bal ?_ (Nat.le_refl _) _)))).mono ?_); rintro e w1 ⟨rfl, hb1⟩; have j1 : Below v10.heap.size v10 w1 := bst (by repeat (first | exact Below.refl _ _ | exact j1 | exact j2 | exact j3 | exact j4 | exact jm | exact js | apply bdw | (refine bdn ?_ _) | (refine bal ?_ (Nat.le_refl _) _))) hb1 (Nat.le_refl _); obtain ⟨x01, y01, _, _⟩ := (Bq.out.below j1 Bq.out.lt).two; obtain ⟨x11, y11, _, _⟩ := (Br.out.below j1 Br.out.lt).two; obtain ⟨x21, y21, _, _⟩ := (Bt.out.below j1 Bt.out.lt).two; obtain ⟨x31, y31, _, _⟩ := (Bu.out.below j1 Bu.out.lt).two; obtain ⟨x41, y41, _, _⟩ := (Bn.out.below j1 Bn.out.lt).two; obtain ⟨x51, y51, _, _⟩ := (Bq2.out.below j1 Bq2.out.lt).two; obtain ⟨x61, y61, _, _⟩ := (Br2.out.below j1 Br2.out.lt).two; obtain ⟨x71, y71, _, _⟩ := (Bt2.out.below j1 Bt2.out.lt).two; obtain ⟨x81, y81, _, _⟩ := (Bu2.out.below j1 Bu2.out.lt).two; obtain ⟨x91, y91, _, _⟩ := (BA.out.below j1 BA.out.lt).two; obtain ⟨x101, y101, _, _⟩ := (BB.out.below j1 BB.out.lt).two)
          | (go_at_call 11; (with_reducible refine (Sr.out _ (by repeat (first | exact Below.refl _ _ | exact j1 | exact j2 | exact j3 | exact j4 | exact jm | exact js | apply bdw | (refine bdn ?_ _) | (refine bal ?_ (Nat.le_refl _) _)))).mono ?_); rintro e w2 ⟨rfl, hb2⟩; have j2 : Below v10.heap.size v10 w2 := bst (by repeat (first | exact Below.refl _ _ | exact j1 | exact j2 | exact j3 | exact j4 | exact jm | exact js | apply bdw | (refine bdn ?_ _) | (refine bal ?_ (Nat.le_refl _) _))) hb2 (Nat.le_refl _); obtain ⟨x02, y02, _, _⟩ := (Bq.out.below j2 Bq.out.lt).two; obtain ⟨x12, y12, _, _⟩ := (Br.out.below j2 Br.out.lt).two; obtain ⟨x22, y22, _, _⟩ := (Bt.out.below j2 Bt.out.lt).two; obtain ⟨x32, y32, _, _⟩ := (Bu.out.below j2 Bu.out.lt).two; obtain ⟨x42, y42, _, _⟩ := (Bn.out.below j2 Bn.out.lt).two; obtain ⟨x52, y52, _, _⟩ := (Bq2.out.below j2 Bq2.out.lt).two; obtain ⟨x62, y62, _, _⟩ := (Br2.out.below j2 Br2.out.lt).two; obtain ⟨x72, y72, _, _⟩ := (Bt2.out.below j2 Bt2.out.lt).two; obtain ⟨x82, y82, _, _⟩ := (Bu2.out.below j2 Bu2.out.lt).two; obtain ⟨x92, y92, _, _⟩ := (BA.out.below j2 BA.out.lt).two; obtain ⟨x102, y102, _, _⟩ := (BB.out.below j2 BB.out.lt).two)
          | (go_at_call 11; (with_reducible refine (St.out _ (by repeat (first | exact Below.refl _ _ | exact j1 | exact j2 | exact j3 | exact j4 | exact jm | exact js | apply bdw | (refine bdn ?_ _) | (refine bal ?_ (Nat.le_refl _) _)))).mono ?_); rintro e w3 ⟨rfl, hb3⟩; have j3 : Below v10.heap.size v10 w3 := bst (by repeat (first | exact Below.refl _ _ | exact j1 | exact j2 | exact j3 | exact j4 | exact jm | exact js | apply bdw | (refine bdn ?_ _) | (refine bal ?_ (Nat.le_refl _) _))) hb3 (Nat.le_refl _); obtain ⟨x03, y03, _, _⟩ := (Bq.out.below j3 Bq.out.lt).two; obtain ⟨x13, y13, _, _⟩ := (Br.out.below j3 Br.out.lt).two; obtain ⟨x23, y23, _, _⟩ := (Bt.out.below j3 Bt.out.lt).two; obtain ⟨x33, y33, _, _⟩ := (Bu.out.below j3 Bu.out.lt).two; obtain ⟨x43, y43, _, _⟩ := (Bn.out.below j3 Bn.out.lt).two; obtain ⟨x53, y53, _, _⟩ := (Bq2.out.below j3 Bq2.out.lt).two; obtain ⟨x63, y63, _, _⟩ := (Br2.out.below j3 Br2.out.lt).two; obtain ⟨x73, y73, _, _⟩ := (Bt2.out.below j3 Bt2.out.lt).two; obtain ⟨x83, y83, _, _⟩ := (Bu2.out.below j3 Bu2.out.lt).two; obtain ⟨x93, y93, _, _⟩ := (BA.out.below j3 BA.out.lt).two; obtain ⟨x103, y103, _, _⟩ := (BB.out.below j3 BB.out.lt).two)
          | (go_at_call 11; (with_reducible refine (Su.out _ (by repeat (first | exact Below.refl _ _ | exact j1 | exact j2 | exact j3 | exact j4 | exact jm | exact js | apply bdw | (refine bdn ?_ _) | (refine bal ?_ (Nat.le_refl _) _)))).mono ?_); rintro e w4 ⟨rfl, hb4⟩; have j4 : Below v10.heap.size v10 w4 := bst (by repeat (first | exact Below.refl _ _ | exact j1 | exact j2 | exact j3 | exact j4 | exact jm | exact js | apply bdw | (refine bdn ?_ _) | (refine bal ?_ (Nat.le_refl _) _))) hb4 (Nat.le_refl _); obtain ⟨x04, y04, _, _⟩ := (Bq.out.below j4 Bq.out.lt).two; obtain ⟨x14, y14, _, _⟩ := (Br.out.below j4 Br.out.lt).two; obtain ⟨x24, y24, _, _⟩ := (Bt.out.below j4 Bt.out.lt).two; obtain ⟨x34, y34, _, _⟩ := (Bu.out.below j4 Bu.out.lt).two; obtain ⟨x44, y44, _, _⟩ := (Bn.out.below j4 Bn.out.lt).two; obtain ⟨x54, y54, _, _⟩ := (Bq2.out.below j4 Bq2.out.lt).two; obtain ⟨x64, y64, _, _⟩ := (Br2.out.below j4 Br2.out.lt).two; obtain ⟨x74, y74, _, _⟩ := (Bt2.out.below j4 Bt2.out.lt).two; obtain ⟨x84, y84, _, _⟩ := (Bu2.out.below j4 Bu2.out.lt).two; obtain ⟨x94, y94, _, _⟩ := (BA.out.below j4 BA.out.lt).two; obtain ⟨x104, y104, _, _⟩ := (BB.out.below j4 BB.out.lt).two)
          | (go_at_call 38; (with_reducible refine (NR2.out _ (by repeat (first | exact Below.refl _ _ | exact j1 | exact j2 | exact j3 | exact j4 | exact jm | exact js | apply bdw | (refine bdn ?_ _) | (refine bal ?_ (Nat.le_refl _) _)))).mono ?_); rintro e wm ⟨zm, Am, cm, rfl, hzm, hrm, hbm⟩; have jm : Below v10.heap.size v10 wm := bst (by repeat (first | exact Below.refl _ _ | exact j1 | exact j2 | exact j3 | exact j4 | exact jm | exact js | apply bdw | (refine bdn ?_ _) | (refine bal ?_ (Nat.le_refl _) _))) hbm (Nat.le_refl _); obtain ⟨x0m, y0m, _, _⟩ := (Bq.out.below jm Bq.out.lt).two; obtain ⟨x1m, y1m, _, _⟩ := (Br.out.below jm Br.out.lt).two; obtain ⟨x2m, y2m, _, _⟩ := (Bt.out.below jm Bt.out.lt).two; obtain ⟨x3m, y3m, _, _⟩ := (Bu.out.below jm Bu.out.lt).two; obtain ⟨x4m, y4m, _, _⟩ := (Bn.out.below jm Bn.out.lt).two; obtain ⟨x5m, y5m, _, _⟩ := (Bq2.out.below jm Bq2.out.lt).two; obtain ⟨x6m, y6m, _, _⟩ := (Br2.out.below jm Br2.out.lt).two; obtain ⟨x7m, y7m, _, _⟩ := (Bt2.out.below jm Bt2.out.lt).two; obtain ⟨x8m, y8m, _, _⟩ := (Bu2.out.below jm Bu2.out.lt).two; obtain ⟨x9m, y9m, _, _⟩ := (BA.out.below jm BA.out.lt).two; obtain ⟨x10m, y10m, _, _⟩ := (BB.out.below jm BB.out.lt).two)
          | (go_at_call 11; (with_reducible refine (Sn.out zm Am cm _ wm _ (by repeat (first | exact Below.refl _ _ | exact j1 | exact j2 | exact j3 | exact j4 | exact jm | exact js | apply bdw | (refine bdn ?_ _) | (refine bal ?_ (Nat.le_refl _) _))) hzm hrm (by repeat (first | exact Below.refl _ _ | apply bdw | (refine bdn ?_ _)))).mono ?_); rintro e ws ⟨rfl, hbs⟩; have js : Below v10.heap.size v10 ws := bst (by repeat (first | exact Below.refl _ _ | exact j1 | exact j2 | exact j3 | exact j4 | exact jm | exact js | apply bdw | (refine bdn ?_ _) | (refine bal ?_ (Nat.le_refl _) _))) hbs (Nat.le_refl _); obtain ⟨x0s, y0s, _, _⟩ := (Bq.out.below js Bq.out.lt).two; obtain ⟨x1s, y1s, _, _⟩ := (Br.out.below js Br.out.lt).two; obtain ⟨x2s, y2s, _, _⟩ := (Bt.out.below js Bt.out.lt).two; obtain ⟨x3s, y3s, _, _⟩ := (Bu.out.below js Bu.out.lt).two; obtain ⟨x4s, y4s, _, _⟩ := (Bn.out.below js Bn.out.lt).two; obtain ⟨x5s, y5s, _, _⟩ := (Bq2.out.below js Bq2.out.lt).two; obtain ⟨x6s, y6s, _, _⟩ := (Br2.out.below js Br2.out.lt).two; obtain ⟨x7s, y7s, _, _⟩ := (Bt2.out.below js Bt2.out.lt).two; obtain ⟨x8s, y8s, _, _⟩ := (Bu2.out.below js Bu2.out.lt).two; obtain ⟨x9s, y9s, _, _⟩ := (BA.out.below js BA.out.lt).two; obtain ⟨x10s, y10s, _, _⟩ := (BB.out.below js BB.out.lt).two))
        all_goals
          go_wp2_with fail
          go_meet
          exact ⟨rfl, js⟩
      case rest =>
        obtain ⟨rfl, j11⟩ := hcut
        obtain ⟨v11, rfl⟩ : ∃ v11 : World, v11 = wc := ⟨_, rfl⟩
        have K11 := bst HK10.out j11 (Nat.le_refl _)
        have bx := Bx.out.below j11 Bx.out.lt
        have bx2 := Bx2.out.below j11 Bx2.out.lt
        have rx := Rx.out.below j11 (Nat.le_refl _)
        have rx2 := Rx2.out.below j11 (Nat.le_refl _)
        have nx := Nx.out
        have nx2 := Nx2.out
        clear p0Bq p1Bq p0Br p1Br p0Bt p1Bt p0Bu p1Bu p0Bn p1Bn p0Bq2 p1Bq2 p0Br2 p1Br2 p0Bt2 p1Bt2 p0Bu2 p1Bu2 p0BA p1BA p0BB p1BB Bq Br Bt Bu Bn Bq2 Br2 Bt2 Bu2 BA BB Sq Sr St Su Sn NR2 HK10 j11 Bx Bx2 Rx Rx2 Nx Nx2
        rcases HOK.out with ⟨rfl, rfl⟩ | ⟨rfl, rfl, rfl⟩
        · have SX : Hid (∀ W (_ : Below v11.heap.size v11 W), Calls Tryz.prog 11 #[.agg #[.bool (isNeg vx), .slice Ax zx.length cx], .agg #[.bool (isNeg vx), .slice Ax2 zx2.length cx2]] W fun e w' => e = .returned (.bool true) ∧ Below W.heap.size W w') := fun W hW => same_res nx rx hW nx2 rx2 hW
          obtain ⟨p0, p1, _, _⟩ := bx.two
          obtain ⟨q0, q1, _, _⟩ := bx2.two
          clear HOK nx nx2 rx rx2 bx bx2
          go_wp2_with fail
          refine (SX.out _ (Below.refl _ _)).mono ?_
          rintro e v12 ⟨rfl, hb⟩
          have K12 := bst K11 hb (Nat.le_refl _)
          clear p0 p1 q0 q1 hb
          go_wp2_with fail
          refine (zlives_any _).mono ?_
          rintro e v13 ⟨rfl, hb⟩
          have K13 := bst K12 hb (Nat.le_refl _)
          go_wp2_with fail
          go_ret
          exact ⟨rfl, K13⟩
        · have e1 : zx = [] := Num.unique (by omega) nx (Num.zero_ _)
          subst e1
          rw [show isNeg 0 = false from rfl] at bx
          have SX : Hid (∀ W, Calls Tryz.prog 11 #[.agg #[.bool false, .slice Ax 0 cx], .agg #[.bool false, .slice none 0 0]] W fun e w' => e = .returned (.bool true) ∧ Below W.heap.size W w') := fun W => lsame_any (xs := []) false (fun h => absurd rfl h) (fun h => absurd rfl h) (by simp)
          obtain ⟨p0, p1, _, _⟩ := bx.two
          clear HOK nx nx2 rx rx2 bx bx2
          go_wp2_with fail
          refine (SX.out _).mono ?_
          rintro e v12 ⟨rfl, hb⟩
          have K12 := bst K11 hb (Nat.le_refl _)
          clear p0 p1 hb
          go_wp2_with fail
          refine (zlives_any _).mono ?_
          rintro e v13 ⟨rfl, hb⟩
          have K13 := bst K12 hb (Nat.le_refl _)
          go_wp2_with fail
          go_ret
          exact ⟨rfl, K13⟩
end
end Go.Proofs.YtanlejlmckdeiaaGreat
