/- The walk of ZintRing; from a walk to its row. Conditions: at most 2^20 limbs each. -/
import Derived.Test.YtanlejlmckdeiaaGreatDoorPkZg32
import Derived.Test.YtanlejlmckdeiaaGreatDoorPkZg24
import Derived.Test.YtanlejlmckdeiaaGreatDoorPkZg37
import Derived.Test.YtanlejlmckdeiaaGreatDoorPkZg38
import Derived.Test.YtanlejlmckdeiaaGreatDoorPkZg39
import Derived.Test.YtanlejlmckdeiaaGreatDoorPkZg40
import Derived.Test.YtanlejlmckdeiaaGreatDoorPkZg41
import Derived.Test.YtanlejlmckdeiaaGreatDoorPkZg0
import Derived.Test.YtanlejlmckdeiaaGreatDoorRows
import Derived.ProofKit
import Derived.SizedLaws
namespace Go.Proofs.YtanlejlmckdeiaaGreatDoor
section
open Go.RowKit

section
variable {w : World} {g g2 g3 : Bool} {A A2 A3 : Option Addr} {c c2 c3 N : Nat} {xs ys us : List Nat} {z y x : Int}
set_option maxHeartbeats 25600000 in
set_option maxRecDepth 20000 in
theorem ring_walk (N : Nat) (hN : N ≤ 1048576) (hN1 : 1 ≤ N) (hT : Tab64 w) (hTB : 0 < w.heap.size) (h : Zh w g A c xs z N) (h2 : Zh w g2 A2 c2 ys y N) (h3 : Zh w g3 A3 c3 us x N) :
    Calls Tryz.prog 5 #[.agg #[.bool g, .slice A xs.length c], .agg #[.bool g2, .slice A2 ys.length c2], .agg #[.bool g3, .slice A3 us.length c3]] w fun e w' => e = .returned (.bool true) ∧ Below w.heap.size w w' := by
  have LZ := Lib.hid h.lt
  have LY := Lib.hid h2.lt
  have LX := Lib.hid h3.lt
  have HA0 := Lib.hid h
  have HB0 := Lib.hid h2
  have HC0 := Lib.hid h3
  obtain ⟨b0, b1, b2⟩ := blk_three w (.bool g) (.slice A xs.length c) (.bool g2) (.slice A2 ys.length c2) (.bool g3) (.slice A3 us.length c3)
  have k0 := bel_three w (.cells #[.bool g, .slice A xs.length c] 28) (.cells #[.bool g2, .slice A2 ys.length c2] 28) (.cells #[.bool g3, .slice A3 us.length c3] 28)
  clear h h2 h3
  go_enter Tryz.func5, Tryz.ntmps5
  go_upto_region 1 with (fail)
  obtain ⟨w0, hw0⟩ : ∃ v, v = ((w.alloc (.cells #[.bool g, .slice A xs.length c] 28)).alloc (.cells #[.bool g2, .slice A2 ys.length c2] 28)).alloc (.cells #[.bool g3, .slice A3 us.length c3] 28) := ⟨_, rfl⟩
  rw [← hw0] at b0 b1 b2 k0 ⊢
  clear hw0
  have HA := Lib.hid (HA0.out.next k0)
  have HB := Lib.hid (HB0.out.next k0)
  have HC := Lib.hid (HC0.out.next k0)
  have K0 := Lib.hid k0
  have B0 := Lib.hid b0
  have B1 := Lib.hid b1
  have B2 := Lib.hid b2
  obtain ⟨p0, p1, _, _⟩ := b0.two
  obtain ⟨q0, q1, _, _⟩ := b1.two
  obtain ⟨t0, t1, _, _⟩ := b2.two
  clear b0 b1 b2 k0 HA0 HB0 HC0
  go_cut [76] (fun v W => v = .bool false ∧ Below w0.heap.size w0 W)
  case first =>
    refine ring1 _ _ _ _ _ _ _ _ _ _ _ _ _ _ _ _ _ _ _ _ _ _ _ _ _ _ _ _ _ _ _ _ _ _ _ _ _ _ _ _ _ _ _ _ _ _ _ _ _ _ _ _ _ _ _ _ _ _ _ _ _ _ _ _ _ _ _ _ _ _ _ _ _ _ _ _ _ _ _ _ _ _ _ _ _ _ _ _ _ _ _ _ _ _ _ _ _ _ _ _ _ _ _ _ _ _ _ _ _ _ _ _ _ _ _ _ _ _ _ _ _ _ _ _ _ _ _ _ _ _ _ _ _ _ _ _ _ _ _ _ _ _ _ _ _ _ _ _ _ _ _ _ _ _ _ _ _ _ _ _ _ _ _ _ _ _ _ _ _ _ _ _ _ _ _ _ _ _ _ _ _ _ _ _ _ _ _ _ _ _ _ _ _ _ _ hN LZ LY LX HA HB HC B0 B1 B2 ?_
    intro W _ _ _ _ _ _ _ _ _ _ _ _ _ _ _ _ _ _ _ _ _ _ _ _ _ _ _ _ _ _ _ _ _ _ _ _ _ _ _ _ _ _ _ _ _ _ _ _ _ _ _ _ _ _ _ h9
    (try dsimp only)
    go_wp2_with fail
    go_meet
    exact ⟨rfl, h9⟩
  case rest =>
    obtain ⟨rfl, j1⟩ := hcut
    obtain ⟨v1, rfl⟩ : ∃ v1 : World, v1 = wc := ⟨_, rfl⟩
    have k1 := bst K0.out j1 (Nat.le_refl _)
    replace HA := Lib.hid (HA.out.next j1)
    replace HB := Lib.hid (HB.out.next j1)
    replace B0 := Lib.hid (B0.out.below j1 B0.out.lt)
    replace B1 := Lib.hid (B1.out.below j1 B1.out.lt)
    have PB := Lib.hid (bezoutq_any HA.out HB.out hN hN1)
    clear p0 p1 q0 q1 t0 t1 B2 HC K0 j1 LX
    obtain ⟨p0, p1, _, _⟩ := B0.out.two
    obtain ⟨q0, q1, _, _⟩ := B1.out.two
    go_wp2_with fail
    refine PB.out.mono ?_
    rintro e w2 ⟨G, X, Y, hbz, zG, zX, zY, AG, cG, AX, cX, AY, cY, rfl, nG, nX, nY, rG, rX, rY, hb2⟩
    have HS := Lib.hid (bez_sum hbz)
    obtain ⟨lG, lX, lY⟩ := bez_lt hbz LZ.out LY.out hN1
    clear hbz PB p0 p1 q0 q1
    go_upto_region 4 with (fail)
    obtain ⟨v2, hv2⟩ : ∃ v, v = ((w2.alloc (.cells #[.bool (isNeg G), .slice AG zG.length cG] 28)).alloc (.cells #[.bool (isNeg X), .slice AX zX.length cX] 28)).alloc (.cells #[.bool (isNeg Y), .slice AY zY.length cY] 28) := ⟨_, rfl⟩
    rw [← hv2]
    obtain ⟨bG, bX, bY⟩ : Blk v2 w2.heap.size 28 [.bool (isNeg G), .slice AG zG.length cG] ∧ Blk v2 (w2.heap.size + 1) 28 [.bool (isNeg X), .slice AX zX.length cX] ∧ Blk v2 (w2.heap.size + 1 + 1) 28 [.bool (isNeg Y), .slice AY zY.length cY] := by rw [hv2]; exact blk_three _ _ _ _ _ _ _
    have i2 : Below w2.heap.size w2 v2 := by rw [hv2]; exact bel_three _ _ _ _
    obtain ⟨gG, hg⟩ : ∃ g, g = w2.heap.size := ⟨_, rfl⟩
    rw [← hg] at bG bX bY ⊢
    clear hg hv2
    have j2 := bst hb2 i2 (Nat.le_refl _)
    have k2 := bst k1 j2 (Nat.le_refl _)
    replace HA := Lib.hid (HA.out.next j2)
    replace HB := Lib.hid (HB.out.next j2)
    replace B0 := Lib.hid (B0.out.below j2 B0.out.lt)
    replace B1 := Lib.hid (B1.out.below j2 B1.out.lt)
    have HG : Hid (Zh v2 (isNeg G) AG cG zG G N) := Lib.hid (Zn.shrink nG (rG.below i2 (Nat.le_refl _)) lG).zh
    have HX : Hid (Zh v2 (isNeg X) AX cX zX X N) := Lib.hid (Zn.shrink nX (rX.below i2 (Nat.le_refl _)) lX).zh
    have HY : Hid (Zh v2 (isNeg Y) AY cY zY Y (max N (N + N) + 1)) := Lib.hid (Zn.shrink nY (rY.below i2 (Nat.le_refl _)) lY).zh
    have LG := Lib.hid lG
    have LX := Lib.hid lX
    have LY9 := Lib.hid lY
    have BG := Lib.hid bG
    have BX := Lib.hid bX
    have BY := Lib.hid bY
    have HT := Lib.hid (hT.below k2 hTB)
    have HTB : Hid (0 < v2.heap.size) := Lib.hid (Nat.lt_of_lt_of_le hTB k2.size)
    have K2 := Lib.hid k2
    clear nG nX nY rG rX rY lG lX lY bG bX bY i2 j2 hb2 k1 k2 hT hTB
    obtain ⟨p0, p1, _, _⟩ := B0.out.two
    obtain ⟨q0, q1, _, _⟩ := B1.out.two
    obtain ⟨a0, a1, _, _⟩ := BG.out.two
    obtain ⟨a2, a3, _, _⟩ := BX.out.two
    obtain ⟨a4, a5, _, _⟩ := BY.out.two
    go_cut [110] (fun v W => v = .bool false ∧ Below v2.heap.size v2 W)
    case first =>
      refine ring4 _ _ _ _ _ _ _ _ _ _ _ _ _ _ _ _ _ _ _ _ _ _ _ _ _ _ _ _ _ _ _ _ _ _ _ _ _ _ _ _ _ _ _ _ _ _ _ _ _ _ _ _ _ _ _ _ _ _ _ _ _ _ _ _ _ _ _ _ _ _ _ _ _ _ _ _ _ _ _ _ _ _ _ _ _ _ _ _ _ _ _ _ _ _ _ _ _ _ _ _ _ _ _ _ _ _ _ _ _ _ _ _ _ _ _ _ _ _ _ _ _ _ _ _ _ _ _ _ _ _ _ _ _ _ _ _ _ _ _ _ _ _ _ _ _ _ _ _ _ _ _ _ _ _ _ _ _ _ _ _ _ _ _ _ _ _ _ _ _ _ _ _ _ _ _ _ _ _ _ _ _ _ _ _ _ _ _ _ _ _ _ _ _ hN LZ LY LG LX LY9 HS HT HTB HA HB HG HX HY B0 B1 BG BX BY ?_
      intro W _ _ _ _ _ _ _ _ _ _ _ _ _ _ _ _ _ _ _ _ _ _ _ _ _ _ h9
      (try dsimp only)
      go_wp2_with fail
      go_meet
      exact ⟨rfl, h9⟩
    case rest =>
      obtain ⟨rfl, j3⟩ := hcut
      have k3 := bst K2.out j3 (Nat.le_refl _)
      have HA3 := Lib.hid (HA.out.next j3)
      have HB3 := Lib.hid (HB.out.next j3)
      have BA := Lib.hid (B0.out.below j3 B0.out.lt)
      have BB := Lib.hid (B1.out.below j3 B1.out.lt)
      obtain ⟨v3, rfl⟩ : ∃ v3 : World, v3 = wc := ⟨_, rfl⟩
      clear p0 p1 q0 q1 a0 a1 a2 a3 a4 a5 HA HB B0 B1 BG BX BY HG HX HY LG LX LY9 HT HTB HS K2 j3
      obtain ⟨q0, q1, _, _⟩ := BB.out.two
      obtain ⟨sy, hsy⟩ : ∃ s, s = y.sign := ⟨_, rfl⟩
      have SG : Hid (Calls Tryz.prog 28 #[.agg #[.bool g2, .slice A2 ys.length c2]] v3 fun e w' => e = .returned (.int .i64 sy) ∧ Below v3.heap.size v3 w') := by rw [hsy]; exact HB3.out.sign (by omega)
      by_cases hy : y = 0
      · obtain rfl : sy = 0 := by rw [hsy, hy]; rfl
        clear hsy hy
        go_wp2_with fail
        refine SG.out.mono ?_
        rintro e w4 ⟨rfl, hb4⟩
        have k4 := bst k3 hb4 (Nat.le_refl _)
        clear q0 q1 SG
        go_wp2_with fail
        refine (zlives_any _).mono ?_
        rintro e w5 ⟨rfl, hb5⟩
        have k5 := bst k4 hb5 (Nat.le_refl _)
        go_wp2_with fail
        go_ret
        exact ⟨rfl, k5⟩
      · have hs9 : sy = 1 ∨ sy = -1 := by rcases sign_cases y with ⟨a, b⟩ | ⟨a, b⟩ | ⟨a, b⟩ <;> rw [hsy, b] <;> first | exact absurd a hy | simp
        have Hs9 := Lib.hid hs9
        have Hy := Lib.hid hy
        clear hsy hs9 hy
        go_upto_region 6 with (fail)
        go_cut [113] (fun v W => v = .bool false ∧ Below v3.heap.size v3 W)
        case first =>
          have hs9 := Hs9.out
          clear Hs9
          go_wp2_with fail
          refine SG.out.mono ?_
          rintro e w4 ⟨rfl, hb4⟩
          clear SG
          rcases hs9 with rfl | rfl
          all_goals
            go_wp2_with fail
            go_meet
            exact ⟨rfl, hb4⟩
        case rest =>
          obtain ⟨rfl, j4⟩ := hcut
          obtain ⟨v0, rfl⟩ : ∃ v : World, v = wc := ⟨_, rfl⟩
          have K0 := bst k3 j4 (Nat.le_refl _)
          have HA := Lib.hid (HA3.out.next j4)
          have HB := Lib.hid (HB3.out.next j4)
          replace BA := Lib.hid (BA.out.below j4 BA.out.lt)
          replace BB := Lib.hid (BB.out.below j4 BB.out.lt)
          obtain ⟨vq, hq⟩ : ∃ v, v = z / y := ⟨_, rfl⟩
          obtain ⟨vr, hr⟩ : ∃ v, v = z % y := ⟨_, rfl⟩
          obtain ⟨vt, ht⟩ : ∃ v, v = Int.tdiv z y := ⟨_, rfl⟩
          obtain ⟨vu, hu⟩ : ∃ v, v = Int.tmod z y := ⟨_, rfl⟩
          obtain ⟨vn, hn⟩ : ∃ v, v = nearZ z y := ⟨_, rfl⟩
          have lr : vr.natAbs < 4294967296 ^ N := by
            have e1 := emod_lt_abs' z Hy.out
            have e2 := Int.emod_nonneg z Hy.out
            have e3 := LY.out
            rw [hr]; omega
          have lq : vq.natAbs < 4294967296 ^ N := by rw [hq]; exact Nat.lt_of_le_of_lt (Int.natAbs_ediv_le_natAbs z y) LZ.out
          have lt9 : vt.natAbs < 4294967296 ^ N := by rw [ht, Int.natAbs_tdiv]; exact Nat.lt_of_le_of_lt (Nat.div_le_self _ _) LZ.out
          have lu : vu.natAbs < 4294967296 ^ N := by
            have e3 := LY.out
            have e4 := Hy.out
            rw [hu, Int.natAbs_tmod]; exact Nat.lt_trans (Nat.mod_lt _ (by omega)) e3
          have ln : vn.natAbs < 4294967296 ^ (N + 1) := by
            have e1 : vn.natAbs ≤ vq.natAbs + 1 := by rw [hn, hq]; unfold nearZ; split <;> (rcases sign_cases y with ⟨a, b⟩ | ⟨a, b⟩ | ⟨a, b⟩ <;> (try rw [b]) <;> omega)
            have e2 : 1 ≤ 4294967296 ^ N := Nat.pow_pos (by omega)
            rw [Nat.pow_succ]; omega
          have Er : Hid (0 ≤ vr ∧ vr < (y.natAbs : Int)) := by
            have e1 := emod_lt_abs' z Hy.out
            have e2 := Int.emod_nonneg z Hy.out
            show _ ∧ _; rw [hr]; omega
          have Eq : Hid (vq * y + vr = z) := by show _ = _; rw [hq, hr, Int.mul_comm]; exact Int.mul_ediv_add_emod z y
          have Et : Hid (vt * y + vu = z) := by show _ = _; rw [ht, hu, Int.mul_comm]; exact Int.mul_tdiv_add_tmod z y
          have En : Hid (2 * (z - vn * y).natAbs ≤ y.natAbs) := by show _ ≤ _; rw [hn]; exact near_le Hy.out
          have Lq := Lib.hid lq
          have Lr := Lib.hid lr
          have Lt := Lib.hid lt9
          have Lu := Lib.hid lu
          have Ln := Lib.hid ln
          have EU : Hid (∀ W (_ : Below v0.heap.size v0 W), Calls Tryz.prog 29 #[.agg #[.bool g, .slice A xs.length c], .agg #[.bool g2, .slice A2 ys.length c2]] W fun e w' => ZQ W w' vq vr 0 e) := fun W hW => by
            have h9 := (HA.out.next hW).euclid (HB.out.next hW) (by omega) (by omega)
            rwa [show euQ z y = vq from hq.symm, show euR z y = vr from by rw [hr]; exact if_neg Hy.out, show euE y = 0 from if_neg Hy.out] at h9
          have TC : Hid (∀ W (_ : Below v0.heap.size v0 W), Calls Tryz.prog 30 #[.agg #[.bool g, .slice A xs.length c], .agg #[.bool g2, .slice A2 ys.length c2]] W fun e w' => ZQ W w' vt vu 0 e) := fun W hW => by
            have h9 := (HA.out.next hW).trunc (HB.out.next hW) (by omega) (by omega)
            rwa [show trQ z y = vt from ht.symm, show trR z y = vu from by rw [hu]; exact if_neg Hy.out, show euE y = 0 from if_neg Hy.out] at h9
          have NR : Hid (∀ W (_ : Below v0.heap.size v0 W), Calls Tryz.prog 31 #[.agg #[.bool g, .slice A xs.length c], .agg #[.bool g2, .slice A2 ys.length c2]] W fun e w' => ZE W w' vn 0 e) := fun W hW => by
            have h9 := (HA.out.next hW).near (HB.out.next hW) (by omega) (by omega)
            rwa [show nrQ z y = vn from by rw [hn]; exact if_neg Hy.out, show nrE y = 0 from if_neg Hy.out] at h9
          have EX0 : Int.tmod (z * y) y = 0 ∧ Int.tdiv (z * y) y = z := ⟨Int.mul_tmod_left .., Int.mul_tdiv_cancel _ Hy.out⟩
          have EX0 := Lib.hid EX0
          have K9 := Lib.hid K0
          clear q0 q1 SG HA3 HB3 j4 k3 hq hr ht hu hn lr lq lt9 lu ln Hs9 K0
          have K0 := Below.refl v0.heap.size v0
          obtain ⟨p0BA, p1BA, _, _⟩ := BA.out.two
          obtain ⟨p0BB, p1BB, _, _⟩ := BB.out.two
          go_wp2_with fail
          refine (EU.out _ K0).mono ?_
          rintro e w1 ⟨zq, zr, Aq, cq, Ar, cr, rfl, nq, nr, rq, rr, hb1⟩
          clear p0BA p1BA p0BB p1BB
          go_upto_region 9 with (fail)
          obtain ⟨v1, hv1⟩ : ∃ v, v = (w1.alloc (.cells #[.bool (isNeg vq), .slice Aq zq.length cq] 28)).alloc (.cells #[.bool (isNeg vr), .slice Ar zr.length cr] 28) := ⟨_, rfl⟩
          rw [← hv1]
          obtain ⟨bq, br⟩ : Blk v1 w1.heap.size 28 [.bool (isNeg vq), .slice Aq zq.length cq] ∧ Blk v1 (w1.heap.size + 1) 28 [.bool (isNeg vr), .slice Ar zr.length cr] := by rw [hv1]; exact blk_pair2 _ _ _ _ _
          have i1 : Below w1.heap.size w1 v1 := by rw [hv1]; exact bel_two _ _ _
          obtain ⟨gq, hg⟩ : ∃ g, g = w1.heap.size := ⟨_, rfl⟩
          rw [← hg] at bq br ⊢
          clear hg
          have j1 := bst hb1 i1 (Nat.le_refl _)
          replace BA := Lib.hid (BA.out.below j1 BA.out.lt)
          replace BB := Lib.hid (BB.out.below j1 BB.out.lt)
          have Bq := Lib.hid bq
          have Br := Lib.hid br
          have K1 := bst K0 j1 (Nat.le_refl _)
          have Rq := Lib.hid (rq.below i1 (Nat.le_refl _))
          have Rr := Lib.hid (rr.below i1 (Nat.le_refl _))
          clear hb1 j1 hv1 i1 bq br rq rr
          clear K0
          obtain ⟨p0BA, p1BA, _, _⟩ := BA.out.two
          obtain ⟨p0BB, p1BB, _, _⟩ := BB.out.two
          have Nq := Lib.hid nq
          have Nr := Lib.hid nr
          clear nq nr
          go_wp2_with fail
          refine (TC.out _ K1).mono ?_
          rintro e w2 ⟨zt, zu, At, ct, Au, cu, rfl, nt, nu, rt, ru, hb2⟩
          clear p0BA p1BA p0BB p1BB
          go_upto_region 10 with (fail)
          obtain ⟨v2, hv2⟩ : ∃ v, v = (w2.alloc (.cells #[.bool (isNeg vt), .slice At zt.length ct] 28)).alloc (.cells #[.bool (isNeg vu), .slice Au zu.length cu] 28) := ⟨_, rfl⟩
          rw [← hv2]
          obtain ⟨bt, bu⟩ : Blk v2 w2.heap.size 28 [.bool (isNeg vt), .slice At zt.length ct] ∧ Blk v2 (w2.heap.size + 1) 28 [.bool (isNeg vu), .slice Au zu.length cu] := by rw [hv2]; exact blk_pair2 _ _ _ _ _
          have i2 : Below w2.heap.size w2 v2 := by rw [hv2]; exact bel_two _ _ _
          obtain ⟨gt, hg⟩ : ∃ g, g = w2.heap.size := ⟨_, rfl⟩
          rw [← hg] at bt bu ⊢
          clear hg
          have j2 := bst hb2 i2 (Nat.le_refl _)
          replace BA := Lib.hid (BA.out.below j2 BA.out.lt)
          replace BB := Lib.hid (BB.out.below j2 BB.out.lt)
          replace Bq := Lib.hid (Bq.out.below j2 Bq.out.lt)
          replace Br := Lib.hid (Br.out.below j2 Br.out.lt)
          replace Rq := Lib.hid (Rq.out.below j2 (Nat.le_refl _))
          replace Rr := Lib.hid (Rr.out.below j2 (Nat.le_refl _))
          have Bt := Lib.hid bt
          have Bu := Lib.hid bu
          have K2 := bst K1 j2 (Nat.le_refl _)
          have Rt := Lib.hid (rt.below i2 (Nat.le_refl _))
          have Ru := Lib.hid (ru.below i2 (Nat.le_refl _))
          clear hb2 j2 hv2 i2 bt bu rt ru
          clear K1
          obtain ⟨p0BA, p1BA, _, _⟩ := BA.out.two
          obtain ⟨p0BB, p1BB, _, _⟩ := BB.out.two
          have Nt := Lib.hid nt
          have Nu := Lib.hid nu
          clear nt nu
          go_wp2_with fail
          refine (NR.out _ K2).mono ?_
          rintro e w3 ⟨zn, An, cn, rfl, nn, rn, hb3⟩
          clear p0BA p1BA p0BB p1BB
          go_upto_region 11 with (fail)
          obtain ⟨v3, hv3⟩ : ∃ v, v = w3.alloc (.cells #[.bool (isNeg vn), .slice An zn.length cn] 28) := ⟨_, rfl⟩
          rw [← hv3]
          have bn : Blk v3 w3.heap.size 28 [.bool (isNeg vn), .slice An zn.length cn] := by rw [hv3]; exact blk_one _ _ _
          have i3 : Below w3.heap.size w3 v3 := by rw [hv3]; exact bel_one _ _
          obtain ⟨gn, hg⟩ : ∃ g, g = w3.heap.size := ⟨_, rfl⟩
          rw [← hg] at bn ⊢
          clear hg
          have j3 := bst hb3 i3 (Nat.le_refl _)
          replace BA := Lib.hid (BA.out.below j3 BA.out.lt)
          replace BB := Lib.hid (BB.out.below j3 BB.out.lt)
          replace Bq := Lib.hid (Bq.out.below j3 Bq.out.lt)
          replace Br := Lib.hid (Br.out.below j3 Br.out.lt)
          replace Bt := Lib.hid (Bt.out.below j3 Bt.out.lt)
          replace Bu := Lib.hid (Bu.out.below j3 Bu.out.lt)
          replace Rq := Lib.hid (Rq.out.below j3 (Nat.le_refl _))
          replace Rr := Lib.hid (Rr.out.below j3 (Nat.le_refl _))
          replace Rt := Lib.hid (Rt.out.below j3 (Nat.le_refl _))
          replace Ru := Lib.hid (Ru.out.below j3 (Nat.le_refl _))
          have Bn := Lib.hid bn
          have K3 := bst K2 j3 (Nat.le_refl _)
          have Rn := Lib.hid (rn.below i3 (Nat.le_refl _))
          clear hb3 j3 hv3 i3 bn rn
          clear K2
          obtain ⟨p0BA, p1BA, _, _⟩ := BA.out.two
          obtain ⟨p0BB, p1BB, _, _⟩ := BB.out.two
          have Nn := Lib.hid nn
          clear nn
          have HA3 := Lib.hid (HA.out.next K3)
          have HB3 := Lib.hid (HB.out.next K3)
          have K93 := Lib.hid (bst K9.out K3 (Nat.le_refl _))
          have s3 := K3.size
          have ML : Hid (∀ W (_ : Below v3.heap.size v3 W), Calls Tryz.prog 23 #[.agg #[.bool g, .slice A xs.length c], .agg #[.bool g2, .slice A2 ys.length c2]] W fun e w' => ZOut W w' (z * y) e) := fun W hW => (HA3.out.next hW).mul (HB3.out.next hW) (by omega) (by omega)
          have EX : Hid (∀ (zm : List Nat) (Am : Option Addr) (cm B9 : Nat) (wo W : World), Below v3.heap.size v3 W → Num 4294967296 zm (z * y).natAbs → Res wo B9 61 Am cm (u32s zm) → Below wo.heap.size wo W → Calls Tryz.prog 32 #[.agg #[.bool (isNeg (z * y)), .slice Am zm.length cm], .agg #[.bool g2, .slice A2 ys.length c2]] W fun e w' => ZE W w' z 0 e) := fun zm Am cm B9 wo W hW hn hr hb => by
            have h9 := ((Zn.shrink (K := N + N) hn hr (zprod_lt LZ.out LY.out)).next hb).zh.exact (HB3.out.next hW) (by omega) (by omega)
            rwa [show exQ (z * y) y = z from by unfold exQ; rw [if_neg Hy.out, if_pos EX0.out.1, EX0.out.2], show exE (z * y) y = 0 from by unfold exE; rw [if_neg Hy.out, if_pos EX0.out.1]] at h9
          have low0 : w.heap.size < v3.heap.size := BA.out.lt
          have low1 : w.heap.size + 1 < v3.heap.size := BB.out.lt
          clear EU TC NR HA HB K9 K3
          have n0a : w.heap.size ≠ v3.heap.size := by omega
          have n0b := Ne.symm n0a
          have n1a : w.heap.size + 1 ≠ v3.heap.size := by omega
          have n1b := Ne.symm n1a
          go_cut [18, 19] (fun v v19 W => ∃ g9 Ae ce ze, v = .pointer (some ⟨g9, 0, none⟩) ∧ v19 = .int .i64 0 ∧ Blk W g9 28 [.bool (isNeg z), .slice Ae ze.length ce] ∧ Num 4294967296 ze (z).natAbs ∧ Res W v3.heap.size 61 Ae ce (u32s ze) ∧ v3.heap.size ≤ g9 ∧ Below v3.heap.size v3 W)
          case first =>
            go_region_held3 (fun W => W.cell? ⟨w.heap.size, 0, none⟩ = some (.bool g) ∧ W.cell? ⟨w.heap.size, 1, none⟩ = some (.slice A xs.length c) ∧ W.cell? ⟨w.heap.size + 1, 0, none⟩ = some (.bool g2) ∧ W.cell? ⟨w.heap.size + 1, 1, none⟩ = some (.slice A2 ys.length c2)) (go_keep) (first
              | (go_at_call 23; (with_reducible refine (ML.out _ (by repeat (first | exact Below.refl _ _ | exact jm | exact je | apply bdw | apply bdn | (refine bal ?_ (Nat.le_refl _) _)))).mono ?_); rintro e wm ⟨zm, Am, cm, rfl, hzm, hrm, hbm⟩; have jm : Below v3.heap.size v3 wm := bst (by repeat (first | exact Below.refl _ _ | exact jm | exact je | apply bdw | apply bdn | (refine bal ?_ (Nat.le_refl _) _))) hbm (Nat.le_refl _); obtain ⟨x0m, y0m, u0m, v0m⟩ := (BA.out.below jm BA.out.lt).two; obtain ⟨xx0m, yy0m, uu0m, vv0m⟩ := two_al (BA.out.below jm BA.out.lt); obtain ⟨x1m, y1m, u1m, v1m⟩ := (BB.out.below jm BB.out.lt).two; obtain ⟨xx1m, yy1m, uu1m, vv1m⟩ := two_al (BB.out.below jm BB.out.lt); have m0m : w.heap.size < wm.heap.size := Nat.lt_of_lt_of_le low0 jm.size; have ma0m := Nat.ne_of_lt m0m; have mb0m := Nat.ne_of_gt m0m; have mc0m := Nat.ne_of_lt (Nat.lt_succ_of_lt m0m); have md0m := Nat.ne_of_gt (Nat.lt_succ_of_lt m0m); have m1m : w.heap.size + 1 < wm.heap.size := Nat.lt_of_lt_of_le low1 jm.size; have ma1m := Nat.ne_of_lt m1m; have mb1m := Nat.ne_of_gt m1m; have mc1m := Nat.ne_of_lt (Nat.lt_succ_of_lt m1m); have md1m := Nat.ne_of_gt (Nat.lt_succ_of_lt m1m); (first | (have bnm0 := ((blk_one v3 (.bool false) (.slice none 0 0))).below hbm (by simp)) | (have bnm0 := ((blk_one v3 (.bool false) (.slice none 0 0)).drew).below hbm (by simp)) | (have bnm0 := ((blk_one v3 (.bool false) (.slice none 0 0)).drewN _).below hbm (by simp)) | skip); (try (have q9 := bnm0.two; obtain ⟨a0bnm0, a1bnm0, a2bnm0, a3bnm0⟩ := q9)); (try (have q9 := two_al bnm0; obtain ⟨c0bnm0, c1bnm0, c2bnm0, c3bnm0⟩ := q9)); (try have d0bnm0 := Nat.ne_of_lt bnm0.lt); (try have d1bnm0 := Nat.ne_of_gt bnm0.lt); (try have d2bnm0 := Nat.ne_of_lt (Nat.lt_succ_of_lt bnm0.lt)); (try have d3bnm0 := Nat.ne_of_gt (Nat.lt_succ_of_lt bnm0.lt)); (try (have q9 := two_al2 bnm0; obtain ⟨e0bnm0, e1bnm0, e2bnm0, e3bnm0⟩ := q9)))
              | (go_at_call 32; (with_reducible refine (EX.out zm Am cm _ wm _ (by repeat (first | exact Below.refl _ _ | exact jm | exact je | apply bdw | apply bdn | (refine bal ?_ (Nat.le_refl _) _))) hzm hrm (by repeat (first | exact Below.refl _ _ | apply bdw | apply bdn | (refine bal ?_ (Nat.le_refl _) _)))).mono ?_); rintro e we ⟨ze, Ae, ce, rfl, hze, hre, hbe⟩; have je : Below v3.heap.size v3 we := bst (by repeat (first | exact Below.refl _ _ | exact jm | exact je | apply bdw | apply bdn | (refine bal ?_ (Nat.le_refl _) _))) hbe (Nat.le_refl _); obtain ⟨x0e, y0e, u0e, v0e⟩ := (BA.out.below je BA.out.lt).two; obtain ⟨xx0e, yy0e, uu0e, vv0e⟩ := two_al (BA.out.below je BA.out.lt); obtain ⟨x1e, y1e, u1e, v1e⟩ := (BB.out.below je BB.out.lt).two; obtain ⟨xx1e, yy1e, uu1e, vv1e⟩ := two_al (BB.out.below je BB.out.lt); have m0e : w.heap.size < we.heap.size := Nat.lt_of_lt_of_le low0 je.size; have ma0e := Nat.ne_of_lt m0e; have mb0e := Nat.ne_of_gt m0e; have mc0e := Nat.ne_of_lt (Nat.lt_succ_of_lt m0e); have md0e := Nat.ne_of_gt (Nat.lt_succ_of_lt m0e); have m1e : w.heap.size + 1 < we.heap.size := Nat.lt_of_lt_of_le low1 je.size; have ma1e := Nat.ne_of_lt m1e; have mb1e := Nat.ne_of_gt m1e; have mc1e := Nat.ne_of_lt (Nat.lt_succ_of_lt m1e); have md1e := Nat.ne_of_gt (Nat.lt_succ_of_lt m1e); (first | (have bne0 := ((blk_one wm (.bool false) (.slice none 0 0))).below hbe (by simp)) | (have bne0 := ((blk_one wm (.bool false) (.slice none 0 0)).drew).below hbe (by simp)) | (have bne0 := ((blk_one wm (.bool false) (.slice none 0 0)).drewN _).below hbe (by simp)) | skip); (try have bnm0e := bnm0.below (bel_pre hbe (by repeat (first | exact Below.refl _ _ | exact hbm | exact hbe | apply bdw | apply bdn | (refine bal ?_ (Nat.le_refl _) _)))) bnm0.lt); (try (have q9 := bnm0e.two; obtain ⟨a0bnm0e, a1bnm0e, a2bnm0e, a3bnm0e⟩ := q9)); (try (have q9 := two_al bnm0e; obtain ⟨c0bnm0e, c1bnm0e, c2bnm0e, c3bnm0e⟩ := q9)); (try have d0bnm0e := Nat.ne_of_lt bnm0e.lt); (try have d1bnm0e := Nat.ne_of_gt bnm0e.lt); (try have d2bnm0e := Nat.ne_of_lt (Nat.lt_succ_of_lt bnm0e.lt)); (try have d3bnm0e := Nat.ne_of_gt (Nat.lt_succ_of_lt bnm0e.lt)); (try (have q9 := two_al2 bnm0e; obtain ⟨e0bnm0e, e1bnm0e, e2bnm0e, e3bnm0e⟩ := q9)); (try (have q9 := bne0.two; obtain ⟨a0bne0, a1bne0, a2bne0, a3bne0⟩ := q9)); (try (have q9 := two_al bne0; obtain ⟨c0bne0, c1bne0, c2bne0, c3bne0⟩ := q9)); (try have d0bne0 := Nat.ne_of_lt bne0.lt); (try have d1bne0 := Nat.ne_of_gt bne0.lt); (try have d2bne0 := Nat.ne_of_lt (Nat.lt_succ_of_lt bne0.lt)); (try have d3bne0 := Nat.ne_of_gt (Nat.lt_succ_of_lt bne0.lt)); (try (have q9 := two_al2 bne0; obtain ⟨e0bne0, e1bne0, e2bne0, e3bne0⟩ := q9))))
            all_goals
              go_wp2_with fail
              go_meet
              have re9 : Res we v3.heap.size 61 Ae ce (u32s ze) := hre.mono (Nat.le_trans jm.size (by simp <;> omega))
              have l0 := jm.size
              have l1 := je.size
              have l2 := hbm.size
              have l3 := hbe.size
              refine ⟨_, Ae, ce, ze, rfl, rfl, ?_, hze, ?_, ?_, (by repeat (first | exact Below.refl _ _ | exact je | apply bdw | apply bdn | (refine bal ?_ (Nat.le_refl _) _) | (refine bsc ?_ (by first | exact Nat.le_refl _ | exact Nat.le_succ _ | exact l0 | exact Nat.le_succ_of_le l0 | exact l1 | exact Nat.le_succ_of_le l1) _)))⟩
              all_goals first
                | (simp at l0 l1 l2 l3 ⊢; done)
                | (simp at l0 l1 l2 l3 ⊢; omega)
                | ((repeat' (first | with_reducible exact re9 | with_reducible exact bnm0e | with_reducible exact bne0 | (with_reducible apply Rs.al) | (with_reducible apply res_al9) | (with_reducible apply Rs.var2) | (with_reducible apply res_var2) | (with_reducible apply blk_pair) | (with_reducible refine Blk.far ?_ (by show _ ≠ _; first | assumption | simp) _) | (with_reducible exact Blk.new_ rfl) | (with_reducible exact blk_two rfl) | (with_reducible refine Blk.heapAlloc ?_ _))); done)
          case rest =>
            obtain ⟨g18, A18, c18, z18, rfl, rfl, b18, n18, r18, o18, j4⟩ := hcut
            obtain ⟨v4, rfl⟩ : ∃ v : World, v = wc := ⟨_, rfl⟩
            have B18 := Lib.hid b18
            have N18 := Lib.hid n18
            have R18 := Lib.hid r18
            replace BA := Lib.hid (BA.out.below j4 BA.out.lt)
            replace BB := Lib.hid (BB.out.below j4 BB.out.lt)
            replace Bq := Lib.hid (Bq.out.below j4 Bq.out.lt)
            replace Br := Lib.hid (Br.out.below j4 Br.out.lt)
            replace Bt := Lib.hid (Bt.out.below j4 Bt.out.lt)
            replace Bu := Lib.hid (Bu.out.below j4 Bu.out.lt)
            replace Bn := Lib.hid (Bn.out.below j4 Bn.out.lt)
            replace Rq := Lib.hid (Rq.out.below j4 (Nat.le_refl _))
            replace Rr := Lib.hid (Rr.out.below j4 (Nat.le_refl _))
            replace Rt := Lib.hid (Rt.out.below j4 (Nat.le_refl _))
            replace Ru := Lib.hid (Ru.out.below j4 (Nat.le_refl _))
            replace Rn := Lib.hid (Rn.out.below j4 (Nat.le_refl _))
            have HA4 := Lib.hid (HA3.out.next j4)
            have HB4 := Lib.hid (HB3.out.next j4)
            have K94 := Lib.hid (bst K93.out j4 (Nat.le_refl _))
            clear ML EX low0 low1 n0a n0b n1a n1b b18 n18 r18 HA3 HB3 K93 p0BA p1BA p0BB p1BB j4 EX0
            have zN := Zn.shrink Nn.out Rn.out Ln.out
            have ML : Hid (∀ W (_ : Below v4.heap.size v4 W), Calls Tryz.prog 23 #[.agg #[.bool (isNeg vn), .slice An zn.length cn], .agg #[.bool g2, .slice A2 ys.length c2]] W fun e w' => ZOut W w' (vn * y) e) := fun W hW => (zN.zh.next hW).mul (HB4.out.next hW) (by omega) (by omega)
            have l1 : (vn * y).natAbs < 4294967296 ^ (N + 1 + N) := zprod_lt Ln.out LY.out
            have l2 : (z - vn * y).natAbs < 4294967296 ^ (max N (N + 1 + N) + 1) := zdiff_lt (by omega) LZ.out l1
            have l3 : ((z - vn * y) * 2).natAbs < 4294967296 ^ (max N (N + 1 + N) + 1 + 1) := zprod_lt l2 (by decide)
            have SB : Hid (∀ (zm : List Nat) (Am : Option Addr) (cm B9 : Nat) (wo W : World), Below v4.heap.size v4 W → Num 4294967296 zm (vn * y).natAbs → Res wo B9 61 Am cm (u32s zm) → Below wo.heap.size wo W → Calls Tryz.prog 24 #[.agg #[.bool g, .slice A xs.length c], .agg #[.bool (isNeg (vn * y)), .slice Am zm.length cm]] W fun e w' => ZOut W w' (z - vn * y) e) := fun zm Am cm B9 wo W hW hn hr hb => (HA4.out.next hW).sub ((Zn.shrink hn hr l1).next hb).zh (by omega) (by omega)
            have MM : Hid (∀ (zs : List Nat) (As : Option Addr) (cs B9 : Nat) (ws : World) (zo : List Nat) (Ao : Option Addr) (co B8 : Nat) (wo W : World), Below v4.heap.size v4 W → Num 4294967296 zs (z - vn * y).natAbs → Res ws B9 61 As cs (u32s zs) → Below ws.heap.size ws W → Num 4294967296 zo (2 : Int).natAbs → Res wo B8 61 Ao co (u32s zo) → Below wo.heap.size wo W → Calls Tryz.prog 23 #[.agg #[.bool (isNeg (z - vn * y)), .slice As zs.length cs], .agg #[.bool (isNeg 2), .slice Ao zo.length co]] W fun e w' => ZOut W w' ((z - vn * y) * 2) e) := fun zs As cs B9 ws zo Ao co B8 wo W hW hn hr hb hn2 hr2 hb2 => ((Zn.shrink hn hr l2).next hb).zh.mul ((Zn.shrink (K := 1) hn2 hr2 (by decide)).next hb2).zh (by omega) (by omega)
            obtain ⟨vo, hvo⟩ : ∃ v : Int, v = (((z - vn * y) * 2).natAbs : Int) := ⟨_, rfl⟩
            have AB9 : Hid (∀ (zp : List Nat) (Ap : Option Addr) (cp B9 : Nat) (wo W : World), Below v4.heap.size v4 W → Num 4294967296 zp ((z - vn * y) * 2).natAbs → Res wo B9 61 Ap cp (u32s zp) → Below wo.heap.size wo W → Calls Tryz.prog 27 #[.agg #[.bool (isNeg ((z - vn * y) * 2)), .slice Ap zp.length cp]] W fun e w' => ZOut W w' vo e) := fun zp Ap cp B9 wo W hW hn hr hb => by rw [hvo]; exact ((Zn.shrink hn hr l3).next hb).zh.abs (by omega)
            have Lo : Hid (vo.natAbs < 4294967296 ^ (max N (N + 1 + N) + 1 + 1)) := by show _ < _; rw [hvo, Int.natAbs_natCast]; exact l3
            have Eo : Hid (vo ≤ (y.natAbs : Int)) := by
              have e1 := En.out
              show _ ≤ _; rw [hvo, Int.natAbs_mul, show (2 : Int).natAbs = 2 from rfl]; omega
            have low0 : w.heap.size < v4.heap.size := BA.out.lt
            have low1 : w.heap.size + 1 < v4.heap.size := BB.out.lt
            have low2 : gn < v4.heap.size := Bn.out.lt
            clear zN l1 l2 l3 hvo En
            obtain ⟨p0BA, p1BA, _, _⟩ := BA.out.two
            obtain ⟨p0BB, p1BB, _, _⟩ := BB.out.two
            obtain ⟨p0n, p1n, _, _⟩ := Bn.out.two
            have n0a : w.heap.size ≠ v4.heap.size := by omega
            have n0b := Ne.symm n0a
            have n1a : w.heap.size + 1 ≠ v4.heap.size := by omega
            have n1b := Ne.symm n1a
            have n2a : gn ≠ v4.heap.size := by omega
            have n2b := Ne.symm n2a
            go_upto_region 12 with (fail)
            go_cut [20] (fun v W => ∃ g9 Ae ce ze, v = .pointer (some ⟨g9, 0, none⟩) ∧ Blk W g9 28 [.bool (isNeg vo), .slice Ae ze.length ce] ∧ Num 4294967296 ze (vo).natAbs ∧ Res W v4.heap.size 61 Ae ce (u32s ze) ∧ v4.heap.size ≤ g9 ∧ Below v4.heap.size v4 W)
            case first =>
              refine ring12 _ _ _ _ _ _ _ _ _ _ _ _ _ _ _ _ _ _ _ _ _ _ _ _ _ _ _ _ _ _ _ _ _ _ _ _ _ _ _ _ _ _ _ _ _ _ _ _ _ _ _ _ _ _ _ _ _ _ _ _ _ _ _ _ _ _ _ _ _ _ _ _ _ _ _ _ _ _ _ _ _ _ _ _ _ _ _ _ _ _ _ _ _ _ _ _ _ _ _ _ _ _ _ _ _ _ _ _ _ _ _ _ _ _ _ _ _ _ _ _ _ _ _ _ _ _ _ _ _ _ _ _ _ _ _ _ _ _ _ _ _ _ _ _ _ _ _ _ _ _ _ _ _ _ _ _ _ _ _ _ _ _ _ _ _ _ _ _ _ _ _ _ _ _ _ _ _ _ _ _ _ _ _ _ _ _ _ _ _ _ _ _ _ _ _ BA BB Bn ML SB MM AB9 ?_
              intro W g9 Ae ce ze _ _ _ _ _ _ _ _ h9
              (try dsimp only)
              go_wp2_with fail
              go_meet
              exact ⟨g9, Ae, ce, ze, rfl, h9⟩
            case rest =>
              obtain ⟨g20, A20, c20, z20, rfl, b20, n20, r20, o20, j5⟩ := hcut
              obtain ⟨v5, rfl⟩ : ∃ v : World, v = wc := ⟨_, rfl⟩
              replace BA := Lib.hid (BA.out.below j5 BA.out.lt)
              replace BB := Lib.hid (BB.out.below j5 BB.out.lt)
              replace Bq := Lib.hid (Bq.out.below j5 Bq.out.lt)
              replace Br := Lib.hid (Br.out.below j5 Br.out.lt)
              replace Bt := Lib.hid (Bt.out.below j5 Bt.out.lt)
              replace Bu := Lib.hid (Bu.out.below j5 Bu.out.lt)
              replace Bn := Lib.hid (Bn.out.below j5 Bn.out.lt)
              replace Rq := Lib.hid (Rq.out.below j5 (Nat.le_refl _))
              replace Rr := Lib.hid (Rr.out.below j5 (Nat.le_refl _))
              replace Rt := Lib.hid (Rt.out.below j5 (Nat.le_refl _))
              replace Ru := Lib.hid (Ru.out.below j5 (Nat.le_refl _))
              replace Rn := Lib.hid (Rn.out.below j5 (Nat.le_refl _))
              have B18 := Lib.hid (B18.out.below j5 B18.out.lt)
              have H18 : Hid (Zh v5 (isNeg z) A18 c18 z18 z N) := Lib.hid (Zn.shrink N18.out (R18.out.below j5 (Nat.le_refl _)) LZ.out).zh
              have Hq : Hid (Zh v5 (isNeg vq) Aq cq zq vq N) := Lib.hid (Zn.shrink Nq.out Rq.out Lq.out).zh
              have Hr : Hid (Zh v5 (isNeg vr) Ar cr zr vr N) := Lib.hid (Zn.shrink Nr.out Rr.out Lr.out).zh
              have Ht : Hid (Zh v5 (isNeg vt) At ct zt vt N) := Lib.hid (Zn.shrink Nt.out Rt.out Lt.out).zh
              have Hu : Hid (Zh v5 (isNeg vu) Au cu zu vu N) := Lib.hid (Zn.shrink Nu.out Ru.out Lu.out).zh
              have Ho : Hid (Zh v5 (isNeg vo) A20 c20 z20 vo (max N (N + 1 + N) + 1 + 1)) := Lib.hid (Zn.shrink n20 r20 Lo.out).zh
              have HA5 := Lib.hid (HA4.out.next j5)
              have HB5 := Lib.hid (HB4.out.next j5)
              have B20 := Lib.hid b20
              have k5 := bst K94.out j5 (Nat.le_refl _)
              clear p0BA p1BA p0BB p1BB p0n p1n ML SB MM AB9 n0a n0b n1a n1b n2a n2b low0 low1 low2
              go_upto_region 13 with (fail)
              go_cut [6] (fun v W => v = .bool true ∧ Below v5.heap.size v5 W)
              case first =>
                refine ring13 _ _ _ _ _ _ _ _ _ _ _ _ _ _ _ _ _ _ _ _ _ _ _ _ _ _ _ _ _ _ _ _ _ _ _ _ _ _ _ _ _ _ _ _ _ _ _ _ _ _ _ _ _ _ _ _ _ _ _ _ _ _ _ _ _ _ _ _ _ _ _ _ _ _ _ _ _ _ _ _ _ _ _ _ _ _ _ _ _ _ _ _ _ _ _ _ _ _ _ _ _ _ _ _ _ _ _ _ _ _ _ _ _ _ _ _ _ _ _ _ _ _ _ _ _ _ _ _ _ _ _ _ _ _ _ _ _ _ _ _ _ _ _ _ _ _ _ _ _ _ _ _ _ _ _ _ _ _ _ _ _ _ _ _ _ _ _ _ _ _ _ _ _ _ _ _ _ _ _ _ _ _ _ _ _ _ _ _ _ hN LZ LY Lq Lr Lt Lu Lo Er Eq Et Eo HA5 HB5 Hq Hr Ht Hu Ho H18 BA BB Bq Br Bt Bu B20 B18 ?_
                intro W _ _ _ _ _ _ _ _ _ _ _ _ _ _ _ _ _ _ _ _ _ _ _ _ _ _ _ _ _ _ _ _ _ _ _ _ _ _ _ _ _ _ _ _ _ _ _ h9
                (try dsimp only)
                go_wp2_with fail
                go_meet
                exact ⟨rfl, h9⟩
              case rest =>
                obtain ⟨rfl, j6⟩ := hcut
                have k6 := bst k5 j6 (Nat.le_refl _)
                go_wp2_with fail
                go_ret
                exact ⟨rfl, k6⟩
end
end
section
open Go.ChangeShapes Go.WideShapes Go.ChangeAt Go.RowKit

theorem Tryz.own : ownKnob Tryz.prog.godebug = none := by kernel_rfl
theorem Tryz.laidOut : laidOutB Tryz.prog = true := by kernel_rfl

theorem trodAll_below {H : Type} {enc : TypeId × Value → H} {P : Program} (hl : laidOutB P = true) {W W' : World} (hb : Below W.heap.size W W') :
    ∀ (ts : List TypeId), (∀ t ∈ ts, P.readableRec t = true ∧ t < P.types.size) → ∀ (vs : List Value) (ds : List (DataW H)) (ps : List MemPlace), DataW.TrodAll enc P W 0 (fun _ => true) true ts vs ds ps → (∀ x ∈ ps, x.block < W.heap.size) →
      DataW.TrodAll enc P W' 0 (fun b => decide (b < W.heap.size)) true ts vs ds ps
  | [], _, vs, ds, ps, h, _ => by
    obtain ⟨rfl, rfl, rfl⟩ := trodAll_nil h
    exact trodAll_mk0
  | t :: ts, hr, vs, ds, ps, h, hlt => by
    obtain ⟨v, vs', d, ds', p, q, rfl, rfl, rfl, hd, hrest⟩ := trodAll_cons h
    have h1 := hr t List.mem_cons_self
    exact ⟨p, q, Below.trod hl h1.1 h1.2 hd hb (fun x hx => hlt x (List.mem_append_left _ hx)),
      trodAll_below hl hb ts (fun t ht => hr t (List.mem_cons_of_mem _ ht)) vs' ds' q hrest (fun x hx => hlt x (List.mem_append_right _ hx)), rfl⟩

/-- A law's 'post', out of 'it returned true, and all old memory is as it was'. -/
theorem law_post {H : Type} {enc : TypeId × Value → H} {P : Program} {f : Func} {s : ChangeSpec} {apart : Bool} {W W' : World} {args : Array Value} {ds : List (DataW H)} {before : List MemPlace} (tb : TypeId)
    (hl : laidOutB P = true) (hr : ∀ t ∈ f.params.toList, P.readableRec t = true ∧ t < P.types.size) (hres : f.resultTypes.toList = [tb]) (htb : P.underlying tb = some .bool) (hsv : s.vars = [])
    (hW : DataW.Whole enc P f.params.toList s.vars apart W args.toList ds [] before)
    (hfn : (s.fn H (ds ++ [])).results = [.lit (.bool true)] ∧ (s.fn H (ds ++ [])).args = ds ∧ (s.fn H (ds ++ [])).vars = [])
    (hb : Below W.heap.size W W') : s.post enc P f apart true false false W args (.bool true) W' := by
  have hW0 := hW
  obtain ⟨p, q, hA, hV, rfl, _, _⟩ := hW
  rw [hsv] at hV
  obtain ⟨_, rfl⟩ := trodVars_none hV
  have hlt : ∀ x ∈ p, x.block < W.heap.size := fun x hx => hW0.lt x (by simpa using hx)
  have hsz : f.resultTypes.size = 1 := by rw [← Array.length_toList, hres]; rfl
  refine ⟨ds, [], _, [], p, [], hW0, ?_, ?_, ?_, hb.frame _, fun h => by cases h⟩
  · rw [hfn.1, hres, hsz]
    exact trodAll_mk1 (shut_bool htb _)
  · rw [hfn.2.1]
    exact trodAll_below hl hb _ hr _ _ _ hA hlt
  · rw [hsv, hfn.2.2]; rfl
end
section
open Go.ChangeShapes Go.WideShapes Go.ChangeAt Go.RowKit

theorem Tryz.cells32 : Tryz.prog.cellsOf 61 = 1 := by kernel_rfl
theorem Tryz.bytes32 : Tryz.prog.bytesOf 61 = 4 := by kernel_rfl

theorem wf_u32 {n : Int} (h : (Lit.int .u32 n).wf = true) : 0 ≤ n ∧ n < 4294967296 := by
  have h1 : IntKind.u32.min = 0 := rfl
  have h2 : IntKind.u32.max = 4294967295 := rfl
  simp only [Lit.wf, Bool.and_eq_true, decide_eq_true_eq] at h
  omega
end
section
open Go

theorem bulk_one {H : Type} (d : DataW H) : 1 ≤ Rows.uptoBulk d := by
  cases d with
  | lit l => cases l <;> simp only [Rows.uptoBulk] <;> omega
  | _ => simp only [Rows.uptoBulk]; omega
theorem bulk_len {H : Type} (l : List (DataW H)) : l.length ≤ Rows.uptoBulkAll l := by
  induction l with
  | nil => simp only [List.length_nil]; omega
  | cons x l ih => have := bulk_one x; simp only [Rows.uptoBulkAll, List.length_cons]; omega
theorem bulk_part {H : Type} {d : DataW H} {l : List (DataW H)} (h : d ∈ l) : Rows.uptoBulk d ≤ Rows.uptoBulkAll l := by
  induction l with
  | nil => cases h
  | cons x l ih =>
    simp only [Rows.uptoBulkAll]
    rcases List.mem_cons.1 h with rfl | h
    · omega
    · have := ih h; omega
end
end Go.Proofs.YtanlejlmckdeiaaGreatDoor
