/- The reference's Bezout at a second number that is not 0. Conditions: at most 2^20 limbs each. -/
import Derived.Test.YtanlejlmckdeiaaGreatPkZb5
namespace Go.Proofs.YtanlejlmckdeiaaGreat
open Go.RowKit

section
variable {w : World} {g g2 : Bool} {A A2 : Option Addr} {c c2 N : Nat} {xs ys : List Nat} {z y : Int}
set_option maxHeartbeats 25600000 in
theorem rbezout_other (h : Zh w g A c xs z N) (h2 : Zh w g2 A2 c2 ys y N) (hy : y ≠ 0) (hN : N ≤ 1048576) (hN1 : 1 ≤ N) :
    Calls Tryz.prog 40 #[.agg #[.bool g, .slice A xs.length c], .agg #[.bool g2, .slice A2 ys.length c2]] w fun e w' => ∃ G X Y : Int, BezIs z y G X Y ∧ ZBZ w w' G X Y e := by
  obtain ⟨G, hG⟩ : ∃ v : Int, v = (Int.gcd z y : Nat) := ⟨_, rfl⟩
  obtain ⟨e0, e1, e2, e3, e4, e5, _⟩ := bez_exact hy hG
  obtain ⟨P, hP⟩ : ∃ v, v = z / G := ⟨_, rfl⟩
  obtain ⟨Q0, hQ0⟩ : ∃ v, v = y / G := ⟨_, rfl⟩
  obtain ⟨Q, hQ⟩ : ∃ v : Int, v = (Q0.natAbs : Int) := ⟨_, rfl⟩
  obtain ⟨R, hR⟩ : ∃ v, v = P % Q := ⟨_, rfl⟩
  rw [← hP] at e5
  rw [← hQ0] at e2 e3
  have LG : Hid (G.natAbs < 4294967296 ^ N) := by
    show _ < _; rw [hG, Int.natAbs_natCast]
    exact Nat.lt_of_le_of_lt (Nat.le_of_dvd (by omega) (Int.gcd_dvd_natAbs_right z y)) h2.lt
  have LP : Hid (P.natAbs < 4294967296 ^ N) := by show _ < _; rw [hP]; exact Nat.lt_of_le_of_lt (Int.natAbs_ediv_le_natAbs z G) h.lt
  have LQ0 : Hid (Q0.natAbs < 4294967296 ^ N) := by show _ < _; rw [hQ0]; exact Nat.lt_of_le_of_lt (Int.natAbs_ediv_le_natAbs y G) h2.lt
  have LQ : Hid (Q.natAbs < 4294967296 ^ N) := by show _ < _; rw [hQ, Int.natAbs_natCast]; exact LQ0.out
  have Q1 : Hid (0 < Q) := by show _ < _; omega
  have R0 : Hid (0 ≤ R) := by show _ ≤ _; rw [hR]; exact Int.emod_nonneg _ (by have := Q1.out; omega)
  have LR : Hid (R.natAbs < 4294967296 ^ N) := by
    have h1 := emod_lt_abs' P (b := Q) (by have := Q1.out; omega)
    have h3 := R0.out
    have h4 := LQ.out
    rw [← hR] at h1
    show _ < _; omega
  have GC : Hid (∀ W (_ : Below w.heap.size w W), Calls Tryz.prog 62 #[.agg #[.bool g, .slice A xs.length c], .agg #[.bool g2, .slice A2 ys.length c2]] W fun e w' => ZOut W w' G e) := fun W hW => by rw [hG]; exact (h.next hW).rgcd (h2.next hW) (by omega) (by omega)
  obtain ⟨sy, hsy⟩ : ∃ s, s = y.sign := ⟨_, rfl⟩
  have hs : sy = 1 ∨ sy = -1 := by rcases sign_cases y with ⟨a, b⟩ | ⟨a, b⟩ | ⟨a, b⟩ <;> rw [hsy, b] <;> first | exact absurd a hy | simp
  have SB : Hid (∀ W (_ : Below w.heap.size w W), Calls Tryz.prog 16 #[.agg #[.bool g2, .slice A2 ys.length c2]] W fun e w' => e = .returned (.int .i64 sy) ∧ Below W.heap.size W w') := fun W hW => by rw [hsy]; exact (h2.next hW).rsign (by omega)
  have HS := Lib.hid hs
  have HA := Lib.hid h
  have HB := Lib.hid h2
  have Hy := Lib.hid hy
  have HG := Lib.hid hG
  have HP := Lib.hid hP
  have HQ0 := Lib.hid hQ0
  have HQ := Lib.hid hQ
  have HR := Lib.hid hR
  have E0 := Lib.hid e0
  have E1 := Lib.hid e1
  have E2 := Lib.hid e2
  have E4 := Lib.hid e4
  have E5 := Lib.hid e5
  clear h h2 hy hG hP hQ0 hQ hR e0 e1 e2 e3 e4 e5 hs hsy
  go_enter Tryz.func40, Tryz.ntmps40
  go_wp2_with fail
  obtain ⟨w0, hw0⟩ : ∃ w0, w0 = ((((w.alloc (.cells #[.bool g, .slice A xs.length c] 25)).alloc (.cells #[.bool g2, .slice A2 ys.length c2] 25)).alloc (.cells #[.bool false, .slice none 0 0] 25)).alloc (.cells #[.bool false, .slice none 0 0] 25)).alloc (.cells #[.bool false, .slice none 0 0] 25) := ⟨_, rfl⟩
  obtain ⟨b0, b1, b2, b3, b4, k0⟩ := blk_five w _ _ _ _ _ _ _ _ _ _ hw0
  rw [← hw0]
  clear hw0
  have f0 : Bz5 w [.bool g, .slice A xs.length c] [.bool g2, .slice A2 ys.length c2] w0 := ⟨b0, b1, b2, b3, b4, k0⟩
  clear b0 b1 b2 b3 b4 k0
  obtain ⟨p0, p1, _, _⟩ := f0.1.two
  obtain ⟨q0, q1, _, _⟩ := f0.2.1.two
  go_wp2_with fail
  refine (GC.out _ f0.2.2.2.2.2).mono ?_
  rintro e w1 ⟨zg, Ag, cg, rfl, hzg, hrg, hb1⟩
  go_upto_region 2 with (fail)
  obtain ⟨v1, hv1⟩ : ∃ v, v = w1.alloc (.cells #[.bool (isNeg G), .slice Ag zg.length cg] 25) := ⟨_, rfl⟩
  rw [← hv1]
  have bg : Blk v1 w1.heap.size 25 [.bool (isNeg G), .slice Ag zg.length cg] := by rw [hv1]; exact blk_one _ _ _
  have i1 : Below w1.heap.size w1 v1 := by rw [hv1]; exact bel_one _ _
  obtain ⟨gg, hg⟩ : ∃ g, g = w1.heap.size := ⟨_, rfl⟩
  rw [← hg] at bg ⊢
  have j1 := bst hb1 i1 (Nat.le_refl _)
  have f1 := f0.next j1
  have og : w.heap.size + 1 + 1 + 1 + 1 < gg := by have := f0.2.2.2.2.1.lt; have := hb1.size; omega
  have RG := Lib.hid ((hrg.mono f0.2.2.2.2.2.size).below i1 (Nat.le_refl _))
  have BG := Lib.hid bg
  have NG := Lib.hid hzg
  have F1 := Lib.hid f1
  clear p0 p1 q0 q1 GC hv1 bg i1 hg j1 hb1 hrg hzg f0 f1
  obtain ⟨q0, q1, _, _⟩ := F1.out.2.1.two
  go_cut [22] (fun v W => v = .bool false ∧ Below v1.heap.size v1 W)
  case first =>
    have hs9 := HS.out
    clear HS
    go_wp2_with fail
    refine (SB.out _ F1.out.2.2.2.2.2).mono ?_
    rintro e v2 ⟨rfl, hb2⟩
    clear SB
    rcases hs9 with rfl | rfl
    all_goals
      go_wp2_with fail
      go_meet
      exact ⟨rfl, hb2⟩
  case rest =>
    obtain ⟨rfl, j2⟩ := hcut
    obtain ⟨v2, rfl⟩ : ∃ v2 : World, v2 = wc := ⟨_, rfl⟩
    have f2 := F1.out.next j2
    replace BG := Lib.hid (BG.out.below j2 BG.out.lt)
    replace RG := Lib.hid (RG.out.below j2 (Nat.le_refl _))
    clear F1 j2 q0 q1 SB HS
    have zG := zn_of NG.out RG.out (num32_len NG.out (Nat.le_refl _) LG.out)
    have hA := HA.out.next f2.2.2.2.2.2
    have XA : Hid (∀ W (_ : Below v2.heap.size v2 W), Calls Tryz.prog 37 #[.agg #[.bool g, .slice A xs.length c], .agg #[.bool (isNeg G), .slice Ag zg.length cg]] W fun e w' => ZB W w' P true e) := fun W hW => by have h9 := (hA.next hW).rexact_yes (zG.zh.next hW) (by have := E0.out; omega) (by omega) E4.out; rwa [E5.out] at h9
    clear zG hA
    obtain ⟨x0a, x1a, _, _⟩ := f2.1.two
    obtain ⟨x0g, x1g, _, _⟩ := BG.out.two
    go_wp2_with fail
    refine (XA.out _ (Below.refl _ _)).mono ?_
    rintro e w3 ⟨zp, Ap, cp, rfl, hzp, hrp, hb3⟩
    go_upto_region 5 with (fail)
    obtain ⟨v3, hv3⟩ : ∃ v, v = w3.alloc (.cells #[.bool (isNeg P), .slice Ap zp.length cp] 25) := ⟨_, rfl⟩
    rw [← hv3]
    have bp : Blk v3 w3.heap.size 25 [.bool (isNeg P), .slice Ap zp.length cp] := by rw [hv3]; exact blk_one _ _ _
    have i3 : Below w3.heap.size w3 v3 := by rw [hv3]; exact bel_one _ _
    obtain ⟨gp, hg⟩ : ∃ g, g = w3.heap.size := ⟨_, rfl⟩
    rw [← hg] at bp ⊢
    clear x0a x1a x0g x1g
    have j3 := bst hb3 i3 (Nat.le_refl _)
    have op : w.heap.size + 1 + 1 + 1 + 1 < gp := by have := f2.2.2.2.2.1.lt; have := hb3.size; omega
    have lBGp : gg < gp := by have := BG.out.lt; have := hb3.size; omega
    have Rp := Lib.hid ((hrp.mono f2.2.2.2.2.2.size).below i3 (Nat.le_refl _))
    have Np := Lib.hid hzp
    replace BG := Lib.hid (BG.out.below j3 BG.out.lt)
    replace RG := Lib.hid (RG.out.below j3 (Nat.le_refl _))
    have f3 := f2.next j3
    clear f2
    have Bp := Lib.hid bp
    clear hv3 i3 hg hb3 bp hrp hzp
    clear j3 XA
    have zG := zn_of NG.out RG.out (num32_len NG.out (Nat.le_refl _) LG.out)
    have hB := HB.out.next f3.2.2.2.2.2
    have XB : Hid (∀ W (_ : Below v3.heap.size v3 W), Calls Tryz.prog 37 #[.agg #[.bool g2, .slice A2 ys.length c2], .agg #[.bool (isNeg G), .slice Ag zg.length cg]] W fun e w' => ZB W w' Q0 true e) := fun W hW => by have h9 := (hB.next hW).rexact_yes (zG.zh.next hW) (by have := E0.out; omega) (by omega) E1.out; rwa [E2.out] at h9
    clear zG hB
    obtain ⟨x0a, x1a, _, _⟩ := f3.2.1.two
    obtain ⟨x0g, x1g, _, _⟩ := BG.out.two
    go_wp2_with fail
    refine (XB.out _ (Below.refl _ _)).mono ?_
    rintro e w4 ⟨zq, Aq, cq, rfl, hzq, hrq, hb4⟩
    go_upto_region 6 with (fail)
    obtain ⟨v4, hv4⟩ : ∃ v, v = w4.alloc (.cells #[.bool (isNeg Q0), .slice Aq zq.length cq] 25) := ⟨_, rfl⟩
    rw [← hv4]
    have bq : Blk v4 w4.heap.size 25 [.bool (isNeg Q0), .slice Aq zq.length cq] := by rw [hv4]; exact blk_one _ _ _
    have i4 : Below w4.heap.size w4 v4 := by rw [hv4]; exact bel_one _ _
    obtain ⟨gq, hg⟩ : ∃ g, g = w4.heap.size := ⟨_, rfl⟩
    rw [← hg] at bq ⊢
    clear x0a x1a x0g x1g
    have j4 := bst hb4 i4 (Nat.le_refl _)
    have oq : w.heap.size + 1 + 1 + 1 + 1 < gq := by have := f3.2.2.2.2.1.lt; have := hb4.size; omega
    have lBGq : gg < gq := by have := BG.out.lt; have := hb4.size; omega
    have lBpq : gp < gq := by have := Bp.out.lt; have := hb4.size; omega
    have Rq := Lib.hid ((hrq.mono f3.2.2.2.2.2.size).below i4 (Nat.le_refl _))
    have Nq := Lib.hid hzq
    replace BG := Lib.hid (BG.out.below j4 BG.out.lt)
    replace Bp := Lib.hid (Bp.out.below j4 Bp.out.lt)
    replace RG := Lib.hid (RG.out.below j4 (Nat.le_refl _))
    replace Rp := Lib.hid (Rp.out.below j4 (Nat.le_refl _))
    have f4 := f3.next j4
    clear f3
    have Bq := Lib.hid bq
    clear hv4 i4 hg hb4 bq hrq hzq
    clear j4 XB
    have zQ := zn_of Nq.out Rq.out (num32_len Nq.out (Nat.le_refl _) LQ0.out)
    have XC : Hid (∀ W (_ : Below v4.heap.size v4 W), Calls Tryz.prog 21 #[.agg #[.bool (isNeg Q0), .slice Aq zq.length cq]] W fun e w' => ZOut W w' Q e) := fun W hW => by rw [HQ.out]; exact (zQ.zh.next hW).rabs (by omega)
    clear zQ
    obtain ⟨x0q, x1q, _, _⟩ := Bq.out.two
    go_wp2_with fail
    refine (XC.out _ (Below.refl _ _)).mono ?_
    rintro e w5 ⟨zu, Au, cu, rfl, hzu, hru, hb5⟩
    clear x0q x1q XC
    have bq := Bq.out.below hb5 Bq.out.lt
    obtain ⟨x0q, x1q, x2q, x3q⟩ := bq.two
    go_upto_region 7 with (fail)
    obtain ⟨v5, hv5⟩ : ∃ v, v = (w5.setCell ⟨gq, 0, none⟩ (.bool (isNeg Q))).setCell ⟨gq, 1, none⟩ (.slice Au zu.length cu) := ⟨_, rfl⟩
    rw [← hv5]
    have f5 : Bz5 w [.bool g, .slice A xs.length c] [.bool g2, .slice A2 ys.length c2] v5 := by rw [hv5]; exact (f4.next hb5).set2 oq
    have bu : Blk v5 gq 25 [.bool (isNeg Q), .slice Au zu.length cu] := by rw [hv5]; exact blk_pair bq _ _
    have ru : Res v5 w.heap.size 36 Au cu (u32s zu) := by rw [hv5]; exact res_var2 (hru.mono f4.2.2.2.2.2.size) bq _ _
    have bp : Blk v5 gp 25 [.bool (isNeg P), .slice Ap zp.length cp] := by rw [hv5]; exact far2 (Bp.out.below hb5 Bp.out.lt) (by omega)
    have rp : Res v5 w.heap.size 36 Ap cp (u32s zp) := by rw [hv5]; exact res_var2 (Rp.out.below hb5 (Nat.le_refl _)) bq _ _
    have bg : Blk v5 gg 25 [.bool (isNeg G), .slice Ag zg.length cg] := by rw [hv5]; exact far2 (BG.out.below hb5 BG.out.lt) (by omega)
    have rg : Res v5 w.heap.size 36 Ag cg (u32s zg) := by rw [hv5]; exact res_var2 (RG.out.below hb5 (Nat.le_refl _)) bq _ _
    replace BG := Lib.hid bg
    replace RG := Lib.hid rg
    replace Bp := Lib.hid bp
    replace Rp := Lib.hid rp
    have Bu := Lib.hid bu
    have Ru := Lib.hid ru
    have Nu := Lib.hid hzu
    clear x0q x1q x2q x3q hv5 bq bu ru bp rp bg rg hru hzu hb5 Bq Rq Nq f4 LQ0
    have zP := zn_of Np.out Rp.out (num32_len Np.out (Nat.le_refl _) LP.out)
    have zQ := zn_of Nu.out Ru.out (num32_len Nu.out (Nat.le_refl _) LQ.out)
    have XE : Hid (∀ W (_ : Below v5.heap.size v5 W), Calls Tryz.prog 35 #[.agg #[.bool (isNeg P), .slice Ap zp.length cp], .agg #[.bool (isNeg Q), .slice Au zu.length cu]] W fun e w' => ZZ W w' (P / Q) R e) := fun W hW => by rw [HR.out]; exact (zP.zh.next hW).reuclid (zQ.zh.next hW) (by have := Q1.out; omega) (by omega) (by omega)
    clear zP zQ
    obtain ⟨x0p, x1p, _, _⟩ := Bp.out.two
    obtain ⟨x0q, x1q, _, _⟩ := Bu.out.two
    go_wp2_with fail
    refine (XE.out _ (Below.refl _ _)).mono ?_
    rintro e w6 ⟨zk, zr, Ak, ck, Ar, cr, rfl, hzk, hzr, hrk, hrr, hb6⟩
    clear x0p x1p x0q x1q XE
    go_upto_region 8 with (fail)
    obtain ⟨v6, hv6⟩ : ∃ v, v = (w6.alloc (.cells #[.bool (isNeg (P / Q)), .slice Ak zk.length ck] 25)).alloc (.cells #[.bool (isNeg R), .slice Ar zr.length cr] 25) := ⟨_, rfl⟩
    rw [← hv6]
    have br : Blk v6 (w6.heap.size + 1) 25 [.bool (isNeg R), .slice Ar zr.length cr] := by rw [hv6]; exact (blk_pair2 _ _ _ _ _).2
    have i6 : Below w6.heap.size w6 v6 := by rw [hv6]; exact bel_two _ _ _
    have j6 := bst hb6 i6 (Nat.le_refl _)
    obtain ⟨gr, hg⟩ : ∃ g, g = w6.heap.size + 1 := ⟨_, rfl⟩
    rw [← hg] at br ⊢
    have Rr := Lib.hid ((hrr.mono f5.2.2.2.2.2.size).below i6 (Nat.le_refl _))
    have Nr := Lib.hid hzr
    have Br := Lib.hid br
    replace BG := Lib.hid (BG.out.below j6 BG.out.lt)
    replace Bp := Lib.hid (Bp.out.below j6 Bp.out.lt)
    replace Bu := Lib.hid (Bu.out.below j6 Bu.out.lt)
    replace RG := Lib.hid (RG.out.below j6 (Nat.le_refl _))
    replace Rp := Lib.hid (Rp.out.below j6 (Nat.le_refl _))
    replace Ru := Lib.hid (Ru.out.below j6 (Nat.le_refl _))
    have f6 := f5.next j6
    clear f5
    clear hv6 i6 hg hb6 br hrr hzr hzk hrk j6 Bp Rp Np
    have XI := Lib.hid (inverse_any (w := v6) Nr.out (Rr.out.mono (Nat.zero_le _)) Nu.out (Ru.out.mono (Nat.zero_le _)) R0.out Q1.out LR.out LQ.out (by omega) hN1)
    obtain ⟨x0r, x1r, _, _⟩ := Br.out.two
    obtain ⟨x0q, x1q, _, _⟩ := Bu.out.two
    go_wp2_with fail
    refine XI.out.mono ?_
    rintro e w7 ⟨X, ⟨hx0, hx1, hx2⟩, zx, Ax, cx, rfl, hzx, hrx, hb7⟩
    clear x0r x1r x0q x1q XI
    go_upto_region 9 with (fail)
    obtain ⟨v8, hv8⟩ : ∃ v, v = w7.alloc (.cells #[.bool (isNeg X), .slice Ax zx.length cx] 25) := ⟨_, rfl⟩
    rw [← hv8]
    have bx : Blk v8 w7.heap.size 25 [.bool (isNeg X), .slice Ax zx.length cx] := by rw [hv8]; exact blk_one _ _ _
    have i7 : Below w7.heap.size w7 v8 := by rw [hv8]; exact bel_one _ _
    have j7 := bst hb7 i7 (Nat.le_refl _)
    have ox : w.heap.size + 1 + 1 + 1 + 1 < w7.heap.size := by have := f6.2.2.2.2.1.lt; have := hb7.size; omega
    obtain ⟨gx, hg⟩ : ∃ g, g = w7.heap.size := ⟨_, rfl⟩
    rw [← hg] at bx ox ⊢
    have Rx := Lib.hid ((hrx.mono f6.2.2.2.2.2.size).below i7 (Nat.le_refl _))
    have Nx := Lib.hid hzx
    obtain ⟨e8, e9⟩ := bez_ref_fin Hy.out HG.out (by rw [HQ.out, HQ0.out]) (by rw [HR.out, HP.out]) hx0 hx1 hx2
    obtain ⟨Y, hY⟩ : ∃ v, v = Int.tdiv (G - z * X) y := ⟨_, rfl⟩
    rw [← hY] at e9
    have LX : Hid (X.natAbs < 4294967296 ^ N) := by have := LQ.out; show _ < _; omega
    replace BG := Lib.hid (BG.out.below j7 BG.out.lt)
    replace Bu := Lib.hid (Bu.out.below j7 Bu.out.lt)
    replace Br := Lib.hid (Br.out.below j7 Br.out.lt)
    replace RG := Lib.hid (RG.out.below j7 (Nat.le_refl _))
    replace Ru := Lib.hid (Ru.out.below j7 (Nat.le_refl _))
    replace Rr := Lib.hid (Rr.out.below j7 (Nat.le_refl _))
    have f8 := f6.next j7
    clear f6
    have Bx := Lib.hid bx
    have E8 := Lib.hid e8
    have E9 := Lib.hid e9
    have HY := Lib.hid hY
    clear hv8 i7 hg hb7 bx hrx hzx j7 Bu Ru Nu Br Rr Nr e8 e9 hY hx0 hx1 hx2 LQ LR R0 Q1 HP HQ0 HQ HR E0 E1 E2 E4 E5 LP
    have hA := HA.out.next f8.2.2.2.2.2
    have hB := HB.out.next f8.2.2.2.2.2
    have zr := zn_of NG.out RG.out (num32_len NG.out (Nat.le_refl _) LG.out)
    have zX := zn_of Nx.out Rx.out (num32_len Nx.out (Nat.le_refl _) LX.out)
    have ML : Hid (∀ W (_ : Below v8.heap.size v8 W), Calls Tryz.prog 28 #[.agg #[.bool g, .slice A xs.length c], .agg #[.bool (isNeg X), .slice Ax zx.length cx]] W fun e w' => ZOut W w' (z * X) e) := fun W hW => (hA.next hW).rmul (zX.zh.next hW) (by omega)
    have SB : Hid (∀ (zm : List Nat) (Am : Option Addr) (cm B9 : Nat) (wo W : World), Below v8.heap.size v8 W → Num 4294967296 zm (z * X).natAbs → Res wo B9 36 Am cm (u32s zm) → Below wo.heap.size wo W → Calls Tryz.prog 26 #[.agg #[.bool (isNeg G), .slice Ag zg.length cg], .agg #[.bool (isNeg (z * X)), .slice Am zm.length cm]] W fun e w' => ZOut W w' (G - z * X) e) := fun zm Am cm B9 wo W hW hn hr hb => (zr.zh.next hW).rsub ((Zn.shrink (K := N + N) hn hr (zprod_lt hA.lt zX.lt)).next hb).zh (by omega) (by omega)
    have EX : Hid (∀ (zb : List Nat) (Ab : Option Addr) (cb B9 : Nat) (wo W : World), Below v8.heap.size v8 W → Num 4294967296 zb (G - z * X).natAbs → Res wo B9 36 Ab cb (u32s zb) → Below wo.heap.size wo W → Calls Tryz.prog 37 #[.agg #[.bool (isNeg (G - z * X)), .slice Ab zb.length cb], .agg #[.bool g2, .slice A2 ys.length c2]] W fun e w' => ZB W w' Y true e) := fun zb Ab cb B9 wo W hW hn hr hb => by
      have h9 := ((Zn.shrink (K := max N (N + N) + 1) hn hr (zdiff_lt (by omega) zr.lt (zprod_lt hA.lt zX.lt))).next hb).zh.rexact_yes (hB.next hW) Hy.out (by omega) E8.out
      rwa [← HY.out] at h9
    have LY : Hid (Y.natAbs < 4294967296 ^ (max N (N + N) + 1)) := by
      show _ < _; rw [HY.out]
      exact Nat.lt_of_le_of_lt (by rw [Int.natAbs_tdiv]; exact Nat.div_le_self _ _) (zdiff_lt (by omega) zr.lt (zprod_lt hA.lt zX.lt))
    have FF8 := Lib.hid f8
    have BA := Lib.hid f8.1
    have BB := Lib.hid f8.2.1
    have low0 : gg < v8.heap.size := BG.out.lt
    have low1 : gx < v8.heap.size := Bx.out.lt
    have low2 : w.heap.size < v8.heap.size := f8.1.lt
    have low3 : w.heap.size + 1 < v8.heap.size := f8.2.1.lt
    clear hA hB zr zX f8 HA HB E8 HY HG
    obtain ⟨p0, p1, _, _⟩ := BG.out.two
    obtain ⟨p2, p3, _, _⟩ := Bx.out.two
    obtain ⟨p4, p5, _, _⟩ := BA.out.two
    obtain ⟨p6, p7, _, _⟩ := BB.out.two
    have n1 : gg ≠ v8.heap.size := by omega
    have n2 : gx ≠ v8.heap.size := by omega
    have n3 : w.heap.size ≠ v8.heap.size := by omega
    have n4 : w.heap.size + 1 ≠ v8.heap.size := by omega
    have n5 := Ne.symm n1
    have n6 := Ne.symm n2
    have n7 := Ne.symm n3
    have n8 := Ne.symm n4
    go_cut [15, 16] (fun v16 _ W => ∃ g16 Ay cy zy, v16 = .pointer (some ⟨g16, 0, none⟩) ∧ Blk W g16 25 [.bool (isNeg Y), .slice Ay zy.length cy] ∧ Num 4294967296 zy Y.natAbs ∧ Res W v8.heap.size 36 Ay cy (u32s zy) ∧ v8.heap.size ≤ g16 ∧ Below v8.heap.size v8 W)
    case first =>
      go_region_held3 (fun W => W.cell? ⟨gg, 0, none⟩ = some (.bool (isNeg G)) ∧ W.cell? ⟨gg, 1, none⟩ = some (.slice Ag zg.length cg) ∧ W.cell? ⟨gx, 0, none⟩ = some (.bool (isNeg X)) ∧ W.cell? ⟨gx, 1, none⟩ = some (.slice Ax zx.length cx) ∧ W.cell? ⟨w.heap.size, 0, none⟩ = some (.bool g) ∧ W.cell? ⟨w.heap.size, 1, none⟩ = some (.slice A xs.length c) ∧ W.cell? ⟨w.heap.size + 1, 0, none⟩ = some (.bool g2) ∧ W.cell? ⟨w.heap.size + 1, 1, none⟩ = some (.slice A2 ys.length c2)) (go_keep) (first
        | (go_at_call 28; (with_reducible refine (ML.out _ (by repeat (first | exact Below.refl _ _ | exact jm | exact jb | exact jy | apply bdw | (refine bdn ?_ _) | (refine bal ?_ (Nat.le_refl _) _)))).mono ?_); rintro e wm ⟨zm, Am, cm, rfl, hzm, hrm, hbm⟩; have jm : Below v8.heap.size v8 wm := bst (by repeat (first | exact Below.refl _ _ | exact jm | exact jb | exact jy | apply bdw | (refine bdn ?_ _) | (refine bal ?_ (Nat.le_refl _) _))) hbm (Nat.le_refl _); obtain ⟨x0m, y0m, u0m, v0m⟩ := (BG.out.below jm BG.out.lt).two; obtain ⟨xx0m, yy0m, uu0m, vv0m⟩ := two_al (BG.out.below jm BG.out.lt); obtain ⟨x1m, y1m, u1m, v1m⟩ := (Bx.out.below jm Bx.out.lt).two; obtain ⟨xx1m, yy1m, uu1m, vv1m⟩ := two_al (Bx.out.below jm Bx.out.lt); obtain ⟨x2m, y2m, u2m, v2m⟩ := (BA.out.below jm BA.out.lt).two; obtain ⟨xx2m, yy2m, uu2m, vv2m⟩ := two_al (BA.out.below jm BA.out.lt); obtain ⟨x3m, y3m, u3m, v3m⟩ := (BB.out.below jm BB.out.lt).two; obtain ⟨xx3m, yy3m, uu3m, vv3m⟩ := two_al (BB.out.below jm BB.out.lt); have m0m : gg < wm.heap.size := Nat.lt_of_lt_of_le low0 jm.size; have ma0m := Nat.ne_of_lt m0m; have mb0m := Nat.ne_of_gt m0m; have mc0m := Nat.ne_of_lt (Nat.lt_succ_of_lt m0m); have md0m := Nat.ne_of_gt (Nat.lt_succ_of_lt m0m); have m1m : gx < wm.heap.size := Nat.lt_of_lt_of_le low1 jm.size; have ma1m := Nat.ne_of_lt m1m; have mb1m := Nat.ne_of_gt m1m; have mc1m := Nat.ne_of_lt (Nat.lt_succ_of_lt m1m); have md1m := Nat.ne_of_gt (Nat.lt_succ_of_lt m1m); have m2m : w.heap.size < wm.heap.size := Nat.lt_of_lt_of_le low2 jm.size; have ma2m := Nat.ne_of_lt m2m; have mb2m := Nat.ne_of_gt m2m; have mc2m := Nat.ne_of_lt (Nat.lt_succ_of_lt m2m); have md2m := Nat.ne_of_gt (Nat.lt_succ_of_lt m2m); have m3m : w.heap.size + 1 < wm.heap.size := Nat.lt_of_lt_of_le low3 jm.size; have ma3m := Nat.ne_of_lt m3m; have mb3m := Nat.ne_of_gt m3m; have mc3m := Nat.ne_of_lt (Nat.lt_succ_of_lt m3m); have md3m := Nat.ne_of_gt (Nat.lt_succ_of_lt m3m); (first | (have bnm0 := ((blk_one v8 (.bool false) (.slice none 0 0))).below hbm (by simp)) | (have bnm0 := ((blk_one v8 (.bool false) (.slice none 0 0)).drew).below hbm (by simp)) | (have bnm0 := ((blk_one v8 (.bool false) (.slice none 0 0)).drewN _).below hbm (by simp)) | skip); (try (have q9 := bnm0.two; obtain ⟨a0bnm0, a1bnm0, a2bnm0, a3bnm0⟩ := q9)); (try (have q9 := two_al bnm0; obtain ⟨c0bnm0, c1bnm0, c2bnm0, c3bnm0⟩ := q9)); (try have d0bnm0 := Nat.ne_of_lt bnm0.lt); (try have d1bnm0 := Nat.ne_of_gt bnm0.lt); (try have d2bnm0 := Nat.ne_of_lt (Nat.lt_succ_of_lt bnm0.lt)); (try have d3bnm0 := Nat.ne_of_gt (Nat.lt_succ_of_lt bnm0.lt)); (try (have q9 := two_al2 bnm0; obtain ⟨e0bnm0, e1bnm0, e2bnm0, e3bnm0⟩ := q9)))
        | (go_at_call 26; (with_reducible refine (SB.out zm Am cm _ wm _ (by repeat (first | exact Below.refl _ _ | exact jm | exact jb | exact jy | apply bdw | (refine bdn ?_ _) | (refine bal ?_ (Nat.le_refl _) _))) hzm hrm (by repeat (first | exact Below.refl _ _ | apply bdw | (refine bdn ?_ _) | (refine bal ?_ (Nat.le_refl _) _)))).mono ?_); rintro e wb ⟨zb, Ab, cb, rfl, hzb, hrb, hbb⟩; have jb : Below v8.heap.size v8 wb := bst (by repeat (first | exact Below.refl _ _ | exact jm | exact jb | exact jy | apply bdw | (refine bdn ?_ _) | (refine bal ?_ (Nat.le_refl _) _))) hbb (Nat.le_refl _); obtain ⟨x0b, y0b, u0b, v0b⟩ := (BG.out.below jb BG.out.lt).two; obtain ⟨xx0b, yy0b, uu0b, vv0b⟩ := two_al (BG.out.below jb BG.out.lt); obtain ⟨x1b, y1b, u1b, v1b⟩ := (Bx.out.below jb Bx.out.lt).two; obtain ⟨xx1b, yy1b, uu1b, vv1b⟩ := two_al (Bx.out.below jb Bx.out.lt); obtain ⟨x2b, y2b, u2b, v2b⟩ := (BA.out.below jb BA.out.lt).two; obtain ⟨xx2b, yy2b, uu2b, vv2b⟩ := two_al (BA.out.below jb BA.out.lt); obtain ⟨x3b, y3b, u3b, v3b⟩ := (BB.out.below jb BB.out.lt).two; obtain ⟨xx3b, yy3b, uu3b, vv3b⟩ := two_al (BB.out.below jb BB.out.lt); have m0b : gg < wb.heap.size := Nat.lt_of_lt_of_le low0 jb.size; have ma0b := Nat.ne_of_lt m0b; have mb0b := Nat.ne_of_gt m0b; have mc0b := Nat.ne_of_lt (Nat.lt_succ_of_lt m0b); have md0b := Nat.ne_of_gt (Nat.lt_succ_of_lt m0b); have m1b : gx < wb.heap.size := Nat.lt_of_lt_of_le low1 jb.size; have ma1b := Nat.ne_of_lt m1b; have mb1b := Nat.ne_of_gt m1b; have mc1b := Nat.ne_of_lt (Nat.lt_succ_of_lt m1b); have md1b := Nat.ne_of_gt (Nat.lt_succ_of_lt m1b); have m2b : w.heap.size < wb.heap.size := Nat.lt_of_lt_of_le low2 jb.size; have ma2b := Nat.ne_of_lt m2b; have mb2b := Nat.ne_of_gt m2b; have mc2b := Nat.ne_of_lt (Nat.lt_succ_of_lt m2b); have md2b := Nat.ne_of_gt (Nat.lt_succ_of_lt m2b); have m3b : w.heap.size + 1 < wb.heap.size := Nat.lt_of_lt_of_le low3 jb.size; have ma3b := Nat.ne_of_lt m3b; have mb3b := Nat.ne_of_gt m3b; have mc3b := Nat.ne_of_lt (Nat.lt_succ_of_lt m3b); have md3b := Nat.ne_of_gt (Nat.lt_succ_of_lt m3b); (first | (have bnb0 := ((blk_one wm (.bool false) (.slice none 0 0))).below hbb (by simp)) | (have bnb0 := ((blk_one wm (.bool false) (.slice none 0 0)).drew).below hbb (by simp)) | (have bnb0 := ((blk_one wm (.bool false) (.slice none 0 0)).drewN _).below hbb (by simp)) | skip); (try have bnm0b := bnm0.below (bel_pre hbb (by repeat (first | exact Below.refl _ _ | exact hbm | exact hbb | exact hby | apply bdw | (refine bdn ?_ _) | (refine bal ?_ (Nat.le_refl _) _)))) bnm0.lt); (try (have q9 := bnm0b.two; obtain ⟨a0bnm0b, a1bnm0b, a2bnm0b, a3bnm0b⟩ := q9)); (try (have q9 := two_al bnm0b; obtain ⟨c0bnm0b, c1bnm0b, c2bnm0b, c3bnm0b⟩ := q9)); (try have d0bnm0b := Nat.ne_of_lt bnm0b.lt); (try have d1bnm0b := Nat.ne_of_gt bnm0b.lt); (try have d2bnm0b := Nat.ne_of_lt (Nat.lt_succ_of_lt bnm0b.lt)); (try have d3bnm0b := Nat.ne_of_gt (Nat.lt_succ_of_lt bnm0b.lt)); (try (have q9 := two_al2 bnm0b; obtain ⟨e0bnm0b, e1bnm0b, e2bnm0b, e3bnm0b⟩ := q9)); (try (have q9 := bnb0.two; obtain ⟨a0bnb0, a1bnb0, a2bnb0, a3bnb0⟩ := q9)); (try (have q9 := two_al bnb0; obtain ⟨c0bnb0, c1bnb0, c2bnb0, c3bnb0⟩ := q9)); (try have d0bnb0 := Nat.ne_of_lt bnb0.lt); (try have d1bnb0 := Nat.ne_of_gt bnb0.lt); (try have d2bnb0 := Nat.ne_of_lt (Nat.lt_succ_of_lt bnb0.lt)); (try have d3bnb0 := Nat.ne_of_gt (Nat.lt_succ_of_lt bnb0.lt)); (try (have q9 := two_al2 bnb0; obtain ⟨e0bnb0, e1bnb0, e2bnb0, e3bnb0⟩ := q9)))
        | (go_at_call 37; (with_reducible refine (EX.out zb Ab cb _ wb _ (by repeat (first | exact Below.refl _ _ | exact jm | exact jb | exact jy | apply bdw | (refine bdn ?_ _) | (refine bal ?_ (Nat.le_refl _) _))) hzb hrb (by repeat (first | exact Below.refl _ _ | apply bdw | (refine bdn ?_ _) | (refine bal ?_ (Nat.le_refl _) _)))).mono ?_); rintro e wy ⟨zy, Ay, cy, rfl, hzy, hry, hby⟩; have jy : Below v8.heap.size v8 wy := bst (by repeat (first | exact Below.refl _ _ | exact jm | exact jb | exact jy | apply bdw | (refine bdn ?_ _) | (refine bal ?_ (Nat.le_refl _) _))) hby (Nat.le_refl _); obtain ⟨x0y, y0y, u0y, v0y⟩ := (BG.out.below jy BG.out.lt).two; obtain ⟨xx0y, yy0y, uu0y, vv0y⟩ := two_al (BG.out.below jy BG.out.lt); obtain ⟨x1y, y1y, u1y, v1y⟩ := (Bx.out.below jy Bx.out.lt).two; obtain ⟨xx1y, yy1y, uu1y, vv1y⟩ := two_al (Bx.out.below jy Bx.out.lt); obtain ⟨x2y, y2y, u2y, v2y⟩ := (BA.out.below jy BA.out.lt).two; obtain ⟨xx2y, yy2y, uu2y, vv2y⟩ := two_al (BA.out.below jy BA.out.lt); obtain ⟨x3y, y3y, u3y, v3y⟩ := (BB.out.below jy BB.out.lt).two; obtain ⟨xx3y, yy3y, uu3y, vv3y⟩ := two_al (BB.out.below jy BB.out.lt); have m0y : gg < wy.heap.size := Nat.lt_of_lt_of_le low0 jy.size; have ma0y := Nat.ne_of_lt m0y; have mb0y := Nat.ne_of_gt m0y; have mc0y := Nat.ne_of_lt (Nat.lt_succ_of_lt m0y); have md0y := Nat.ne_of_gt (Nat.lt_succ_of_lt m0y); have m1y : gx < wy.heap.size := Nat.lt_of_lt_of_le low1 jy.size; have ma1y := Nat.ne_of_lt m1y; have mb1y := Nat.ne_of_gt m1y; have mc1y := Nat.ne_of_lt (Nat.lt_succ_of_lt m1y); have md1y := Nat.ne_of_gt (Nat.lt_succ_of_lt m1y); have m2y : w.heap.size < wy.heap.size := Nat.lt_of_lt_of_le low2 jy.size; have ma2y := Nat.ne_of_lt m2y; have mb2y := Nat.ne_of_gt m2y; have mc2y := Nat.ne_of_lt (Nat.lt_succ_of_lt m2y); have md2y := Nat.ne_of_gt (Nat.lt_succ_of_lt m2y); have m3y : w.heap.size + 1 < wy.heap.size := Nat.lt_of_lt_of_le low3 jy.size; have ma3y := Nat.ne_of_lt m3y; have mb3y := Nat.ne_of_gt m3y; have mc3y := Nat.ne_of_lt (Nat.lt_succ_of_lt m3y); have md3y := Nat.ne_of_gt (Nat.lt_succ_of_lt m3y); (first | (have bny0 := ((blk_one wb (.bool false) (.slice none 0 0))).below hby (by simp)) | (have bny0 := ((blk_one wb (.bool false) (.slice none 0 0)).drew).below hby (by simp)) | (have bny0 := ((blk_one wb (.bool false) (.slice none 0 0)).drewN _).below hby (by simp)) | skip); (try have bnm0by := bnm0b.below (bel_pre hby (by repeat (first | exact Below.refl _ _ | exact hbm | exact hbb | exact hby | apply bdw | (refine bdn ?_ _) | (refine bal ?_ (Nat.le_refl _) _)))) bnm0b.lt); (try have bnb0y := bnb0.below (bel_pre hby (by repeat (first | exact Below.refl _ _ | exact hbm | exact hbb | exact hby | apply bdw | (refine bdn ?_ _) | (refine bal ?_ (Nat.le_refl _) _)))) bnb0.lt); (try (have q9 := bnm0by.two; obtain ⟨a0bnm0by, a1bnm0by, a2bnm0by, a3bnm0by⟩ := q9)); (try (have q9 := two_al bnm0by; obtain ⟨c0bnm0by, c1bnm0by, c2bnm0by, c3bnm0by⟩ := q9)); (try have d0bnm0by := Nat.ne_of_lt bnm0by.lt); (try have d1bnm0by := Nat.ne_of_gt bnm0by.lt); (try have d2bnm0by := Nat.ne_of_lt (Nat.lt_succ_of_lt bnm0by.lt)); (try have d3bnm0by := Nat.ne_of_gt (Nat.lt_succ_of_lt bnm0by.lt)); (try (have q9 := two_al2 bnm0by; obtain ⟨e0bnm0by, e1bnm0by, e2bnm0by, e3bnm0by⟩ := q9)); (try (have q9 := bnb0y.two; obtain ⟨a0bnb0y, a1bnb0y, a2bnb0y, a3bnb0y⟩ := q9)); (try (have q9 := two_al bnb0y; obtain ⟨c0bnb0y, c1bnb0y, c2bnb0y, c3bnb0y⟩ := q9)); (try have d0bnb0y := Nat.ne_of_lt bnb0y.lt); (try have d1bnb0y := Nat.ne_of_gt bnb0y.lt); (try have d2bnb0y := Nat.ne_of_lt (Nat.lt_succ_of_lt bnb0y.lt)); (try have d3bnb0y := Nat.ne_of_gt (Nat.lt_succ_of_lt bnb0y.lt)); (try (have q9 := two_al2 bnb0y; obtain ⟨e0bnb0y, e1bnb0y, e2bnb0y, e3bnb0y⟩ := q9)); (try (have q9 := bny0.two; obtain ⟨a0bny0, a1bny0, a2bny0, a3bny0⟩ := q9)); (try (have q9 := two_al bny0; obtain ⟨c0bny0, c1bny0, c2bny0, c3bny0⟩ := q9)); (try have d0bny0 := Nat.ne_of_lt bny0.lt); (try have d1bny0 := Nat.ne_of_gt bny0.lt); (try have d2bny0 := Nat.ne_of_lt (Nat.lt_succ_of_lt bny0.lt)); (try have d3bny0 := Nat.ne_of_gt (Nat.lt_succ_of_lt bny0.lt)); (try (have q9 := two_al2 bny0; obtain ⟨e0bny0, e1bny0, e2bny0, e3bny0⟩ := q9))))
      all_goals
        go_wp2_with fail
        go_meet
        have jmb : Below wm.heap.size wm wb := bel_pre hbb (by repeat (first | exact Below.refl _ _ | apply bdw | (refine bdn ?_ _) | (refine bal ?_ (Nat.le_refl _) _)))
        have jby : Below wb.heap.size wb wy := bel_pre hby (by repeat (first | exact Below.refl _ _ | apply bdw | (refine bdn ?_ _) | (refine bal ?_ (Nat.le_refl _) _)))
        have ry9 : Res wy v8.heap.size 36 Ay cy (u32s zy) := hry.mono (Nat.le_trans jb.size (by simp <;> omega))
        have l1 := jm.size
        have l2 := jb.size
        have l3 := jy.size
        have l4 := hbm.size
        have l5 := hbb.size
        have l6 := hby.size
        refine ⟨_, Ay, cy, zy, rfl, ?_, hzy, ?_, ?_, (by repeat (first | exact Below.refl _ _ | exact jy | apply bdw | (refine bdn ?_ _) | (refine bal ?_ (Nat.le_refl _) _) | (refine bsc ?_ (by first | exact Nat.le_refl _ | exact Nat.le_succ _ | exact l1 | exact Nat.le_succ_of_le l1 | exact l2 | exact Nat.le_succ_of_le l2 | exact l3 | exact Nat.le_succ_of_le l3) _)))⟩
        all_goals first
          | (simp at l1 l2 l3 l4 l5 l6 ⊢; done)
          | (simp at l1 l2 l3 l4 l5 l6 ⊢; omega)
          | ((repeat' (first | with_reducible exact ry9 | with_reducible exact bnm0y | with_reducible exact bnm0by | with_reducible exact bnm0b | with_reducible exact bnb0y | with_reducible exact bnb0 | with_reducible exact bny0 | (with_reducible apply Rs.al) | (with_reducible apply res_al9) | (with_reducible apply Rs.var2) | (with_reducible apply res_var2) | (with_reducible apply blk_pair) | (with_reducible refine Blk.far ?_ (by show _ ≠ _; first | assumption | simp) _) | (with_reducible exact Blk.new_ rfl) | (with_reducible exact blk_two rfl) | (with_reducible refine Blk.heapAlloc ?_ _))); done)
    case rest =>
      obtain ⟨g16, Ay, cy, zy, rfl, b16, ny, ry, l16, j9⟩ := hcut
      obtain ⟨v9, rfl⟩ : ∃ v9 : World, v9 = wc := ⟨_, rfl⟩
      have f9 := FF8.out.next j9
      have b7 := BG.out.below j9 BG.out.lt
      have b9 := Bx.out.below j9 Bx.out.lt
      have r7 := RG.out.below j9 (Nat.le_refl _)
      have rx := Rx.out.below j9 (Nat.le_refl _)
      have s8 := FF8.out.2.2.2.2.2.size
      clear ML SB EX p0 p1 p2 p3 p4 p5 p6 p7 n1 n2 n3 n4 n5 n6 n7 n8 BA BB
      have BC := Lib.hid f9.2.2.1
      have BD := Lib.hid f9.2.2.2.1
      have BE := Lib.hid f9.2.2.2.2.1
      have KK := Lib.hid f9.2.2.2.2.2
      have R9 := Lib.hid r7
      have RX9 := Lib.hid rx
      have RY9 := Lib.hid (ry.mono s8)
      have NY := Lib.hid ny
      obtain ⟨p0, p1, _, _⟩ := b7.two
      obtain ⟨p2, p3, _, _⟩ := b9.two
      obtain ⟨p4, p5, _, _⟩ := b16.two
      obtain ⟨t0, t1, t2, t3⟩ := BC.out.two
      obtain ⟨u0, u1, u2, u3⟩ := BD.out.two
      obtain ⟨x0, x1, x2', x3⟩ := BE.out.two
      clear f9 b7 b9 b16 r7 rx ry ny j9 FF8 BG Bx RG Rx s8
      have m1 : w.heap.size + 1 + 1 ≠ w.heap.size + 1 + 1 + 1 := by omega
      have m2 : w.heap.size + 1 + 1 ≠ w.heap.size + 1 + 1 + 1 + 1 := by omega
      have m3 : w.heap.size + 1 + 1 + 1 ≠ w.heap.size + 1 + 1 + 1 + 1 := by omega
      have m4 := Ne.symm m1
      have m5 := Ne.symm m2
      have m6 := Ne.symm m3
      have h90 : w.heap.size + 1 + 1 ≠ gg := by omega
      have h91 : w.heap.size + 1 + 1 + 1 ≠ gg := by omega
      have h92 : w.heap.size + 1 + 1 + 1 + 1 ≠ gg := by omega
      have h93 : w.heap.size + 1 + 1 ≠ gx := by omega
      have h94 : w.heap.size + 1 + 1 + 1 ≠ gx := by omega
      have h95 : w.heap.size + 1 + 1 + 1 + 1 ≠ gx := by omega
      have h96 : w.heap.size + 1 + 1 ≠ g16 := by omega
      have h97 : w.heap.size + 1 + 1 + 1 ≠ g16 := by omega
      have h98 : w.heap.size + 1 + 1 + 1 + 1 ≠ g16 := by omega
      go_upto_region 10 with (fail)
      go_region_held3 (fun W => W.cell? ⟨gg, 0, none⟩ = some (.bool (isNeg G)) ∧ W.cell? ⟨gg, 1, none⟩ = some (.slice Ag zg.length cg) ∧ W.cell? ⟨gx, 0, none⟩ = some (.bool (isNeg X)) ∧ W.cell? ⟨gx, 1, none⟩ = some (.slice Ax zx.length cx) ∧ W.cell? ⟨g16, 0, none⟩ = some (.bool (isNeg Y)) ∧ W.cell? ⟨g16, 1, none⟩ = some (.slice Ay zy.length cy)) (go_keep) (fail)
      all_goals
        go_wp2_with fail
        have F := vr_three BC.out BD.out BE.out m1 m2 m3 NG.out R9.out (num32_len NG.out (Nat.le_refl _) LG.out) Nx.out RX9.out (num32_len Nx.out (Nat.le_refl _) LX.out) NY.out RY9.out (num32_len NY.out (Nat.le_refl _) LY.out) rfl
        exact zzz_ret (fun e w' h => ⟨G, X, Y, E9.out, h⟩) (bdw (bsc6 KK.out (by omega) (by omega) (by omega))) (F.1.next (bdw (Below.refl _ _))) (F.2.1.next (bdw (Below.refl _ _))) (F.2.2.next (bdw (Below.refl _ _))) rfl rfl rfl rfl rfl
end
end Go.Proofs.YtanlejlmckdeiaaGreat
