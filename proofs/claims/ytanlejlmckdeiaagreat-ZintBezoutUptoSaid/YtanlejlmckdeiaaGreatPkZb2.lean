/- The contract of the reference's inverse: Euclid's steps with one coefficient. Conditions: at most 2^23 limbs; a divisor above 0. -/
import Derived.Test.YtanlejlmckdeiaaGreatPkZd31
import Derived.Test.YtanlejlmckdeiaaGreatPkZb0
import Derived.Test.YtanlejlmckdeiaaGreatPkZd30
namespace Go.Proofs.YtanlejlmckdeiaaGreat
open Go.RowKit

/-- The four variables of Euclid's steps. -/
def LpS (B : Nat) (W : World) (s t x y : Nat) (r r2 a b : Int) (K : Nat) : Prop := Vr B W s r K ∧ Vr B W t r2 K ∧ Vr B W x a K ∧ Vr B W y b K
theorem Vr.num {B g K : Nat} {W : World} {z : Int} (v : Vr B W g z K) : z.natAbs < 4294967296 ^ K := by
  obtain ⟨A, c, zs, _, n, r, l⟩ := v
  exact (zn_of n r l).lt
theorem Vr.mono {B B2 g K : Nat} {W : World} {z : Int} (v : Vr B W g z K) (h : B2 ≤ B) : Vr B2 W g z K := by
  obtain ⟨A, c, zs, b, n, r, l⟩ := v
  exact ⟨A, c, zs, b, n, r.mono h, l⟩
/-- A function that answers an integer in a cell of its own, at any demand. -/
theorem zretR {RR : Ending → World → Prop} {fn : Func} {a : Act} {w W : World} {p : Tmp} {r : Nat} {b : Bool} {x y : Value} {z : Int} {zs : List Nat} {A : Option Addr} {c : Nat} (hR : ∀ e w', ZOut w w' z e → RR e w') (hbel : Below w.heap.size w W) (hB : Blk W r 25 [x, y]) (hr : w.heap.size ≤ r)
    (hz : Num 4294967296 zs z.natAbs) (hres : Res W w.heap.size 36 A c (u32s zs)) (hb : b = isNeg z) (hres0 : fn.results = #[.cell p 25]) (hp : a.tmps.getD p undef = .pointer (some ⟨r, 0, none⟩)) (hd : a.defers = []) :
    bodyPost Tryz.prog fn RR .ret a ((W.setCell ⟨r, 0, none⟩ (.bool b)).setCell ⟨r, 1, none⟩ (.slice A zs.length c)) := by
  subst hb
  exact bodyPost_ret (results_cell_row hres0 _ _ r 25 _ (0, 0) _ hp (blk_pair hB _ _) Tryz.underlying25 rfl (by kernel_rfl)) hd
    (hR _ _ ⟨zs, A, c, rfl, hz, res_var2 hres hB _ _, bsc (bsc hbel hr _) hr _⟩)
theorem rest_lt {r r2 : Int} {K : Nat} (_ : 0 ≤ r2) (h : r2 ≠ 0) (hl : r2.natAbs < 4294967296 ^ K) : (r % r2).natAbs < 4294967296 ^ K ∧ (r % r2).natAbs < r2.natAbs := by
  have e1 := emod_lt_abs' r h
  have e2 := Int.emod_nonneg r h
  omega
theorem quo_lt {r r2 : Int} {K : Nat} (hl : r.natAbs < 4294967296 ^ K) : (r / r2).natAbs < 4294967296 ^ K := Nat.lt_of_le_of_lt (Int.natAbs_ediv_le_natAbs r r2) hl
theorem inv_fin {R Q x : Int} (hQ : 0 < Q) (h : Q ∣ (Int.gcd R Q : Nat) - R * x) : 0 ≤ x % Q ∧ x % Q < Q ∧ Q ∣ (Int.gcd R Q : Nat) - R * (x % Q) := by
  refine ⟨Int.emod_nonneg _ (by omega), Int.emod_lt_of_pos _ hQ, ?_⟩
  have e : (Int.gcd R Q : Nat) - R * (x % Q) = ((Int.gcd R Q : Nat) - R * x) + Q * (R * (x / Q)) := by
    have e9 := Int.mul_ediv_add_emod x Q
    grind
  rw [e]
  exact Int.dvd_add h (Int.dvd_mul_right _ _)
section
variable {w : World} {A A2 : Option Addr} {c c2 N : Nat} {rs qs : List Nat} {R Q : Int}
set_option maxHeartbeats 12800000 in
theorem inverse_any (hr : Num 4294967296 rs R.natAbs) (rr : Res w 0 36 A c (u32s rs)) (hq : Num 4294967296 qs Q.natAbs) (rq : Res w 0 36 A2 c2 (u32s qs)) (hR : 0 ≤ R) (hQ : 0 < Q) (lr : R.natAbs < 4294967296 ^ N) (lq : Q.natAbs < 4294967296 ^ N) (hN : N ≤ 8388608) (hN1 : 1 ≤ N) :
    Calls Tryz.prog 63 #[.agg #[.bool (isNeg R), .slice A rs.length c], .agg #[.bool (isNeg Q), .slice A2 qs.length c2]] w fun e w' => ∃ X : Int, (0 ≤ X ∧ X < Q ∧ Q ∣ (Int.gcd R Q : Nat) - R * X) ∧ ZOut w w' X e := by
  obtain ⟨b0, b1, b2⟩ := blk_three w (.bool (isNeg R)) (.slice A rs.length c) (.bool (isNeg Q)) (.slice A2 qs.length c2) (.bool false) (.slice none 0 0)
  have k0 := bel_three w (.cells #[.bool (isNeg R), .slice A rs.length c] 25) (.cells #[.bool (isNeg Q), .slice A2 qs.length c2] 25) (.cells #[.bool false, .slice none 0 0] 25)
  have Hr := Lib.hid hr
  have Hq := Lib.hid hq
  have Rr := Lib.hid rr
  have Rq := Lib.hid rq
  have Lr := Lib.hid lr
  have Lq := Lib.hid lq
  have HR := Lib.hid hR
  have HQ := Lib.hid hQ
  clear hr hq rr rq lr lq hR hQ
  go_enter Tryz.func63, Tryz.ntmps63
  go_wp2_with fail
  obtain ⟨w0, hw0⟩ : ∃ w0, w0 = ((w.alloc (.cells #[.bool (isNeg R), .slice A rs.length c] 25)).alloc (.cells #[.bool (isNeg Q), .slice A2 qs.length c2] 25)).alloc (.cells #[.bool false, .slice none 0 0] 25) := ⟨_, rfl⟩
  rw [← hw0] at b0 b1 b2 k0 ⊢
  clear hw0
  have B0 := Lib.hid b0
  have B1 := Lib.hid b1
  have B2 := Lib.hid b2
  have K0 := Lib.hid k0
  have low0 : w.heap.size < w0.heap.size := b0.lt
  have low1 : w.heap.size + 1 < w0.heap.size := b1.lt
  obtain ⟨p0, p1, _, _⟩ := b0.two
  obtain ⟨q0, q1, _, _⟩ := b1.two
  have n1 : w.heap.size ≠ w0.heap.size := by omega
  have n2 : w.heap.size + 1 ≠ w0.heap.size := by omega
  have n3 : w.heap.size ≠ w0.heap.size + 1 := by omega
  have n4 : w0.heap.size ≠ w.heap.size := by omega
  have n5 : w0.heap.size ≠ w.heap.size + 1 := by omega
  have n6 : w0.heap.size + 1 ≠ w.heap.size := by omega
  clear b0 b1 b2 k0
  go_cut [5, 6] (fun v5 v6 W => ∃ g5 g6 : Nat, v5 = .pointer (some ⟨g5, 0, none⟩) ∧ v6 = .pointer (some ⟨g6, 0, none⟩) ∧ Blk W g5 25 [.bool (isNeg Q), .slice A2 qs.length c2] ∧ Blk W g6 25 [.bool (isNeg R), .slice A rs.length c] ∧ g5 ≠ g6 ∧ w0.heap.size ≤ g5 ∧ w0.heap.size ≤ g6 ∧ Below w0.heap.size w0 W)
  case first =>
    go_region_held3 (fun W => W.cell? ⟨w.heap.size, 0, none⟩ = some (.bool (isNeg R)) ∧ W.cell? ⟨w.heap.size, 1, none⟩ = some (.slice A rs.length c) ∧ W.cell? ⟨w.heap.size + 1, 0, none⟩ = some (.bool (isNeg Q)) ∧ W.cell? ⟨w.heap.size + 1, 1, none⟩ = some (.slice A2 qs.length c2)) (go_keep) (fail)
    all_goals
      go_wp2_with fail
      go_meet
      refine ⟨_, _, rfl, rfl, ?_, ?_, by simp, by simp, by simp, by repeat (first | exact Below.refl _ _ | apply bdw | (refine bdn ?_ _) | (refine bal ?_ (Nat.le_refl _) _))⟩
      all_goals
        first
        | exact (blk_pair2 _ _ _ _ _).1
        | exact (blk_pair2 _ _ _ _ _).2
        | done
  case rest =>
    obtain ⟨g5, g6, rfl, rfl, b5, b6, h56, l5, l6, j1⟩ := hcut
    obtain ⟨v1, rfl⟩ : ∃ v1 : World, v1 = wc := ⟨_, rfl⟩
    have k1 := bst K0.out j1 (Nat.le_refl _)
    have b3 := B1.out.below j1 B1.out.lt
    have b4 := B2.out.below j1 B2.out.lt
    have l2 : w.heap.size + 2 < g5 ∧ w.heap.size + 2 < g6 := by have := B2.out.lt; omega
    have VQ : Vr 0 v1 (w.heap.size + 1) Q N := ⟨A2, c2, qs, b3, Hq.out, Rq.out.below k1 (Nat.le_refl _), num32_len Hq.out (Nat.le_refl _) Lq.out⟩
    have VS : Vr 0 v1 g5 Q N := ⟨A2, c2, qs, b5, Hq.out, Rq.out.below k1 (Nat.le_refl _), num32_len Hq.out (Nat.le_refl _) Lq.out⟩
    have VT : Vr 0 v1 g6 R N := ⟨A, c, rs, b6, Hr.out, Rr.out.below k1 (Nat.le_refl _), num32_len Hr.out (Nat.le_refl _) Lr.out⟩
    have o5 := b5.lt
    have o6 := b6.lt
    clear B0 B1 B2 K0 p0 p1 q0 q1 n1 n2 n3 n4 n5 n6 low0 low1 b3 b5 b6 l5 l6 j1
    go_wp2_with fail
    refine (rzof_any 1 (by decide) (by decide) _).mono ?_
    rintro e w2 ⟨zo, Ao, co, rfl, hzo, hro, hbo⟩
    have jo := hbo.size
    go_wp2_with fail
    obtain ⟨v2, hv2⟩ : ∃ v, v = (w2.alloc (.cells #[.bool false, .slice none 0 0] 25)).alloc (.cells #[.bool (isNeg 1), .slice Ao zo.length co] 25) := ⟨_, rfl⟩
    rw [← hv2]
    obtain ⟨b7, b8⟩ : Blk v2 w2.heap.size 25 [.bool false, .slice none 0 0] ∧ Blk v2 (w2.heap.size + 1) 25 [.bool (isNeg 1), .slice Ao zo.length co] := by rw [hv2]; exact blk_pair2 _ _ _ _ _
    have i2 : Below w2.heap.size w2 v2 := by rw [hv2]; exact bel_two _ _ _
    obtain ⟨g7, hg7⟩ : ∃ g, g = w2.heap.size := ⟨_, rfl⟩
    rw [← hg7] at b7 b8 ⊢
    have o7 : g5 < g7 ∧ g6 < g7 := by omega
    have j2 := bst hbo i2 (Nat.le_refl _)
    have k2 := bst k1 j2 (Nat.le_refl _)
    have VX : Vr 0 v2 g7 0 N := ⟨none, 0, [], b7, Num.zero_ _, Res.none_, Nat.zero_le _⟩
    have VY : Vr 0 v2 (g7 + 1) 1 N := ⟨Ao, co, zo, b8, hzo, (hro.mono (Nat.zero_le _)).below i2 (Nat.le_refl _), Nat.le_trans (num32_len (N := 1) hzo (Nat.le_refl _) (by decide)) hN1⟩
    replace VQ := VQ.next j2
    replace VS := VS.next j2
    replace VT := VT.next j2
    replace b4 := b4.below j2 b4.lt
    clear hv2 b7 b8 i2 hg7 j2 k1 hbo hro hzo jo o5 o6
    have H56 := Lib.hid h56
    have L2 := Lib.hid l2
    have O7 := Lib.hid o7
    clear h56 l2 o7
    go_loopg [9, 10] R.natAbs (fun K _ _ wr => ∃ r r2 x x2 : Int, Vr 0 wr (w.heap.size + 1) Q N ∧ Blk wr (w.heap.size + 2) 25 [.bool false, .slice none 0 0] ∧ LpS 0 wr g5 g6 g7 (g7 + 1) r r2 x x2 N ∧ EuB R Q r r2 x x2 ∧ r2.natAbs ≤ K ∧ Below w.heap.size w wr)
    case atStart => exact ⟨Q, R, 0, 1, VQ, b4, ⟨VS, VT, VX, VY⟩, EuB.start2 HR.out HQ.out, Nat.le_refl _, k2⟩
    case round =>
      clear VQ VS VT VX VY b4 k2 Hr Hq Rr Rq Lr
      obtain ⟨r, r2, x, x2, VQ, b4, ⟨VS, VT, VX, VY⟩, eu, hK9, kb⟩ := hrel
      have h56 := H56.out
      have l2 := L2.out
      have o7 := O7.out
      have EU := Lib.hid eu
      have HK9 := Lib.hid hK9
      have HVQ := Lib.hid VQ
      have HVS := Lib.hid VS
      have HVT := Lib.hid VT
      have HVX := Lib.hid VX
      have HVY := Lib.hid VY
      have HB4 := Lib.hid b4
      have KB := Lib.hid kb
      obtain ⟨As, cs, zs, bs, ns, rs', ls⟩ := VS
      obtain ⟨At, ct, zt, bt, nt, rt, lt⟩ := VT
      obtain ⟨sg, hsg⟩ : ∃ s, s = r2.sign := ⟨_, rfl⟩
      have SG : Hid (∀ W (_ : Below wr.heap.size wr W), Calls Tryz.prog 16 #[.agg #[.bool (isNeg r2), .slice At zt.length ct]] W fun e w' => e = .returned (.int .i64 sg) ∧ Below W.heap.size W w') := fun W hW => by rw [hsg]; exact ((zn_of nt rt lt).zh.next hW).rsign (by omega)
      have ZS := Lib.hid (zn_of ns rs' ls)
      have ZT := Lib.hid (zn_of nt rt lt)
      have BS := Lib.hid bs
      have BT := Lib.hid bt
      obtain ⟨p0, p1, _, _⟩ := bt.two
      by_cases h0 : r2 = 0
      · have hs0 : sg = 0 := by rw [hsg, h0]; rfl
        clear hsg
        subst hs0 h0
        clear eu hK9 VQ VX VY b4 kb nt rt lt ns rs' ls bs bt HVS HVT BS ZS ZT
        obtain ⟨Ax, cx, zx, bx, nx, rx, lx⟩ := HVX.out
        obtain ⟨Aq, cq, zq, bq, nq, rq, lq⟩ := HVQ.out
        have EC : Hid (∀ W (_ : Below wr.heap.size wr W), Calls Tryz.prog 35 #[.agg #[.bool (isNeg x), .slice Ax zx.length cx], .agg #[.bool (isNeg Q), .slice Aq zq.length cq]] W fun e w' => ZZ W w' (x / Q) (x % Q) e) := fun W hW => ((zn_of nx rx lx).zh.next hW).reuclid ((zn_of nq rq lq).zh.next hW) (by have := HQ.out; omega) (by omega) (by omega)
        have BX := Lib.hid bx
        have BQ := Lib.hid bq
        clear nx rx lx nq rq lq bx bq HVX HVQ HVY
        go_wp2_with fail
        refine (SG.out _ (Below.refl _ _)).mono ?_
        rintro e w3 ⟨rfl, hb3⟩
        clear SG p0 p1
        obtain ⟨p0, p1, _, _⟩ := (BX.out.below hb3 BX.out.lt).two
        obtain ⟨q0, q1, _, _⟩ := (BQ.out.below hb3 BQ.out.lt).two
        go_wp2_with fail
        refine (EC.out _ hb3).mono ?_
        rintro e w4 ⟨qs9, rs9, A8, c8, A9, c9, rfl, hq9, hr9, rq9, rr9, hb4⟩
        clear EC p0 p1 q0 q1
        have j4 := bst hb3 hb4 (Nat.le_refl _)
        have bx := BX.out.below j4 BX.out.lt
        have b4 := HB4.out.below j4 HB4.out.lt
        obtain ⟨p0, p1, p2, p3⟩ := bx.two
        obtain ⟨q0, q1, q2, q3⟩ := b4.two
        have kw := KB.out.size
        have kw3 := hb3.size
        have n1 : g7 ≠ w.heap.size + 2 := by omega
        have n2 : w.heap.size + 2 ≠ g7 := by omega
        go_wp2_with fail
        have hfin := inv_fin HQ.out EU.out.done.2
        exact zretR (z := x % Q) (fun e w' h => ⟨_, hfin, h⟩) (bsc (bsc (bst KB.out j4 (Nat.le_refl _)) (by omega) _) (by omega) _) (far2 b4 n2) (by omega) hr9 (res_var2 (rr9.mono (by omega)) bx _ _) rfl rfl rfl rfl
      · have hs1 : sg = 1 := by rw [hsg]; exact Int.sign_eq_one_of_pos (by have := eu.s0; omega)
        clear hsg
        subst hs1
        obtain ⟨rl1, rl2⟩ := rest_lt (r := r) eu.s0 h0 ZT.out.lt
        have RL1 := Lib.hid rl1
        have RL2 := Lib.hid rl2
        have QL := Lib.hid (quo_lt (r2 := r2) ZS.out.lt)
        have EN := Lib.hid (eu.next h0)
        have HT := Lib.hid nt
        have HRT := Lib.hid rt
        have HLT := Lib.hid lt
        have EC : Hid (∀ W (_ : Below wr.heap.size wr W), Calls Tryz.prog 35 #[.agg #[.bool (isNeg r), .slice As zs.length cs], .agg #[.bool (isNeg r2), .slice At zt.length ct]] W fun e w' => ZZ W w' (r / r2) (r % r2) e) := fun W hW => (ZS.out.zh.next hW).reuclid (ZT.out.zh.next hW) h0 (by omega) (by omega)
        have kw := kb.size
        clear eu hK9 VQ VX VY b4 kb nt rt lt ns rs' ls bs bt HVS HVT ZS ZT EU rl1 rl2
        have H0 := Lib.hid h0
        clear h0
        go_wp2_with fail
        refine (SG.out _ (Below.refl _ _)).mono ?_
        rintro e w3 ⟨rfl, hb3⟩
        clear SG p0 p1
        obtain ⟨p0, p1, _, _⟩ := (BT.out.below hb3 BT.out.lt).two
        obtain ⟨q0, q1, _, _⟩ := (BS.out.below hb3 BS.out.lt).two
        go_wp2_with fail
        refine (EC.out _ hb3).mono ?_
        rintro e w4 ⟨zk, zw, Ak, ck, Aw, cw, rfl, nk, nw, rk, rw9, hb4⟩
        clear EC p0 p1 q0 q1
        go_upto_region 5 with (fail)
        obtain ⟨v4, hv4⟩ : ∃ v, v = (w4.alloc (.cells #[.bool (isNeg (r / r2)), .slice Ak zk.length ck] 25)).alloc (.cells #[.bool (isNeg (r % r2)), .slice Aw zw.length cw] 25) := ⟨_, rfl⟩
        rw [← hv4]
        obtain ⟨b9, b10⟩ : Blk v4 w4.heap.size 25 [.bool (isNeg (r / r2)), .slice Ak zk.length ck] ∧ Blk v4 (w4.heap.size + 1) 25 [.bool (isNeg (r % r2)), .slice Aw zw.length cw] := by rw [hv4]; exact blk_pair2 _ _ _ _ _
        have i4 : Below w4.heap.size w4 v4 := by rw [hv4]; exact bel_two _ _ _
        have g7lt := HVY.out.lt
        obtain ⟨g9, hg9⟩ : ∃ g, g = w4.heap.size := ⟨_, rfl⟩
        rw [← hg9] at b9 b10 ⊢
        have o9 : g7 + 1 < g9 := by have := hb3.size; have := hb4.size; omega
        have j4 := bst (bst hb3 hb4 (Nat.le_refl _)) i4 (Nat.le_refl _)
        have k4 := bst KB.out j4 (Nat.le_refl _)
        have VK : Vr 0 v4 g9 (r / r2) N := ⟨Ak, ck, zk, b9, nk, (rk.mono (Nat.zero_le _)).below i4 (Nat.le_refl _), num32_len nk (Nat.le_refl _) QL.out⟩
        have bs := BS.out.below j4 BS.out.lt
        have bt := BT.out.below j4 BT.out.lt
        have F := vr_two (B := 0) bs bt h56 HT.out (HRT.out.below j4 (Nat.le_refl _)) HLT.out nw ((rw9.mono (Nat.zero_le _)).below i4 (Nat.le_refl _)) (num32_len nw (Nat.le_refl _) RL1.out)
        have F1 := (HVQ.out.next j4).other4 (u1 := .bool (isNeg r2)) (u2 := .slice At zt.length ct) (u3 := .bool (isNeg (r % r2))) (u4 := .slice Aw zw.length cw) bs bt (Ne.symm h56) (by omega) (by omega)
        have F2 := (HVX.out.next j4).other4 (u1 := .bool (isNeg r2)) (u2 := .slice At zt.length ct) (u3 := .bool (isNeg (r % r2))) (u4 := .slice Aw zw.length cw) bs bt (Ne.symm h56) (by omega) (by omega)
        have F3 := (HVY.out.next j4).other4 (u1 := .bool (isNeg r2)) (u2 := .slice At zt.length ct) (u3 := .bool (isNeg (r % r2))) (u4 := .slice Aw zw.length cw) bs bt (Ne.symm h56) (by omega) (by omega)
        have F4 := VK.other4 (u1 := .bool (isNeg r2)) (u2 := .slice At zt.length ct) (u3 := .bool (isNeg (r % r2))) (u4 := .slice Aw zw.length cw) bs bt (Ne.symm h56) (by omega) (by omega)
        have F5 := far4 (u1 := .bool (isNeg r2)) (u2 := .slice At zt.length ct) (u3 := .bool (isNeg (r % r2))) (u4 := .slice Aw zw.length cw) (g := g5) (h := g6) (HB4.out.below j4 HB4.out.lt) (by omega) (by omega)
        have F6 := bsc4 (g := g5) (h := g6) (u1 := .bool (isNeg r2)) (u2 := .slice At zt.length ct) (u3 := .bool (isNeg (r % r2))) (u4 := .slice Aw zw.length cw) k4 (by omega) (by omega)
        obtain ⟨p0, p1, p2, p3⟩ := bt.two
        obtain ⟨q0, q1, q2, q3⟩ := bs.two
        obtain ⟨t0, t1, t2, t3⟩ := b10.two
        have n1 : g5 ≠ g6 := h56
        have n2 : g6 ≠ g5 := Ne.symm h56
        have n3 : g9 + 1 ≠ g5 := by omega
        have n4 : g9 + 1 ≠ g6 := by omega
        have n5 : g5 ≠ g9 + 1 := by omega
        have n6 : g6 ≠ g9 + 1 := by omega
        have FF := Lib.hid (And.intro F (And.intro F1 (And.intro F2 (And.intro F3 (And.intro F4 (And.intro F5 F6))))))
        clear F F1 F2 F3 F4 F5 F6 hv4 b9 b10 i4 hg9 j4 k4 VK bs bt nk nw rk rw9 hb3 hb4 HVQ HVX HVY HB4 KB BS BT HT HRT HLT
        go_cut [9, 10] (fun v9 v10 W => v9 = .pointer (some ⟨g9, 0, none⟩) ∧ v10 = .pointer (some ⟨g9 + 1, 0, none⟩) ∧ Vr 0 W (w.heap.size + 1) Q N ∧ Blk W (w.heap.size + 2) 25 [.bool false, .slice none 0 0] ∧ LpS 0 W g5 g6 g7 (g7 + 1) r2 (r % r2) x x2 N ∧ Vr 0 W g9 (r / r2) N ∧ Below w.heap.size w W)
        case first =>
          go_region_with (fail)
          all_goals
            go_wp2_with fail
            go_meet
            have F := FF.out
            exact ⟨rfl, rfl, F.2.1, F.2.2.2.2.2.1, ⟨F.1.1, F.1.2, F.2.2.1, F.2.2.2.1⟩, F.2.2.2.2.1, by first | exact F.2.2.2.2.2.2 | exact bdw F.2.2.2.2.2.2 | exact bdn F.2.2.2.2.2.2 _⟩
        case rest =>
          obtain ⟨rfl, rfl, VQ, b4, ⟨VS, VT, VX, VY⟩, VK, k5⟩ := hcut
          obtain ⟨v6, rfl⟩ : ∃ v6 : World, v6 = wc := ⟨_, rfl⟩
          have HVQ := Lib.hid VQ
          have HVS := Lib.hid VS
          have HVT := Lib.hid VT
          have HB4 := Lib.hid b4
          have K6 := Lib.hid k5
          obtain ⟨Ax, cx, zx, bx, nx, rx, lx⟩ := VX
          obtain ⟨Ay, cy, zy, by_, ny, ry, ly⟩ := VY
          obtain ⟨Ak, ck, zk, bk, nk, rk, lk⟩ := VK
          have ML : Hid (∀ W (_ : Below v6.heap.size v6 W), Calls Tryz.prog 28 #[.agg #[.bool (isNeg (r / r2)), .slice Ak zk.length ck], .agg #[.bool (isNeg x2), .slice Ay zy.length cy]] W fun e w' => ZOut W w' (r / r2 * x2) e) := fun W hW => ((zn_of nk rk lk).zh.next hW).rmul ((zn_of ny ry ly).zh.next hW) (by omega)
          have SB : Hid (∀ (zm : List Nat) (Am : Option Addr) (cm B9 : Nat) (wo W : World), Below v6.heap.size v6 W → Num 4294967296 zm (r / r2 * x2).natAbs → Res wo B9 36 Am cm (u32s zm) → Below wo.heap.size wo W → Calls Tryz.prog 26 #[.agg #[.bool (isNeg x), .slice Ax zx.length cx], .agg #[.bool (isNeg (r / r2 * x2)), .slice Am zm.length cm]] W fun e w' => ZOut W w' (x - r / r2 * x2) e) := fun zm Am cm B9 wo W hW hn hr hb => by
            have l1 := (zn_of nk rk lk).lt
            have l2 := (zn_of ny ry ly).lt
            exact ((zn_of nx rx lx).zh.next hW).rsub ((Zn.shrink (K := N + N) hn hr (zprod_lt l1 l2)).next hb).zh (by omega) (by omega)
          have BX := Lib.hid bx
          have BY := Lib.hid by_
          have BK := Lib.hid bk
          have NY := Lib.hid ny
          have RY := Lib.hid ry
          have LY := Lib.hid ly
          obtain ⟨p0, p1, p2, p3⟩ := bx.two
          obtain ⟨q0, q1, q2, q3⟩ := by_.two
          obtain ⟨t0, t1, _, _⟩ := bk.two
          clear VQ VS VT b4 k5 bx nx rx lx by_ ny ry ly bk nk rk lk FF n1 n2 n3 n4 n5 n6
          have n1 : g7 ≠ g7 + 1 := by omega
          have n2 : g7 + 1 ≠ g7 := by omega
          go_upto_region 6 with (fail)
          refine region_held_tail (fun W => W.cell? ⟨g7 + 1, 0, none⟩ = some (.bool (isNeg x2)) ∧ W.cell? ⟨g7 + 1, 1, none⟩ = some (.slice Ay zy.length cy) ∧ W.cell? ⟨g7, 0, none⟩ = some (.bool (isNeg x)) ∧ W.cell? ⟨g7, 1, none⟩ = some (.slice Ax zx.length cx) ∧ W.cell? ⟨g9, 0, none⟩ = some (.bool (isNeg (r / r2))) ∧ W.cell? ⟨g9, 1, none⟩ = some (.slice Ak zk.length ck)) 6 (by kernel_rfl) (by kernel_rfl) ?hSt1 (fun hHeld => ?_)
          case hSt1 => (try dsimp only); go_keep
          refine HeadW.take (i := 0) (v := ?v0t1) rfl (by kernel_rfl) (by decide) (by kernel_rfl) (by kernel_rfl) (fun _ _ _ h => h) (Or.inl ⟨by rfl, ?hy0t1⟩) (by assumption) ?rest0t1
          case hy0t1 => intro w hSw; (try dsimp only at hSw); (try simp only [List.getElem_toArray, List.getElem_cons_zero]); go_simp; (try with_reducible rfl)
          (try simp only [List.getElem_toArray, List.getElem_cons_zero, Act.put, List.setIfInBounds_toArray, List.set_cons_zero, List.set_cons_succ])
          refine HeadW.take (i := 1) (v := ?v1t1) rfl (by kernel_rfl) (by decide) (by kernel_rfl) (by kernel_rfl) (fun _ _ _ h => h) (Or.inl ⟨by rfl, ?hy1t1⟩) (by assumption) ?rest1t1
          case hy1t1 => intro w hSw; (try dsimp only at hSw); (try simp only [List.getElem_toArray, List.getElem_cons_succ, List.getElem_cons_zero]); go_simp; (try with_reducible rfl)
          (try simp only [List.getElem_toArray, List.getElem_cons_succ, List.getElem_cons_zero, Act.put, List.setIfInBounds_toArray, List.set_cons_zero, List.set_cons_succ])
          refine HeadW.take (i := 2) (v := ?v2t1) rfl (by kernel_rfl) (by decide) (by kernel_rfl) (by kernel_rfl) (fun _ _ _ h => h) (Or.inl ⟨by rfl, ?hy2t1⟩) (by assumption) ?rest2t1
          case hy2t1 => intro w hSw; (try dsimp only at hSw); (try simp only [List.getElem_toArray, List.getElem_cons_succ, List.getElem_cons_zero]); go_simp; (try with_reducible rfl)
          (try simp only [List.getElem_toArray, List.getElem_cons_succ, List.getElem_cons_zero, Act.put, List.setIfInBounds_toArray, List.set_cons_zero, List.set_cons_succ])
          refine HeadW.take (i := 3) (v := ?v3t1) rfl (by kernel_rfl) (by decide) (by kernel_rfl) (by kernel_rfl) (fun _ _ _ h => h) (Or.inl ⟨by rfl, ?hy3t1⟩) (by assumption) ?rest3t1
          case hy3t1 => intro w hSw; (try dsimp only at hSw); (try simp only [List.getElem_toArray, List.getElem_cons_succ, List.getElem_cons_zero]); go_simp; (try with_reducible rfl)
          (try simp only [List.getElem_toArray, List.getElem_cons_succ, List.getElem_cons_zero, Act.put, List.setIfInBounds_toArray, List.set_cons_zero, List.set_cons_succ])
          refine HeadW.one (i := 4) (by kernel_rfl) (by decide) rfl (fun K hK => ?_)
          go_simp
          (go_at_call 28; (with_reducible refine (ML.out _ (by repeat (first | exact Below.refl _ _ | exact jm | exact jb | apply bdw | (refine bdn ?_ _) | (refine bal ?_ (Nat.le_refl _) _)))).mono ?_); rintro e wm ⟨zm, Am, cm, rfl, hzm, hrm, hbm⟩; have jm : Below v6.heap.size v6 wm := bst (by repeat (first | exact Below.refl _ _ | exact jm | exact jb | apply bdw | (refine bdn ?_ _) | (refine bal ?_ (Nat.le_refl _) _))) hbm (Nat.le_refl _); obtain ⟨x0m, y0m, u0m, v0m⟩ := (BY.out.below jm BY.out.lt).two; obtain ⟨x1m, y1m, u1m, v1m⟩ := (BX.out.below jm BX.out.lt).two; obtain ⟨x2m, y2m, _, _⟩ := (BK.out.below jm BK.out.lt).two)
          (try go_wp2_with fail)
          refine hK.out _ _ ?hS4t1 (fun hHeld2 => ?_)
          case hS4t1 => (try dsimp only); go_keep
          clear hK K hHeld
          have hHeld := hHeld2
          clear hHeld2
          (try simp only [List.getElem_toArray, List.getElem_cons_succ, List.getElem_cons_zero, Act.put, List.setIfInBounds_toArray, List.set_cons_zero, List.set_cons_succ])
          refine HeadW.one (i := 5) (by kernel_rfl) (by decide) rfl (fun K hK => ?_)
          go_simp
          (go_at_call 26; (with_reducible refine (SB.out zm Am cm _ wm _ (by repeat (first | exact Below.refl _ _ | exact jm | exact jb | apply bdw | (refine bdn ?_ _) | (refine bal ?_ (Nat.le_refl _) _))) hzm hrm (by repeat (first | exact Below.refl _ _ | apply bdw | (refine bdn ?_ _)))).mono ?_); rintro e wb ⟨zb, Ab, cb, rfl, hzb, hrb, hbb⟩; have jb : Below v6.heap.size v6 wb := bst (by repeat (first | exact Below.refl _ _ | exact jm | exact jb | apply bdw | (refine bdn ?_ _) | (refine bal ?_ (Nat.le_refl _) _))) hbb (Nat.le_refl _); obtain ⟨x0b, y0b, u0b, v0b⟩ := (BY.out.below jb BY.out.lt).two; obtain ⟨x1b, y1b, u1b, v1b⟩ := (BX.out.below jb BX.out.lt).two; obtain ⟨x2b, y2b, _, _⟩ := (BK.out.below jb BK.out.lt).two)
          (try go_wp2_with fail)
          refine hK.out _ _ ?hS5t1 (fun hHeld2 => ?_)
          case hS5t1 => (try dsimp only); go_keep
          clear hK K hHeld
          have hHeld := hHeld2
          clear hHeld2
          (try simp only [List.getElem_toArray, List.getElem_cons_succ, List.getElem_cons_zero, Act.put, List.setIfInBounds_toArray, List.set_cons_zero, List.set_cons_succ])
          refine HeadW.done (by kernel_rfl) ?_
          simp only [List.drop_succ_cons, List.drop_zero]
          go_wp2_with fail
          have XL : (x - r / r2 * x2).natAbs < 4294967296 ^ N := Nat.lt_of_le_of_lt EN.out.bx2 Lq.out
          have bx := BX.out.below jb BX.out.lt
          have by_ := BY.out.below jb BY.out.lt
          have F := vr_two (B := 0) bx by_ n1 NY.out (RY.out.below jb (Nat.le_refl _)) LY.out hzb (hrb.mono (Nat.zero_le _)) (num32_len hzb (Nat.le_refl _) XL)
          go_roundg (r % r2).natAbs
          case rel => exact ⟨r2, r % r2, x2, x - r / r2 * x2, (HVQ.out.next jb).other4 bx by_ n2 (by omega) (by omega), far4 (HB4.out.below jb HB4.out.lt) (by omega) (by omega), ⟨(HVS.out.next jb).other4 bx by_ n2 (by omega) (by omega), (HVT.out.next jb).other4 bx by_ n2 (by omega) (by omega), F.1, F.2⟩, EN.out, Nat.le_refl _, bsc4 (bst K6.out jb (Nat.le_refl _)) (by omega) (by omega)⟩
          case measure => have := HK9.out; have := RL2.out; omega
end
end Go.Proofs.YtanlejlmckdeiaaGreat
