/- The contract of the reference's Euclid on integers. -/
import Derived.Test.YtcjgilagldbjnaaGreatDoorPkBb45
import Derived.Test.YtcjgilagldbjnaaGreatDoorPkBb46
namespace Go.Proofs.YtcjgilagldbjnaaGreatDoor
open Go.RowKit
theorem Vr.other4 {B g h k K : Nat} {X : World} {z : Int} {x1 y1 x2 y2 u1 u2 u3 u4 : Value} (v : Vr B X k z K) (hg : Blk X g 25 [x1, y1]) (hh : Blk X h 25 [x2, y2]) (hne : h ≠ g) (h1 : k ≠ g) (h2 : k ≠ h) :
  Vr B ((((X.setCell ⟨g, 0, none⟩ u1).setCell ⟨g, 1, none⟩ u2).setCell ⟨h, 0, none⟩ u3).setCell ⟨h, 1, none⟩ u4) k z K :=
 (v.other hg h1 _ _).other ((hh.far (p := ⟨g, 0, none⟩) hne u1).far (p := ⟨g, 1, none⟩) hne u2) h2 _ _
def ZZ (w w' : World) (q r : Int) (e : Ending) : Prop := ∃ qs rs A1 c1 A3 c3, e = .returned (.tuple #[.agg #[.bool (isNeg q), .slice A1 qs.length c1], .agg #[.bool (isNeg r), .slice A3 rs.length c3]]) ∧ Num 4294967296 qs q.natAbs ∧ Num 4294967296 rs r.natAbs ∧ Res w' w.heap.size 34 A1 c1 (u32s qs) ∧ Res w' w.heap.size 34 A3 c3 (u32s rs) ∧ Below w.heap.size w w'
theorem zz_ret {fn : Func} {a : Act} {w W : World} {p q : Tmp} {g g2 K J : Nat} {Q R : Int} (k : Below w.heap.size w W) (v : Vr w.heap.size W g Q K) (v2 : Vr w.heap.size W g2 R J)
  (hres0 : fn.results = #[.cell p 25, .cell q 25]) (hp : a.tmps.getD p undef = .pointer (some ⟨g, 0, none⟩)) (hp2 : a.tmps.getD q undef = .pointer (some ⟨g2, 0, none⟩)) (hd : a.defers = []) :
  bodyPost Tryz.prog fn (fun e w' => ZZ w w' Q R e) .ret a W := by
 obtain ⟨A1, c1, qs, b1, n1, r1, l1⟩ := v
 obtain ⟨A3, c3, rs, b3, n3, r3, l3⟩ := v2
 exact bodyPost_ret (results_zz hres0 hp hp2 b1 b3) hd ⟨qs, rs, A1, c1, A3, c3, rfl, n1, n3, r1, r3, k⟩
def EuS (w : World) (z y X Y : Int) (K J g8 : Nat) (W : World) : Prop :=
 Vr w.heap.size W w.heap.size z K ∧ Vr w.heap.size W (w.heap.size + 1) y J ∧ Blk W (w.heap.size + 2) 25 [.bool false, .slice none 0 0] ∧ Blk W (w.heap.size + 3) 25 [.bool false, .slice none 0 0] ∧
 Vr w.heap.size W g8 X K ∧ Vr w.heap.size W (g8 + 1) Y J ∧ w.heap.size + 3 < g8 ∧ Below w.heap.size w W
def EuA (w : World) (z y : Int) (K J : Nat) (v4 v5 : Value) (W : World) : Prop := v4 = .pointer (some ⟨w.heap.size + 2, 0, none⟩) ∧ v5 = .pointer (some ⟨w.heap.size + 3, 0, none⟩) ∧ 
 Vr w.heap.size W w.heap.size z K ∧ Vr w.heap.size W (w.heap.size + 1) y J ∧ Blk W (w.heap.size + 2) 25 [.bool false, .slice none 0 0] ∧ Blk W (w.heap.size + 3) 25 [.bool false, .slice none 0 0] ∧ Below w.heap.size w W
theorem eu_start {z y : Int} (hz : 0 ≤ z) : z / (y.natAbs : Int) = ((z.natAbs / y.natAbs : Nat) : Int) ∧ z % (y.natAbs : Int) = ((z.natAbs % y.natAbs : Nat) : Int) := by
 obtain ⟨n, rfl⟩ := Int.eq_ofNat_of_zero_le hz
 exact ⟨by rw [Int.natAbs_natCast, Int.natCast_ediv], by rw [Int.natAbs_natCast, Int.natCast_emod]⟩
theorem eu_neg {z y : Int} (hz : z < 0) (hy : y ≠ 0) : z / (y.natAbs : Int) = (if 0 < z.natAbs % y.natAbs then -((z.natAbs / y.natAbs : Nat) : Int) - 1 else -((z.natAbs / y.natAbs : Nat) : Int)) ∧ z % (y.natAbs : Int) = (if 0 < z.natAbs % y.natAbs then -((z.natAbs % y.natAbs : Nat) : Int) + (y.natAbs : Int) else -((z.natAbs % y.natAbs : Nat) : Int)) := by
 have h1 := Nat.div_add_mod z.natAbs y.natAbs
 have h2 := Nat.mod_lt z.natAbs (show 0 < y.natAbs by omega)
 have e : z = (y.natAbs : Int) * -((z.natAbs / y.natAbs : Nat) : Int) + -((z.natAbs % y.natAbs : Nat) : Int) := by
  rw [Int.mul_neg, ← Int.natCast_mul, ← Int.neg_add, ← Int.natCast_add, h1]; omega
 split
 ·refine eu_of (a := z) (b := (y.natAbs : Int)) ?_ (by omega) (by omega)
  rw [Int.mul_sub, Int.mul_one]; omega
 ·refine eu_of (a := z) (b := (y.natAbs : Int)) ?_ (by omega) (by omega)
  exact e
theorem eu_last {z y : Int} : z / y = (if y < 0 then -(z / (y.natAbs : Int)) else z / (y.natAbs : Int)) ∧ z % y = z % (y.natAbs : Int) := by
 by_cases h : y < 0
 ·rw [if_pos h, show (y.natAbs : Int) = -y by omega, Int.ediv_neg, Int.neg_neg, Int.emod_neg]; exact ⟨rfl, rfl⟩
 ·rw [if_neg h, show (y.natAbs : Int) = y by omega]; exact ⟨rfl, rfl⟩
theorem EuS.next {w wa wb : World} {z y X Y : Int} {K J g8 : Nat} (s : EuS w z y X Y K J g8 wa) (h : Below wa.heap.size wa wb) : EuS w z y X Y K J g8 wb := by
 obtain ⟨a, b, c, d, e, f, o, k⟩ := s
 exact ⟨a.next h, b.next h, c.below h c.lt, d.below h d.lt, e.next h, f.next h, o, bst k h nl9⟩
theorem Vr.other_ {B g k K : Nat} {X : World} {z : Int} {x1 y1 u1 u2 : Value} (v : Vr B X k z K) (hg : Blk X g 25 [x1, y1]) (h1 : k ≠ g) : Vr B ((X.setCell ⟨g, 0, none⟩ u1).setCell ⟨g, 1, none⟩ u2) k z K := v.other hg h1 _ _
theorem far2 {g k : Nat} {X : World} {t : TypeId} {vs : List Value} {u1 u2 : Value} (hb : Blk X k t vs) (h1 : k ≠ g) : Blk ((X.setCell ⟨g, 0, none⟩ u1).setCell ⟨g, 1, none⟩ u2) k t vs := (hb.far (p := ⟨g, 0, none⟩) h1 _).far (p := ⟨g, 1, none⟩) h1 _
theorem isNeg_cast (n : Nat) : isNeg (n : Int) = false := decide_eq_false (by omega)
section
variable {w : World} {g g2 : Bool} {A A2 : Option Addr} {c c2 K J : Nat} {xs ys : List Nat} {z y : Int}
set_option maxHeartbeats 6400000 in
theorem Zh.reuclid (h : Zh w g A c xs z K) (h2 : Zh w g2 A2 c2 ys y J) (hy : y ≠ 0) (hK : K ≤ 67108863) (hJ : J ≤ 67108863) :
  Calls Tryz.prog 32 #[.agg #[.bool g, .slice A xs.length c], .agg #[.bool g2, .slice A2 ys.length c2]] w fun e w' => ZZ w w' (z / y) (z % y) e := by
 have NA : Hid (∀ W (_ : Below w.heap.size w W), Calls Tryz.prog 50 #[.agg #[.bool g, .slice A xs.length c]] W fun e w' => ZOut W w' z e) := fun W hW => (h.next hW).rnorm (by omega)
 have NB : Hid (∀ W (_ : Below w.heap.size w W), Calls Tryz.prog 50 #[.agg #[.bool g2, .slice A2 ys.length c2]] W fun e w' => ZOut W w' y e) := fun W hW => (h2.next hW).rnorm (by omega)
 obtain ⟨b0, b1, b2, b3⟩ := blk_four w (.bool g) (.slice A xs.length c) (.bool g2) (.slice A2 ys.length c2) (.bool false) (.slice none 0 0) (.bool false) (.slice none 0 0)
 have k0 := bel_four w (.cells #[.bool g, .slice A xs.length c] 25) (.cells #[.bool g2, .slice A2 ys.length c2] 25) (.cells #[.bool false, .slice none 0 0] 25) (.cells #[.bool false, .slice none 0 0] 25)
 have hzl := h.lt
 have hyl := h2.lt
 have Hy := hi9 hy
 clear h h2 hy
 go_enter Tryz.func32, Tryz.ntmps32
 go_wp2_with fail
 obtain ⟨w0, hw0⟩ : ∃ w0, w0 = (((w.alloc (.cells #[.bool g, .slice A xs.length c] 25)).alloc (.cells #[.bool g2, .slice A2 ys.length c2] 25)).alloc (.cells #[.bool false, .slice none 0 0] 25)).alloc (.cells #[.bool false, .slice none 0 0] 25) := ⟨_, rfl⟩
 rw [← hw0] at b0 b1 b2 b3 k0 ⊢
 clear hw0
 have B0 := hi9 b0
 have B1 := hi9 b1
 have B2 := hi9 b2
 have B3 := hi9 b3
 have K0 := hi9 k0
 replace NA : Hid (∀ W (_ : Below w0.heap.size w0 W), Calls Tryz.prog 50 #[.agg #[.bool g, .slice A xs.length c]] W fun e w' => ZOut W w' z e) := fun W hW => NA.out W (bst K0.out hW nl9)
 replace NB : Hid (∀ W (_ : Below w0.heap.size w0 W), Calls Tryz.prog 50 #[.agg #[.bool g2, .slice A2 ys.length c2]] W fun e w' => ZOut W w' y e) := fun W hW => NB.out W (bst K0.out hW nl9)
 have s0 : w.heap.size ≤ w0.heap.size := k0.size
 obtain ⟨p0, p1, p2, p3⟩ := b0.two
 obtain ⟨q0, q1, q2, q3⟩ := b1.two
 clear b0 b1 b2 b3 k0
 have n1 : w.heap.size ≠ w.heap.size + 1 := by omega
 have n2 : w.heap.size + 1 ≠ w.heap.size := by omega
 go_cut [4, 5] (fun v v5 W => EuA w z y K J v v5 W)
 case first =>
  go_region_with (first
   | (go_at_call 50; (with_reducible refine (NA.out _ (by repeat (first | exact br9 | exact ja | exact jb | apply bdw | (refine bdn ?_ _) | (refine bal ?_ nl9 _)))).mono ?_); rintro e wa ⟨za, Aa, ca, rfl, hza, hra, hba⟩; have ja : Below w0.heap.size w0 wa := bst (by repeat (first | exact br9 | exact ja | exact jb | apply bdw | (refine bdn ?_ _) | (refine bal ?_ nl9 _))) hba nl9; obtain ⟨x0a, y0a, u0a, v0a⟩ := (B0.out.below ja B0.out.lt).two; obtain ⟨x1a, y1a, u1a, v1a⟩ := (B1.out.below ja B1.out.lt).two)
   | (go_at_call 50; (with_reducible refine (NB.out _ (by repeat (first | exact br9 | exact ja | exact jb | apply bdw | (refine bdn ?_ _) | (refine bal ?_ nl9 _)))).mono ?_); rintro e wb ⟨zb, Ab, cb, rfl, hzb, hrb, hbb⟩; have jb : Below w0.heap.size w0 wb := bst (by repeat (first | exact br9 | exact ja | exact jb | apply bdw | (refine bdn ?_ _) | (refine bal ?_ nl9 _))) hbb nl9; obtain ⟨x0b, y0b, u0b, v0b⟩ := (B0.out.below jb B0.out.lt).two; obtain ⟨x1b, y1b, u1b, v1b⟩ := (B1.out.below jb B1.out.lt).two))
  all_goals
   go_wp2_with fail
   go_meet
   have la := num32_len hza nl9 hzl
   have lb := num32_len hzb nl9 hyl
   have sa9 : w.heap.size ≤ wa.heap.size := Nat.le_trans s0 ja.size
   have sb9 : w.heap.size ≤ wb.heap.size := Nat.le_trans s0 jb.size
   first
    | (have F := vr_two (B := w.heap.size) (B0.out.below jb B0.out.lt) (B1.out.below jb B1.out.lt) n1 hza ((hra.mono s0).below hbb nl9) la hzb (hrb.mono sa9) lb
       exact ⟨rfl, rfl, F.1, F.2, far4 (B2.out.below jb B2.out.lt) (by omega) (by omega), far4 (B3.out.below jb B3.out.lt) (by omega) (by omega), bsc4 (bst K0.out jb nl9) (by omega) (by omega)⟩)
    | (have F := vr_two (B := w.heap.size) (B1.out.below jb B1.out.lt) (B0.out.below jb B0.out.lt) n2 hzb (hrb.mono sa9) lb hza ((hra.mono s0).below hbb nl9) la
       exact ⟨rfl, rfl, F.2, F.1, far4 (B2.out.below jb B2.out.lt) (by omega) (by omega), far4 (B3.out.below jb B3.out.lt) (by omega) (by omega), bsc4 (bst K0.out jb nl9) (by omega) (by omega)⟩)
    | (have F := vr_two (B := w.heap.size) (B0.out.below ja B0.out.lt) (B1.out.below ja B1.out.lt) n1 hza (hra.mono sb9) la hzb ((hrb.mono s0).below hba nl9) lb
       exact ⟨rfl, rfl, F.1, F.2, far4 (B2.out.below ja B2.out.lt) (by omega) (by omega), far4 (B3.out.below ja B3.out.lt) (by omega) (by omega), bsc4 (bst K0.out ja nl9) (by omega) (by omega)⟩)
    | (have F := vr_two (B := w.heap.size) (B1.out.below ja B1.out.lt) (B0.out.below ja B0.out.lt) n2 hzb ((hrb.mono s0).below hba nl9) lb hza (hra.mono sb9) la
       exact ⟨rfl, rfl, F.2, F.1, far4 (B2.out.below ja B2.out.lt) (by omega) (by omega), far4 (B3.out.below ja B3.out.lt) (by omega) (by omega), bsc4 (bst K0.out ja nl9) (by omega) (by omega)⟩)
 case rest =>
  obtain ⟨rfl, rfl, VA, VB, br4, br5, kc⟩ := hcut
  clear NA NB B0 B1 B2 B3 K0 p0 p1 p2 p3 q0 q1 q2 q3 s0 n1 n2
  have HVA := hi9 VA
  have HVB := hi9 VB
  obtain ⟨Aa, ca, za, ba, na, ra, la⟩ := VA
  obtain ⟨Ab, cb, zb, bb, nb, rb, lb⟩ := VB
  have hlc := kc.size
  have DV : Hid (∀ W (_ : Below wc.heap.size wc W), Calls Tryz.prog 51 #[.slice Aa za.length ca, .slice Ab zb.length cb] W fun e w' => QOut W w' z.natAbs y.natAbs e) := fun W hW => ((zn_of na ra la).next hW).hv.rdiv ((zn_of nb rb lb).next hW).hv (by omega) (by omega) (by have := Hy.out; omega)
  obtain ⟨p0, p1, _, _⟩ := ba.two
  obtain ⟨q0, q1, _, _⟩ := bb.two
  clear na ra la nb rb lb ba bb
  go_wp2_with fail
  refine (DV.out _ br9).mono ?_
  rintro e w1 ⟨qs, rs, A1, c1, A3, c3, rfl, hq, hr, rq, rr, hb1⟩
  go_upto_region 4 with (fail)
  obtain ⟨b8, b9⟩ := blk_pair2 w1 (.bool false) (.slice A1 qs.length c1) (.bool false) (.slice A3 rs.length c3)
  have ka := bel_two w1 (.cells #[.bool false, .slice A1 qs.length c1] 25) (.cells #[.bool false, .slice A3 rs.length c3] 25)
  have hb2 := bst hb1 ka nl9
  have ha := HVA.out.lt
  have hb := HVB.out.lt
  have hc := br5.lt
  have hsz := hb1.size
  have V8 : Vr w.heap.size _ w1.heap.size ((z.natAbs / y.natAbs : Nat) : Int) K := ⟨A1, c1, qs, by rw [isNeg_cast]; exact b8, num_eq hq (Int.natAbs_natCast _).symm, (rq.mono hlc).below ka nl9, num32_len hq nl9 (Nat.lt_of_le_of_lt (Nat.div_le_self _ _) hzl)⟩
  have V9 : Vr w.heap.size _ (w1.heap.size + 1) ((z.natAbs % y.natAbs : Nat) : Int) J := ⟨A3, c3, rs, by rw [isNeg_cast]; exact b9, num_eq hr (Int.natAbs_natCast _).symm, (rr.mono hlc).below ka nl9, num32_len hr nl9 (Nat.lt_trans (Nat.mod_lt _ (by have := Hy.out; omega)) hyl)⟩
  have S2 := show EuS w z y ((z.natAbs / y.natAbs : Nat) : Int) ((z.natAbs % y.natAbs : Nat) : Int) K J w1.heap.size _ from ⟨HVA.out.next hb2, HVB.out.next hb2, br4.below hb2 br4.lt, br5.below hb2 br5.lt, V8, V9, by omega, bst kc hb2 nl9⟩
  obtain ⟨Q, hQ⟩ : ∃ Q : Int, Q = ((z.natAbs / y.natAbs : Nat) : Int) := ⟨_, rfl⟩
  obtain ⟨R, hR⟩ : ∃ R : Int, R = ((z.natAbs % y.natAbs : Nat) : Int) := ⟨_, rfl⟩
  rw [← hQ, ← hR] at S2
  obtain ⟨X1, hX1⟩ : ∃ X : Int, X = z / (y.natAbs : Int) := ⟨_, rfl⟩
  obtain ⟨Y1, hY1⟩ : ∃ Y : Int, Y = z % (y.natAbs : Int) := ⟨_, rfl⟩
  have HX1l : Hid (X1.natAbs < 4294967296 ^ K) := by show _ < _; rw [hX1]; exact Nat.lt_of_le_of_lt (Int.natAbs_ediv_le_natAbs z _) hzl
  have HY1l : Hid (Y1.natAbs < 4294967296 ^ J) := by
   have h1 := emod_lt_abs' z (b := (y.natAbs : Int)) (by have := Hy.out; omega)
   have h2 := Int.emod_nonneg z (b := (y.natAbs : Int)) (by have := Hy.out; omega)
   rw [Int.natAbs_natCast] at h1
   show _ < _; rw [hY1]; omega
  have HQ := hi9 hQ
  have HR := hi9 hR
  have HX1 := hi9 hX1
  have HY1 := hi9 hY1
  have Hyl := hi9 hyl
  obtain ⟨w2, hw2, S3⟩ : ∃ w2, w2 = _ ∧ EuS w z y Q R K J w1.heap.size w2 := ⟨_, rfl, S2⟩
  rw [← hw2]
  clear hw2 S2 V8 V9 b8 b9 ka hb2 ha hb hc hsz rq rr hq hr hb1 DV HVA HVB hlc kc br4 br5 p0 p1 q0 q1 hQ hR hX1 hY1 hzl hyl
  generalize w1.heap.size = g8 at S3 ⊢
  clear w1
  have HS3 := hi9 S3
  obtain ⟨⟨_, _, _, ba, _, _, _⟩, _, _, _, _, _, _, _⟩ := S3
  obtain ⟨bz, hbz⟩ : ∃ b, b = isNeg z := ⟨_, rfl⟩
  rw [← hbz] at ba
  obtain ⟨p0, p1, _, _⟩ := ba.two
  have Hbz := hi9 hbz
  clear ba hbz
  go_upto_if 27 with (fail)
  go_cut [8, 9] (fun v v9 W => v = .pointer (some ⟨g8, 0, none⟩) ∧ v9 = .pointer (some ⟨g8 + 1, 0, none⟩) ∧ EuS w z y X1 Y1 K J g8 W)
  case first =>
   cases bz
   ·go_wp2_with fail
    go_meet
    have e := eu_start (z := z) (y := y) (by have := Hbz.out; simp [isNeg] at this; omega)
    rw [HX1.out, HY1.out, e.1, e.2, ← HQ.out, ← HR.out]
    exact ⟨rfl, rfl, HS3.out⟩
   ·have hzneg : Hid (z < 0) := by have := Hbz.out; show _ < _; simp [isNeg] at this; omega
    clear p0 p1 Hbz
    obtain ⟨VA, VB, br4, br5, ⟨A8, c8, qs, b8, n8, r8, l8⟩, ⟨A9, c9, rs, b9, n9, r9, l9⟩, o8, k2⟩ := HS3.out
    have NA : Hid (∀ W (_ : Below w2.heap.size w2 W), Calls Tryz.prog 52 #[.agg #[.bool (isNeg Q), .slice A8 qs.length c8]] W fun e w' => ZOut W w' (-Q) e) := fun W hW => ((zn_of n8 r8 l8).zh.next hW).rneg (by omega)
    have NB : Hid (∀ W (_ : Below w2.heap.size w2 W), Calls Tryz.prog 52 #[.agg #[.bool (isNeg R), .slice A9 rs.length c9]] W fun e w' => ZOut W w' (-R) e) := fun W hW => ((zn_of n9 r9 l9).zh.next hW).rneg (by omega)
    have LQ : Hid ((-Q).natAbs < 4294967296 ^ K) := by show _ < _; rw [Int.natAbs_neg]; exact (zn_of n8 r8 l8).lt
    have LR : Hid ((-R).natAbs < 4294967296 ^ J) := by show _ < _; rw [Int.natAbs_neg]; exact (zn_of n9 r9 l9).lt
    have B8 := hi9 b8
    have B9 := hi9 b9
    have HVA := hi9 VA
    have HVB := hi9 VB
    have HB4 := hi9 br4
    have HB5 := hi9 br5
    obtain ⟨p0, p1, p2, p3⟩ := b8.two
    obtain ⟨q0, q1, q2, q3⟩ := b9.two
    have s0 := k2.size
    have K2 := hi9 k2
    clear n8 r8 l8 n9 r9 l9 b8 b9 VA VB br4 br5 k2 HS3
    have n1 : g8 ≠ g8 + 1 := by omega
    have n2 : g8 + 1 ≠ g8 := by omega
    go_upto_region 5 with (fail)
    go_cut [8, 9] (fun v v9 W => v = .pointer (some ⟨g8, 0, none⟩) ∧ v9 = .pointer (some ⟨g8 + 1, 0, none⟩) ∧ EuS w z y (-Q) (-R) K J g8 W)
    case first =>
     go_region_with (first
      | (go_at_call 52; (with_reducible refine (NA.out _ (by repeat (first | exact br9 | exact ja | exact jb | apply bdw | (refine bdn ?_ _) | (refine bal ?_ nl9 _)))).mono ?_); rintro e wa ⟨za, Aa, ca, rfl, hza, hra, hba⟩; have ja : Below w2.heap.size w2 wa := bst (by repeat (first | exact br9 | exact ja | exact jb | apply bdw | (refine bdn ?_ _) | (refine bal ?_ nl9 _))) hba nl9; obtain ⟨x0a, y0a, u0a, v0a⟩ := (B8.out.below ja B8.out.lt).two; obtain ⟨x1a, y1a, u1a, v1a⟩ := (B9.out.below ja B9.out.lt).two)
      | (go_at_call 52; (with_reducible refine (NB.out _ (by repeat (first | exact br9 | exact ja | exact jb | apply bdw | (refine bdn ?_ _) | (refine bal ?_ nl9 _)))).mono ?_); rintro e wb ⟨zb, Ab, cb, rfl, hzb, hrb, hbb⟩; have jb : Below w2.heap.size w2 wb := bst (by repeat (first | exact br9 | exact ja | exact jb | apply bdw | (refine bdn ?_ _) | (refine bal ?_ nl9 _))) hbb nl9; obtain ⟨x0b, y0b, u0b, v0b⟩ := (B8.out.below jb B8.out.lt).two; obtain ⟨x1b, y1b, u1b, v1b⟩ := (B9.out.below jb B9.out.lt).two))
     all_goals
      go_wp2_with fail
      go_meet
      have la := num32_len hza nl9 LQ.out
      have lb := num32_len hzb nl9 LR.out
      have sa9 : w.heap.size ≤ wa.heap.size := Nat.le_trans s0 ja.size
      have sb9 : w.heap.size ≤ wb.heap.size := Nat.le_trans s0 jb.size
      first
       | (have F := vr_two (B := w.heap.size) (B8.out.below jb B8.out.lt) (B9.out.below jb B9.out.lt) n1 hza ((hra.mono s0).below hbb nl9) la hzb (hrb.mono sa9) lb
          exact ⟨rfl, rfl, ((HVA.out.next jb).other4 (B8.out.below jb B8.out.lt) (B9.out.below jb B9.out.lt) (by omega) (by omega) (by omega)), ((HVB.out.next jb).other4 (B8.out.below jb B8.out.lt) (B9.out.below jb B9.out.lt) (by omega) (by omega) (by omega)), far4 (HB4.out.below jb HB4.out.lt) (by omega) (by omega), far4 (HB5.out.below jb HB5.out.lt) (by omega) (by omega), F.1, F.2, o8, bsc4 (bst K2.out jb nl9) (by omega) (by omega)⟩)
       | (have F := vr_two (B := w.heap.size) (B9.out.below jb B9.out.lt) (B8.out.below jb B8.out.lt) n2 hzb (hrb.mono sa9) lb hza ((hra.mono s0).below hbb nl9) la
          exact ⟨rfl, rfl, ((HVA.out.next jb).other4 (B9.out.below jb B9.out.lt) (B8.out.below jb B8.out.lt) (by omega) (by omega) (by omega)), ((HVB.out.next jb).other4 (B9.out.below jb B9.out.lt) (B8.out.below jb B8.out.lt) (by omega) (by omega) (by omega)), far4 (HB4.out.below jb HB4.out.lt) (by omega) (by omega), far4 (HB5.out.below jb HB5.out.lt) (by omega) (by omega), F.2, F.1, o8, bsc4 (bst K2.out jb nl9) (by omega) (by omega)⟩)
       | (have F := vr_two (B := w.heap.size) (B8.out.below ja B8.out.lt) (B9.out.below ja B9.out.lt) n1 hza (hra.mono sb9) la hzb ((hrb.mono s0).below hba nl9) lb
          exact ⟨rfl, rfl, ((HVA.out.next ja).other4 (B8.out.below ja B8.out.lt) (B9.out.below ja B9.out.lt) (by omega) (by omega) (by omega)), ((HVB.out.next ja).other4 (B8.out.below ja B8.out.lt) (B9.out.below ja B9.out.lt) (by omega) (by omega) (by omega)), far4 (HB4.out.below ja HB4.out.lt) (by omega) (by omega), far4 (HB5.out.below ja HB5.out.lt) (by omega) (by omega), F.1, F.2, o8, bsc4 (bst K2.out ja nl9) (by omega) (by omega)⟩)
       | (have F := vr_two (B := w.heap.size) (B9.out.below ja B9.out.lt) (B8.out.below ja B8.out.lt) n2 hzb ((hrb.mono s0).below hba nl9) lb hza (hra.mono sb9) la
          exact ⟨rfl, rfl, ((HVA.out.next ja).other4 (B9.out.below ja B9.out.lt) (B8.out.below ja B8.out.lt) (by omega) (by omega) (by omega)), ((HVB.out.next ja).other4 (B9.out.below ja B9.out.lt) (B8.out.below ja B8.out.lt) (by omega) (by omega) (by omega)), far4 (HB4.out.below ja HB4.out.lt) (by omega) (by omega), far4 (HB5.out.below ja HB5.out.lt) (by omega) (by omega), F.2, F.1, o8, bsc4 (bst K2.out ja nl9) (by omega) (by omega)⟩)
    case rest =>
     obtain ⟨rfl, rfl, S5⟩ := hcut
     clear NA NB LQ LR B8 B9 HVA HVB HB4 HB5 p0 p1 p2 p3 q0 q1 q2 q3 s0 K2 n1 n2
     have HS5 := hi9 S5
     obtain ⟨_, _, _, _, _, ⟨A9, c9, rs, b9, n9, r9, l9⟩, _, _⟩ := S5
     obtain ⟨sg, hsg⟩ : ∃ s, s = (-R).sign := ⟨_, rfl⟩
     have SG : Hid (∀ W (_ : Below wc.heap.size wc W), Calls Tryz.prog 24 #[.agg #[.bool (isNeg (-R)), .slice A9 rs.length c9]] W fun e w' => e = .returned (.int .i64 sg) ∧ Below W.heap.size W w') := fun W hW => by rw [hsg]; exact ((zn_of n9 r9 l9).zh.next hW).rsign (by omega)
     obtain ⟨p0, p1, _, _⟩ := b9.two
     have e := eu_neg hzneg.out Hy.out
     rw [← HX1.out, ← HY1.out, ← HQ.out, ← HR.out] at e
     have hR9 := HR.out
     clear n9 r9 l9 b9
     by_cases hr0 : 0 < z.natAbs % y.natAbs
     ·rw [if_pos hr0, if_pos hr0] at e
      obtain rfl : sg = -1 := by rw [hsg]; exact Int.sign_eq_neg_one_of_neg (by omega)
      have HE := hi9 e
      clear e hsg hR9 hr0
      go_wp2_with fail
      refine (SG.out _ br9).mono ?_
      rintro e w6 ⟨rfl, hb6⟩
      obtain ⟨VA, VB, br4, br5, ⟨A8, c8, qs, b8, n8, r8, l8⟩, ⟨A9, c9, rs, b9, n9, r9, l9⟩, o8, k6⟩ := HS5.out.next hb6
      clear HS5 SG p0 p1 hb6
      have HVA := hi9 VA
      have HVB := hi9 VB
      obtain ⟨Ay, cy, yn, bb, nb, rb, lb⟩ := VB
      have SB : Hid (∀ (zo : List Nat) (Ao : Option Addr) (co Bo : Nat) (wo W : World), Below w6.heap.size w6 W → Num 4294967296 zo (1 : Int).natAbs → Res wo Bo 34 Ao co (u32s zo) → Below wo.heap.size wo W → Calls Tryz.prog 53 #[.agg #[.bool (isNeg (-Q)), .slice A8 qs.length c8], .agg #[.bool (isNeg 1), .slice Ao zo.length co]] W fun e w' => ZOut W w' X1 e) := fun zo Ao co Bo wo W hW hn hr hb => by
       rw [HE.out.1]
       exact ((zn_of n8 r8 l8).zh.next hW).rsub ((Zn.shrink (K := 1) hn hr (by decide)).next hb).zh (by omega) (by omega)
      have AB : Hid (∀ W (_ : Below w6.heap.size w6 W), Calls Tryz.prog 55 #[.agg #[.bool (isNeg y), .slice Ay yn.length cy]] W fun e w' => ZOut W w' (y.natAbs : Int) e) := fun W hW => ((zn_of nb rb lb).zh.next hW).rabs (by omega)
      have AD : Hid (∀ (zo : List Nat) (Ao : Option Addr) (co Bo : Nat) (wo W : World), Below w6.heap.size w6 W → Num 4294967296 zo (y.natAbs : Int).natAbs → Res wo Bo 34 Ao co (u32s zo) → Below wo.heap.size wo W → Calls Tryz.prog 54 #[.agg #[.bool (isNeg (-R)), .slice A9 rs.length c9], .agg #[.bool (isNeg (y.natAbs : Int)), .slice Ao zo.length co]] W fun e w' => ZOut W w' Y1 e) := fun zo Ao co Bo wo W hW hn hr hb => by
       rw [HE.out.2]
       exact ((zn_of n9 r9 l9).zh.next hW).radd ((Zn.shrink (K := J) hn hr (by rw [Int.natAbs_natCast]; exact Hyl.out)).next hb).zh (by omega) (by omega)
      obtain ⟨y1, hy1⟩ : ∃ v : Int, v = (y.natAbs : Int) := ⟨_, rfl⟩
      rw [← hy1] at AB AD
      have B8 := hi9 b8
      have B9 := hi9 b9
      have BB := hi9 bb
      have HB4 := hi9 br4
      have HB5 := hi9 br5
      obtain ⟨p0, p1, p2, p3⟩ := b8.two
      obtain ⟨q0, q1, q2, q3⟩ := b9.two
      obtain ⟨t0, t1, _, _⟩ := bb.two
      have s0 := k6.size
      have K6 := hi9 k6
      clear n8 r8 l8 n9 r9 l9 b8 b9 nb rb lb bb VA br4 br5 k6 hy1 HE
      have n1 : g8 ≠ g8 + 1 := by omega
      have n2 : g8 + 1 ≠ g8 := by omega
      go_upto_region 7 with (fail)
      refine region_held_tail (fun W => W.cell? ⟨g8, 0, none⟩ = some (.bool (isNeg (-Q))) ∧ W.cell? ⟨g8, 1, none⟩ = some (.slice A8 qs.length c8) ∧ W.cell? ⟨g8 + 1, 0, none⟩ = some (.bool (isNeg (-R))) ∧ W.cell? ⟨g8 + 1, 1, none⟩ = some (.slice A9 rs.length c9) ∧ W.cell? ⟨w.heap.size + 1, 0, none⟩ = some (.bool (isNeg y)) ∧ W.cell? ⟨w.heap.size + 1, 1, none⟩ = some (.slice Ay yn.length cy)) 7 (by kernel_rfl) (by kernel_rfl) ?hSt1 (fun hHeld => ?_)
      case hSt1 => (try dsimp only); go_keep
      refine HeadW.take (i := 0) (v := ?v0t1) rfl (by kernel_rfl) (by decide) (by kernel_rfl) (by kernel_rfl) (fun _ _ _ h => h) (Or.inl ⟨by rfl, ?hy0t1⟩) (by assumption) ?rest0t1
      case hy0t1 => intro w hSw; (try dsimp only at hSw); (try simp only [List.getElem_toArray, List.getElem_cons_zero]); go_simp; (try with_reducible rfl)
      (try simp only [List.getElem_toArray, List.getElem_cons_zero, Act.put, List.setIfInBounds_toArray, List.set_cons_zero, List.set_cons_succ])
      refine HeadW.take (i := 3) (v := ?v3t1) rfl (by kernel_rfl) (by decide) (by kernel_rfl) (by kernel_rfl) (fun _ _ _ h => h) (Or.inl ⟨by rfl, ?hy3t1⟩) (by assumption) ?rest3t1
      case hy3t1 => intro w hSw; (try dsimp only at hSw); (try simp only [List.getElem_toArray, List.getElem_cons_succ, List.getElem_cons_zero]); go_simp; (try with_reducible rfl)
      (try simp only [List.getElem_toArray, List.getElem_cons_succ, List.getElem_cons_zero, Act.put, List.setIfInBounds_toArray, List.set_cons_zero, List.set_cons_succ])
      refine HeadW.take (i := 4) (v := ?v4t1) rfl (by kernel_rfl) (by decide) (by kernel_rfl) (by kernel_rfl) (fun _ _ _ h => h) (Or.inl ⟨by rfl, ?hy4t1⟩) (by assumption) ?rest4t1
      case hy4t1 => intro w hSw; (try dsimp only at hSw); (try simp only [List.getElem_toArray, List.getElem_cons_succ, List.getElem_cons_zero]); go_simp; (try with_reducible rfl)
      (try simp only [List.getElem_toArray, List.getElem_cons_succ, List.getElem_cons_zero, Act.put, List.setIfInBounds_toArray, List.set_cons_zero, List.set_cons_succ])
      refine HeadW.one (i := 1) (by kernel_rfl) (by decide) rfl (fun K hK => ?_)
      go_simp
      (go_at_call 16; (with_reducible refine (rzof_any 1 (by decide) (by decide) _).mono ?_); rintro e wo ⟨zo, Ao, co, rfl, hzo, hro, hbo⟩; have jo : Below w6.heap.size w6 wo := bst (by repeat (first | exact br9 | exact jo | exact ja | exact jm | exact jb | apply bdw | (refine bdn ?_ _) | (refine bal ?_ nl9 _))) hbo nl9; obtain ⟨x0o, y0o, u0o, v0o⟩ := (B8.out.below jo B8.out.lt).two; obtain ⟨x1o, y1o, u1o, v1o⟩ := (B9.out.below jo B9.out.lt).two; obtain ⟨x2o, y2o, _, _⟩ := (BB.out.below jo BB.out.lt).two)
      (try go_wp2_with fail)
      refine hK.out _ _ ?hS1t1 (fun hHeld2 => ?_)
      case hS1t1 => (try dsimp only); go_keep
      clear hK K hHeld
      have hHeld := hHeld2
      clear hHeld2
      (try simp only [List.getElem_toArray, List.getElem_cons_succ, List.getElem_cons_zero, Act.put, List.setIfInBounds_toArray, List.set_cons_zero, List.set_cons_succ])
      refine HeadW.one (i := 2) (by kernel_rfl) (by decide) rfl (fun K hK => ?_)
      go_simp
      (go_at_call 53; (with_reducible refine (SB.out zo Ao co _ wo _ (by repeat (first | exact br9 | exact jo | exact ja | exact jm | exact jb | apply bdw | (refine bdn ?_ _) | (refine bal ?_ nl9 _))) hzo hro (by repeat (first | exact br9 | apply bdw | (refine bdn ?_ _)))).mono ?_); rintro e wa ⟨za, Aa, ca, rfl, hza, hra, hba⟩; have ja : Below w6.heap.size w6 wa := bst (by repeat (first | exact br9 | exact jo | exact ja | exact jm | exact jb | apply bdw | (refine bdn ?_ _) | (refine bal ?_ nl9 _))) hba nl9; obtain ⟨x0a, y0a, u0a, v0a⟩ := (B8.out.below ja B8.out.lt).two; obtain ⟨x1a, y1a, u1a, v1a⟩ := (B9.out.below ja B9.out.lt).two; obtain ⟨x2a, y2a, _, _⟩ := (BB.out.below ja BB.out.lt).two)
      (try go_wp2_with fail)
      refine hK.out _ _ ?hS2t1 (fun hHeld2 => ?_)
      case hS2t1 => (try dsimp only); go_keep
      clear hK K hHeld
      have hHeld := hHeld2
      clear hHeld2
      (try simp only [List.getElem_toArray, List.getElem_cons_succ, List.getElem_cons_zero, Act.put, List.setIfInBounds_toArray, List.set_cons_zero, List.set_cons_succ])
      refine HeadW.one (i := 5) (by kernel_rfl) (by decide) rfl (fun K hK => ?_)
      go_simp
      (go_at_call 55; (with_reducible refine (AB.out _ (by repeat (first | exact br9 | exact jo | exact ja | exact jm | exact jb | apply bdw | (refine bdn ?_ _) | (refine bal ?_ nl9 _)))).mono ?_); rintro e wm ⟨zm, Am, cm, rfl, hzm, hrm, hbm⟩; have jm : Below w6.heap.size w6 wm := bst (by repeat (first | exact br9 | exact jo | exact ja | exact jm | exact jb | apply bdw | (refine bdn ?_ _) | (refine bal ?_ nl9 _))) hbm nl9; obtain ⟨x0m, y0m, u0m, v0m⟩ := (B8.out.below jm B8.out.lt).two; obtain ⟨x1m, y1m, u1m, v1m⟩ := (B9.out.below jm B9.out.lt).two; obtain ⟨x2m, y2m, _, _⟩ := (BB.out.below jm BB.out.lt).two)
      (try go_wp2_with fail)
      refine hK.out _ _ ?hS5t1 (fun hHeld2 => ?_)
      case hS5t1 => (try dsimp only); go_keep
      clear hK K hHeld
      have hHeld := hHeld2
      clear hHeld2
      (try simp only [List.getElem_toArray, List.getElem_cons_succ, List.getElem_cons_zero, Act.put, List.setIfInBounds_toArray, List.set_cons_zero, List.set_cons_succ])
      refine HeadW.one (i := 6) (by kernel_rfl) (by decide) rfl (fun K hK => ?_)
      go_simp
      (go_at_call 54; (with_reducible refine (AD.out zm Am cm _ wm _ (by repeat (first | exact br9 | exact jo | exact ja | exact jm | exact jb | apply bdw | (refine bdn ?_ _) | (refine bal ?_ nl9 _))) hzm hrm (by repeat (first | exact br9 | apply bdw | (refine bdn ?_ _)))).mono ?_); rintro e wb ⟨zb, Ab, cb, rfl, hzb, hrb, hbb⟩; have jb : Below w6.heap.size w6 wb := bst (by repeat (first | exact br9 | exact jo | exact ja | exact jm | exact jb | apply bdw | (refine bdn ?_ _) | (refine bal ?_ nl9 _))) hbb nl9; obtain ⟨x0b, y0b, u0b, v0b⟩ := (B8.out.below jb B8.out.lt).two; obtain ⟨x1b, y1b, u1b, v1b⟩ := (B9.out.below jb B9.out.lt).two; obtain ⟨x2b, y2b, _, _⟩ := (BB.out.below jb BB.out.lt).two)
      (try go_wp2_with fail)
      refine hK.out _ _ ?hS6t1 (fun hHeld2 => ?_)
      case hS6t1 => (try dsimp only); go_keep
      clear hK K hHeld
      have hHeld := hHeld2
      clear hHeld2
      (try simp only [List.getElem_toArray, List.getElem_cons_succ, List.getElem_cons_zero, Act.put, List.setIfInBounds_toArray, List.set_cons_zero, List.set_cons_succ])
      refine HeadW.done (by kernel_rfl) ?_
      simp only [List.drop_succ_cons, List.drop_zero]
      all_goals
       go_wp2_with fail
       go_meet
       have so9 : w.heap.size ≤ wo.heap.size := Nat.le_trans s0 jo.size
       have sm9 : w.heap.size ≤ wm.heap.size := Nat.le_trans s0 jm.size
       have la := num32_len hza nl9 HX1l.out
       have lb := num32_len hzb nl9 HY1l.out
       have sa9 : w.heap.size ≤ wa.heap.size := Nat.le_trans s0 ja.size
       have sb9 : w.heap.size ≤ wb.heap.size := Nat.le_trans s0 jb.size
       first
        | (have F := vr_two (B := w.heap.size) (B8.out.below jb B8.out.lt) (B9.out.below jb B9.out.lt) n1 hza (((hra.mono so9).below hbm nl9).below hbb nl9) la hzb (hrb.mono sm9) lb
           exact ⟨rfl, rfl, ((HVA.out.next jb).other4 (B8.out.below jb B8.out.lt) (B9.out.below jb B9.out.lt) (by omega) (by omega) (by omega)), ((HVB.out.next jb).other4 (B8.out.below jb B8.out.lt) (B9.out.below jb B9.out.lt) (by omega) (by omega) (by omega)), far4 (HB4.out.below jb HB4.out.lt) (by omega) (by omega), far4 (HB5.out.below jb HB5.out.lt) (by omega) (by omega), F.1, F.2, o8, bsc4 (bst K6.out jb nl9) (by omega) (by omega)⟩)
        | (have F := vr_two (B := w.heap.size) (B9.out.below jb B9.out.lt) (B8.out.below jb B8.out.lt) n2 hzb (hrb.mono sm9) lb hza (((hra.mono so9).below hbm nl9).below hbb nl9) la
           exact ⟨rfl, rfl, ((HVA.out.next jb).other4 (B9.out.below jb B9.out.lt) (B8.out.below jb B8.out.lt) (by omega) (by omega) (by omega)), ((HVB.out.next jb).other4 (B9.out.below jb B9.out.lt) (B8.out.below jb B8.out.lt) (by omega) (by omega) (by omega)), far4 (HB4.out.below jb HB4.out.lt) (by omega) (by omega), far4 (HB5.out.below jb HB5.out.lt) (by omega) (by omega), F.2, F.1, o8, bsc4 (bst K6.out jb nl9) (by omega) (by omega)⟩)
        | (have F := vr_two (B := w.heap.size) (B8.out.below ja B8.out.lt) (B9.out.below ja B9.out.lt) n1 hza (hrb.mono sm9) la hzb (((hrb.mono so9).below hbm nl9).below hbb nl9) lb
           exact ⟨rfl, rfl, ((HVA.out.next ja).other4 (B8.out.below ja B8.out.lt) (B9.out.below ja B9.out.lt) (by omega) (by omega) (by omega)), ((HVB.out.next ja).other4 (B8.out.below ja B8.out.lt) (B9.out.below ja B9.out.lt) (by omega) (by omega) (by omega)), far4 (HB4.out.below ja HB4.out.lt) (by omega) (by omega), far4 (HB5.out.below ja HB5.out.lt) (by omega) (by omega), F.1, F.2, o8, bsc4 (bst K6.out ja nl9) (by omega) (by omega)⟩)
        | (have F := vr_two (B := w.heap.size) (B9.out.below ja B9.out.lt) (B8.out.below ja B8.out.lt) n2 hzb (((hrb.mono so9).below hbm nl9).below hbb nl9) lb hza (hrb.mono sm9) la
           exact ⟨rfl, rfl, ((HVA.out.next ja).other4 (B9.out.below ja B9.out.lt) (B8.out.below ja B8.out.lt) (by omega) (by omega) (by omega)), ((HVB.out.next ja).other4 (B9.out.below ja B9.out.lt) (B8.out.below ja B8.out.lt) (by omega) (by omega) (by omega)), far4 (HB4.out.below ja HB4.out.lt) (by omega) (by omega), far4 (HB5.out.below ja HB5.out.lt) (by omega) (by omega), F.2, F.1, o8, bsc4 (bst K6.out ja nl9) (by omega) (by omega)⟩)
     ·rw [if_neg hr0, if_neg hr0] at e
      obtain rfl : sg = 0 := by rw [hsg]; exact Int.sign_eq_zero_iff_zero.2 (by omega)
      have HE := hi9 e
      clear e hsg hR9 hr0
      go_wp2_with fail
      refine (SG.out _ br9).mono ?_
      rintro e w6 ⟨rfl, hb6⟩
      go_wp2_with fail
      go_meet
      rw [HE.out.1, HE.out.2]
      exact ⟨rfl, rfl, HS5.out.next hb6⟩
  case rest =>
   obtain ⟨rfl, rfl, S6⟩ := hcut
   clear HS3 Hbz p0 p1
   have HS6 := hi9 S6
   obtain ⟨_, ⟨_, _, _, bb, _, _, _⟩, _, _, ⟨A8, c8, qs8, b8, n8, r8, l8⟩, _, _, _⟩ := S6
   obtain ⟨by_, hby⟩ : ∃ b, b = isNeg y := ⟨_, rfl⟩
   rw [← hby] at bb
   obtain ⟨q0, q1, _, _⟩ := bb.two
   obtain ⟨p0, p1, p2, p3⟩ := b8.two
   have Hby := hi9 hby
   have e := eu_last (z := z) (y := y)
   rw [← HX1.out, ← HY1.out] at e
   have HE := hi9 e
   have NG : Hid (∀ W (_ : Below wc.heap.size wc W), Calls Tryz.prog 52 #[.agg #[.bool (isNeg X1), .slice A8 qs8.length c8]] W fun e w' => ZOut W w' (-X1) e) := fun W hW => ((zn_of n8 r8 l8).zh.next hW).rneg (by omega)
   clear bb hby e n8 r8 l8 b8
   go_upto_if 43 with (fail)
   go_cut [8, 9] (fun v v9 W => v = .pointer (some ⟨g8, 0, none⟩) ∧ v9 = .pointer (some ⟨g8 + 1, 0, none⟩) ∧ EuS w z y (z / y) (z % y) K J g8 W)
   case first =>
    cases by_
    ·clear NG
     go_wp2_with fail
     go_meet
     have e1 : ¬ y < 0 := by have := Hby.out; simp [isNeg] at this; omega
     have e9 := HE.out
     rw [if_neg e1] at e9
     rw [e9.1, e9.2]
     exact ⟨rfl, rfl, HS6.out⟩
    ·go_wp2_with fail
     refine (NG.out _ br9).mono ?_
     rintro e w6 ⟨zs, A', c', rfl, hzs, hrs, hb6⟩
     obtain ⟨VA, VB, br4, br5, ⟨_, _, _, b8, _, _, _⟩, V9, o8, k6⟩ := HS6.out.next hb6
     have kz := HS6.out.2.2.2.2.2.2.2.size
     obtain ⟨t0, t1, t2, t3⟩ := b8.two
     clear q0 q1 p0 p1 p2 p3 NG
     go_wp2_with fail
     go_meet
     have e1 : y < 0 := by have := Hby.out; simp [isNeg] at this; omega
     have e9 := HE.out
     rw [if_pos e1] at e9
     rw [e9.1, e9.2]
     exact ⟨rfl, rfl, VA.other_ b8 (by omega), VB.other_ b8 (by omega), far2 br4 (by omega), far2 br5 (by omega), Vr.put b8 hzs (hrs.mono kz) (num32_len hzs nl9 (by rw [Int.natAbs_neg]; exact HX1l.out)), V9.other_ b8 (by omega), o8, bsc (bsc k6 (by omega) _) (by omega) _⟩
   case rest =>
    obtain ⟨rfl, rfl, S7⟩ := hcut
    clear HS6 HE NG Hby q0 q1 p0 p1 p2 p3
    obtain ⟨_, _, br4, br5, ⟨A9, c9, qs9, b9, n9, r9, l9⟩, ⟨A7, c7, rs7, b7, n7, r7, l7⟩, o8, k7⟩ := S7
    have NA : Hid (∀ W (_ : Below wc.heap.size wc W), Calls Tryz.prog 50 #[.agg #[.bool (isNeg (z / y)), .slice A9 qs9.length c9]] W fun e w' => ZOut W w' (z / y) e) := fun W hW => ((zn_of n9 r9 l9).zh.next hW).rnorm (by omega)
    have NB : Hid (∀ W (_ : Below wc.heap.size wc W), Calls Tryz.prog 50 #[.agg #[.bool (isNeg (z % y)), .slice A7 rs7.length c7]] W fun e w' => ZOut W w' (z % y) e) := fun W hW => ((zn_of n7 r7 l7).zh.next hW).rnorm (by omega)
    have LQ : Hid ((z / y).natAbs < 4294967296 ^ K) := hi9 (zn_of n9 r9 l9).lt
    have LR : Hid ((z % y).natAbs < 4294967296 ^ J) := hi9 (zn_of n7 r7 l7).lt
    have B9 := hi9 b9
    have B7 := hi9 b7
    have B4 := hi9 br4
    have B5 := hi9 br5
    obtain ⟨p0, p1, _, _⟩ := b9.two
    obtain ⟨q0, q1, _, _⟩ := b7.two
    obtain ⟨t0, t1, t2, t3⟩ := br4.two
    obtain ⟨u0, u1, u2, u3⟩ := br5.two
    have s0 := k7.size
    have K7 := hi9 k7
    clear n9 r9 l9 n7 r7 l7 b9 b7 br4 br5 k7
    have n1 : w.heap.size + 2 ≠ w.heap.size + 3 := by omega
    have n2 : w.heap.size + 3 ≠ w.heap.size + 2 := by omega
    go_upto_region 10 with (fail)
    refine region_held_tail (fun W => W.cell? ⟨g8, 0, none⟩ = some (.bool (isNeg (z / y))) ∧ W.cell? ⟨g8, 1, none⟩ = some (.slice A9 qs9.length c9) ∧ W.cell? ⟨g8 + 1, 0, none⟩ = some (.bool (isNeg (z % y))) ∧ W.cell? ⟨g8 + 1, 1, none⟩ = some (.slice A7 rs7.length c7)) 4 (by kernel_rfl) (by kernel_rfl) ?hSt2 (fun hHeld => ?_)
    case hSt2 => (try dsimp only); go_keep
    refine HeadW.take (i := 0) (v := ?v0t2) rfl (by kernel_rfl) (by decide) (by kernel_rfl) (by kernel_rfl) (fun _ _ _ h => h) (Or.inl ⟨by rfl, ?hy0t2⟩) (by assumption) ?rest0t2
    case hy0t2 => intro w hSw; (try dsimp only at hSw); (try simp only [List.getElem_toArray, List.getElem_cons_zero]); go_simp; (try with_reducible rfl)
    (try simp only [List.getElem_toArray, List.getElem_cons_zero, Act.put, List.setIfInBounds_toArray, List.set_cons_zero, List.set_cons_succ])
    refine HeadW.take (i := 2) (v := ?v2t2) rfl (by kernel_rfl) (by decide) (by kernel_rfl) (by kernel_rfl) (fun _ _ _ h => h) (Or.inl ⟨by rfl, ?hy2t2⟩) (by assumption) ?rest2t2
    case hy2t2 => intro w hSw; (try dsimp only at hSw); (try simp only [List.getElem_toArray, List.getElem_cons_succ, List.getElem_cons_zero]); go_simp; (try with_reducible rfl)
    (try simp only [List.getElem_toArray, List.getElem_cons_succ, List.getElem_cons_zero, Act.put, List.setIfInBounds_toArray, List.set_cons_zero, List.set_cons_succ])
    refine HeadW.one (i := 1) (by kernel_rfl) (by decide) rfl (fun K hK => ?_)
    go_simp
    (go_at_call 50; (with_reducible refine (NA.out _ (by repeat (first | exact br9 | exact ja | exact jb | apply bdw | (refine bdn ?_ _) | (refine bal ?_ nl9 _)))).mono ?_); rintro e wa ⟨za, Aa, ca, rfl, hza, hra, hba⟩; have ja : Below wc.heap.size wc wa := bst (by repeat (first | exact br9 | exact ja | exact jb | apply bdw | (refine bdn ?_ _) | (refine bal ?_ nl9 _))) hba nl9; obtain ⟨x0a, y0a, _, _⟩ := (B9.out.below ja B9.out.lt).two; obtain ⟨x1a, y1a, _, _⟩ := (B7.out.below ja B7.out.lt).two; obtain ⟨x2a, y2a, u2a, v2a⟩ := (B4.out.below ja B4.out.lt).two; obtain ⟨x3a, y3a, u3a, v3a⟩ := (B5.out.below ja B5.out.lt).two)
    (try go_wp2_with fail)
    refine hK.out _ _ ?hS1t2 (fun hHeld2 => ?_)
    case hS1t2 => (try dsimp only); go_keep
    clear hK K hHeld
    have hHeld := hHeld2
    clear hHeld2
    (try simp only [List.getElem_toArray, List.getElem_cons_succ, List.getElem_cons_zero, Act.put, List.setIfInBounds_toArray, List.set_cons_zero, List.set_cons_succ])
    refine HeadW.one (i := 3) (by kernel_rfl) (by decide) rfl (fun K hK => ?_)
    go_simp
    (go_at_call 50; (with_reducible refine (NB.out _ (by repeat (first | exact br9 | exact ja | exact jb | apply bdw | (refine bdn ?_ _) | (refine bal ?_ nl9 _)))).mono ?_); rintro e wb ⟨zb, Ab, cb, rfl, hzb, hrb, hbb⟩; have jb : Below wc.heap.size wc wb := bst (by repeat (first | exact br9 | exact ja | exact jb | apply bdw | (refine bdn ?_ _) | (refine bal ?_ nl9 _))) hbb nl9; obtain ⟨x0b, y0b, _, _⟩ := (B9.out.below jb B9.out.lt).two; obtain ⟨x1b, y1b, _, _⟩ := (B7.out.below jb B7.out.lt).two; obtain ⟨x2b, y2b, u2b, v2b⟩ := (B4.out.below jb B4.out.lt).two; obtain ⟨x3b, y3b, u3b, v3b⟩ := (B5.out.below jb B5.out.lt).two)
    (try go_wp2_with fail)
    refine hK.out _ _ ?hS3t2 (fun hHeld2 => ?_)
    case hS3t2 => (try dsimp only); go_keep
    clear hK K hHeld
    have hHeld := hHeld2
    clear hHeld2
    (try simp only [List.getElem_toArray, List.getElem_cons_succ, List.getElem_cons_zero, Act.put, List.setIfInBounds_toArray, List.set_cons_zero, List.set_cons_succ])
    refine HeadW.done (by kernel_rfl) ?_
    simp only [List.drop_succ_cons, List.drop_zero]
    all_goals
     go_wp2_with fail
     have sa9 : w.heap.size ≤ wa.heap.size := Nat.le_trans s0 ja.size
     have F := vr_two (B := w.heap.size) (B4.out.below jb B4.out.lt) (B5.out.below jb B5.out.lt) n1 hza ((hra.mono s0).below hbb nl9) (num32_len hza nl9 LQ.out) hzb (hrb.mono sa9) (num32_len hzb nl9 LR.out)
     exact zz_ret (bsc4 (bst K7.out jb nl9) (by omega) (by omega)) F.1 F.2 rfl rfl rfl rfl
end
end Go.Proofs.YtcjgilagldbjnaaGreatDoor
