/- The walk of the law ZintBezout. Conditions: at most 2^20 limbs each. -/
import Derived.Test.YtanlejlmckdeiaaGreatPkZb6
import Derived.Test.YtanlejlmckdeiaaGreatPkZd34
namespace Go.Proofs.YtanlejlmckdeiaaGreat
open Go.RowKit

section
variable {w : World} {g g2 : Bool} {A A2 : Option Addr} {c c2 N : Nat} {xs ys : List Nat} {z y : Int}
theorem bez_nought (z : Int) : BezIs z 0 (z.natAbs : Int) z.sign 0 := ⟨by rw [Int.gcd_zero_right], by rw [if_pos rfl]; exact ⟨rfl, rfl⟩⟩
theorem bezout_any (h : Zh w g A c xs z N) (h2 : Zh w g2 A2 c2 ys y N) (hN : N ≤ 1048576) (hN1 : 1 ≤ N) :
    Calls Tryz.prog 39 #[.agg #[.bool g, .slice A xs.length c], .agg #[.bool g2, .slice A2 ys.length c2]] w fun e w' => ∃ G X Y : Int, BezIs z y G X Y ∧ ZBZ w w' G X Y e := by
  by_cases hy : y = 0
  · subst hy
    exact (bezout_nought h h2 hN hN1).mono fun e w' k => ⟨_, _, _, bez_nought z, k⟩
  · exact bezout_other h h2 hy hN hN1
theorem rbezout_any (h : Zh w g A c xs z N) (h2 : Zh w g2 A2 c2 ys y N) (hN : N ≤ 1048576) (hN1 : 1 ≤ N) :
    Calls Tryz.prog 40 #[.agg #[.bool g, .slice A xs.length c], .agg #[.bool g2, .slice A2 ys.length c2]] w fun e w' => ∃ G X Y : Int, BezIs z y G X Y ∧ ZBZ w w' G X Y e := by
  by_cases hy : y = 0
  · subst hy
    exact (rbezout_nought h h2 hN hN1).mono fun e w' k => ⟨_, _, _, bez_nought z, k⟩
  · exact rbezout_other h h2 hy hN hN1
set_option maxHeartbeats 6400000 in
theorem bezout_walk (N : Nat) (hN : N ≤ 1048576) (hN1 : 1 ≤ N) (h : Zh w g A c xs z N) (h2 : Zh w g2 A2 c2 ys y N) :
    Calls Tryz.prog 6 #[.agg #[.bool g, .slice A xs.length c], .agg #[.bool g2, .slice A2 ys.length c2]] w fun e w' => e = .returned (.bool true) ∧ Below w.heap.size w w' := by
  have PB : Hid (∀ W (_ : Below w.heap.size w W), Calls Tryz.prog 39 #[.agg #[.bool g, .slice A xs.length c], .agg #[.bool g2, .slice A2 ys.length c2]] W fun e w' => ∃ G X Y : Int, BezIs z y G X Y ∧ ZBZ W w' G X Y e) := fun W hW => bezout_any (h.next hW) (h2.next hW) hN hN1
  have RB : Hid (∀ W (_ : Below w.heap.size w W), Calls Tryz.prog 40 #[.agg #[.bool g, .slice A xs.length c], .agg #[.bool g2, .slice A2 ys.length c2]] W fun e w' => ∃ G X Y : Int, BezIs z y G X Y ∧ ZBZ W w' G X Y e) := fun W hW => rbezout_any (h.next hW) (h2.next hW) hN hN1
  have k0 := bel_two w (.cells #[.bool g, .slice A xs.length c] 25) (.cells #[.bool g2, .slice A2 ys.length c2] 25)
  obtain ⟨b0, b1⟩ := blk_pair2 w (.bool g) (.slice A xs.length c) (.bool g2) (.slice A2 ys.length c2)
  clear h h2
  go_enter Tryz.func6, Tryz.ntmps6
  go_wp2_with fail
  refine (PB.out _ k0).mono ?_
  rintro e w1 ⟨G, X, Y, hbz, zg, zx, zy, Ag, cg, Ax, cx, Ay, cy, rfl, ng, nx, ny, rg, rx, ry, hb1⟩
  have HZ := Lib.hid hbz
  clear hbz PB
  go_upto_region 2 with (fail)
  obtain ⟨v1, hv1⟩ : ∃ v, v = ((w1.alloc (.cells #[.bool (isNeg G), .slice Ag zg.length cg] 25)).alloc (.cells #[.bool (isNeg X), .slice Ax zx.length cx] 25)).alloc (.cells #[.bool (isNeg Y), .slice Ay zy.length cy] 25) := ⟨_, rfl⟩
  rw [← hv1]
  obtain ⟨bg, bx, by_⟩ : Blk v1 w1.heap.size 25 [.bool (isNeg G), .slice Ag zg.length cg] ∧ Blk v1 (w1.heap.size + 1) 25 [.bool (isNeg X), .slice Ax zx.length cx] ∧ Blk v1 (w1.heap.size + 1 + 1) 25 [.bool (isNeg Y), .slice Ay zy.length cy] := by rw [hv1]; exact blk_three _ _ _ _ _ _ _
  have i1 : Below w1.heap.size w1 v1 := by rw [hv1]; exact bel_three _ _ _ _
  obtain ⟨gg, hg⟩ : ∃ g, g = w1.heap.size := ⟨_, rfl⟩
  rw [← hg] at bg bx by_ ⊢
  clear hg hv1
  have j1 := bst hb1 i1 (Nat.le_refl _)
  have k1 := bst k0 j1 (Nat.le_refl _)
  replace b0 := b0.below j1 b0.lt
  replace b1 := b1.below j1 b1.lt
  have Rg := Lib.hid (rg.below i1 (Nat.le_refl _))
  have Rx := Lib.hid (rx.below i1 (Nat.le_refl _))
  have Ry := Lib.hid (ry.below i1 (Nat.le_refl _))
  have Ng := Lib.hid ng
  have Nx := Lib.hid nx
  have Ny := Lib.hid ny
  have Bg := Lib.hid bg
  have Bx := Lib.hid bx
  have By := Lib.hid by_
  obtain ⟨p0, p1, _, _⟩ := b0.two
  obtain ⟨q0, q1, _, _⟩ := b1.two
  clear i1 j1 hb1 rg rx ry ng nx ny bg bx by_ k0 b0 b1
  go_wp2_with fail
  refine (RB.out _ k1).mono ?_
  rintro e w2 ⟨G2, X2, Y2, hbz, zh, zu, zv, Ah, ch, Au, cu, Av, cv, rfl, nh, nu, nv, rh, ru, rv, hb2⟩
  obtain ⟨e1, e2, e3⟩ := HZ.out.unique hbz
  clear hbz RB HZ p0 p1 q0 q1
  subst e1 e2 e3
  go_upto_region 3 with (fail)
  obtain ⟨v2, hv2⟩ : ∃ v, v = ((w2.alloc (.cells #[.bool (isNeg G), .slice Ah zh.length ch] 25)).alloc (.cells #[.bool (isNeg X), .slice Au zu.length cu] 25)).alloc (.cells #[.bool (isNeg Y), .slice Av zv.length cv] 25) := ⟨_, rfl⟩
  rw [← hv2]
  obtain ⟨bh, bu, bv⟩ : Blk v2 w2.heap.size 25 [.bool (isNeg G), .slice Ah zh.length ch] ∧ Blk v2 (w2.heap.size + 1) 25 [.bool (isNeg X), .slice Au zu.length cu] ∧ Blk v2 (w2.heap.size + 1 + 1) 25 [.bool (isNeg Y), .slice Av zv.length cv] := by rw [hv2]; exact blk_three _ _ _ _ _ _ _
  have i2 : Below w2.heap.size w2 v2 := by rw [hv2]; exact bel_three _ _ _ _
  obtain ⟨gh, hg⟩ : ∃ g, g = w2.heap.size := ⟨_, rfl⟩
  rw [← hg] at bh bu bv ⊢
  clear hg hv2
  have j2 := bst hb2 i2 (Nat.le_refl _)
  have k2 := bst k1 j2 (Nat.le_refl _)
  have Bh := Lib.hid bh
  have Bu := Lib.hid bu
  have Bv := Lib.hid bv
  have Sg : Hid (∀ W (_ : Below v2.heap.size v2 W), Calls Tryz.prog 11 #[.agg #[.bool (isNeg G), .slice Ag zg.length cg], .agg #[.bool (isNeg G), .slice Ah zh.length ch]] W fun e w' => e = .returned (.bool true) ∧ Below W.heap.size W w') := fun W hW => same_res Ng.out Rg.out (bst j2 hW (Nat.le_refl _)) nh rh (bst i2 hW (Nat.le_refl _))
  have Sx : Hid (∀ W (_ : Below v2.heap.size v2 W), Calls Tryz.prog 11 #[.agg #[.bool (isNeg X), .slice Ax zx.length cx], .agg #[.bool (isNeg X), .slice Au zu.length cu]] W fun e w' => e = .returned (.bool true) ∧ Below W.heap.size W w') := fun W hW => same_res Nx.out Rx.out (bst j2 hW (Nat.le_refl _)) nu ru (bst i2 hW (Nat.le_refl _))
  have Sy : Hid (∀ W (_ : Below v2.heap.size v2 W), Calls Tryz.prog 11 #[.agg #[.bool (isNeg Y), .slice Ay zy.length cy], .agg #[.bool (isNeg Y), .slice Av zv.length cv]] W fun e w' => e = .returned (.bool true) ∧ Below W.heap.size W w') := fun W hW => same_res Ny.out Ry.out (bst j2 hW (Nat.le_refl _)) nv rv (bst i2 hW (Nat.le_refl _))
  replace Bg := Lib.hid (Bg.out.below j2 Bg.out.lt)
  replace Bx := Lib.hid (Bx.out.below j2 Bx.out.lt)
  replace By := Lib.hid (By.out.below j2 By.out.lt)
  clear i2 j2 hb2 rh ru rv nh nu nv bh bu bv k1 Ng Nx Ny Rg Rx Ry
  have J2 := Below.refl v2.heap.size v2
  obtain ⟨a0, a1, _, _⟩ := (Bg.out.below J2 Bg.out.lt).two
  obtain ⟨a2, a3, _, _⟩ := (Bh.out.below J2 Bh.out.lt).two
  go_wp2_with fail
  refine (Sg.out _ J2).mono ?_
  rintro e v3 ⟨rfl, hb⟩
  have J3 := bst J2 hb (Nat.le_refl _)
  clear a0 a1 a2 a3 hb Sg Bg Bh J2
  obtain ⟨a0, a1, _, _⟩ := (Bx.out.below J3 Bx.out.lt).two
  obtain ⟨a2, a3, _, _⟩ := (Bu.out.below J3 Bu.out.lt).two
  go_wp2_with fail
  refine (Sx.out _ J3).mono ?_
  rintro e v4 ⟨rfl, hb⟩
  have J4 := bst J3 hb (Nat.le_refl _)
  clear a0 a1 a2 a3 hb Sx Bx Bu J3
  obtain ⟨a0, a1, _, _⟩ := (By.out.below J4 By.out.lt).two
  obtain ⟨a2, a3, _, _⟩ := (Bv.out.below J4 Bv.out.lt).two
  go_wp2_with fail
  refine (Sy.out _ J4).mono ?_
  rintro e v5 ⟨rfl, hb⟩
  have J5 := bst J4 hb (Nat.le_refl _)
  clear a0 a1 a2 a3 hb Sy By Bv J4
  go_wp2_with fail
  refine (zlives_any _).mono ?_
  rintro e v6 ⟨rfl, hb⟩
  have k6 := bst k2 (bst J5 hb (Nat.le_refl _)) (Nat.le_refl _)
  go_wp2_with fail
  go_ret
  exact ⟨rfl, k6⟩
end
end Go.Proofs.YtanlejlmckdeiaaGreat
